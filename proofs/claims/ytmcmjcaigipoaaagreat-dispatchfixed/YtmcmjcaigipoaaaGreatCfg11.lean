/-
  A configuration (api.Config), plain, and how one lies in the model's heap: slices of structs of slices. Conditions: none.
-/
import Derived.Test.YtmcmjcaigipoaaaGreatMem
import Derived.Test.YtmcmjcaigipoaaaGreatLift
import Derived.OpenShut
import Derived.ChangeSlices
import Derived.Deep.Slices
import Derived.Lib.SmallJoins
namespace Go.Sept
open Go.RowKit

structure Win where
  part : Int
  ticks : Int
structure Chn where
  src : Int
  out : Int
  dst : Int
  inn : Int
structure Ob where
  kind : Int
  size : Int
  prio : Bool
structure Cl where
  kind : Int
  handle : Int
  a : Int
  b : Int
  words : List Int
  timeout : Int
structure Th where
  prio : Int
  caps : Int
  ctl : Bool
  prog : List Cl
structure Pt where
  ths : List Th
  obs : List Ob
structure Cf where
  parts : List Pt
  wins : List Win
  chans : List Chn

/-- A cell that holds an int64 number, or any other value. -/
def I64 (w : World) (b o : Nat) (x : Int) : Prop := w.cell? ⟨b, o, none⟩ = some (.int .i64 x) ∧ -9223372036854775808 ≤ x ∧ x ≤ 9223372036854775807
def Cel (w : World) (b o : Nat) (v : Value) : Prop := w.cell? ⟨b, o, none⟩ = some v
theorem I64.cel {w : World} {b o : Nat} {x : Int} (h : I64 w b o x) : Cel w b o (.int .i64 x) := h.1

/-- What lies at a block and a place is x, by E: a slice of such, each of sz cells, in a block of P. -/
def SlOf {α : Type} (P : Nat → Prop) (sz : Nat) (E : World → Nat → Nat → α → Prop) (w : World) (v : Value) (xs : List α) : Prop :=
  ∃ ao cap, v = .slice ao xs.length cap ∧ (xs.length ≤ cap ∧ cap ≤ 9223372036854775807) ∧ ∃ b off, ∀ i x, xs[i]? = some x → ao = some ⟨b, off, none⟩ ∧ P b ∧ E w b (off + i * sz) x

def intE (w : World) (b o : Nat) (x : Int) : Prop := I64 w b o x
def winE (w : World) (b o : Nat) (x : Win) : Prop := I64 w b o x.part ∧ I64 w b (o + 1) x.ticks
def chnE (w : World) (b o : Nat) (x : Chn) : Prop := I64 w b o x.src ∧ I64 w b (o + 1) x.out ∧ I64 w b (o + 2) x.dst ∧ I64 w b (o + 3) x.inn
def obE (w : World) (b o : Nat) (x : Ob) : Prop := I64 w b o x.kind ∧ I64 w b (o + 1) x.size ∧ Cel w b (o + 2) (.bool x.prio)
def clE (P : Nat → Prop) (w : World) (b o : Nat) (x : Cl) : Prop := I64 w b o x.kind ∧ I64 w b (o + 1) x.handle ∧ I64 w b (o + 2) x.a ∧ I64 w b (o + 3) x.b ∧ (∃ v, Cel w b (o + 4) v ∧ SlOf P 1 intE w v x.words) ∧ I64 w b (o + 5) x.timeout
def thE (P : Nat → Prop) (w : World) (b o : Nat) (x : Th) : Prop := I64 w b o x.prio ∧ Cel w b (o + 1) (.int .u32 x.caps) ∧ (0 ≤ x.caps ∧ x.caps ≤ 4294967295) ∧ Cel w b (o + 2) (.bool x.ctl) ∧ ∃ v, Cel w b (o + 3) v ∧ SlOf P 6 (clE P) w v x.prog
def ptE (P : Nat → Prop) (w : World) (b o : Nat) (x : Pt) : Prop := (∃ v, Cel w b o v ∧ SlOf P 4 (thE P) w v x.ths) ∧ ∃ v, Cel w b (o + 1) v ∧ SlOf P 3 obE w v x.obs
/-- A partition, a configuration by value. -/
def PtIs (P : Nat → Prop) (w : World) (v0 v1 : Value) (p : Pt) : Prop := SlOf P 4 (thE P) w v0 p.ths ∧ SlOf P 3 obE w v1 p.obs
structure CfIs (P : Nat → Prop) (w : World) (v0 v1 v2 : Value) (c : Cf) : Prop where
  parts : SlOf P 2 (ptE P) w v0 c.parts
  wins : SlOf P 2 winE w v1 c.wins
  chans : SlOf P 4 chnE w v2 c.chans

section
variable {P : Nat → Prop} {S : Nat → Prop} {w w' : World} {b o : Nat} {α : Type}
theorem Cel.only {v : Value} (h : Cel w b o v) (ho : Only S w w') (hb : ¬ S b) : Cel w' b o v :=
  (World.cell?_of_block (ho.block b (World.block_lt_of_cell? _ _ h) hb)).trans h
theorem I64.only {x : Int} (h : I64 w b o x) (ho : Only S w w') (hb : ¬ S b) : I64 w' b o x := ⟨Cel.only h.1 ho hb, h.2⟩
/-- E stays where blocks of P do not turn. -/
def Stay (P : Nat → Prop) (w w' : World) {α : Type} (E : World → Nat → Nat → α → Prop) : Prop := ∀ b o x, P b → E w b o x → E w' b o x
theorem SlOf.only {sz : Nat} {E : World → Nat → Nat → α → Prop} {v : Value} {xs : List α} (h : SlOf P sz E w v xs) (hE : Stay P w w' E) : SlOf P sz E w' v xs := by
  obtain ⟨ao, cap, h1, h2, b, off, h3⟩ := h
  exact ⟨ao, cap, h1, h2, b, off, fun i x hx => ⟨(h3 i x hx).1, (h3 i x hx).2.1, hE _ _ _ (h3 i x hx).2.1 (h3 i x hx).2.2⟩⟩
theorem stay_int (ho : Only S w w') (hS : ∀ k, P k → ¬ S k) : Stay P w w' intE := fun b _ _ hb h => I64.only h ho (hS b hb)
theorem stay_win (ho : Only S w w') (hS : ∀ k, P k → ¬ S k) : Stay P w w' winE := fun b _ _ hb h => ⟨h.1.only ho (hS b hb), h.2.only ho (hS b hb)⟩
theorem stay_chn (ho : Only S w w') (hS : ∀ k, P k → ¬ S k) : Stay P w w' chnE := fun b _ _ hb h => ⟨h.1.only ho (hS b hb), h.2.1.only ho (hS b hb), h.2.2.1.only ho (hS b hb), h.2.2.2.only ho (hS b hb)⟩
theorem stay_ob (ho : Only S w w') (hS : ∀ k, P k → ¬ S k) : Stay P w w' obE := fun b _ _ hb h => ⟨h.1.only ho (hS b hb), h.2.1.only ho (hS b hb), h.2.2.only ho (hS b hb)⟩
theorem stay_cl (ho : Only S w w') (hS : ∀ k, P k → ¬ S k) : Stay P w w' (clE P) := fun b _ _ hb ⟨h1, h2, h3, h4, ⟨v, h5, h6⟩, h7⟩ => ⟨h1.only ho (hS b hb), h2.only ho (hS b hb), h3.only ho (hS b hb), h4.only ho (hS b hb), ⟨v, h5.only ho (hS b hb), h6.only (stay_int ho hS)⟩, h7.only ho (hS b hb)⟩
theorem stay_th (ho : Only S w w') (hS : ∀ k, P k → ¬ S k) : Stay P w w' (thE P) := fun b _ _ hb ⟨h1, h2, h3, h4, ⟨v, h5, h6⟩⟩ => ⟨h1.only ho (hS b hb), h2.only ho (hS b hb), h3, h4.only ho (hS b hb), ⟨v, h5.only ho (hS b hb), h6.only (stay_cl ho hS)⟩⟩
theorem stay_pt (ho : Only S w w') (hS : ∀ k, P k → ¬ S k) : Stay P w w' (ptE P) := fun b _ _ hb ⟨⟨v1, h1, h2⟩, ⟨v2, h3, h4⟩⟩ => ⟨⟨v1, h1.only ho (hS b hb), h2.only (stay_th ho hS)⟩, ⟨v2, h3.only ho (hS b hb), h4.only (stay_ob ho hS)⟩⟩
theorem PtIs.only (ho : Only S w w') (hS : ∀ k, P k → ¬ S k) {v0 v1 : Value} {p : Pt} (h : PtIs P w v0 v1 p) : PtIs P w' v0 v1 p := ⟨h.1.only (stay_th ho hS), h.2.only (stay_ob ho hS)⟩
theorem CfIs.only (ho : Only S w w') (hS : ∀ k, P k → ¬ S k) {v0 v1 v2 : Value} {c : Cf} (h : CfIs P w v0 v1 v2 c) : CfIs P w' v0 v1 v2 c := ⟨h.parts.only (stay_pt ho hS), h.wins.only (stay_win ho hS), h.chans.only (stay_chn ho hS)⟩
end

section
variable {P : Nat → Prop} {w : World} {α : Type} {sz : Nat} {E : World → Nat → Nat → α → Prop}
theorem SlOf.nil : SlOf P sz E w (.slice none 0 0) [] := ⟨none, 0, rfl, ⟨Nat.le_refl _, Nat.zero_le _⟩, 0, 0, fun i x hx => by simp at hx⟩
/-- The shape of a slice that holds xs. -/
theorem SlOf.shape {v : Value} {xs : List α} (h : SlOf P sz E w v xs) : ∃ ao cap, v = .slice ao xs.length cap ∧ xs.length ≤ 9223372036854775807 := by
  obtain ⟨ao, cap, h1, h2, _⟩ := h
  exact ⟨ao, cap, h1, Nat.le_trans h2.1 h2.2⟩
theorem SlOf.room {ao : Option Addr} {n cap : Nat} {xs : List α} (h : SlOf P sz E w (.slice ao n cap) xs) : xs.length = n ∧ n ≤ cap ∧ cap ≤ 9223372036854775807 := by
  obtain ⟨ao', cap', h1, h2, _⟩ := h
  injection h1 with _ h5 h6
  subst h5 h6
  exact ⟨rfl, h2.1, h2.2⟩
/-- The first of them. -/
theorem SlOf.take {ao : Option Addr} {n cap : Nat} {xs : List α} (h : SlOf P sz E w (.slice ao n cap) xs) {i : Nat} (hi : i ≤ n) : SlOf P sz E w (.slice ao i cap) (xs.take i) := by
  have hr := h.room
  obtain ⟨ao', cap', h1, h2, b, off, h3⟩ := h
  injection h1 with h4 h5 h6
  subst h4
  refine ⟨ao, cap, by rw [List.length_take, Nat.min_eq_left (by omega)], ⟨by rw [List.length_take]; omega, hr.2.2⟩, b, off, fun j x hx => h3 j x ?_⟩
  rw [List.getElem?_take] at hx
  split at hx
  · exact hx
  · cases hx
/-- The i-th of them. -/
theorem SlOf.get {ao : Option Addr} {n cap : Nat} {xs : List α} (h : SlOf P sz E w (.slice ao n cap) xs) (i : Nat) (hi : i < xs.length) : ∃ b off, ao = some ⟨b, off, none⟩ ∧ P b ∧ ∃ x, xs[i]? = some x ∧ E w b (off + i * sz) x := by
  obtain ⟨ao', cap', h1, h2, b, off, h3⟩ := h
  injection h1 with h4 h5 h6
  subst h4
  have hx : xs[i]? = some xs[i] := List.getElem?_eq_getElem hi
  obtain ⟨k1, k2, k3⟩ := h3 i _ hx
  exact ⟨b, off, k1, k2, _, hx, k3⟩
end

theorem list_of {α : Type} (n : Nat) {Q : Nat → α → Prop} (h : ∀ i, i < n → ∃ x, Q i x) : ∃ xs : List α, xs.length = n ∧ ∀ i x, xs[i]? = some x → Q i x := by
  induction n with
  | zero => exact ⟨[], rfl, fun i x hx => by simp at hx⟩
  | succ n ih =>
    obtain ⟨xs, h1, h2⟩ := ih (fun i hi => h i (by omega))
    obtain ⟨x, hx⟩ := h n (by omega)
    refine ⟨xs ++ [x], by simp [h1], fun i y hy => ?_⟩
    by_cases e : i < xs.length
    · rw [List.getElem?_append_left e] at hy
      exact h2 i y hy
    · have hi : i < (xs ++ [x]).length := (List.getElem?_eq_some_iff.1 hy).1
      have : i = n := by simp at hi; omega
      subst this
      rw [List.getElem?_append_right (by omega), ← h1, Nat.sub_self] at hy
      simp at hy
      subst hy
      exact hx
end Go.Sept

namespace Go.Sept
open Go.RowKit Go.ChangeShapes Go.WideShapes Go.ChangeAt Go.Joins Go.Deep
section
variable {H : Type} {enc : TypeId × Value → H} {P : Program} {W : World} {held : Bool} {fuel : Nat}
/-- A slice of what can be opened. -/
theorem open_sl {α : Type} {sz : Nat} {E : World → Nat → Nat → α → Prop} {t te : TypeId} {cs : List Value} {x : DataW H × List MemPlace} (ht : P.underlying t = some (.slice te)) (hC : P.cellsOf te = sz) (hsz : 0 < sz)
    (hel : ∀ fuel cs x, DataW.trod enc P W 0 (fun _ => true) held fuel te cs = some x → ∃ y : α, ∀ b o, (∀ j, j < sz → W.cell? ⟨b, o + j, none⟩ = cs[j]?) → E W b o y)
    (h : DataW.trod enc P W 0 (fun _ => true) held fuel t cs = some x) : ∃ v xs, cs = [v] ∧ SlOf (fun k => k < W.heap.size) sz E W v xs := by
  rcases open_slice ht h with ⟨rfl, _⟩ | ⟨a, len, cap, m, n, D, Pl, rfl, _, hl, hmx, hmm, _, hall⟩
  · exact ⟨_, [], rfl, SlOf.nil⟩
  · unfold maxLen at hmx
    have hmm' : m = cap := by simpa using hmm
    rw [hC] at hall
    obtain ⟨b, off, spot⟩ := a
    have hspot : 0 < len → spot = none := by
      intro h0
      obtain ⟨cs', hcs, _⟩ := hall 0 (by omega)
      obtain ⟨_, hln, hcl⟩ := World.cells?_some hcs
      have z0 := hcl 0 (by omega)
      have c0 : cs'[0]? = some cs'[0] := List.getElem?_eq_getElem (by omega)
      rw [c0] at z0
      simpa [Addr.add] using World.cell?_spot z0
    have key : ∀ i, i < len → ∃ y : α, spot = none ∧ b < W.heap.size ∧ E W b (off + i * sz) y := by
      intro i hi
      obtain ⟨cs', hcs, htr⟩ := hall i (by omega)
      obtain ⟨_, hln, hcl⟩ := World.cells?_some hcs
      obtain ⟨y, hy⟩ := hel _ _ _ htr
      have z0 := hcl 0 (by omega)
      have c0 : cs'[0]? = some cs'[0] := List.getElem?_eq_getElem (by omega)
      rw [c0] at z0
      have hs := hspot (by omega)
      subst hs
      have e : ∀ n, Addr.add ⟨b, off, none⟩ n = ⟨b, off + n, none⟩ := by intro n; simp only [Addr.add]; split <;> simp_all
      refine ⟨y, rfl, ?_, hy _ _ fun j hj => ?_⟩
      · rw [e] at z0
        exact World.block_lt_of_cell? _ _ z0
      · have z := hcl j (by omega)
        rw [Go.Deep.add_add, e] at z
        rw [← z, Nat.add_assoc]
    obtain ⟨xs, h1, h2⟩ := list_of len key
    refine ⟨_, xs, rfl, some ⟨b, off, spot⟩, cap, by rw [h1], ⟨by omega, by omega⟩, b, off, fun i x hx => ?_⟩
    obtain ⟨k1, k2, k3⟩ := h2 i x hx
    subst k1
    exact ⟨rfl, k2, k3⟩
end
end Go.Sept

/-
  A configuration of its own: each list in a block of its own, told by the block's type; its shape alone, which stays when numbers in it are written. Conditions: none.
-/
namespace Go.Sept
open Go.RowKit

/-- The types of blocks: partitions, threads, objects, calls, windows, channels. -/
structure Tags where
  tp : TypeId
  tt : TypeId
  to : TypeId
  tc : TypeId
  tw : TypeId
  th : TypeId

/-- A slice in a block of its own, of the type T, which G lets be. -/
def TSl {α : Type} (G : Nat → TypeId → Prop) (T : TypeId) (sz : Nat) (E : World → Nat → Nat → α → Prop) (w : World) (v : Value) (l : List α) : Prop :=
  ∃ ao cap, v = .slice ao l.length cap ∧ (l.length ≤ cap ∧ cap ≤ 9223372036854775807) ∧ ∃ b, ∀ i x, l[i]? = some x → ao = some ⟨b, 0, none⟩ ∧ G b T ∧ (∃ cs, w.heap[b]? = some (.cells cs T)) ∧ E w b (i * sz) x

section
variable (N : Tags) (G : Nat → TypeId → Prop) (P : Nat → Prop)
def thX (w : World) (b o : Nat) (x : Th) : Prop := I64 w b o x.prio ∧ Cel w b (o + 1) (.int .u32 x.caps) ∧ (0 ≤ x.caps ∧ x.caps ≤ 4294967295) ∧ Cel w b (o + 2) (.bool x.ctl) ∧ ∃ v, Cel w b (o + 3) v ∧ TSl G N.tc 6 (clE P) w v x.prog
def ptX (w : World) (b o : Nat) (x : Pt) : Prop := (∃ v, Cel w b o v ∧ TSl G N.tt 4 (thX N G P) w v x.ths) ∧ ∃ v, Cel w b (o + 1) v ∧ TSl G N.to 3 obE w v x.obs
structure OwX (w : World) (v0 v1 v2 : Value) (c : Cf) : Prop where
  parts : TSl G N.tp 2 (ptX N G P) w v0 c.parts
  wins : TSl G N.tw 2 winE w v1 c.wins
  chans : TSl G N.th 4 chnE w v2 c.chans
/-- The shape alone. -/
def clS (w : World) (b o : Nat) (_ : Cl) : Prop := ∃ k, Cel w b o (.int .i64 k)
def thS (w : World) (b o : Nat) (x : Th) : Prop := (∃ k, Cel w b o (.int .i64 k)) ∧ ∃ v, Cel w b (o + 3) v ∧ TSl G N.tc 6 clS w v x.prog
def ptS (w : World) (b o : Nat) (x : Pt) : Prop := ∃ v, Cel w b o v ∧ TSl G N.tt 4 (thS N G) w v x.ths
def winS (w : World) (b o : Nat) (_ : Win) : Prop := ∃ k, Cel w b (o + 1) (.int .i64 k)
structure ShX (w : World) (v0 v1 : Value) (c : Cf) : Prop where
  parts : TSl G N.tp 2 (ptS N G) w v0 c.parts
  wins : TSl G N.tw 2 winS w v1 c.wins
end

section
variable {α : Type} {G G' : Nat → TypeId → Prop} {T : TypeId} {sz : Nat} {E E' : World → Nat → Nat → α → Prop} {w w' : World} {v : Value} {l : List α}
theorem TSl.nil : TSl G T sz E w (.slice none 0 0) ([] : List α) := ⟨none, 0, rfl, ⟨Nat.le_refl _, Nat.zero_le _⟩, 0, fun i x hx => by simp at hx⟩
theorem TSl.shape (h : TSl G T sz E w v l) : ∃ ao cap, v = .slice ao l.length cap ∧ l.length ≤ 9223372036854775807 := by
  obtain ⟨ao, cap, h1, h2, _⟩ := h
  exact ⟨ao, cap, h1, Nat.le_trans h2.1 h2.2⟩
theorem TSl.get {ao : Option Addr} {n cap : Nat} (h : TSl G T sz E w (.slice ao n cap) l) (i : Nat) (hi : i < l.length) : ∃ b, ao = some ⟨b, 0, none⟩ ∧ G b T ∧ (∃ cs, w.heap[b]? = some (.cells cs T)) ∧ ∃ x, l[i]? = some x ∧ E w b (i * sz) x := by
  obtain ⟨ao', cap', h1, h2, b, h3⟩ := h
  injection h1 with h4 h5 h6
  subst h4
  have hx : l[i]? = some l[i] := List.getElem?_eq_getElem hi
  obtain ⟨k1, k2, k3, k4⟩ := h3 i _ hx
  exact ⟨b, k1, k2, k3, _, hx, k4⟩
/-- From world to world, from relation to relation. -/
theorem TSl.go (h : TSl G T sz E w v l) (hG : ∀ b, G b T → G' b T) (hB : ∀ b cs, G b T → w.heap[b]? = some (.cells cs T) → ∃ cs', w'.heap[b]? = some (.cells cs' T)) (hE : ∀ b i x cs, l[i]? = some x → G b T → w.heap[b]? = some (.cells cs T) → E w b (i * sz) x → E' w' b (i * sz) x) : TSl G' T sz E' w' v l := by
  obtain ⟨ao, cap, h1, h2, b, h3⟩ := h
  refine ⟨ao, cap, h1, h2, b, fun i x hx => ?_⟩
  obtain ⟨k1, k2, ⟨cs, k3⟩, k4⟩ := h3 i x hx
  exact ⟨k1, hG b k2, hB b cs k2 k3, hE b i x cs hx k2 k3 k4⟩
/-- As a slice of whatever. -/
theorem TSl.plain {P : Nat → Prop} (h : TSl G T sz E w v l) (hP : ∀ b, G b T → P b) (hE : ∀ b i x, l[i]? = some x → G b T → E w b (i * sz) x → E' w b (i * sz) x) : SlOf P sz E' w v l := by
  obtain ⟨ao, cap, h1, h2, b, h3⟩ := h
  refine ⟨ao, cap, h1, h2, b, 0, fun i x hx => ?_⟩
  obtain ⟨k1, k2, _, k4⟩ := h3 i x hx
  rw [Nat.zero_add]
  exact ⟨k1, hP b k2, hE b i x hx k2 k4⟩
end

section
variable {N : Tags} {G G' : Nat → TypeId → Prop} {P P' : Nat → Prop} {w w' : World}
/-- Nothing that is spoken of turns. -/
structure Calm (G G' : Nat → TypeId → Prop) (P : Nat → Prop) (w w' : World) : Prop where
  block : ∀ k T cs, G k T → w.heap[k]? = some (.cells cs T) → w'.heap[k]? = w.heap[k]?
  word : ∀ k, P k → k < w.heap.size → w'.heap[k]? = w.heap[k]?
  more : ∀ k T, G k T → G' k T
theorem Calm.of {S : Nat → Prop} (ho : Only S w w') (h1 : ∀ k T cs, G k T → w.heap[k]? = some (.cells cs T) → ¬ S k) (h2 : ∀ k, P k → ¬ S k) (h3 : ∀ k T, G k T → G' k T) : Calm G G' P w w' :=
  ⟨fun k T cs hg hc => ho.block k (lt_of_block hc) (h1 k T cs hg hc), fun k hp hk => ho.block k hk (h2 k hp), h3⟩
section
variable {b o : Nat} {v : Value} {x : Int}
theorem Cel.at (h : Cel w b o v) (e : w'.heap[b]? = w.heap[b]?) : Cel w' b o v := (World.cell?_of_block e).trans h
theorem I64.at (h : I64 w b o x) (e : w'.heap[b]? = w.heap[b]?) : I64 w' b o x := ⟨Cel.at h.1 e, h.2⟩
end
theorem Calm.ints (hc : Calm G G' P w w') {v : Value} {l : List Int} (h : SlOf P 1 intE w v l) : SlOf P 1 intE w' v l := h.only (fun b _ _ hb hx => I64.at hx (hc.word b hb (World.block_lt_of_cell? _ _ hx.1)))
theorem Calm.cl (hc : Calm G G' P w w') {b o : Nat} {x : Cl} (e : w'.heap[b]? = w.heap[b]?) (h : clE P w b o x) : clE P w' b o x := by
  obtain ⟨h1, h2, h3, h4, ⟨v, h5, h6⟩, h7⟩ := h
  exact ⟨h1.at e, h2.at e, h3.at e, h4.at e, ⟨v, h5.at e, hc.ints h6⟩, h7.at e⟩
theorem Calm.calls (hc : Calm G G' P w w') {T : TypeId} {v : Value} {l : List Cl} (h : TSl G T 6 (clE P) w v l) : TSl G' T 6 (clE P) w' v l :=
  h.go (fun b => hc.more b T) (fun b cs hg hb => ⟨cs, (hc.block b T cs hg hb).trans hb⟩) (fun b _ _ cs _ hg hb he => hc.cl (hc.block b T cs hg hb) he)
theorem Calm.th (hc : Calm G G' P w w') {b o : Nat} {x : Th} (e : w'.heap[b]? = w.heap[b]?) (h : thX N G P w b o x) : thX N G' P w' b o x := by
  obtain ⟨h1, h2, h3, h4, v, h5, h6⟩ := h
  exact ⟨h1.at e, h2.at e, h3, h4.at e, v, h5.at e, hc.calls h6⟩
theorem Calm.ths (hc : Calm G G' P w w') {T : TypeId} {v : Value} {l : List Th} (h : TSl G T 4 (thX N G P) w v l) : TSl G' T 4 (thX N G' P) w' v l :=
  h.go (fun b => hc.more b T) (fun b cs hg hb => ⟨cs, (hc.block b T cs hg hb).trans hb⟩) (fun b _ _ cs _ hg hb he => hc.th (hc.block b T cs hg hb) he)
theorem Calm.obs (hc : Calm G G' P w w') {T : TypeId} {v : Value} {l : List Ob} (h : TSl G T 3 obE w v l) : TSl G' T 3 obE w' v l :=
  h.go (fun b => hc.more b T) (fun b cs hg hb => ⟨cs, (hc.block b T cs hg hb).trans hb⟩) (fun b _ _ cs _ hg hb he => ⟨he.1.at (hc.block b T cs hg hb), he.2.1.at (hc.block b T cs hg hb), he.2.2.at (hc.block b T cs hg hb)⟩)
theorem Calm.wins (hc : Calm G G' P w w') {T : TypeId} {v : Value} {l : List Win} (h : TSl G T 2 winE w v l) : TSl G' T 2 winE w' v l :=
  h.go (fun b => hc.more b T) (fun b cs hg hb => ⟨cs, (hc.block b T cs hg hb).trans hb⟩) (fun b _ _ cs _ hg hb he => ⟨he.1.at (hc.block b T cs hg hb), he.2.at (hc.block b T cs hg hb)⟩)
theorem Calm.chans (hc : Calm G G' P w w') {T : TypeId} {v : Value} {l : List Chn} (h : TSl G T 4 chnE w v l) : TSl G' T 4 chnE w' v l :=
  h.go (fun b => hc.more b T) (fun b cs hg hb => ⟨cs, (hc.block b T cs hg hb).trans hb⟩) (fun b _ _ cs _ hg hb he => ⟨he.1.at (hc.block b T cs hg hb), he.2.1.at (hc.block b T cs hg hb), he.2.2.1.at (hc.block b T cs hg hb), he.2.2.2.at (hc.block b T cs hg hb)⟩)
theorem Calm.pt (hc : Calm G G' P w w') {b o : Nat} {x : Pt} (e : w'.heap[b]? = w.heap[b]?) (h : ptX N G P w b o x) : ptX N G' P w' b o x := by
  obtain ⟨⟨v, h1, h2⟩, ⟨u, h3, h4⟩⟩ := h
  exact ⟨⟨v, h1.at e, hc.ths h2⟩, ⟨u, h3.at e, hc.obs h4⟩⟩
theorem Calm.pts (hc : Calm G G' P w w') {T : TypeId} {v : Value} {l : List Pt} (h : TSl G T 2 (ptX N G P) w v l) : TSl G' T 2 (ptX N G' P) w' v l :=
  h.go (fun b => hc.more b T) (fun b cs hg hb => ⟨cs, (hc.block b T cs hg hb).trans hb⟩) (fun b _ _ cs _ hg hb he => hc.pt (hc.block b T cs hg hb) he)
theorem Calm.cf (hc : Calm G G' P w w') {v0 v1 v2 : Value} {c : Cf} (h : OwX N G P w v0 v1 v2 c) : OwX N G' P w' v0 v1 v2 c := ⟨hc.pts h.parts, hc.wins h.wins, hc.chans h.chans⟩
end

section
variable {N : Tags} {G : Nat → TypeId → Prop} {P : Nat → Prop} {w : World} {v0 v1 v2 : Value} {c : Cf}
/-- One's own is one. -/
theorem OwX.cf (h : OwX N G P w v0 v1 v2 c) : CfIs (fun _ => True) w v0 v1 v2 c := by
  have hI : ∀ v l, SlOf P 1 intE w v l → SlOf (fun _ => True) 1 intE w v l := fun v l h => by
    obtain ⟨ao, cap, h1, h2, b, off, h3⟩ := h
    exact ⟨ao, cap, h1, h2, b, off, fun i x hx => ⟨(h3 i x hx).1, trivial, (h3 i x hx).2.2⟩⟩
  refine ⟨h.parts.plain (fun _ _ => trivial) fun b i x _ _ hx => ?_, h.wins.plain (fun _ _ => trivial) fun _ _ _ _ _ h => h, h.chans.plain (fun _ _ => trivial) fun _ _ _ _ _ h => h⟩
  obtain ⟨⟨v, k1, k2⟩, ⟨u, k3, k4⟩⟩ := hx
  refine ⟨⟨v, k1, k2.plain (fun _ _ => trivial) fun b i x _ _ hx => ?_⟩, ⟨u, k3, k4.plain (fun _ _ => trivial) fun _ _ _ _ _ h => h⟩⟩
  obtain ⟨j1, j2, j3, j4, y, j5, j6⟩ := hx
  refine ⟨j1, j2, j3, j4, y, j5, j6.plain (fun _ _ => trivial) fun b i x _ _ hx => ?_⟩
  obtain ⟨l1, l2, l3, l4, ⟨z, l5, l6⟩, l7⟩ := hx
  exact ⟨l1, l2, l3, l4, ⟨z, l5, hI _ _ l6⟩, l7⟩
/-- .. and has its shape. -/
theorem OwX.sh (h : OwX N G P w v0 v1 v2 c) : ShX N G w v0 v1 c := by
  refine ⟨h.parts.go (fun _ h => h) (fun _ cs _ h => ⟨cs, h⟩) fun b i x cs _ _ _ hx => ?_, h.wins.go (fun _ h => h) (fun _ cs _ h => ⟨cs, h⟩) fun b i x cs _ _ _ hx => ⟨_, hx.2.1⟩⟩
  obtain ⟨⟨v, k1, k2⟩, _⟩ := hx
  refine ⟨v, k1, k2.go (fun _ h => h) (fun _ cs _ h => ⟨cs, h⟩) fun b i x cs _ _ _ hx => ?_⟩
  obtain ⟨j1, _, _, _, y, j5, j6⟩ := hx
  exact ⟨⟨_, j1.1⟩, y, j5, j6.go (fun _ h => h) (fun _ cs _ h => ⟨cs, h⟩) fun b i x cs _ _ _ hx => ⟨_, hx.1.1⟩⟩

/-- A number is written where a number stands. -/
structure Wrote (N : Tags) (w w' : World) (B o : Nat) : Prop where
  tag : ∃ cs T, w.heap[B]? = some (.cells cs T) ∧ (T = N.tt ∧ o % 4 = 0 ∨ T = N.tc ∨ T = N.tw)
  same : ∀ k, k ≠ B → w'.heap[k]? = w.heap[k]?
  cell : ∀ i, i ≠ o → w'.cell? ⟨B, i, none⟩ = w.cell? ⟨B, i, none⟩
  new : ∃ y, w'.cell? ⟨B, o, none⟩ = some (.int .i64 y)
  kind : ∀ cs T, w.heap[B]? = some (.cells cs T) → ∃ cs', w'.heap[B]? = some (.cells cs' T)
theorem Wrote.heap {w' : World} {B o : Nat} (h : Wrote N w w' B o) (b : Nat) (cs : Array Value) (T : TypeId) (hb : w.heap[b]? = some (.cells cs T)) : ∃ cs', w'.heap[b]? = some (.cells cs' T) := by
  by_cases e : b = B
  · subst e
    exact h.kind cs T hb
  · exact ⟨cs, (h.same b e).trans hb⟩
theorem Wrote.num {w' : World} {B o : Nat} (h : Wrote N w w' B o) {b i : Nat} (hx : ∃ k, Cel w b i (.int .i64 k)) : ∃ k, Cel w' b i (.int .i64 k) := by
  obtain ⟨k, hk⟩ := hx
  by_cases e : b = B
  · subst e
    by_cases e2 : i = o
    · subst e2
      exact h.new
    · exact ⟨k, (h.cell i e2).trans hk⟩
  · exact ⟨k, hk.at (h.same b e)⟩
/-- The shape stays. -/
theorem ShX.wrote {w' : World} {B o : Nat} (h : ShX N G w v0 v1 c) (hw : Wrote N w w' B o) (d : N.tp ≠ N.tt ∧ N.tp ≠ N.tc ∧ N.tp ≠ N.tw ∧ N.tt ≠ N.tc ∧ N.tt ≠ N.tw) : ShX N G w' v0 v1 c := by
  obtain ⟨cs0, T0, ht, hT⟩ := hw.tag
  have ne : ∀ b cs T, w.heap[b]? = some (.cells cs T) → T ≠ T0 → b ≠ B := fun b cs T hb hne e => by
    subst e
    rw [ht] at hb
    injection hb with hb
    injection hb with _ hb
    exact hne hb.symm
  refine ⟨h.parts.go (fun _ h => h) (fun b cs _ hb => hw.heap b cs _ hb) fun b i x cs _ _ hb hx => ?_, h.wins.go (fun _ h => h) (fun b cs _ hb => hw.heap b cs _ hb) fun b i x cs _ _ _ hx => hw.num hx⟩
  obtain ⟨v, k1, k2⟩ := hx
  have hbB : b ≠ B := ne b cs _ hb (by
    rcases hT with ⟨e, _⟩ | e | e
    · rw [e]; exact d.1
    · rw [e]; exact d.2.1
    · rw [e]; exact d.2.2.1)
  refine ⟨v, k1.at (hw.same b hbB), k2.go (fun _ h => h) (fun b cs _ hb => hw.heap b cs _ hb) fun b i x cs _ _ hb hx => ?_⟩
  obtain ⟨j1, y, j5, j6⟩ := hx
  refine ⟨hw.num j1, y, ?_, j6.go (fun _ h => h) (fun b cs _ hb => hw.heap b cs _ hb) fun b i x cs _ _ _ hx => hw.num hx⟩
  by_cases e : b = B
  · subst e
    rw [ht] at hb
    injection hb with hb
    injection hb with _ hb
    rcases hT with ⟨_, e⟩ | e | e
    · exact (hw.cell _ (by omega)).trans j5
    · exact absurd (hb.symm.trans e) d.2.2.2.1
    · exact absurd (hb.symm.trans e) d.2.2.2.2
  · exact j5.at (hw.same b e)
theorem block_set11 {w : World} {b : Nat} {c : Array Value} {t : TypeId} (h : w.heap[b]? = some (.cells c t)) (i : Nat) (v : Value) : (w.setCell ⟨b, i, none⟩ v).heap[b]? = some (.cells (c.setIfInBounds i v) t) := by
  simp [World.setCell, Array.getElem?_modify, h]
theorem wrote_set {B o : Nat} {cs : Array Value} {T : TypeId} (N : Tags) (w : World) (hb : w.heap[B]? = some (.cells cs T)) (hT : T = N.tt ∧ o % 4 = 0 ∨ T = N.tc ∨ T = N.tw) (hx : ∃ k, Cel w B o (.int .i64 k)) (y : Int) : Wrote N w (w.setCell ⟨B, o, none⟩ (.int .i64 y)) B o := by
  have h2 : (w.setCell ⟨B, o, none⟩ (.int .i64 y)).heap[B]? = some (.cells (cs.setIfInBounds o (.int .i64 y)) T) := block_set11 hb o _
  have ho : o < cs.size := by
    obtain ⟨k, hk⟩ := hx
    have h3 := (cell_of_block hb o).symm.trans hk
    exact (Array.getElem?_eq_some_iff.1 h3).1
  refine ⟨⟨cs, T, hb, hT⟩, fun k hk => Below.heap_setCell _ _ _ _ hk, fun i hi => ?_, ⟨y, ?_⟩, fun cs' T' h => ?_⟩
  · rw [cell_of_block h2, cell_of_block hb, Array.getElem?_setIfInBounds_ne (fun e => hi e.symm)]
  · rw [cell_of_block h2, Array.getElem?_setIfInBounds_self, if_pos ho]
  · rw [hb] at h
    injection h with h
    injection h with _ h
    subst h
    exact ⟨_, h2⟩
end
end Go.Sept

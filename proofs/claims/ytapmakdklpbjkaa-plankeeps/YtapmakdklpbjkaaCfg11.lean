/-
  A configuration (api.Config), plain, and how one lies in the model's heap: slices of structs of slices. Conditions: none.
-/
import Derived.Test.YtapmakdklpbjkaaMem
import Derived.Test.YtapmakdklpbjkaaLift
import Derived.OpenShut
import Derived.ChangeSlices
import Derived.Deep.Slices
import Derived.Lib.SmallJoins
namespace Go.Sept
open Go.RowKit

structure Win where
  part : Int
  ticks : Int
structure Chn where
  src : Int
  out : Int
  dst : Int
  inn : Int
structure Ob where
  kind : Int
  size : Int
  prio : Bool
structure Cl where
  kind : Int
  handle : Int
  a : Int
  b : Int
  words : List Int
  timeout : Int
structure Th where
  prio : Int
  caps : Int
  ctl : Bool
  prog : List Cl
structure Pt where
  ths : List Th
  obs : List Ob
structure Cf where
  parts : List Pt
  wins : List Win
  chans : List Chn

/-- A cell that holds an int64 number, or any other value. -/
def I64 (w : World) (b o : Nat) (x : Int) : Prop := w.cell? ⟨b, o, none⟩ = some (.int .i64 x) ∧ -9223372036854775808 ≤ x ∧ x ≤ 9223372036854775807
def Cel (w : World) (b o : Nat) (v : Value) : Prop := w.cell? ⟨b, o, none⟩ = some v
theorem I64.cel {w : World} {b o : Nat} {x : Int} (h : I64 w b o x) : Cel w b o (.int .i64 x) := h.1

/-- What lies at a block and a place is x, by E: a slice of such, each of sz cells, in a block of P. -/
def SlOf {α : Type} (P : Nat → Prop) (sz : Nat) (E : World → Nat → Nat → α → Prop) (w : World) (v : Value) (xs : List α) : Prop :=
  ∃ ao cap, v = .slice ao xs.length cap ∧ (xs.length ≤ cap ∧ cap ≤ 9223372036854775807) ∧ ∃ b off, ∀ i x, xs[i]? = some x → ao = some ⟨b, off, none⟩ ∧ P b ∧ E w b (off + i * sz) x

def intE (w : World) (b o : Nat) (x : Int) : Prop := I64 w b o x
def winE (w : World) (b o : Nat) (x : Win) : Prop := I64 w b o x.part ∧ I64 w b (o + 1) x.ticks
def chnE (w : World) (b o : Nat) (x : Chn) : Prop := I64 w b o x.src ∧ I64 w b (o + 1) x.out ∧ I64 w b (o + 2) x.dst ∧ I64 w b (o + 3) x.inn
def obE (w : World) (b o : Nat) (x : Ob) : Prop := I64 w b o x.kind ∧ I64 w b (o + 1) x.size ∧ Cel w b (o + 2) (.bool x.prio)
def clE (P : Nat → Prop) (w : World) (b o : Nat) (x : Cl) : Prop := I64 w b o x.kind ∧ I64 w b (o + 1) x.handle ∧ I64 w b (o + 2) x.a ∧ I64 w b (o + 3) x.b ∧ (∃ v, Cel w b (o + 4) v ∧ SlOf P 1 intE w v x.words) ∧ I64 w b (o + 5) x.timeout
def thE (P : Nat → Prop) (w : World) (b o : Nat) (x : Th) : Prop := I64 w b o x.prio ∧ Cel w b (o + 1) (.int .u32 x.caps) ∧ (0 ≤ x.caps ∧ x.caps ≤ 4294967295) ∧ Cel w b (o + 2) (.bool x.ctl) ∧ ∃ v, Cel w b (o + 3) v ∧ SlOf P 6 (clE P) w v x.prog
def ptE (P : Nat → Prop) (w : World) (b o : Nat) (x : Pt) : Prop := (∃ v, Cel w b o v ∧ SlOf P 4 (thE P) w v x.ths) ∧ ∃ v, Cel w b (o + 1) v ∧ SlOf P 3 obE w v x.obs
/-- A partition, a configuration by value. -/
def PtIs (P : Nat → Prop) (w : World) (v0 v1 : Value) (p : Pt) : Prop := SlOf P 4 (thE P) w v0 p.ths ∧ SlOf P 3 obE w v1 p.obs
structure CfIs (P : Nat → Prop) (w : World) (v0 v1 v2 : Value) (c : Cf) : Prop where
  parts : SlOf P 2 (ptE P) w v0 c.parts
  wins : SlOf P 2 winE w v1 c.wins
  chans : SlOf P 4 chnE w v2 c.chans

section
variable {P : Nat → Prop} {S : Nat → Prop} {w w' : World} {b o : Nat} {α : Type}
theorem Cel.only {v : Value} (h : Cel w b o v) (ho : Only S w w') (hb : ¬ S b) : Cel w' b o v :=
  (World.cell?_of_block (ho.block b (World.block_lt_of_cell? _ _ h) hb)).trans h
theorem I64.only {x : Int} (h : I64 w b o x) (ho : Only S w w') (hb : ¬ S b) : I64 w' b o x := ⟨Cel.only h.1 ho hb, h.2⟩
/-- E stays where blocks of P do not turn. -/
def Stay (P : Nat → Prop) (w w' : World) {α : Type} (E : World → Nat → Nat → α → Prop) : Prop := ∀ b o x, P b → E w b o x → E w' b o x
theorem SlOf.only {sz : Nat} {E : World → Nat → Nat → α → Prop} {v : Value} {xs : List α} (h : SlOf P sz E w v xs) (hE : Stay P w w' E) : SlOf P sz E w' v xs := by
  obtain ⟨ao, cap, h1, h2, b, off, h3⟩ := h
  exact ⟨ao, cap, h1, h2, b, off, fun i x hx => ⟨(h3 i x hx).1, (h3 i x hx).2.1, hE _ _ _ (h3 i x hx).2.1 (h3 i x hx).2.2⟩⟩
variable (ho : Only S w w') (hS : ∀ k, P k → ¬ S k)
include ho hS
theorem stay_int : Stay P w w' intE := fun b _ _ hb h => I64.only h ho (hS b hb)
theorem stay_win : Stay P w w' winE := fun b _ _ hb h => ⟨h.1.only ho (hS b hb), h.2.only ho (hS b hb)⟩
theorem stay_chn : Stay P w w' chnE := fun b _ _ hb h => ⟨h.1.only ho (hS b hb), h.2.1.only ho (hS b hb), h.2.2.1.only ho (hS b hb), h.2.2.2.only ho (hS b hb)⟩
theorem stay_ob : Stay P w w' obE := fun b _ _ hb h => ⟨h.1.only ho (hS b hb), h.2.1.only ho (hS b hb), h.2.2.only ho (hS b hb)⟩
theorem stay_cl : Stay P w w' (clE P) := fun b _ _ hb ⟨h1, h2, h3, h4, ⟨v, h5, h6⟩, h7⟩ => ⟨h1.only ho (hS b hb), h2.only ho (hS b hb), h3.only ho (hS b hb), h4.only ho (hS b hb), ⟨v, h5.only ho (hS b hb), h6.only (stay_int ho hS)⟩, h7.only ho (hS b hb)⟩
theorem stay_th : Stay P w w' (thE P) := fun b _ _ hb ⟨h1, h2, h3, h4, ⟨v, h5, h6⟩⟩ => ⟨h1.only ho (hS b hb), h2.only ho (hS b hb), h3, h4.only ho (hS b hb), ⟨v, h5.only ho (hS b hb), h6.only (stay_cl ho hS)⟩⟩
theorem stay_pt : Stay P w w' (ptE P) := fun b _ _ hb ⟨⟨v1, h1, h2⟩, ⟨v2, h3, h4⟩⟩ => ⟨⟨v1, h1.only ho (hS b hb), h2.only (stay_th ho hS)⟩, ⟨v2, h3.only ho (hS b hb), h4.only (stay_ob ho hS)⟩⟩
theorem PtIs.only {v0 v1 : Value} {p : Pt} (h : PtIs P w v0 v1 p) : PtIs P w' v0 v1 p := ⟨h.1.only (stay_th ho hS), h.2.only (stay_ob ho hS)⟩
theorem CfIs.only {v0 v1 v2 : Value} {c : Cf} (h : CfIs P w v0 v1 v2 c) : CfIs P w' v0 v1 v2 c := ⟨h.parts.only (stay_pt ho hS), h.wins.only (stay_win ho hS), h.chans.only (stay_chn ho hS)⟩
end

section
variable {P : Nat → Prop} {w : World} {α : Type} {sz : Nat} {E : World → Nat → Nat → α → Prop}
theorem SlOf.nil : SlOf P sz E w (.slice none 0 0) [] := ⟨none, 0, rfl, ⟨Nat.le_refl _, Nat.zero_le _⟩, 0, 0, fun i x hx => by simp at hx⟩
/-- The shape of a slice that holds xs. -/
theorem SlOf.shape {v : Value} {xs : List α} (h : SlOf P sz E w v xs) : ∃ ao cap, v = .slice ao xs.length cap ∧ xs.length ≤ 9223372036854775807 := by
  obtain ⟨ao, cap, h1, h2, _⟩ := h
  exact ⟨ao, cap, h1, Nat.le_trans h2.1 h2.2⟩
theorem SlOf.room {ao : Option Addr} {n cap : Nat} {xs : List α} (h : SlOf P sz E w (.slice ao n cap) xs) : xs.length = n ∧ n ≤ cap ∧ cap ≤ 9223372036854775807 := by
  obtain ⟨ao', cap', h1, h2, _⟩ := h
  injection h1 with _ h5 h6
  subst h5 h6
  exact ⟨rfl, h2.1, h2.2⟩
/-- The first of them. -/
theorem SlOf.take {ao : Option Addr} {n cap : Nat} {xs : List α} (h : SlOf P sz E w (.slice ao n cap) xs) {i : Nat} (hi : i ≤ n) : SlOf P sz E w (.slice ao i cap) (xs.take i) := by
  have hr := h.room
  obtain ⟨ao', cap', h1, h2, b, off, h3⟩ := h
  injection h1 with h4 h5 h6
  subst h4
  refine ⟨ao, cap, by rw [List.length_take, Nat.min_eq_left (by omega)], ⟨by rw [List.length_take]; omega, hr.2.2⟩, b, off, fun j x hx => h3 j x ?_⟩
  rw [List.getElem?_take] at hx
  split at hx
  · exact hx
  · cases hx
/-- The i-th of them. -/
theorem SlOf.get {ao : Option Addr} {n cap : Nat} {xs : List α} (h : SlOf P sz E w (.slice ao n cap) xs) (i : Nat) (hi : i < xs.length) : ∃ b off, ao = some ⟨b, off, none⟩ ∧ P b ∧ ∃ x, xs[i]? = some x ∧ E w b (off + i * sz) x := by
  obtain ⟨ao', cap', h1, h2, b, off, h3⟩ := h
  injection h1 with h4 h5 h6
  subst h4
  have hx : xs[i]? = some xs[i] := List.getElem?_eq_getElem hi
  obtain ⟨k1, k2, k3⟩ := h3 i _ hx
  exact ⟨b, off, k1, k2, _, hx, k3⟩
end

theorem list_of {α : Type} (n : Nat) {Q : Nat → α → Prop} (h : ∀ i, i < n → ∃ x, Q i x) : ∃ xs : List α, xs.length = n ∧ ∀ i x, xs[i]? = some x → Q i x := by
  induction n with
  | zero => exact ⟨[], rfl, fun i x hx => by simp at hx⟩
  | succ n ih =>
    obtain ⟨xs, h1, h2⟩ := ih (fun i hi => h i (by omega))
    obtain ⟨x, hx⟩ := h n (by omega)
    refine ⟨xs ++ [x], by simp [h1], fun i y hy => ?_⟩
    by_cases e : i < xs.length
    · rw [List.getElem?_append_left e] at hy
      exact h2 i y hy
    · have hi : i < (xs ++ [x]).length := (List.getElem?_eq_some_iff.1 hy).1
      have : i = n := by simp at hi; omega
      subst this
      rw [List.getElem?_append_right (by omega), ← h1, Nat.sub_self] at hy
      simp at hy
      subst hy
      exact hx
end Go.Sept

namespace Go.Sept
open Go.RowKit Go.ChangeShapes Go.WideShapes Go.ChangeAt Go.Joins Go.Deep
section
variable {H : Type} {enc : TypeId × Value → H} {P : Program} {W : World} {held : Bool} {fuel : Nat}
/-- A slice of what can be opened. -/
theorem open_sl {α : Type} {sz : Nat} {E : World → Nat → Nat → α → Prop} {t te : TypeId} {cs : List Value} {x : DataW H × List MemPlace} (ht : P.underlying t = some (.slice te)) (hC : P.cellsOf te = sz) (hsz : 0 < sz)
    (hel : ∀ fuel cs x, DataW.trod enc P W 0 (fun _ => true) held fuel te cs = some x → ∃ y : α, ∀ b o, (∀ j, j < sz → W.cell? ⟨b, o + j, none⟩ = cs[j]?) → E W b o y)
    (h : DataW.trod enc P W 0 (fun _ => true) held fuel t cs = some x) : ∃ v xs, cs = [v] ∧ SlOf (fun k => k < W.heap.size) sz E W v xs := by
  rcases open_slice ht h with ⟨rfl, _⟩ | ⟨a, len, cap, m, n, D, Pl, rfl, _, hl, hmx, hmm, _, hall⟩
  · exact ⟨_, [], rfl, SlOf.nil⟩
  · unfold maxLen at hmx
    have hmm' : m = cap := by simpa using hmm
    rw [hC] at hall
    obtain ⟨b, off, spot⟩ := a
    have hspot : 0 < len → spot = none := by
      intro h0
      obtain ⟨cs', hcs, _⟩ := hall 0 (by omega)
      obtain ⟨_, hln, hcl⟩ := World.cells?_some hcs
      have z0 := hcl 0 (by omega)
      have c0 : cs'[0]? = some cs'[0] := List.getElem?_eq_getElem (by omega)
      rw [c0] at z0
      simpa [Addr.add] using World.cell?_spot z0
    have key : ∀ i, i < len → ∃ y : α, spot = none ∧ b < W.heap.size ∧ E W b (off + i * sz) y := by
      intro i hi
      obtain ⟨cs', hcs, htr⟩ := hall i (by omega)
      obtain ⟨_, hln, hcl⟩ := World.cells?_some hcs
      obtain ⟨y, hy⟩ := hel _ _ _ htr
      have z0 := hcl 0 (by omega)
      have c0 : cs'[0]? = some cs'[0] := List.getElem?_eq_getElem (by omega)
      rw [c0] at z0
      have hs := hspot (by omega)
      subst hs
      have e : ∀ n, Addr.add ⟨b, off, none⟩ n = ⟨b, off + n, none⟩ := by intro n; simp only [Addr.add]; split <;> simp_all
      refine ⟨y, rfl, ?_, hy _ _ fun j hj => ?_⟩
      · rw [e] at z0
        exact World.block_lt_of_cell? _ _ z0
      · have z := hcl j (by omega)
        rw [Go.Deep.add_add, e] at z
        rw [← z, Nat.add_assoc]
    obtain ⟨xs, h1, h2⟩ := list_of len key
    refine ⟨_, xs, rfl, some ⟨b, off, spot⟩, cap, by rw [h1], ⟨by omega, by omega⟩, b, off, fun i x hx => ?_⟩
    obtain ⟨k1, k2, k3⟩ := h2 i x hx
    subst k1
    exact ⟨rfl, k2, k3⟩
end
end Go.Sept

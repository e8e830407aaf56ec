/-
  A copy of a slice in a new block: make and copy; lists that are turned in place, element by element. Conditions: none; no program's function is named here.
-/
import Derived.Test.YtmcmjcaigipoaaaGreatWhole11
import Derived.Laws.CopyOwn
import Derived.Laws.MakeOwn
namespace Go.Sept
open Go.RowKit

section
variable {P : Program}
theorem setRow_new (w : World) (c d : Array Value) (t : TypeId) : (w.alloc (.cells c t)).setRow w.heap.size d = w.alloc (.cells d t) := by
  unfold World.setRow World.alloc
  congr 1
  apply Array.ext_getElem?
  intro i
  rw [Array.getElem?_modify]
  by_cases h : i = w.heap.size
  · subst h; simp
  · rw [if_neg (fun e => h e.symm)]
    simp only [Array.getElem?_push]
    rw [if_neg h, if_neg h]
/-- make of n, with room for n. -/
theorem run_make_all (t e : TypeId) (z : Value) (size bytes : Nat) (ht : P.underlying t = some (.slice e)) (hinfo : (P.info? e).map (fun i => (i.zero, i.size, i.bytes)) = some (some z, size, bytes)) (n : Nat) (hb : bytes * n ≤ 281474976710656) (hn : n ≤ 9223372036854775807) (w : World) :
    (Instr.makeSlice t (.int .i64 (n : Int)) (.int .i64 (n : Int))).run P w = .ok (.slice (some ⟨w.heap.size, 0, none⟩) n n) (w.alloc (.cells (madeCells z.cells (n * size)) e)) := by
  obtain ⟨i, hi, hzz⟩ := Option.map_eq_some_iff.1 hinfo
  simp only [Prod.mk.injEq] at hzz
  obtain ⟨hz, hs, hb2⟩ := hzz
  have hb' : (i.bytes : Int) * (n : Int) ≤ 281474976710656 := by
    have h : ((i.bytes * n : Nat) : Int) ≤ 281474976710656 := by rw [hb2]; omega
    rwa [Int.natCast_mul] at h
  have hr := run_make (P := P) w t e i z ht hi hz .i64 .i64 n n (by omega) (Int.le_refl _) hb' (by omega)
  simp only [Int.toNat_natCast] at hr
  rw [hr, hs]
theorem run_make_some (t e : TypeId) (z : Value) (size bytes : Nat) (ht : P.underlying t = some (.slice e)) (hinfo : (P.info? e).map (fun i => (i.zero, i.size, i.bytes)) = some (some z, size, bytes)) (n : Nat) (hb : bytes * n ≤ 281474976710656) (hn : n ≤ 9223372036854775807) (w : World) :
    ∃ Z : Array Value, Z.size = n * size ∧ (Instr.makeSlice t (.int .i64 (n : Int)) (.int .i64 (n : Int))).run P w = .ok (.slice (some ⟨w.heap.size, 0, none⟩) n n) (w.alloc (.cells Z e)) :=
  ⟨_, size_madeCells _ _, run_make_all t e z size bytes ht hinfo n hb hn w⟩
/-- copy of all of it into the new block. -/
theorem run_copy_all (w : World) (t ty e : TypeId) (size n : Nat) (ht : P.underlying t = some (.slice e)) (hs : (P.info? e).map (·.size) = some size) (Z : Array Value) (hZ : Z.size = n * size) (sa : Option Addr) (sc : Nat) (news : List Value)
    (hl : news.length = n * size) (hsrc : ∀ j u, news[j]? = some u → ∃ a, sa = some a ∧ w.cell? (a.add j) = some u) (h1 : ∀ u ∈ news, u.oneCell' = true) :
    (Builtin.copy_ #[t, t] ty #[.slice (some ⟨w.heap.size, 0, none⟩) n n, .slice sa n sc]).run P (w.alloc (.cells Z e)) = .ok (.int .i64 (n : Int)) (w.alloc (.cells news.toArray e)) := by
  obtain ⟨i, hq, hi⟩ := Option.map_eq_some_iff.1 hs
  have hg : (w.alloc (.cells Z e)).heap[w.heap.size]? = some (.cells (Z) e (0, 0)) := heap_new _ _
  have hsrc' : ∀ a, sa = some a → ∀ j u, news[j]? = some u → (w.alloc (.cells Z e)).cell? (a.add j) = some u := fun a ha j u hj => by
    obtain ⟨a', ha', hc⟩ := hsrc j u hj
    rw [ha] at ha'
    injection ha' with ha'
    subst ha'
    exact (World.cell?_of_block (Below.heap_alloc _ _ _ (World.block_lt_of_cell? _ _ hc))).trans hc
  have hst := run_storeCells_at P w.heap.size 0 e news 0 (Z) (w.alloc (.cells Z e)) hg (by simp [hZ, hl]) h1
  have hd : (Z.toList.take (0 + 0) ++ news ++ Z.toList.drop (0 + 0 + news.length)).toArray = news.toArray := by
    rw [show Z.toList.drop (0 + 0 + news.length) = [] by apply List.drop_eq_nil_of_le; simp [hZ, hl]]
    simp
  rw [hd, setRow_new] at hst
  have hmin : Nat.min n n = n := Nat.min_self n
  cases sa with
  | none =>
    have hnil : news = [] := by
      cases news with
      | nil => rfl
      | cons u r =>
        obtain ⟨a, ha, _⟩ := hsrc 0 u rfl
        cases ha
    subst hnil
    simp only [storeCells, Sem.run_pure] at hst
    simp [Builtin.copy_, run_underlying ht, Builtin.lenOf, Builtin.firstCells, sizeOf, typeInfo, hq, hmin, storeCells, goInt]
    injection hst
  | some a =>
    have hld := run_loadCells_list (P := P) (w.alloc (.cells Z e)) a news (hsrc' a rfl)
    rw [hl] at hld
    simp [Builtin.copy_, run_underlying ht, Builtin.lenOf, Builtin.firstCells, sizeOf, typeInfo, hq, hi, hmin, hld, hst, goInt]
end

/-- Threads: their programs stay where they are. -/
theorem whole_th (P P' : Nat → Prop) (w : World) : Whole 4 (thE P) w (thE P') (fun w' => ∀ v l, SlOf P 6 (clE P) w v l → SlOf P' 6 (clE P') w' v l) := fun b o x h => by
  obtain ⟨h1, h2, h3, h4, v, h5, h6⟩ := h
  obtain ⟨ao, cap, hv, _⟩ := h6.shape
  refine ⟨[.int .i64 x.prio, .int .u32 x.caps, .bool x.ctl, v], rfl, ?_, by intro u hu; simp at hu; rcases hu with rfl | rfl | rfl | rfl <;> first | rfl | (rw [hv]; rfl), fun w' b' o' hQ hc => ⟨⟨hc 0 _ rfl, h1.2⟩, hc 1 _ rfl, h3, hc 2 _ rfl, v, hc 3 _ rfl, hQ v _ h6⟩⟩
  intro j u hj
  match j, hj with
  | 0, hj => injection hj with hj; subst hj; exact h1.1
  | 1, hj => injection hj with hj; subst hj; exact h2
  | 2, hj => injection hj with hj; subst hj; exact h4
  | 3, hj => injection hj with hj; subst hj; exact h5
/-- Partitions: their lists stay where they are. -/
theorem whole_pt (P P' : Nat → Prop) (w : World) : Whole 2 (ptE P) w (ptE P') (fun w' => (∀ v l, SlOf P 4 (thE P) w v l → SlOf P' 4 (thE P') w' v l) ∧ ∀ v l, SlOf P 3 obE w v l → SlOf P' 3 obE w' v l) := fun b o x h => by
  obtain ⟨⟨v1, h1, h2⟩, ⟨v2, h3, h4⟩⟩ := h
  obtain ⟨ao, cap, hv, _⟩ := h2.shape
  obtain ⟨ao2, cap2, hv2, _⟩ := h4.shape
  refine ⟨[v1, v2], rfl, ?_, by intro u hu; simp at hu; rcases hu with rfl | rfl <;> first | (rw [hv]; rfl) | (rw [hv2]; rfl), fun w' b' o' hQ hc => ⟨⟨v1, hc 0 _ rfl, hQ.1 v1 _ h2⟩, ⟨v2, hc 1 _ rfl, hQ.2 v2 _ h4⟩⟩⟩
  intro j u hj
  match j, hj with
  | 0, hj => injection hj with hj; subst hj; exact h1
  | 1, hj => injection hj with hj; subst hj; exact h3

/-- What fresh answers: nothing of nothing, else the same cells in a new block. -/
def FreshIs (T : TypeId) (w w' : World) (e : Ending) (n : Nat) (news : List Value) : Prop :=
  (e = .returned (.slice none 0 0) ∧ n = 0 ∧ w' = w) ∨ (e = .returned (.slice (some ⟨w.heap.size, 0, none⟩) n n) ∧ w' = w.alloc (.cells news.toArray T))

section
variable {α : Type} {P Q : Nat → Prop} {sz : Nat} {E E' : World → Nat → Nat → α → Prop} {w w' : World} {v : Value} {xs : List α} {b o : Nat}
theorem SlOf.mono (h : SlOf P sz E w v xs) (hP : ∀ k, P k → Q k) (hE : ∀ b o x, E w b o x → E' w b o x) : SlOf Q sz E' w v xs := by
  obtain ⟨ao, cap, h1, h2, b, off, h3⟩ := h
  exact ⟨ao, cap, h1, h2, b, off, fun i x hx => ⟨(h3 i x hx).1, hP _ (h3 i x hx).2.1, hE _ _ _ (h3 i x hx).2.2⟩⟩
theorem mono_cl (hP : ∀ k, P k → Q k) (x : Cl) (h : clE P w b o x) : clE Q w b o x := by
  obtain ⟨h1, h2, h3, h4, ⟨v, h5, h6⟩, h7⟩ := h
  exact ⟨h1, h2, h3, h4, ⟨v, h5, h6.mono hP (fun _ _ _ h => h)⟩, h7⟩
theorem mono_th (hP : ∀ k, P k → Q k) (x : Th) (h : thE P w b o x) : thE Q w b o x := by
  obtain ⟨h1, h2, h3, h4, ⟨v, h5, h6⟩⟩ := h
  exact ⟨h1, h2, h3, h4, ⟨v, h5, h6.mono hP (fun _ _ _ h => mono_cl hP _ h)⟩⟩
theorem mono_pt (hP : ∀ k, P k → Q k) (x : Pt) (h : ptE P w b o x) : ptE Q w b o x := by
  obtain ⟨⟨v1, h1, h2⟩, ⟨v2, h3, h4⟩⟩ := h
  exact ⟨⟨v1, h1, h2.mono hP (fun _ _ _ h => mono_th hP _ h)⟩, ⟨v2, h3, h4.mono hP (fun _ _ _ h => h)⟩⟩
/-- Where something lies there is a block. -/
theorem SlOf.low (h : SlOf P sz E w v xs) (hE : ∀ b o x, E w b o x → b < w.heap.size ∧ E' w b o x) : SlOf (fun k => k < w.heap.size) sz E' w v xs := by
  obtain ⟨ao, cap, h1, h2, b, off, h3⟩ := h
  exact ⟨ao, cap, h1, h2, b, off, fun i x hx => ⟨(h3 i x hx).1, (hE _ _ _ (h3 i x hx).2.2).1, (hE _ _ _ (h3 i x hx).2.2).2⟩⟩
theorem Cel.lt (h : Cel w b o v) : b < w.heap.size := World.block_lt_of_cell? _ _ h
theorem low_cl (x : Cl) (h : clE P w b o x) : b < w.heap.size ∧ clE (fun k => k < w.heap.size) w b o x := by
  obtain ⟨h1, h2, h3, h4, ⟨v, h5, h6⟩, h7⟩ := h
  exact ⟨Cel.lt h1.1, h1, h2, h3, h4, ⟨v, h5, h6.low (fun _ _ _ h => ⟨Cel.lt h.1, h⟩)⟩, h7⟩
theorem low_th (x : Th) (h : thE P w b o x) : b < w.heap.size ∧ thE (fun k => k < w.heap.size) w b o x := by
  obtain ⟨h1, h2, h3, h4, ⟨v, h5, h6⟩⟩ := h
  exact ⟨Cel.lt h1.1, h1, h2, h3, h4, ⟨v, h5, h6.low (fun _ _ _ h => low_cl _ h)⟩⟩
theorem low_pt (x : Pt) (h : ptE P w b o x) : b < w.heap.size ∧ ptE (fun k => k < w.heap.size) w b o x := by
  obtain ⟨⟨v1, h1, h2⟩, ⟨v2, h3, h4⟩⟩ := h
  exact ⟨Cel.lt h1, ⟨v1, h1, h2.low (fun _ _ _ h => low_th _ h)⟩, ⟨v2, h3, h4.low (fun _ _ _ h => ⟨Cel.lt h.1.1, h⟩)⟩⟩
theorem CfIs.low {v0 v1 v2 : Value} {c : Cf} (h : CfIs P w v0 v1 v2 c) : CfIs (fun k => k < w.heap.size) w v0 v1 v2 c :=
  ⟨h.parts.low (fun _ _ _ h => low_pt _ h), h.wins.low (fun _ _ _ h => ⟨Cel.lt h.1.1, h⟩), h.chans.low (fun _ _ _ h => ⟨Cel.lt h.1.1, h⟩)⟩
/-- A fresh slice holds what was held. -/
theorem FreshIs.sl {T : TypeId} {e : Ending} {n : Nat} {news : List Value} (h : FreshIs T w w' e n news) (hn : xs.length = n) (hm : n ≤ 9223372036854775807) (hE : ∀ b', (∀ j u, news[j]? = some u → w'.cell? ⟨b', j, none⟩ = some u) → ∀ i x, xs[i]? = some x → E' w' b' (i * sz) x) :
    ∃ v, e = .returned v ∧ Only (fun _ => False) w w' ∧ SlOf (fun k => w.heap.size ≤ k) sz E' w' v xs := by
  rcases h with ⟨rfl, rfl, rfl⟩ | ⟨rfl, rfl⟩
  · have : xs = [] := List.length_eq_zero_iff.1 hn
    subst this
    exact ⟨_, rfl, Only.refl _ _, SlOf.nil⟩
  · refine ⟨_, rfl, (Only.refl _ _).alloc _, some ⟨w.heap.size, 0, none⟩, n, by rw [hn], ⟨by omega, hm⟩, w.heap.size, 0, fun i x hx => ⟨rfl, Nat.le_refl _, ?_⟩⟩
    rw [Nat.zero_add]
    refine hE w.heap.size (fun j u hj => ?_) i x hx
    rw [cell_of_block (heap_new _ _)]
    simpa using hj
end

theorem cell_set_self {w : World} {b i : Nat} {cs : Array Value} {T : TypeId} {u : Value} (hb : w.heap[b]? = some (.cells cs T)) (hu : w.cell? ⟨b, i, none⟩ = some u) (v : Value) : (w.setCell ⟨b, i, none⟩ v).cell? ⟨b, i, none⟩ = some v := by
  have ho : i < cs.size := (Array.getElem?_eq_some_iff.1 ((cell_of_block hb i).symm.trans hu)).1
  rw [cell_of_block (block_set11 hb i v), Array.getElem?_setIfInBounds_self, if_pos ho]
/-- Of block C the cells of S have turned, and of no other older one. -/
structure Poke (C : Nat) (S : Nat → Prop) (w w2 : World) : Prop where
  only : Only (fun k => k = C) w w2
  cell : ∀ o, ¬ S o → w2.cell? ⟨C, o, none⟩ = w.cell? ⟨C, o, none⟩
section
variable {C : Nat} {S : Nat → Prop} {w w1 w2 : World} {P : Nat → Prop} {o : Nat}
theorem Poke.new (ho : Only (fun _ => False) w w1) (hC : C < w.heap.size) (S : Nat → Prop) : Poke C S w w1 :=
  ⟨ho.mono (fun _ _ h => h.elim), fun _ _ => World.cell?_of_block (ho.block C hC (fun h => h))⟩
theorem Poke.set (h : Poke C S w w1) {i : Nat} (hi : S i) (v : Value) : Poke C S w (w1.setCell ⟨C, i, none⟩ v) :=
  ⟨h.only.setCell (.inr rfl) v, fun o ho => (World.cell?_setCell_other w1 _ _ v (fun e => ho (by injection e with _ e _; rw [← e]; exact hi))).trans (h.cell o ho)⟩
theorem Poke.i64 (h : Poke C S w w2) {x : Int} (ho : ¬ S o) (hx : I64 w C o x) : I64 w2 C o x := ⟨(h.cell o ho).trans hx.1, hx.2⟩
theorem Poke.cel (h : Poke C S w w2) {v : Value} (ho : ¬ S o) (hx : Cel w C o v) : Cel w2 C o v := (h.cell o ho).trans hx
theorem Poke.cl (h : Poke C S w w2) (hP : ∀ k, P k → ¬ k = C) (hS : ∀ j, j < 6 → ¬ S (o + j)) {x : Cl} (hx : clE P w C o x) : clE P w2 C o x := by
  obtain ⟨h1, h2, h3, h4, ⟨v, h5, h6⟩, h7⟩ := hx
  exact ⟨h.i64 (hS 0 (by omega)) h1, h.i64 (hS 1 (by omega)) h2, h.i64 (hS 2 (by omega)) h3, h.i64 (hS 3 (by omega)) h4, ⟨v, h.cel (hS 4 (by omega)) h5, h6.only (stay_int h.only hP)⟩, h.i64 (hS 5 (by omega)) h7⟩
theorem Poke.th (h : Poke C S w w2) (hP : ∀ k, P k → ¬ k = C) (hS : ∀ j, j < 4 → ¬ S (o + j)) {x : Th} (hx : thE P w C o x) : thE P w2 C o x := by
  obtain ⟨h1, h2, h3, h4, ⟨v, h5, h6⟩⟩ := hx
  exact ⟨h.i64 (hS 0 (by omega)) h1, h.cel (hS 1 (by omega)) h2, h3, h.cel (hS 2 (by omega)) h4, ⟨v, h.cel (hS 3 (by omega)) h5, h6.only (stay_cl h.only hP)⟩⟩
theorem Poke.pt (h : Poke C S w w2) (hP : ∀ k, P k → ¬ k = C) (hS : ∀ j, j < 2 → ¬ S (o + j)) {x : Pt} (hx : ptE P w C o x) : ptE P w2 C o x := by
  obtain ⟨⟨v1, h1, h2⟩, ⟨v2, h3, h4⟩⟩ := hx
  exact ⟨⟨v1, h.cel (hS 0 (by omega)) h1, h2.only (stay_th h.only hP)⟩, ⟨v2, h.cel (hS 1 (by omega)) h3, h4.only (stay_ob h.only hP)⟩⟩
theorem Poke.block (h : Poke C S w w2) {k : Nat} {ob : Obj} (hk : w.heap[k]? = some ob) (hne : ¬ k = C) : w2.heap[k]? = some ob := (h.only.block k (lt_of_block hk) hne).trans hk
end

/-- A list that lies in block C, of which the first j have been turned. -/
def Mid {α : Type} (sz : Nat) (E E' : World → Nat → Nat → α → Prop) (w : World) (C j : Nat) (xs : List α) : Prop := ∀ i x, xs[i]? = some x → (i < j → E' w C (i * sz) x) ∧ (j ≤ i → E w C (i * sz) x)
section
variable {α : Type} {sz : Nat} {E E' : World → Nat → Nat → α → Prop} {w w2 : World} {C j : Nat} {xs : List α}
theorem Mid.start (h : ∀ i x, xs[i]? = some x → E w C (i * sz) x) : Mid sz E E' w C 0 xs := fun i x hx => ⟨fun hi => absurd hi (Nat.not_lt_zero _), fun _ => h i x hx⟩
theorem Mid.at (h : Mid sz E E' w C j xs) {x : α} (hx : xs[j]? = some x) : E w C (j * sz) x := (h j x hx).2 (Nat.le_refl _)
theorem Mid.step (h : Mid sz E E' w C j xs) (hE : ∀ i x, i ≠ j → E w C (i * sz) x → E w2 C (i * sz) x) (hE' : ∀ i x, i ≠ j → E' w C (i * sz) x → E' w2 C (i * sz) x) {x : α} (hx : xs[j]? = some x) (hn : E' w2 C (j * sz) x) : Mid sz E E' w2 C (j + 1) xs := fun i y hy => by
  refine ⟨fun hi => ?_, fun hi => hE i y (by omega) ((h i y hy).2 (by omega))⟩
  by_cases e : i = j
  · subst e
    rw [hx] at hy
    injection hy with hy
    subst hy
    exact hn
  · exact hE' i y e ((h i y hy).1 (by omega))
theorem Mid.keep (h : Mid sz E E' w C j xs) (hE : ∀ i x, E w C (i * sz) x → E w2 C (i * sz) x) (hE' : ∀ i x, E' w C (i * sz) x → E' w2 C (i * sz) x) : Mid sz E E' w2 C j xs := fun i y hy =>
  ⟨fun hi => hE' i y ((h i y hy).1 hi), fun hi => hE i y ((h i y hy).2 hi)⟩
theorem Mid.done {Q : Nat → Prop} {n : Nat} {co : Option Addr} {E2 : World → Nat → Nat → α → Prop} (h : Mid sz E E' w C n xs) (hn : xs.length = n) (hm : n ≤ 9223372036854775807) (hco : 0 < n → co = some ⟨C, 0, none⟩) (hC : Q C) (hE : ∀ b o x, E' w b o x → E2 w b o x) : SlOf Q sz E2 w (.slice co n n) xs :=
  ⟨co, n, by rw [hn], ⟨by omega, hm⟩, C, 0, fun i x hx => by
    have hi := (List.getElem?_eq_some_iff.1 hx).1
    rw [Nat.zero_add]
    exact ⟨hco (by omega), hC, hE _ _ _ ((h i x hx).1 (by omega))⟩⟩
/-- What fresh answers, said once. -/
theorem FreshIs.one {T : TypeId} {w w' : World} {e : Ending} {n : Nat} {news : List Value} (h : FreshIs T w w' e n news) : ∃ co C, e = .returned (.slice co n n) ∧ (0 < n → co = some ⟨C, 0, none⟩ ∧ w'.heap[C]? = some (.cells news.toArray T)) ∧ w.heap.size ≤ C ∧ Only (fun _ => False) w w' := by
  rcases h with ⟨rfl, rfl, rfl⟩ | ⟨rfl, rfl⟩
  · exact ⟨none, w'.heap.size, rfl, fun h => absurd h (Nat.lt_irrefl _), Nat.le_refl _, Only.refl _ _⟩
  · exact ⟨_, w.heap.size, rfl, fun _ => ⟨rfl, heap_new _ _⟩, Nat.le_refl _, (Only.refl _ _).alloc _⟩
theorem news_cells {T : TypeId} {news : List Value} (h : w.heap[C]? = some (.cells news.toArray T)) : ∀ j u, news[j]? = some u → w.cell? ⟨C, j, none⟩ = some u := fun j u hj => by
  rw [cell_of_block h]
  simpa using hj
end
end Go.Sept

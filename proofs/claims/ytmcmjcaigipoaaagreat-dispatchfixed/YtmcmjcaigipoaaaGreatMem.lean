/-
  Plain facts about a memory of words in the model's heap: a block that holds one slice over a block of int64 numbers. Conditions: none; no program is named here.
-/
import Derived.WalkKit
import Derived.Deep.OwnRows
import Derived.Deep.QuietTactic
namespace Go.Sept
open Go.RowKit

/-- Block q is a row of the numbers xs. -/
def RowIs (w : World) (q : Nat) (xs : List Int) : Prop := w.heap[q]? = some (.cells (xs.map (Value.int .i64)).toArray 2)

/-- Block p is a struct (type tm) of one field, a slice over the row q, of the numbers xs. -/
structure MemIs (tm : TypeId) (w : World) (p q : Nat) (xs : List Int) : Prop where
  head : w.heap[p]? = some (.cells #[.slice (some ⟨q, 0, none⟩) xs.length xs.length] tm)
  row : RowIs w q xs

theorem cell_of_block {w : World} {b : Nat} {c : Array Value} {t : TypeId} (h : w.heap[b]? = some (.cells c t)) (i : Nat) : w.cell? ⟨b, i, none⟩ = c[i]? := by
  simp [World.cell?, h]
theorem frozen_of_block {w : World} {b : Nat} {c : Array Value} {t : TypeId} (h : w.heap[b]? = some (.cells c t)) (i : Nat) : w.frozen? ⟨b, i, none⟩ = false := by
  simp [World.frozen?, h]
theorem lt_of_block {w : World} {b : Nat} {o : Obj} (h : w.heap[b]? = some o) : b < w.heap.size := by
  obtain ⟨hlt, _⟩ := Array.getElem?_eq_some_iff.1 h
  exact hlt

theorem RowIs.cell {w : World} {q : Nat} {xs : List Int} (h : RowIs w q xs) (i : Nat) (hi : i < xs.length) : w.cell? ⟨q, i, none⟩ = some (.int .i64 (xs.getD i 0)) := by
  rw [cell_of_block h]
  simp [hi]
theorem RowIs.frozen {w : World} {q : Nat} {xs : List Int} (h : RowIs w q xs) (i : Nat) : w.frozen? ⟨q, i, none⟩ = false := frozen_of_block h i
theorem RowIs.lt {w : World} {q : Nat} {xs : List Int} (h : RowIs w q xs) : q < w.heap.size := lt_of_block h
theorem RowIs.of_block {w w' : World} {q : Nat} {xs : List Int} (h : RowIs w q xs) (e : w'.heap[q]? = w.heap[q]?) : RowIs w' q xs := e.trans h
theorem RowIs.set {w : World} {q : Nat} {xs : List Int} (h : RowIs w q xs) (i : Nat) (v : Int) : RowIs (w.setCell ⟨q, i, none⟩ (.int .i64 v)) q (xs.set i v) := by
  unfold RowIs at *
  simp [World.setCell, Array.getElem?_modify, h]

theorem MemIs.cell {tm : TypeId} {w : World} {p q : Nat} {xs : List Int} (h : MemIs tm w p q xs) : w.cell? ⟨p, 0, none⟩ = some (.slice (some ⟨q, 0, none⟩) xs.length xs.length) := by
  rw [cell_of_block h.head]
  rfl
theorem MemIs.ne {tm : TypeId} {w : World} {p q : Nat} {xs : List Int} (h : MemIs tm w p q xs) : p ≠ q := by
  rintro rfl
  have h1 := h.head
  have h2 := h.row
  unfold RowIs at h2
  rw [h1] at h2
  injection h2 with h2
  injection h2 with h2 _
  cases xs with
  | nil => simp at h2
  | cons x r => simp at h2
theorem MemIs.set {tm : TypeId} {w : World} {p q : Nat} {xs : List Int} (h : MemIs tm w p q xs) (i : Nat) (v : Int) : MemIs tm (w.setCell ⟨q, i, none⟩ (.int .i64 v)) p q (xs.set i v) := by
  refine ⟨?_, h.row.set i v⟩
  rw [Below.heap_setCell _ _ _ _ h.ne, List.length_set]
  exact h.head
theorem MemIs.of_blocks {tm : TypeId} {w w' : World} {p q : Nat} {xs : List Int} (h : MemIs tm w p q xs) (e1 : w'.heap[p]? = w.heap[p]?) (e2 : w'.heap[q]? = w.heap[q]?) : MemIs tm w' p q xs :=
  ⟨e1.trans h.head, h.row.of_block e2⟩
theorem MemIs.alloc {tm : TypeId} {w : World} {p q : Nat} {xs : List Int} (h : MemIs tm w p q xs) (o : Obj) : MemIs tm (w.alloc o) p q xs :=
  h.of_blocks (Below.heap_alloc _ _ _ (lt_of_block h.head)) (Below.heap_alloc _ _ _ h.row.lt)
theorem MemIs.below {tm : TypeId} {w w' : World} {p q : Nat} {xs : List Int} {B : Nat} (h : MemIs tm w p q xs) (hb : Below B w w') (hp : p < B) (hq : q < B) : MemIs tm w' p q xs :=
  h.of_blocks (hb.block p hp) (hb.block q hq)

/-- Behind w, in w', only blocks of S (and new ones) have turned. -/
structure Only (S : Nat → Prop) (w w' : World) : Prop where
  os : w'.os = w.os
  tape : w'.tape = w.tape
  output : w'.output = w.output
  size : w.heap.size ≤ w'.heap.size
  block : ∀ k, k < w.heap.size → ¬ S k → w'.heap[k]? = w.heap[k]?

theorem Only.refl (S : Nat → Prop) (w : World) : Only S w w := ⟨rfl, rfl, rfl, Nat.le_refl _, fun _ _ _ => rfl⟩
theorem Only.trans {S : Nat → Prop} {a b c : World} (h : Only S a b) (k : Only S b c) : Only S a c :=
  ⟨k.os.trans h.os, k.tape.trans h.tape, k.output.trans h.output, Nat.le_trans h.size k.size, fun i hi hs => (k.block i (Nat.lt_of_lt_of_le hi h.size) hs).trans (h.block i hi hs)⟩
theorem Only.mono {S T : Nat → Prop} {w w' : World} (h : Only S w w') (hT : ∀ k, k < w.heap.size → S k → T k) : Only T w w' :=
  ⟨h.os, h.tape, h.output, h.size, fun k hk hs => h.block k hk (fun e => hs (hT k hk e))⟩
theorem Only.drew {S : Nat → Prop} {a w : World} (h : Only S a w) : Only S a w.drew := ⟨h.os, h.tape, h.output, h.size, h.block⟩
theorem only_drewN {S : Nat → Prop} {a w : World} (h : Only S a w) (n : Nat) : Only S a (w.drewN n) := ⟨h.os, h.tape, h.output, h.size, h.block⟩
theorem Only.alloc {S : Nat → Prop} {a w : World} (h : Only S a w) (o : Obj) : Only S a (w.alloc o) :=
  ⟨h.os, h.tape, h.output, by have := h.size; simp; omega, fun k hk hs => (Below.heap_alloc _ _ _ (Nat.lt_of_lt_of_le hk h.size)).trans (h.block k hk hs)⟩
theorem Only.setCell {S : Nat → Prop} {a w : World} (h : Only S a w) {p : Addr} (hp : a.heap.size ≤ p.block ∨ S p.block) (u : Value) : Only S a (w.setCell p u) :=
  ⟨h.os, h.tape, h.output, by have := h.size; simpa using this, fun k hk hs => (Below.heap_setCell _ _ _ _ (by
    rintro rfl
    rcases hp with hp | hp
    · omega
    · exact hs hp)).trans (h.block k hk hs)⟩
theorem Only.below {S : Nat → Prop} {w w' : World} {B : Nat} (h : Only S w w') (hB : B ≤ w.heap.size) (hS : ∀ k, k < B → ¬ S k) : Below B w w' :=
  ⟨h.os, h.tape, h.output, h.size, fun k hk => h.block k (Nat.lt_of_lt_of_le hk hB) (hS k hk)⟩
theorem Only.of_below {w w' : World} (h : Below w.heap.size w w') (S : Nat → Prop) : Only S w w' := ⟨h.os, h.tape, h.output, h.size, fun k hk _ => h.block k hk⟩
/-- What is new behind the first may be turned by the second. -/
theorem Only.chain {S T : Nat → Prop} {a b c : World} (h : Only S a b) (k : Only T b c) (hT : ∀ i, i < a.heap.size → T i → S i) : Only S a c :=
  ⟨k.os.trans h.os, k.tape.trans h.tape, k.output.trans h.output, Nat.le_trans h.size k.size, fun i hi hs => (k.block i (Nat.lt_of_lt_of_le hi h.size) (fun t => hs (hT i hi t))).trans (h.block i hi hs)⟩
theorem MemIs.only {tm : TypeId} {w w' : World} {p q : Nat} {xs : List Int} {S : Nat → Prop} (h : MemIs tm w p q xs) (ho : Only S w w') (hp : ¬ S p) (hq : ¬ S q) : MemIs tm w' p q xs :=
  h.of_blocks (ho.block p (lt_of_block h.head) hp) (ho.block q h.row.lt hq)
theorem RowIs.only {w w' : World} {q : Nat} {xs : List Int} {S : Nat → Prop} (h : RowIs w q xs) (ho : Only S w w') (hq : ¬ S q) : RowIs w' q xs :=
  h.of_block (ho.block q h.lt hq)
theorem heap_new (w : World) (o : Obj) : (w.alloc o).heap[w.heap.size]? = some o := by
  show (w.heap.push o)[w.heap.size]? = _
  simp

/-- The world behind New. -/
def newWorld (w : World) (tm : TypeId) (k : Nat) : World := (w.alloc (.cells (madeCells #[.int .i64 0] k) 2)).alloc (.cells #[.slice (some ⟨w.heap.size, 0, none⟩) k k] tm)
/-- A copy of the row xs, laid as a new block. -/
def copied (w : World) (xs : List Int) : World := w.alloc (.cells (xs.map (Value.int .i64)).toArray 2)

theorem madeCells_zero (k : Nat) : madeCells #[Value.int .i64 0] k = ((List.replicate k 0).map (Value.int .i64)).toArray := by
  apply Array.ext
  · simp [size_madeCells]
  · intro i h1 h2
    simp [madeCells, Nat.mod_one]
theorem newWorld_mem (w : World) (tm : TypeId) (k : Nat) : MemIs tm (newWorld w tm k) (w.heap.size + 1) w.heap.size (List.replicate k 0) := by
  refine ⟨?_, ?_⟩
  · have := heap_new (w.alloc (.cells (madeCells #[.int .i64 0] k) 2)) (.cells #[.slice (some ⟨w.heap.size, 0, none⟩) k k] tm)
    rw [World.size_alloc] at this
    rw [List.length_replicate]
    exact this
  · unfold RowIs newWorld
    rw [Below.heap_alloc _ _ _ (by simp), heap_new, madeCells_zero]
theorem newWorld_only (S : Nat → Prop) (w : World) (tm : TypeId) (k : Nat) : Only S w (newWorld w tm k) := ((Only.refl S w).alloc _).alloc _
theorem newWorld_size (w : World) (tm : TypeId) (k : Nat) : (newWorld w tm k).heap.size = w.heap.size + 2 := by simp [newWorld]
theorem copied_row (w : World) (xs : List Int) : RowIs (copied w xs) w.heap.size xs := heap_new _ _
theorem copied_only (S : Nat → Prop) (w : World) (xs : List Int) : Only S w (copied w xs) := (Only.refl S w).alloc _
theorem copied_size (w : World) (xs : List Int) : (copied w xs).heap.size = w.heap.size + 1 := by simp [copied]

/-- The pointer v leads to a memory of the numbers xs: in the blocks p and q; or it is nil, or its field is nil, and there are none. -/
def Holds (tm : TypeId) (w : World) (v : Value) (p q : Nat) (xs : List Int) : Prop :=
  (v = .pointer (some ⟨p, 0, none⟩) ∧ MemIs tm w p q xs) ∨ (xs = [] ∧ v = .pointer none) ∨ (xs = [] ∧ v = .pointer (some ⟨p, 0, none⟩) ∧ w.heap[p]? = some (.cells #[.slice none 0 0] tm))

theorem Holds.only {tm : TypeId} {w w' : World} {v : Value} {p q : Nat} {xs : List Int} {S : Nat → Prop} (h : Holds tm w v p q xs) (ho : Only S w w') (hp : ¬ S p) (hq : ¬ S q) : Holds tm w' v p q xs := by
  rcases h with ⟨hv, hm⟩ | h | ⟨hx, hv, hb⟩
  · exact .inl ⟨hv, hm.only ho hp hq⟩
  · exact .inr (.inl h)
  · exact .inr (.inr ⟨hx, hv, (ho.block p (lt_of_block hb) hp).trans hb⟩)

def okA (xs : List Int) (a : Int) : Bool := decide (0 ≤ a ∧ a < xs.length)
def errA (xs : List Int) (a : Int) : Int := if okA xs a = true then 0 else 2
def valA (xs : List Int) (a : Int) : Int := if okA xs a = true then xs.getD a.toNat 0 else 0
def setA (xs : List Int) (a x : Int) : List Int := if okA xs a = true then xs.set a.toNat x else xs
def hitA (xs : List Int) (a x : Int) : Bool := okA xs a && (xs.getD a.toNat 0 == x)
def swapA (xs : List Int) (a x y : Int) : List Int := if hitA xs a x = true then setA xs a y else xs

theorem okA_cases (xs : List Int) (a : Int) : (okA xs a = false ∧ (a < 0 ∨ (xs.length : Int) ≤ a)) ∨ (okA xs a = true ∧ ∃ n : Nat, a = n ∧ n < xs.length) := by
  unfold okA
  by_cases h : 0 ≤ a ∧ a < xs.length
  · exact .inr ⟨by simpa using h, a.toNat, by omega, by omega⟩
  · exact .inl ⟨by simpa using h, by omega⟩
theorem length_setA (xs : List Int) (a x : Int) : (setA xs a x).length = xs.length := by unfold setA; split <;> simp
theorem length_swapA (xs : List Int) (a x y : Int) : (swapA xs a x y).length = xs.length := by unfold swapA; split <;> simp [length_setA]
end Go.Sept

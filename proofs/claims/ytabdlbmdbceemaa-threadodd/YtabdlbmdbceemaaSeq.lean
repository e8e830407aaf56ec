/-
  seq.Words and seq.Write, the latter as a tree of accesses. Conditions: the frame and its memory are there, and share no block, nor one with the values; so many accesses fit.
-/
import Derived.Test.YtabdlbmdbceemaaSide
import Derived.Deep.LoopGhost
namespace Go.Sept
open Go.RowKit

/-- The slice at ta sees the numbers l, of the kind κ, in the block b. -/
def SeesOf (κ : IntKind) (w : World) (ta : Option Addr) (l : List Int) (b : Nat) : Prop := l = [] ∨ ∃ off : Nat, ta = some ⟨b, off, none⟩ ∧ ∀ i, i < l.length → w.cell? ⟨b, off + i, none⟩ = some (.int κ (l.getD i 0))
abbrev Sees (w : World) (ta : Option Addr) (l : List Int) (b : Nat) : Prop := SeesOf .i64 w ta l b
theorem heap_new_at (w : World) (o : Obj) (k : Nat) (h : k = w.heap.size) : (w.alloc o).heap[k]? = some o := by
  subst h
  exact heap_new w o
theorem lt_of_cell {w : World} {b i : Nat} {v : Value} (h : w.cell? ⟨b, i, none⟩ = some v) : b < w.heap.size := by
  cases e : w.heap[b]? with
  | none => simp [World.cell?, e] at h
  | some o => exact lt_of_block e
theorem SeesOf.lt {κ : IntKind} {w : World} {ta : Option Addr} {l : List Int} {b : Nat} (h : SeesOf κ w ta l b) (hl : l ≠ []) : b < w.heap.size := by
  rcases h with h | ⟨off, _, h⟩
  · exact absurd h hl
  · exact lt_of_cell (h 0 (List.length_pos_iff.2 hl))
theorem SeesOf.only {κ : IntKind} {w w' : World} {ta : Option Addr} {l : List Int} {b : Nat} {S : Nat → Prop} (h : SeesOf κ w ta l b) (ho : Only S w w') (hb : l ≠ [] → ¬ S b) : SeesOf κ w' ta l b := by
  by_cases hl : l = []
  · exact .inl hl
  · have hlt := h.lt hl
    rcases h with h | ⟨off, h1, h2⟩
    · exact .inl h
    · exact .inr ⟨off, h1, fun i hi => (World.cell?_of_block (ho.block b hlt (hb hl))).trans (h2 i hi)⟩

/-- The address of a value's word. -/
def wordA (a : Int) (j : Nat) : Int := wrap64 (wrap64 (a + 1) + (j : Int))
def storesT {α : Type} (a : Int) {d : Nat} (t : Tree α d) : (l : List Int) → (j : Nat) → Tree α (d + l.length)
  | [], _ => t
  | v :: r, j => .acc 1 (wordA a j) v 0 fun _ => storesT a t r (j + 1)
def writeT (a : Int) (l : List Int) : Tree Unit (1 + l.length + 1 + 1) :=
  if l.length = 0 ∨ 16 < l.length then .ret () else .acc 0 a 0 0 fun c => .acc 1 a (wrap64 (c + 1)) 0 fun _ => storesT a (.acc 1 a (wrap64 (c + 2)) 0 fun _ => .ret ()) l 0
/-- How many words a value of n lies in. -/
def wordsN (n : Int) : Int := if n < 1 ∨ 16 < n then 0 else n + 1
end Go.Sept

namespace Go.Proofs.Ytabdlbmdbceemaa
open Go.RowKit Go.Sept

set_option maxHeartbeats 400000 in
theorem seqWords_rel (w : World) (n : Int) : Calls Try.prog 58 #[.int .i64 n] w fun e w' => e = .returned (.int .i64 (wordsN n)) ∧ w' = w := by
  by_cases h1 : n < 1
  · go_enter Try.func58, Try.ntmps58
    go_wp2
    go_ret
    refine ⟨?_, rfl⟩
    rw [wordsN, if_pos (.inl h1)]
    rfl
  · by_cases h2 : 16 < n
    · go_enter Try.func58, Try.ntmps58
      go_wp2
      go_ret
      refine ⟨?_, rfl⟩
      rw [wordsN, if_pos (.inr h2)]
      rfl
    · go_enter Try.func58, Try.ntmps58
      go_wp2
      go_ret
      refine ⟨?_, rfl⟩
      rw [wordsN, if_neg (by omega)]
      go_num

end Go.Proofs.Ytabdlbmdbceemaa

/-
  A ring in words, as plain mathematics: what Put, Get, Len and Clear answer and leave. Conditions: the ring lies at 3 in a memory of 30 words; its size is 1 to 16; its counts are far from where they go round. No program is named here.
-/
import Derived.Test.YtdoihlnipajniaaRing8
namespace Go.Sept
open Go.RowKit

theorem w64 (n : Int) (h : -9223372036854775808 ≤ n) (h2 : n ≤ 9223372036854775807) : wrap64 n = n := by unfold wrap64; omega
theorem valA_setA {xs : List Int} {a : Int} (h0 : 0 ≤ a) (h1 : a < xs.length) (v c : Int) : valA (setA xs a v) c = if c = a then v else valA xs c := by
  obtain ⟨k, rfl⟩ : ∃ k : Nat, a = k := ⟨a.toNat, by omega⟩
  have hk : k < xs.length := by omega
  have ok : okA xs (k : Int) = true := by simp [okA]; omega
  by_cases hc : c = (k : Int)
  · subst hc
    rw [if_pos rfl]
    simp [valA, setA, okA, hk]
  · rw [if_neg hc]
    unfold valA setA
    rw [if_pos ok]
    have e : okA (xs.set (k : Int).toNat v) c = okA xs c := by simp [okA]
    rw [e]
    split
    · rename_i h9
      have h8 : 0 ≤ c := by simp [okA] at h9; omega
      have : k ≠ c.toNat := by omega
      simp [List.getD_eq_getElem?_getD, this]
    · rfl

theorem wr3 : wrap64 3 = 3 := w64 3 (by decide) (by decide)
theorem wr4 : wrap64 (3 + 1) = 4 := w64 4 (by decide) (by decide)
theorem mod_apart {c a b : Nat} (h1 : a < b) (h2 : b < a + c) : a % c ≠ b % c := by
  intro e
  have h3 := Nat.sub_mod_eq_zero_of_mod_eq e.symm
  rw [Nat.mod_eq_of_lt (by omega)] at h3
  omega

/-- A ring of the size c at 3, of which k words were taken, and that holds ws. -/
structure Rg (c k : Nat) (ws xs : List Int) : Prop where
  len : xs.length = 30
  gone : valA xs 3 = k
  all : valA xs 4 = (k + ws.length : Nat)
  word : ∀ i, i < ws.length → valA xs (5 + ((k + i) % c : Nat)) = ws.getD i 0
  room : ws.length ≤ c

/-- Where the n-th word stands. -/
theorem spot_nat {c n : Nat} (h1 : 1 ≤ c) (h2 : c ≤ 16) : wrap64 (3 + placeI c n) = 5 + (n % c : Nat) := by
  have h3 := Nat.mod_lt n (show 0 < c by omega)
  rw [placeI, if_neg (by omega), ← Int.natCast_emod, w64 _ (by omega) (by omega)]
  omega
theorem alone_load (a : Int) (xs : List Int) : (loadT a).alone xs = (valA xs a, xs, 1) := rfl
theorem alone_store (a v : Int) (xs : List Int) : (storeT a v).alone xs = ((), setA xs a v, 1) := rfl
theorem alone_offT (xs : List Int) : offT.alone xs = (false, xs, 0) := rfl
theorem alone_counts (xs : List Int) : (countsT 3).alone xs = ((valA xs 3, valA xs 4), xs, 2) := by
  have h : (countsT 3).alone xs = ((valA xs (wrap64 3), valA xs (wrap64 (3 + 1))), xs, 2) := rfl
  rw [h, wr3, wr4]

theorem alone_pos {α : Type} {n : Nat} {c : Prop} [Decidable c] {t1 t2 : Tree α n} (h : c) (xs : List Int) : (if c then t1 else t2).alone xs = t1.alone xs := by rw [if_pos h]
theorem alone_neg {α : Type} {n : Nat} {c : Prop} [Decidable c] {t1 t2 : Tree α n} (h : ¬ c) (xs : List Int) : (if c then t1 else t2).alone xs = t2.alone xs := by rw [if_neg h]

section
variable {c k : Nat} {ws xs : List Int}
theorem Rg.put_full (h : Rg c k ws xs) (hc : c ≤ 16) (hw : ws.length = c) (v : Int) : (putT 3 c v).alone xs = (false, xs, 2) := by
  refine (Tree.alone_then (i := 2) (j := 0) (alone_counts xs) ?_).trans rfl
  rw [h.gone, h.all, if_pos (by rw [w64 _ (by omega) (by omega)]; simp only; omega)]
  exact Tree.alone_ret _ _
theorem Rg.put_room (h : Rg c k ws xs) (hk : k ≤ 5000000000000000000) (hc1 : 1 ≤ c) (hc : c ≤ 16) (hw : ws.length < c) (v : Int) : ∃ ys, (putT 3 c v).alone xs = (true, ys, 4) ∧ Rg c k (ws ++ [v]) ys := by
  have hm := Nat.mod_lt (k + ws.length) (show 0 < c by omega)
  have hl := h.len
  have e1 : wrap64 ((k + ws.length : Nat) + 1) = ((k + ws.length + 1 : Nat) : Int) := by rw [w64 _ (by omega) (by omega)]; omega
  refine ⟨setA (setA xs (5 + ((k + ws.length) % c : Nat)) v) 4 (k + ws.length + 1 : Nat), ?_, ?_⟩
  · refine (Tree.alone_then (i := 2) (j := 2) (alone_counts xs) ?_).trans rfl
    rw [h.gone, h.all, if_neg (by rw [w64 _ (by omega) (by omega)]; simp only; omega)]
    refine (Tree.alone_then (i := 1) (j := 1) (alone_store _ _ _) ?_).trans rfl
    refine (Tree.alone_then (i := 1) (j := 0) (alone_store _ _ _) ?_).trans rfl
    refine (Tree.alone_then (i := 0) (j := 0) (alone_offT _) ?_).trans rfl
    simp only
    rw [spot_nat hc1 hc, e1, wr4]
    rfl
  · have hv : ∀ a, valA (setA (setA xs (5 + ((k + ws.length) % c : Nat)) v) 4 (k + ws.length + 1 : Nat)) a = if a = 4 then ((k + ws.length + 1 : Nat) : Int) else if a = 5 + ((k + ws.length) % c : Nat) then v else valA xs a := fun a => by
      rw [valA_setA (by omega) (by rw [length_setA]; omega), valA_setA (by omega) (by omega)]
    refine ⟨by rw [length_setA, length_setA]; exact hl, ?_, ?_, fun i hi => ?_, by simp; omega⟩
    · rw [hv, if_neg (by omega), if_neg (by omega)]
      exact h.gone
    · rw [hv, if_pos rfl]
      simp
      omega
    · rw [hv, if_neg (by omega)]
      rw [List.length_append] at hi
      have hi' : i < ws.length + 1 := hi
      by_cases he : i = ws.length
      · subst he
        rw [if_pos rfl]
        simp
      · have := mod_apart (c := c) (a := k + i) (b := k + ws.length) (by omega) (by omega)
        rw [if_neg (by omega), h.word i (by omega)]
        rw [List.getD_eq_getElem?_getD, List.getD_eq_getElem?_getD, List.getElem?_append_left (by omega)]
theorem Rg.get_none (h : Rg c k [] xs) : (getT 3 c).alone xs = ((0, false), xs, 2) := by
  refine (Tree.alone_then (i := 2) (j := 0) (alone_counts xs) ?_).trans rfl
  rw [h.gone, h.all, if_pos (by simp only [List.length_nil]; rw [w64 _ (by omega) (by omega)]; omega)]
  exact Tree.alone_ret _ _
theorem Rg.get_some {x : Int} (h : Rg c k (x :: ws) xs) (hk : k ≤ 5000000000000000000) (hc1 : 1 ≤ c) (hc : c ≤ 16) : ∃ ys, (getT 3 c).alone xs = ((x, true), ys, 4) ∧ Rg c (k + 1) ws ys := by
  have hl := h.len
  have hr := h.room
  simp only [List.length_cons] at hr
  have e1 : wrap64 ((k : Int) + 1) = ((k + 1 : Nat) : Int) := by rw [w64 _ (by omega) (by omega)]; omega
  refine ⟨setA xs 3 (k + 1 : Nat), ?_, ?_⟩
  · refine (Tree.alone_then (i := 2) (j := 2) (alone_counts xs) ?_).trans rfl
    rw [h.gone, h.all, if_neg (by simp only [List.length_cons]; rw [w64 _ (by omega) (by omega)]; omega)]
    refine (Tree.alone_then (i := 1) (j := 1) (alone_load _ _) ?_).trans rfl
    refine (Tree.alone_then (i := 1) (j := 0) (alone_store _ _ _) ?_).trans rfl
    refine (Tree.alone_then (i := 0) (j := 0) (alone_offT _) ?_).trans rfl
    simp only
    rw [spot_nat hc1 hc, e1, wr3]
    have e2 := h.word 0 (by simp)
    rw [Nat.add_zero] at e2
    rw [e2]
    rfl
  · have hv : ∀ a, valA (setA xs 3 (k + 1 : Nat)) a = if a = 3 then ((k + 1 : Nat) : Int) else valA xs a := fun a => valA_setA (by omega) (by omega) _ _
    refine ⟨by rw [length_setA]; exact hl, ?_, ?_, fun i hi => ?_, by omega⟩
    · rw [hv, if_pos rfl]
    · rw [hv, if_neg (by omega), h.all]
      simp only [List.length_cons]
      omega
    · rw [hv, if_neg (by omega), show k + 1 + i = k + (i + 1) by omega, h.word (i + 1) (by simp; omega)]
      simp
theorem Rg.length (h : Rg c k ws xs) (hc : c ≤ 16) : (lenT 3).alone xs = ((ws.length : Int), xs, 2) := by
  have hr := h.room
  refine (Tree.alone_then (i := 2) (j := 0) (alone_counts xs) ?_).trans rfl
  refine (Tree.alone_then (i := 0) (j := 0) (alone_offT _) ?_).trans rfl
  simp only
  rw [h.gone, h.all, if_neg (by decide), w64 _ (by omega) (by omega), Int.max_eq_left (by omega), show ((k + ws.length : Nat) : Int) - k = ws.length by omega]
  rfl
theorem Rg.clear (h : Rg c k ws xs) : ∃ ys, (clearT 3).alone xs = ((), ys, 2) ∧ Rg c (k + ws.length) [] ys := by
  have hl := h.len
  have hv : ∀ a, valA (setA xs 3 (k + ws.length : Nat)) a = if a = 3 then ((k + ws.length : Nat) : Int) else valA xs a := fun a => valA_setA (by omega) (by omega) _ _
  refine ⟨setA xs 3 (k + ws.length : Nat), ?_, by rw [length_setA]; exact hl, ?_, ?_, fun _ hi => absurd hi (Nat.not_lt_zero _), Nat.zero_le _⟩
  · refine (Tree.alone_then (i := 1) (j := 1) (alone_load _ _) ?_).trans rfl
    rw [wr4, wr3, h.all]
    exact alone_store _ _ _
  · rw [hv, if_pos rfl]
  · rw [hv, if_neg (by omega), h.all]
    simp
end
/-- An empty ring. -/
theorem ring_new {c : Nat} : Rg c 0 [] (List.replicate 30 0) := ⟨rfl, rfl, rfl, fun _ hi => absurd hi (Nat.not_lt_zero _), Nat.zero_le _⟩
end Go.Sept

/-
  A table in words, as plain mathematics; frame.Run of any body of septumlaw10. Conditions: the table lies at 4 in a memory of 20 words, all others 0; it has 0 to 8 slots; its generations are far from where they go round.
-/
import Derived.Test.YtgoakjhjdoopkaaAwake10
namespace Go.Sept
open Go.RowKit

theorem w64 (n : Int) (h : -9223372036854775808 ≤ n) (h2 : n ≤ 9223372036854775807) : wrap64 n = n := by unfold wrap64; omega
/-- The words of a memory whose table has the generations gs. -/
def Tab (gs : List Int) : List Int := 0 :: 0 :: 0 :: 0 :: (gs ++ List.replicate 8 0)
/-- Generations that are far from where they go round. -/
structure Gens (m : Int) (gs : List Int) : Prop where
  len : gs.length = 8
  low : ∀ i, 0 ≤ gs.getD i 0
  high : ∀ i, gs.getD i 0 ≤ m
theorem Gens.mono {m m' : Int} {gs : List Int} (h : Gens m gs) (hm : m ≤ m') : Gens m' gs := ⟨h.len, h.low, fun i => Int.le_trans (h.high i) hm⟩
theorem getD_set (gs : List Int) (i j : Nat) (v : Int) (hi : i < gs.length) : (gs.set i v).getD j 0 = if j = i then v else gs.getD j 0 := by
  by_cases h : j = i
  · subst h
    simp [List.getD_eq_getElem?_getD, hi]
  · rw [if_neg h]
    have : i ≠ j := fun e => h e.symm
    simp [List.getD_eq_getElem?_getD, this]
theorem Gens.set {m : Int} {gs : List Int} (h : Gens m gs) (i : Nat) (hi : i < 8) : Gens (m + 1) (gs.set i (gs.getD i 0 + 1)) := by
  have hl := h.len
  have h0 := h.low
  have h1 := h.high
  refine ⟨by rw [List.length_set]; exact hl, fun j => ?_, fun j => ?_⟩
  · rw [getD_set _ _ _ _ (by omega)]
    split
    · have := h0 i; omega
    · exact h0 j
  · rw [getD_set _ _ _ _ (by omega)]
    split
    · have := h1 i; omega
    · have := h1 j; omega
theorem getD_zeros (n i : Nat) : (List.replicate n (0 : Int)).getD i 0 = 0 := by
  rw [List.getD_eq_getElem?_getD, List.getElem?_replicate]
  split <;> rfl
theorem gens_zero : Gens 0 (List.replicate 8 0) :=
  ⟨rfl, fun i => by rw [getD_zeros]; exact Int.le_refl _, fun i => by rw [getD_zeros]; exact Int.le_refl _⟩
theorem tab_zero : Tab (List.replicate 8 0) = List.replicate 20 0 := by decide

section
variable {gs : List Int} {i : Nat}
theorem tab_len (h : gs.length = 8) : (Tab gs).length = 20 := by simp [Tab, h]
theorem tab_val (h : gs.length = 8) (hi : i < 8) : valA (Tab gs) (4 + (i : Int)) = gs.getD i 0 := by
  have e : ((4 : Int) + (i : Int)).toNat = i + 1 + 1 + 1 + 1 := by omega
  have ok : okA (Tab gs) (4 + (i : Int)) = true := by simp [okA, tab_len h]; omega
  unfold valA
  rw [if_pos ok, e, Tab, List.getD_cons_succ, List.getD_cons_succ, List.getD_cons_succ, List.getD_cons_succ, List.getD_eq_getElem?_getD, List.getElem?_append_left (by omega), List.getD_eq_getElem?_getD]
theorem tab_set (h : gs.length = 8) (hi : i < 8) (v : Int) : setA (Tab gs) (4 + (i : Int)) v = Tab (gs.set i v) := by
  have e : ((4 : Int) + (i : Int)).toNat = i + 1 + 1 + 1 + 1 := by omega
  have ok : okA (Tab gs) (4 + (i : Int)) = true := by simp [okA, tab_len h]; omega
  unfold setA
  rw [if_pos ok, e, Tab, List.set_cons_succ, List.set_cons_succ, List.set_cons_succ, List.set_cons_succ, List.set_append, if_pos (by omega), Tab]
theorem spot10 (hi : i < 8) : wrap64 (4 + (i : Int)) = 4 + (i : Int) := w64 _ (by omega) (by omega)

theorem alone_load (a : Int) (xs : List Int) : (loadT a).alone xs = (valA xs a, xs, 1) := rfl
theorem alone_add (a d : Int) (xs : List Int) : (addT a d).alone xs = (valA xs a, setA xs a (wrap64 (valA xs a + d)), 1) := rfl
theorem alone_offT (xs : List Int) : offT.alone xs = (false, xs, 0) := rfl
theorem cur_plain (a i : Int) (xs : List Int) : (curT a i).alone xs = ((wrap64 (i + wrap64 (256 * valA xs (wrap64 (a + i)))), true), xs, 1) := by
  refine (Tree.alone_then (i := 1) (j := 0) (alone_load _ _) ?_).trans rfl
  refine (Tree.alone_then (i := 0) (j := 0) (alone_offT _) ?_).trans rfl
  exact Tree.alone_ret _ _
theorem next_plain (a i : Int) (xs : List Int) : (nexT a i).alone xs = (true, setA xs (wrap64 (a + i)) (wrap64 (valA xs (wrap64 (a + i)) + 1)), 1) := by
  refine (Tree.alone_then (i := 1) (j := 0) (alone_add _ _ _) ?_).trans rfl
  refine (Tree.alone_then (i := 0) (j := 0) (alone_offT _) ?_).trans rfl
  exact Tree.alone_ret _ _
theorem cur_alone {m : Int} (hg : Gens m gs) (hm : m ≤ 1000) (hi : i < 8) : (curT 4 (i : Int)).alone (Tab gs) = ((256 * gs.getD i 0 + i, true), Tab gs, 1) := by
  have h0 := hg.low i
  have h1 := hg.high i
  rw [cur_plain, spot10 hi, tab_val hg.len hi, w64 (256 * _) (by omega) (by omega), w64 _ (by omega) (by omega), Int.add_comm]
theorem next_alone {m : Int} (hg : Gens m gs) (hm : m ≤ 1000) (hi : i < 8) : (nexT 4 (i : Int)).alone (Tab gs) = (true, Tab (gs.set i (gs.getD i 0 + 1)), 1) := by
  have h0 := hg.low i
  have h1 := hg.high i
  rw [next_plain, spot10 hi, tab_val hg.len hi, w64 _ (by omega) (by omega), tab_set hg.len hi]
theorem che_alone {m h : Int} (hg : Gens m gs) (hm : m ≤ 1000) (h8 : h % 256 < 8) : (cheT 4 h).alone (Tab gs) = (if gs.getD (h % 256).toNat 0 = h / 256 then (h % 256, true) else (0, false), Tab gs, 1) := by
  obtain ⟨i, hi⟩ : ∃ i : Nat, h % 256 = i := ⟨(h % 256).toNat, by omega⟩
  refine (Tree.alone_then (i := 1) (j := 0) (x := (256 * gs.getD i 0 + i, true)) (ys := Tab gs) ?_ ?_).trans rfl
  · rw [hi]
    exact cur_alone hg hm (by omega)
  · rw [hi]
    refine (Tree.alone_ret _ _).trans ?_
    by_cases h9 : gs.getD (i : Int).toNat 0 = h / 256
    · rw [if_pos h9, if_pos ⟨rfl, by rw [Int.toNat_natCast] at h9; simp only; omega⟩]
    · rw [if_neg h9, if_neg (fun x => h9 (by have h8 := x.2; rw [Int.toNat_natCast]; simp only at h8; omega))]
end

/-- What a body answers, and which generations it leaves. -/
def ansG (kd k i h : Int) (gs : List Int) : Int × Bool :=
  if kd = 0 then (if 0 ≤ i ∧ i < k then (256 * gs.getD i.toNat 0 + i, true) else (0, false))
  else if kd = 1 then (if 0 ≤ h ∧ h % 256 < k ∧ gs.getD (h % 256).toNat 0 = h / 256 then (h % 256, true) else (0, false))
  else (0, decide (0 ≤ i ∧ i < k))
def aftG (kd k i : Int) (gs : List Int) : List Int := if kd ≠ 0 ∧ kd ≠ 1 ∧ 0 ≤ i ∧ i < k then gs.set i.toNat (gs.getD i.toNat 0 + 1) else gs
theorem gens_aft {m kd k i : Int} {gs : List Int} (hg : Gens m gs) (hk : k ≤ 8) : Gens (m + 1) (aftG kd k i gs) := by
  unfold aftG
  split
  · exact hg.set _ (by omega)
  · exact hg.mono (by omega)
end Go.Sept

namespace Go.Proofs.Ytgoakjhjdoopkaa
open Go.RowKit Go.Sept

theorem run_act {m kd k i h : Int} {gs : List Int} (w : World) (p q U : Nat) (hg : Gens m gs) (hm1 : m ≤ 1000) (hk : k ≤ 8) (hm : MemIs 38 w p q (Tab gs)) (hU : w.heap[U]? = some (act10O kd k i h 0 false)) (n1 : U ≠ p) (n2 : U ≠ q) :
    Calls Try.prog 7 #[.pointer (some ⟨p, 0, none⟩), bodyV 8 (ptrV U), .int .i64 5000] w fun e w' => e = .returned (.bool true) ∧ MemIs 38 w' p q (Tab (aftG kd k i gs)) ∧ w'.heap[U]? = some (act10O kd k i h (ansG kd k i h gs).1 (ansG kd k i h gs).2) ∧ Only (fun k => k = q ∨ k = U) w w' := by
  have hy : 0 < (Tab gs).length := by rw [tab_len hg.len]; decide
  by_cases h0 : kd = 0
  · subst h0
    have ea : aftG 0 k i gs = gs := if_neg (fun h => h.1 rfl)
    by_cases hi : 0 ≤ i ∧ i < k
    · obtain ⟨j, rfl⟩ : ∃ j : Nat, i = j := ⟨i.toNat, by omega⟩
      refine (run_turns (act10_handle U k j h _ (by decide) (handle_does 4 k j ⟨hk, hi.1, hi.2⟩)) w p q _ 5000 (0, false) hm hU n1 n2 (by decide) (by decide) (by decide) (by decide) hy).mono ?_
      rintro e w' ⟨rfl, a1, a2, a3⟩
      rw [cur_alone hg hm1 (by omega)] at a1 a2
      have e : ansG 0 k j h gs = (256 * gs.getD j 0 + j, true) := by rw [ansG, if_pos rfl, if_pos hi, Int.toNat_natCast]
      rw [ea, e]
      exact ⟨rfl, a1, a2, a3⟩
    · refine (run_turns (act10_handle U k i h _ (by decide) (handle_idle 4 k i (fun h => hi h.2))) w p q _ 5000 (0, false) hm hU n1 n2 (by decide) (by decide) (by decide) (by decide) hy).mono ?_
      rintro e w' ⟨rfl, a1, a2, a3⟩
      rw [Tree.alone_ret] at a1 a2
      have e : ansG 0 k i h gs = (0, false) := by rw [ansG, if_pos rfl, if_neg hi]
      rw [ea, e]
      exact ⟨rfl, a1, a2, a3⟩
  · by_cases h1 : kd = 1
    · subst h1
      have ea : aftG 1 k i gs = gs := if_neg (fun h => h.2.1 rfl)
      by_cases hi : 0 ≤ h ∧ h % 256 < k
      · refine (run_turns (act10_check U k i h _ (by decide) (check_does 4 k h hi.1 ⟨hk, by omega, hi.2⟩)) w p q _ 5000 (0, false) hm hU n1 n2 (by decide) (by decide) (by decide) (by decide) hy).mono ?_
        rintro e w' ⟨rfl, a1, a2, a3⟩
        rw [che_alone hg hm1 (by omega)] at a1 a2
        have e : ansG 1 k i h gs = if gs.getD (h % 256).toNat 0 = h / 256 then (h % 256, true) else (0, false) := by
          have : (0 ≤ h ∧ h % 256 < k ∧ gs.getD (h % 256).toNat 0 = h / 256) ↔ gs.getD (h % 256).toNat 0 = h / 256 := ⟨fun x => x.2.2, fun x => ⟨hi.1, hi.2, x⟩⟩
          rw [ansG, if_neg (by decide), if_pos rfl]
          simp only [this]
        rw [ea, e]
        exact ⟨rfl, a1, a2, a3⟩
      · refine (run_turns (act10_check U k i h _ (by decide) (check_idle 4 k h (by
          by_cases h9 : h < 0
          · exact .inl h9
          · exact .inr (fun x => hi ⟨by omega, x.2.2⟩)))) w p q _ 5000 (0, false) hm hU n1 n2 (by decide) (by decide) (by decide) (by decide) hy).mono ?_
        rintro e w' ⟨rfl, a1, a2, a3⟩
        rw [Tree.alone_ret] at a1 a2
        have e : ansG 1 k i h gs = (0, false) := by rw [ansG, if_neg (by decide), if_pos rfl, if_neg (fun x => hi ⟨x.1, x.2.1⟩)]
        rw [ea, e]
        exact ⟨rfl, a1, a2, a3⟩
    · have e : ansG kd k i h gs = (0, decide (0 ≤ i ∧ i < k)) := by rw [ansG, if_neg h0, if_neg h1]
      by_cases hi : 0 ≤ i ∧ i < k
      · obtain ⟨j, rfl⟩ : ∃ j : Nat, i = j := ⟨i.toNat, by omega⟩
        refine (run_turns (act10_next U kd k j h h0 h1 _ (by decide) (next_does 4 k j ⟨hk, hi.1, hi.2⟩)) w p q _ 5000 false hm hU n1 n2 (by decide) (by decide) (by decide) (by decide) hy).mono ?_
        rintro e w' ⟨rfl, a1, a2, a3⟩
        rw [next_alone hg hm1 (by omega)] at a1 a2
        have ea : aftG kd k j gs = gs.set j (gs.getD j 0 + 1) := by rw [aftG, if_pos ⟨h0, h1, hi.1, hi.2⟩, Int.toNat_natCast]
        rw [ea, e, decide_eq_true hi]
        exact ⟨rfl, a1, a2, a3⟩
      · refine (run_turns (act10_next U kd k i h h0 h1 _ (by decide) (next_idle 4 k i (fun h => hi h.2))) w p q _ 5000 false hm hU n1 n2 (by decide) (by decide) (by decide) (by decide) hy).mono ?_
        rintro e w' ⟨rfl, a1, a2, a3⟩
        rw [Tree.alone_ret] at a1 a2
        have ea : aftG kd k i gs = gs := if_neg (fun h => hi h.2.2)
        rw [ea, e, decide_eq_false hi]
        exact ⟨rfl, a1, a2, a3⟩
end Go.Proofs.Ytgoakjhjdoopkaa

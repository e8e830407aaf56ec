/-
  The same of the document's memory (package septumref01): has, Load, Store, Add, Swap, New, and Words, which holds two lists against each other. Conditions: the pointer is not nil.
-/
import Derived.Test.YtfdfjibhbfdloaaAccess
import Derived.Deep.QuietTactic
import Derived.BigQuiet
namespace Go.Proofs.Ytfdfjibhbfdloaa
open Go.RowKit Go.Sept

def RefLen (tm : TypeId) (w : World) (v : Value) (n : Nat) : Prop := ∃ p q xs, Holds tm w v p q xs ∧ v ≠ .pointer none ∧ n = xs.length
theorem refLen_of_mem {tm : TypeId} {w : World} {p q : Nat} {xs : List Int} (h : MemIs tm w p q xs) : RefLen tm w (.pointer (some ⟨p, 0, none⟩)) xs.length := ⟨p, q, xs, .inl ⟨rfl, h⟩, by simp, rfl⟩
theorem refLen_cell {tm : TypeId} {w : World} {v : Value} {n : Nat} (h : RefLen tm w v n) : ∃ p ao, v = .pointer (some ⟨p, 0, none⟩) ∧ w.cell? ⟨p, 0, none⟩ = some (.slice ao n n) := by
  obtain ⟨p, q, xs, ⟨rfl, hm⟩ | ⟨rfl, rfl⟩ | ⟨rfl, rfl, hb⟩, hv, rfl⟩ := h
  · exact ⟨p, _, rfl, hm.cell⟩
  · exact absurd rfl hv
  · exact ⟨p, none, rfl, cell_of_block hb 0⟩

set_option maxHeartbeats 400000 in
theorem ref_has_yes (w : World) (v : Value) (n : Nat) (h : RefLen 43 w v n) (a : Int) (h0 : 0 ≤ a) (h1 : a < n) :
    Calls Try.prog 50 #[v, .int .i64 a] w fun e w' => e = .returned (.bool true) ∧ w' = w := by
  obtain ⟨p, ao, rfl, hc⟩ := refLen_cell h
  clear h
  go_enter Try.func50, Try.ntmps50
  go_wp2
  go_ret
  exact ⟨rfl, rfl⟩

set_option maxHeartbeats 400000 in
theorem ref_has_no (w : World) (v : Value) (n : Nat) (h : RefLen 43 w v n) (a : Int) (h0 : a < 0 ∨ n ≤ a) :
    Calls Try.prog 50 #[v, .int .i64 a] w fun e w' => e = .returned (.bool false) ∧ w' = w := by
  obtain ⟨p, ao, rfl, hc⟩ := refLen_cell h
  clear h
  by_cases hn : 0 ≤ a
  · have h1 : ¬ a < n := by omega
    go_enter Try.func50, Try.ntmps50
    go_wp2
    go_ret
    exact ⟨by simp, rfl⟩
  · go_enter Try.func50, Try.ntmps50
    go_wp2
    go_ret
    exact ⟨rfl, rfl⟩

set_option maxHeartbeats 400000 in
theorem ref_load_no (w : World) (v : Value) (n : Nat) (h : RefLen 43 w v n) (a : Int) (h0 : a < 0 ∨ n ≤ a) :
    Calls Try.prog 35 #[v, .int .i64 a] w fun e w' => e = .returned (.tuple #[.int .i64 0, .int .i64 2]) ∧ w' = w := by
  go_enter Try.func35, Try.ntmps35
  go_wp2_with (go_at_call 50; refine (ref_has_no _ _ _ h _ h0).mono ?_; rintro e w' ⟨rfl, rfl⟩)
  go_ret2
  exact ⟨rfl, rfl⟩

set_option maxHeartbeats 400000 in
theorem ref_load_yes (w : World) (p q : Nat) (xs : List Int) (h : MemIs 43 w p q xs) (a : Nat) (h1 : a < xs.length) :
    Calls Try.prog 35 #[.pointer (some ⟨p, 0, none⟩), .int .i64 a] w fun e w' => e = .returned (.tuple #[.int .i64 (xs.getD a 0), .int .i64 0]) ∧ w' = w := by
  have hl : RefLen 43 w (.pointer (some ⟨p, 0, none⟩)) xs.length := refLen_of_mem h
  have hc := h.cell
  have hw := h.row.cell a h1
  have h2 : (a : Int) < xs.length := by omega
  go_enter Try.func35, Try.ntmps35
  go_wp2_with (go_at_call 50; refine (ref_has_yes _ _ _ hl _ (by omega) (by omega)).mono ?_; rintro e w' ⟨rfl, rfl⟩)
  go_ret2
  exact ⟨by simp [h1], rfl⟩

set_option maxHeartbeats 400000 in
theorem ref_store_no (w : World) (v : Value) (n : Nat) (h : RefLen 43 w v n) (a x : Int) (h0 : a < 0 ∨ n ≤ a) :
    Calls Try.prog 36 #[v, .int .i64 a, .int .i64 x] w fun e w' => e = .returned (.int .i64 2) ∧ w' = w := by
  go_enter Try.func36, Try.ntmps36
  go_wp2_with (go_at_call 50; refine (ref_has_no _ _ _ h _ h0).mono ?_; rintro e w' ⟨rfl, rfl⟩)
  go_ret
  exact ⟨rfl, rfl⟩

set_option maxHeartbeats 400000 in
theorem ref_store_yes (w : World) (p q : Nat) (xs : List Int) (h : MemIs 43 w p q xs) (a : Nat) (h1 : a < xs.length) (x : Int) :
    Calls Try.prog 36 #[.pointer (some ⟨p, 0, none⟩), .int .i64 a, .int .i64 x] w fun e w' => e = .returned (.int .i64 0) ∧ w' = w.setCell ⟨q, a, none⟩ (.int .i64 x) := by
  have hl : RefLen 43 w (.pointer (some ⟨p, 0, none⟩)) xs.length := refLen_of_mem h
  have hc := h.cell
  have hw := h.row.cell a h1
  have hf := h.row.frozen a
  have h2 : (a : Int) < xs.length := by omega
  go_enter Try.func36, Try.ntmps36
  go_wp2_with (go_at_call 50; refine (ref_has_yes _ _ _ hl _ (by omega) (by omega)).mono ?_; rintro e w' ⟨rfl, rfl⟩)
  go_ret
  exact ⟨rfl, rfl⟩

set_option maxHeartbeats 400000 in
theorem ref_add_no (w : World) (v : Value) (n : Nat) (h : RefLen 43 w v n) (a x : Int) (h0 : a < 0 ∨ n ≤ a) :
    Calls Try.prog 37 #[v, .int .i64 a, .int .i64 x] w fun e w' => e = .returned (.tuple #[.int .i64 0, .int .i64 2]) ∧ w' = w := by
  go_enter Try.func37, Try.ntmps37
  go_wp2_with (go_at_call 50; refine (ref_has_no _ _ _ h _ h0).mono ?_; rintro e w' ⟨rfl, rfl⟩)
  go_ret2
  exact ⟨rfl, rfl⟩

set_option maxHeartbeats 400000 in
theorem ref_add_yes (w : World) (p q : Nat) (xs : List Int) (h : MemIs 43 w p q xs) (a : Nat) (h1 : a < xs.length) (x : Int) :
    Calls Try.prog 37 #[.pointer (some ⟨p, 0, none⟩), .int .i64 a, .int .i64 x] w fun e w' =>
      e = .returned (.tuple #[.int .i64 (xs.getD a 0), .int .i64 0]) ∧ w' = w.setCell ⟨q, a, none⟩ (.int .i64 (wrap64 (xs.getD a 0 + x))) := by
  have hl : RefLen 43 w (.pointer (some ⟨p, 0, none⟩)) xs.length := refLen_of_mem h
  have hc := h.cell
  have hw := h.row.cell a h1
  have hf := h.row.frozen a
  have h2 : (a : Int) < xs.length := by omega
  go_enter Try.func37, Try.ntmps37
  go_wp2_with (go_at_call 50; refine (ref_has_yes _ _ _ hl _ (by omega) (by omega)).mono ?_; rintro e w' ⟨rfl, rfl⟩)
  go_ret2
  exact ⟨by simp [h1], by simp [h1]⟩

set_option maxHeartbeats 400000 in
theorem ref_swap_no (w : World) (v : Value) (n : Nat) (h : RefLen 43 w v n) (a x y : Int) (h0 : a < 0 ∨ n ≤ a) :
    Calls Try.prog 38 #[v, .int .i64 a, .int .i64 x, .int .i64 y] w fun e w' => e = .returned (.tuple #[.bool false, .int .i64 2]) ∧ w' = w := by
  go_enter Try.func38, Try.ntmps38
  go_wp2_with (go_at_call 50; refine (ref_has_no _ _ _ h _ h0).mono ?_; rintro e w' ⟨rfl, rfl⟩)
  go_ret2
  exact ⟨rfl, rfl⟩

set_option maxHeartbeats 400000 in
theorem ref_swap_miss (w : World) (p q : Nat) (xs : List Int) (h : MemIs 43 w p q xs) (a : Nat) (h1 : a < xs.length) (x y : Int) (hx : xs.getD a 0 ≠ x) :
    Calls Try.prog 38 #[.pointer (some ⟨p, 0, none⟩), .int .i64 a, .int .i64 x, .int .i64 y] w fun e w' =>
      e = .returned (.tuple #[.bool false, .int .i64 0]) ∧ w' = w := by
  have hl : RefLen 43 w (.pointer (some ⟨p, 0, none⟩)) xs.length := refLen_of_mem h
  have hc := h.cell
  have hw := h.row.cell a h1
  have h2 : (a : Int) < xs.length := by omega
  obtain ⟨u, hu⟩ : ∃ u, u = xs.getD a 0 := ⟨_, rfl⟩
  rw [← hu] at hw hx
  have hne : (u != x) = true := by rw [bne_iff_ne]; exact hx
  clear hx hu
  go_enter Try.func38, Try.ntmps38
  go_wp2_with (go_at_call 50; refine (ref_has_yes _ _ _ hl _ (by omega) (by omega)).mono ?_; rintro e w' ⟨rfl, rfl⟩)
  go_ret2
  exact ⟨rfl, rfl⟩

set_option maxHeartbeats 400000 in
theorem ref_swap_hit (w : World) (p q : Nat) (xs : List Int) (h : MemIs 43 w p q xs) (a : Nat) (h1 : a < xs.length) (x y : Int) (hx : xs.getD a 0 = x) :
    Calls Try.prog 38 #[.pointer (some ⟨p, 0, none⟩), .int .i64 a, .int .i64 x, .int .i64 y] w fun e w' =>
      e = .returned (.tuple #[.bool true, .int .i64 0]) ∧ w' = w.setCell ⟨q, a, none⟩ (.int .i64 y) := by
  have hl : RefLen 43 w (.pointer (some ⟨p, 0, none⟩)) xs.length := refLen_of_mem h
  have hc := h.cell
  have hw := h.row.cell a h1
  have hf := h.row.frozen a
  have h2 : (a : Int) < xs.length := by omega
  rw [hx] at hw
  clear hx
  go_enter Try.func38, Try.ntmps38
  go_wp2_with (go_at_call 50; refine (ref_has_yes _ _ _ hl _ (by omega) (by omega)).mono ?_; rintro e w' ⟨rfl, rfl⟩)
  go_ret2
  exact ⟨rfl, rfl⟩
theorem ref_load_rel (w : World) (v : Value) (p q : Nat) (xs : List Int) (h : Holds 43 w v p q xs) (hv : v ≠ .pointer none) (a : Int) :
    Calls Try.prog 35 #[v, .int .i64 a] w fun e w' => e = .returned (.tuple #[.int .i64 (valA xs a), .int .i64 (errA xs a)]) ∧ w' = w := by
  rcases okA_cases xs a with ⟨ho, hr⟩ | ⟨ho, n, rfl, hn⟩
  · simp only [valA, errA, ho]
    exact ref_load_no w v _ ⟨p, q, xs, h, hv, rfl⟩ a hr
  · obtain ⟨rfl, hm⟩ := holds_pos h hn
    simp only [valA, errA, ho, Int.toNat_natCast]
    exact ref_load_yes w p q xs hm n hn

theorem ref_sto_rel (w : World) (v : Value) (p q : Nat) (xs : List Int) (h : Holds 43 w v p q xs) (hv : v ≠ .pointer none) (a x : Int) :
    Calls Try.prog 36 #[v, .int .i64 a, .int .i64 x] w fun e w' => e = .returned (.int .i64 (errA xs a)) ∧ Holds 43 w' v p q (setA xs a x) ∧ Only (· = q) w w' := by
  rcases okA_cases xs a with ⟨ho, hr⟩ | ⟨ho, n, rfl, hn⟩
  · refine (ref_store_no w v _ ⟨p, q, xs, h, hv, rfl⟩ a x hr).mono ?_
    rintro e w' ⟨rfl, rfl⟩
    simp only [setA, errA, ho]
    exact ⟨rfl, h, Only.refl _ _⟩
  · obtain ⟨rfl, hm⟩ := holds_pos h hn
    refine (ref_store_yes w p q xs hm n hn x).mono ?_
    rintro e w' ⟨rfl, rfl⟩
    simp only [setA, errA, ho, Int.toNat_natCast]
    exact ⟨rfl, .inl ⟨rfl, hm.set _ _⟩, (Only.refl (· = q) w).setCell (p := ⟨q, n, none⟩) (.inr rfl) _⟩

theorem ref_add_rel (w : World) (v : Value) (p q : Nat) (xs : List Int) (h : Holds 43 w v p q xs) (hv : v ≠ .pointer none) (a x : Int) :
    Calls Try.prog 37 #[v, .int .i64 a, .int .i64 x] w fun e w' => e = .returned (.tuple #[.int .i64 (valA xs a), .int .i64 (errA xs a)]) ∧ Holds 43 w' v p q (setA xs a (wrap64 (valA xs a + x))) ∧ Only (· = q) w w' := by
  rcases okA_cases xs a with ⟨ho, hr⟩ | ⟨ho, n, rfl, hn⟩
  · refine (ref_add_no w v _ ⟨p, q, xs, h, hv, rfl⟩ a x hr).mono ?_
    rintro e w' ⟨rfl, rfl⟩
    simp only [setA, valA, errA, ho]
    exact ⟨rfl, h, Only.refl _ _⟩
  · obtain ⟨rfl, hm⟩ := holds_pos h hn
    refine (ref_add_yes w p q xs hm n hn x).mono ?_
    rintro e w' ⟨rfl, rfl⟩
    simp only [setA, valA, errA, ho, Int.toNat_natCast]
    exact ⟨rfl, .inl ⟨rfl, hm.set _ _⟩, (Only.refl (· = q) w).setCell (p := ⟨q, n, none⟩) (.inr rfl) _⟩

theorem ref_swap_rel (w : World) (v : Value) (p q : Nat) (xs : List Int) (h : Holds 43 w v p q xs) (hv : v ≠ .pointer none) (a x y : Int) :
    Calls Try.prog 38 #[v, .int .i64 a, .int .i64 x, .int .i64 y] w fun e w' => e = .returned (.tuple #[.bool (hitA xs a x), .int .i64 (errA xs a)]) ∧ Holds 43 w' v p q (swapA xs a x y) ∧ Only (· = q) w w' := by
  rcases okA_cases xs a with ⟨ho, hr⟩ | ⟨ho, n, rfl, hn⟩
  · refine (ref_swap_no w v _ ⟨p, q, xs, h, hv, rfl⟩ a x y hr).mono ?_
    rintro e w' ⟨rfl, rfl⟩
    simp only [swapA, hitA, errA, ho, Bool.false_and]
    exact ⟨rfl, h, Only.refl _ _⟩
  · obtain ⟨rfl, hm⟩ := holds_pos h hn
    by_cases hx : xs.getD n 0 = x
    · refine (ref_swap_hit w p q xs hm n hn x y hx).mono ?_
      rintro e w' ⟨rfl, rfl⟩
      have e1 : hitA xs (n : Int) x = true := by simp only [hitA, ho, Int.toNat_natCast, hx, Bool.true_and, beq_self_eq_true]
      rw [swapA, if_pos e1, setA, if_pos ho, errA, if_pos ho, e1, Int.toNat_natCast]
      exact ⟨rfl, .inl ⟨rfl, hm.set _ _⟩, (Only.refl (· = q) w).setCell (p := ⟨q, n, none⟩) (.inr rfl) _⟩
    · refine (ref_swap_miss w p q xs hm n hn x y hx).mono ?_
      rintro e w' ⟨rfl, rfl⟩
      have e1 : hitA xs (n : Int) x = false := by
        simp only [hitA, ho, Int.toNat_natCast, Bool.true_and]
        exact beq_eq_false_iff_ne.2 hx
      rw [swapA, e1, errA, if_pos ho]
      exact ⟨rfl, .inl ⟨rfl, hm⟩, Only.refl _ _⟩

set_option maxHeartbeats 400000 in
theorem ref_new_any (w : World) (n : Int) :
    Calls Try.prog 11 #[.int .i64 n] w fun e w' => e = .returned (.pointer (some ⟨w.heap.size + 1, 0, none⟩)) ∧ w' = newWorld w 43 (clampN n) := by
  by_cases h0 : n < 0
  · have hk : clampN n = 0 := by unfold clampN; omega
    rw [hk]
    clear hk
    have hmk : ∀ w : World, (Instr.makeSlice 31 (.int .i64 0) (.int .i64 0)).run Try.prog w = _ := make_words 0 (by omega)
    go_enter Try.func11, Try.ntmps11
    go_wp2
    go_ret
    exact ⟨rfl, rfl⟩
  · by_cases h1 : n ≤ 4000
    · obtain ⟨m, rfl⟩ := Int.eq_ofNat_of_zero_le (Int.not_lt.1 h0)
      have hk : clampN (m : Int) = m := by unfold clampN; omega
      rw [hk]
      clear hk
      have hmk := make_words m (by omega)
      go_enter Try.func11, Try.ntmps11
      go_wp2
      go_ret
      exact ⟨rfl, rfl⟩
    · have hk : clampN n = 4000 := by unfold clampN; omega
      rw [hk]
      clear hk
      have hmk : ∀ w : World, (Instr.makeSlice 31 (.int .i64 4000) (.int .i64 4000)).run Try.prog w = _ := make_words 4000 (by omega)
      go_enter Try.func11, Try.ntmps11
      go_wp2
      go_ret
      exact ⟨rfl, rfl⟩

theorem ref_new_rel (w : World) (n : Int) :
    Calls Try.prog 11 #[.int .i64 n] w fun e w' => ∃ p q, e = .returned (.pointer (some ⟨p, 0, none⟩)) ∧ MemIs 43 w' p q (List.replicate (clampN n) 0) ∧ w.heap.size ≤ p ∧ w.heap.size ≤ q ∧ Only (fun _ => False) w w' := by
  refine (ref_new_any w n).mono ?_
  rintro e w' ⟨rfl, rfl⟩
  exact ⟨_, _, rfl, newWorld_mem _ _ _, Nat.le_succ _, Nat.le_refl _, newWorld_only _ _ _ _⟩

end Go.Proofs.Ytfdfjibhbfdloaa

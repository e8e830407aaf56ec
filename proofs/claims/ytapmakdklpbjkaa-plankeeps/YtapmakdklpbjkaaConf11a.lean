/-
  Package config: its small questions (is it a number of n, a priority, a size, ticks, an object, a thread, an end, a channel). Conditions: none.
-/
import Derived.Test.YtapmakdklpbjkaaRef11d
namespace Go.Proofs.Ytapmakdklpbjkaa
open Go.RowKit Go.Sept

set_option maxRecDepth 100000 in
set_option maxHeartbeats 1000000 in
theorem cNumber (w : World) (i n : Int) : Calls Try.prog 74 #[.int .i64 i, .int .i64 n] w fun e w' => e = .returned (.bool (decide (0 ≤ i ∧ i < n))) ∧ w' = w := by
  go_enter Try.func74, Try.ntmps74
  by_cases h1 : 0 ≤ i
  · by_cases h2 : i < n
    · go_wp2_with fail
      go_ret
      exact ⟨by rw [decide_eq_true ⟨h1, h2⟩]; rfl, rfl⟩
    · go_wp2_with fail
      go_ret
      exact ⟨by rw [decide_eq_false (by omega)]; rfl, rfl⟩
  · go_wp2_with fail
    go_ret
    exact ⟨by rw [decide_eq_false (by omega)]; rfl, rfl⟩

set_option maxRecDepth 100000 in
set_option maxHeartbeats 1000000 in
theorem cTicks (w : World) (i : Int) : Calls Try.prog 75 #[.int .i64 i] w fun e w' => e = .returned (.bool (decide (1 ≤ i ∧ i ≤ 100))) ∧ w' = w := by
  go_enter Try.func75, Try.ntmps75
  by_cases h1 : 1 ≤ i
  · by_cases h2 : i ≤ 100
    · go_wp2_with fail
      go_ret
      exact ⟨by rw [decide_eq_true ⟨h1, h2⟩]; rfl, rfl⟩
    · go_wp2_with fail
      go_ret
      exact ⟨by rw [decide_eq_false (by omega)]; rfl, rfl⟩
  · go_wp2_with fail
    go_ret
    exact ⟨by rw [decide_eq_false (by omega)]; rfl, rfl⟩

set_option maxRecDepth 100000 in
set_option maxHeartbeats 1000000 in
theorem cSize (w : World) (i : Int) : Calls Try.prog 95 #[.int .i64 i] w fun e w' => e = .returned (.bool (decide (1 ≤ i ∧ i ≤ 16))) ∧ w' = w := by
  go_enter Try.func95, Try.ntmps95
  by_cases h1 : 1 ≤ i
  · by_cases h2 : i ≤ 16
    · go_wp2_with fail
      go_ret
      exact ⟨by rw [decide_eq_true ⟨h1, h2⟩]; rfl, rfl⟩
    · go_wp2_with fail
      go_ret
      exact ⟨by rw [decide_eq_false (by omega)]; rfl, rfl⟩
  · go_wp2_with fail
    go_ret
    exact ⟨by rw [decide_eq_false (by omega)]; rfl, rfl⟩

set_option maxRecDepth 100000 in
set_option maxHeartbeats 1000000 in
theorem cPriority (w : World) (i : Int) : Calls Try.prog 94 #[.int .i64 i] w fun e w' => e = .returned (.bool (decide (0 ≤ i ∧ i < 16))) ∧ w' = w := by
  go_enter Try.func94, Try.ntmps94
  obtain ⟨q, hq⟩ : ∃ q, decide (0 ≤ i ∧ i < 16) = q := ⟨_, rfl⟩
  have HQ := hid hq
  rw [hq]
  clear hq
  go_wp2_with fail
  refine (cNumber _ _ _).mono ?_
  rintro e w2 ⟨rfl, rfl⟩
  rw [HQ.out]
  go_wp2_with fail
  go_ret
  exact ⟨rfl, rfl⟩

set_option maxRecDepth 100000 in
set_option maxHeartbeats 1000000 in
theorem cObject (w : World) (o : Ob) : Calls Try.prog 91 #[.agg #[.int .i64 o.kind, .int .i64 o.size, .bool o.prio]] w fun e w' => e = .returned (.bool (obOk o)) ∧ Only (fun _ => False) w w' := by
  obtain ⟨k, s, b⟩ := o
  obtain ⟨r, hr⟩ : ∃ r, obOk ⟨k, s, b⟩ = r := ⟨_, rfl⟩
  have HR := hid hr
  show Calls _ _ _ _ fun e w' => e = .returned (.bool (obOk ⟨k, s, b⟩)) ∧ _
  rw [hr]
  clear hr
  have hW : ∃ W z, W = w.alloc (.cells #[.int .i64 k, .int .i64 s, .bool b] 68) ∧ z = w.heap.size ∧ Only (fun _ => False) w W ∧ W.cell? ⟨z, 0, none⟩ = some (.int .i64 k) ∧ W.cell? ⟨z, 1, none⟩ = some (.int .i64 s) ∧ W.cell? ⟨z, 2, none⟩ = some (.bool b) :=
    ⟨_, _, rfl, rfl, (Only.refl _ _).alloc _, cell_of_block (heap_new _ _) 0, cell_of_block (heap_new _ _) 1, cell_of_block (heap_new _ _) 2⟩
  obtain ⟨W, z, hWe, hze, hoW, c0, c1, c2⟩ := hW
  have HO := hid hoW
  clear hoW
  go_enter Try.func91, Try.ntmps91
  go_upto_region 1 with fail
  rw [← hWe, ← hze]
  clear hWe hze
  by_cases k0 : k = 0
  · subst k0
    go_wp2_with fail
    refine (cPriority _ _).mono ?_
    rintro e w2 ⟨rfl, rfl⟩
    obtain ⟨q, hq⟩ : ∃ q, decide (0 ≤ s ∧ s < 16) = q := ⟨_, rfl⟩
    have HQ := hid hq
    rw [hq]
    clear hq
    cases q
    · go_wp2_with fail
      go_ret
      have := of_decide_eq_false HQ.out
      exact ⟨by rw [← HR.out, obOk, decide_eq_false (by simp; omega)]; rfl, HO.out⟩
    · have hq := of_decide_eq_true HQ.out
      go_wp2_with fail
      go_ret
      refine ⟨congrArg (fun b => Ending.returned (.bool b)) ?_, HO.out⟩
      rw [← HR.out, obOk]
      cases b <;> simp <;> omega
  by_cases k1 : k = 1
  · subst k1
    by_cases s0 : s = 0
    · go_wp2_with fail
      go_ret
      refine ⟨congrArg (fun b => Ending.returned (.bool b)) ?_, HO.out⟩
      rw [← HR.out, obOk]
      cases b <;> simp <;> omega
    · go_wp2_with fail
      go_ret
      refine ⟨congrArg (fun b => Ending.returned (.bool b)) ?_, HO.out⟩
      rw [← HR.out, obOk]
      cases b <;> simp <;> omega
  by_cases k3 : k = 3
  · subst k3
    go_wp2_with fail
    go_ret
    refine ⟨congrArg (fun b => Ending.returned (.bool b)) ?_, HO.out⟩
    rw [← HR.out, obOk, Bool.eq_iff_iff]
    simp
  by_cases k2 : k = 2 ∨ k = 4 ∨ k = 5
  · have HK := hid k2
    rcases k2 with rfl | rfl | rfl
    all_goals
      go_wp2_with fail
      refine (cSize _ _).mono ?_
      rintro e w2 ⟨rfl, rfl⟩
      go_wp2_with fail
      go_ret
      refine ⟨congrArg (fun b => Ending.returned (.bool b)) ?_, HO.out⟩
      rw [← HR.out, obOk, Bool.eq_iff_iff]
      simp
  by_cases k6 : k = 6 ∨ k = 7
  · rcases k6 with rfl | rfl
    all_goals
      go_wp2_with fail
      refine (cSize _ _).mono ?_
      rintro e w2 ⟨rfl, rfl⟩
      obtain ⟨q, hq⟩ : ∃ q, decide (1 ≤ s ∧ s ≤ 16) = q := ⟨_, rfl⟩
      have HQ := hid hq
      rw [hq]
      clear hq
      cases q
      · go_wp2_with fail
        go_ret
        have := of_decide_eq_false HQ.out
        exact ⟨by rw [← HR.out, obOk, decide_eq_false (by simp; omega)]; rfl, HO.out⟩
      · have hq := of_decide_eq_true HQ.out
        go_wp2_with fail
        go_ret
        refine ⟨congrArg (fun b => Ending.returned (.bool b)) ?_, HO.out⟩
        rw [← HR.out, obOk]
        cases b <;> simp <;> omega
  · have n0 : ¬ k = 2 := fun e => k2 (.inl e)
    have n1 : ¬ k = 4 := fun e => k2 (.inr (.inl e))
    have n2 : ¬ k = 5 := fun e => k2 (.inr (.inr e))
    have n3 : ¬ k = 6 := fun e => k6 (.inl e)
    have n4 : ¬ k = 7 := fun e => k6 (.inr e)
    have HN : Hid (¬ (k = 2 ∨ k = 4 ∨ k = 5)) := k2
    have HN2 : Hid (¬ (k = 6 ∨ k = 7)) := k6
    clear k2 k6
    go_wp2_with fail
    go_ret
    have E : r = false := by
      rw [← HR.out, obOk]
      refine decide_eq_false ?_
      show ¬ ((k = 0 ∧ 0 ≤ s ∧ s ≤ 15 ∧ b = false) ∨ (k = 1 ∧ s = 0 ∧ b = false) ∨ (k = 3 ∧ s = 0) ∨ ((k = 2 ∨ k = 4 ∨ k = 5) ∧ 1 ≤ s ∧ s ≤ 16) ∨ ((k = 6 ∨ k = 7) ∧ 1 ≤ s ∧ s ≤ 16 ∧ b = false))
      rintro (⟨h, _⟩ | ⟨h, _⟩ | ⟨h, _⟩ | ⟨h, _⟩ | ⟨h, _⟩)
      · exact k0 h
      · exact k1 h
      · exact k3 h
      · exact HN.out h
      · exact HN2.out h
    exact ⟨by rw [E]; rfl, HO.out⟩

set_option maxRecDepth 100000 in
set_option maxHeartbeats 1000000 in
theorem cThread {P : Nat → Prop} (w : World) (x : Th) (v0 v1 v2 v3 : Value) (h0 : v0 = .int .i64 x.prio) (h1 : v1 = .int .u32 x.caps) (hc : 0 ≤ x.caps ∧ x.caps ≤ 4294967295) (h3 : SlOf P 6 (clE P) w v3 x.prog) (m : Nat) (hm : m ≤ 8) :
    Calls Try.prog 90 #[.agg #[v0, v1, v2, v3], .int .i64 (m : Int)] w fun e w' => e = .returned (.bool (thOk m x)) ∧ Only (fun _ => False) w w' := by
  obtain ⟨pa, pc, rfl, pm⟩ := h3.shape
  subst h0 h1
  obtain ⟨cp, hcp⟩ : ∃ y, x.caps = y := ⟨_, rfl⟩
  obtain ⟨pr, hpr⟩ : ∃ y, x.prio = y := ⟨_, rfl⟩
  obtain ⟨l, hl⟩ : ∃ y, x.prog.length = y := ⟨_, rfl⟩
  obtain ⟨r, hr⟩ : ∃ y, thOk m x = y := ⟨_, rfl⟩
  have HR : Hid (decide (0 ≤ pr ∧ pr ≤ 15 ∧ cp < 2 ^ m ∧ l ≤ 40) = r) := by show _ = _; rw [← hr, thOk, hcp, hpr, hl]
  rw [hcp] at hc
  rw [hl] at pm
  rw [hcp, hpr, hl, hr]
  clear hcp hpr hl hr h3
  have hW : ∃ W z, W = w.alloc (.cells #[.int .i64 pr, .int .u32 cp, v2, .slice pa l pc] 50) ∧ z = w.heap.size ∧ Only (fun _ => False) w W ∧ W.cell? ⟨z, 0, none⟩ = some (.int .i64 pr) ∧ W.cell? ⟨z, 1, none⟩ = some (.int .u32 cp) ∧ W.cell? ⟨z, 3, none⟩ = some (.slice pa l pc) :=
    ⟨_, _, rfl, rfl, (Only.refl _ _).alloc _, cell_of_block (heap_new _ _) 0, cell_of_block (heap_new _ _) 1, cell_of_block (heap_new _ _) 3⟩
  obtain ⟨W, z, hWe, hze, hoW, c0, c1, c3⟩ := hW
  have HO := hid hoW
  clear hoW
  go_enter Try.func90, Try.ntmps90
  go_upto_region 1 with fail
  rw [← hWe, ← hze]
  clear hWe hze
  go_wp2_with fail
  refine (cPriority _ _).mono ?_
  rintro e w2 ⟨rfl, rfl⟩
  obtain ⟨q, hq⟩ : ∃ q, decide (0 ≤ pr ∧ pr < 16) = q := ⟨_, rfl⟩
  have HQ := hid hq
  rw [hq]
  clear hq
  cases q
  · go_wp2_with fail
    go_ret
    have := of_decide_eq_false HQ.out
    have E : r = false := by rw [← HR.out]; exact decide_eq_false (by omega)
    exact ⟨by rw [E]; rfl, HO.out⟩
  by_cases q3 : cp / 2 ^ m = 0
  · have HC := hid ((caps_lt hc.1 m).1 q3)
    go_wp2_with fail
    go_ret
    have := of_decide_eq_true HQ.out
    refine ⟨congrArg (fun b => Ending.returned (.bool b)) (a₁ := decide ((l : Int) ≤ 40)) ?_, HO.out⟩
    rw [← HR.out]
    exact decide_eq_decide.2 ⟨fun h => ⟨by omega, by omega, HC.out, by omega⟩, fun h => by omega⟩
  · have HC := hid (fun h => q3 ((caps_lt hc.1 m).2 h))
    go_wp2_with fail
    go_ret
    have E : r = false := by rw [← HR.out]; exact decide_eq_false (fun h => HC.out h.2.2.1)
    exact ⟨by rw [E]; rfl, HO.out⟩
end Go.Proofs.Ytapmakdklpbjkaa

/-
  Package config: its small questions (is it a number of n, a priority, a size, ticks, an object, a thread, an end, a channel). Conditions: none.
-/
import Derived.Test.YtmcmjcaigipoaaaGreatRef11
namespace Go.Proofs.YtmcmjcaigipoaaaGreat
open Go.RowKit Go.Sept

set_option maxRecDepth 100000 in
set_option maxHeartbeats 1000000 in
theorem cNumber (w : World) (i n : Int) : Calls Tryz.prog 120 #[.int .i64 i, .int .i64 n] w fun e w' => e = .returned (.bool (decide (0 ≤ i ∧ i < n))) ∧ w' = w := by
  go_enter Tryz.func120, Tryz.ntmps120
  by_cases h1 : 0 ≤ i
  · by_cases h2 : i < n
    · go_wp2_with fail
      go_ret
      exact ⟨by rw [decide_eq_true ⟨h1, h2⟩]; rfl, rfl⟩
    · go_wp2_with fail
      go_ret
      exact ⟨by rw [decide_eq_false (by omega)]; rfl, rfl⟩
  · go_wp2_with fail
    go_ret
    exact ⟨by rw [decide_eq_false (by omega)]; rfl, rfl⟩

set_option maxRecDepth 100000 in
set_option maxHeartbeats 1000000 in
theorem cTicks (w : World) (i : Int) : Calls Tryz.prog 121 #[.int .i64 i] w fun e w' => e = .returned (.bool (decide (1 ≤ i ∧ i ≤ 100))) ∧ w' = w := by
  go_enter Tryz.func121, Tryz.ntmps121
  by_cases h1 : 1 ≤ i
  · by_cases h2 : i ≤ 100
    · go_wp2_with fail
      go_ret
      exact ⟨by rw [decide_eq_true ⟨h1, h2⟩]; rfl, rfl⟩
    · go_wp2_with fail
      go_ret
      exact ⟨by rw [decide_eq_false (by omega)]; rfl, rfl⟩
  · go_wp2_with fail
    go_ret
    exact ⟨by rw [decide_eq_false (by omega)]; rfl, rfl⟩

set_option maxRecDepth 100000 in
set_option maxHeartbeats 1000000 in
theorem cSize (w : World) (i : Int) : Calls Tryz.prog 141 #[.int .i64 i] w fun e w' => e = .returned (.bool (decide (1 ≤ i ∧ i ≤ 16))) ∧ w' = w := by
  go_enter Tryz.func141, Tryz.ntmps141
  by_cases h1 : 1 ≤ i
  · by_cases h2 : i ≤ 16
    · go_wp2_with fail
      go_ret
      exact ⟨by rw [decide_eq_true ⟨h1, h2⟩]; rfl, rfl⟩
    · go_wp2_with fail
      go_ret
      exact ⟨by rw [decide_eq_false (by omega)]; rfl, rfl⟩
  · go_wp2_with fail
    go_ret
    exact ⟨by rw [decide_eq_false (by omega)]; rfl, rfl⟩

set_option maxRecDepth 100000 in
set_option maxHeartbeats 1000000 in
theorem cPriority (w : World) (i : Int) : Calls Tryz.prog 140 #[.int .i64 i] w fun e w' => e = .returned (.bool (decide (0 ≤ i ∧ i < 16))) ∧ w' = w := by
  go_enter Tryz.func140, Tryz.ntmps140
  obtain ⟨q, hq⟩ : ∃ q, decide (0 ≤ i ∧ i < 16) = q := ⟨_, rfl⟩
  have HQ := hid hq
  rw [hq]
  clear hq
  go_wp2_with fail
  refine (cNumber _ _ _).mono ?_
  rintro e w2 ⟨rfl, rfl⟩
  rw [HQ.out]
  go_wp2_with fail
  go_ret
  exact ⟨rfl, rfl⟩

set_option maxRecDepth 100000 in
set_option maxHeartbeats 1000000 in
theorem cObject (w : World) (o : Ob) : Calls Tryz.prog 136 #[.agg #[.int .i64 o.kind, .int .i64 o.size, .bool o.prio]] w fun e w' => e = .returned (.bool (obOk o)) ∧ Only (fun _ => False) w w' := by
  obtain ⟨k, s, b⟩ := o
  obtain ⟨r, hr⟩ : ∃ r, obOk ⟨k, s, b⟩ = r := ⟨_, rfl⟩
  have HR := hid hr
  show Calls _ _ _ _ fun e w' => e = .returned (.bool (obOk ⟨k, s, b⟩)) ∧ _
  rw [hr]
  clear hr
  have hW : ∃ W z, W = w.alloc (.cells #[.int .i64 k, .int .i64 s, .bool b] 96) ∧ z = w.heap.size ∧ Only (fun _ => False) w W ∧ W.cell? ⟨z, 0, none⟩ = some (.int .i64 k) ∧ W.cell? ⟨z, 1, none⟩ = some (.int .i64 s) ∧ W.cell? ⟨z, 2, none⟩ = some (.bool b) :=
    ⟨_, _, rfl, rfl, (Only.refl _ _).alloc _, cell_of_block (heap_new _ _) 0, cell_of_block (heap_new _ _) 1, cell_of_block (heap_new _ _) 2⟩
  obtain ⟨W, z, hWe, hze, hoW, c0, c1, c2⟩ := hW
  have HO := hid hoW
  clear hoW
  go_enter Tryz.func136, Tryz.ntmps136
  go_upto_region 1 with fail
  rw [← hWe, ← hze]
  clear hWe hze
  by_cases k0 : k = 0
  · subst k0
    go_wp2_with fail
    refine (cPriority _ _).mono ?_
    rintro e w2 ⟨rfl, rfl⟩
    obtain ⟨q, hq⟩ : ∃ q, decide (0 ≤ s ∧ s < 16) = q := ⟨_, rfl⟩
    have HQ := hid hq
    rw [hq]
    clear hq
    cases q
    · go_wp2_with fail
      go_ret
      have := of_decide_eq_false HQ.out
      exact ⟨by rw [← HR.out, obOk, decide_eq_false (by simp; omega)]; rfl, HO.out⟩
    · have hq := of_decide_eq_true HQ.out
      go_wp2_with fail
      go_ret
      refine ⟨congrArg (fun b => Ending.returned (.bool b)) ?_, HO.out⟩
      rw [← HR.out, obOk]
      cases b <;> simp <;> omega
  by_cases k1 : k = 1
  · subst k1
    by_cases s0 : s = 0
    · go_wp2_with fail
      go_ret
      refine ⟨congrArg (fun b => Ending.returned (.bool b)) ?_, HO.out⟩
      rw [← HR.out, obOk]
      cases b <;> simp <;> omega
    · go_wp2_with fail
      go_ret
      refine ⟨congrArg (fun b => Ending.returned (.bool b)) ?_, HO.out⟩
      rw [← HR.out, obOk]
      cases b <;> simp <;> omega
  by_cases k3 : k = 3
  · subst k3
    go_wp2_with fail
    go_ret
    refine ⟨congrArg (fun b => Ending.returned (.bool b)) ?_, HO.out⟩
    rw [← HR.out, obOk, Bool.eq_iff_iff]
    simp
  by_cases k2 : k = 2 ∨ k = 4 ∨ k = 5
  · have HK := hid k2
    rcases k2 with rfl | rfl | rfl
    all_goals
      go_wp2_with fail
      refine (cSize _ _).mono ?_
      rintro e w2 ⟨rfl, rfl⟩
      go_wp2_with fail
      go_ret
      refine ⟨congrArg (fun b => Ending.returned (.bool b)) ?_, HO.out⟩
      rw [← HR.out, obOk, Bool.eq_iff_iff]
      simp
  by_cases k6 : k = 6 ∨ k = 7
  · rcases k6 with rfl | rfl
    all_goals
      go_wp2_with fail
      refine (cSize _ _).mono ?_
      rintro e w2 ⟨rfl, rfl⟩
      obtain ⟨q, hq⟩ : ∃ q, decide (1 ≤ s ∧ s ≤ 16) = q := ⟨_, rfl⟩
      have HQ := hid hq
      rw [hq]
      clear hq
      cases q
      · go_wp2_with fail
        go_ret
        have := of_decide_eq_false HQ.out
        exact ⟨by rw [← HR.out, obOk, decide_eq_false (by simp; omega)]; rfl, HO.out⟩
      · have hq := of_decide_eq_true HQ.out
        go_wp2_with fail
        go_ret
        refine ⟨congrArg (fun b => Ending.returned (.bool b)) ?_, HO.out⟩
        rw [← HR.out, obOk]
        cases b <;> simp <;> omega
  · have n0 : ¬ k = 2 := fun e => k2 (.inl e)
    have n1 : ¬ k = 4 := fun e => k2 (.inr (.inl e))
    have n2 : ¬ k = 5 := fun e => k2 (.inr (.inr e))
    have n3 : ¬ k = 6 := fun e => k6 (.inl e)
    have n4 : ¬ k = 7 := fun e => k6 (.inr e)
    have HN : Hid (¬ (k = 2 ∨ k = 4 ∨ k = 5)) := k2
    have HN2 : Hid (¬ (k = 6 ∨ k = 7)) := k6
    clear k2 k6
    go_wp2_with fail
    go_ret
    have E : r = false := by
      rw [← HR.out, obOk]
      refine decide_eq_false ?_
      show ¬ ((k = 0 ∧ 0 ≤ s ∧ s ≤ 15 ∧ b = false) ∨ (k = 1 ∧ s = 0 ∧ b = false) ∨ (k = 3 ∧ s = 0) ∨ ((k = 2 ∨ k = 4 ∨ k = 5) ∧ 1 ≤ s ∧ s ≤ 16) ∨ ((k = 6 ∨ k = 7) ∧ 1 ≤ s ∧ s ≤ 16 ∧ b = false))
      rintro (⟨h, _⟩ | ⟨h, _⟩ | ⟨h, _⟩ | ⟨h, _⟩ | ⟨h, _⟩)
      · exact k0 h
      · exact k1 h
      · exact k3 h
      · exact HN.out h
      · exact HN2.out h
    exact ⟨by rw [E]; rfl, HO.out⟩

set_option maxRecDepth 100000 in
set_option maxHeartbeats 1000000 in
theorem cThread {P : Nat → Prop} (w : World) (x : Th) (v0 v1 v2 v3 : Value) (h0 : v0 = .int .i64 x.prio) (h1 : v1 = .int .u32 x.caps) (hc : 0 ≤ x.caps ∧ x.caps ≤ 4294967295) (h3 : SlOf P 6 (clE P) w v3 x.prog) (m : Nat) (hm : m ≤ 8) :
    Calls Tryz.prog 135 #[.agg #[v0, v1, v2, v3], .int .i64 (m : Int)] w fun e w' => e = .returned (.bool (thOk m x)) ∧ Only (fun _ => False) w w' := by
  obtain ⟨pa, pc, rfl, pm⟩ := h3.shape
  subst h0 h1
  obtain ⟨cp, hcp⟩ : ∃ y, x.caps = y := ⟨_, rfl⟩
  obtain ⟨pr, hpr⟩ : ∃ y, x.prio = y := ⟨_, rfl⟩
  obtain ⟨l, hl⟩ : ∃ y, x.prog.length = y := ⟨_, rfl⟩
  obtain ⟨r, hr⟩ : ∃ y, thOk m x = y := ⟨_, rfl⟩
  have HR : Hid (decide (0 ≤ pr ∧ pr ≤ 15 ∧ cp < 2 ^ m ∧ l ≤ 40) = r) := by show _ = _; rw [← hr, thOk, hcp, hpr, hl]
  rw [hcp] at hc
  rw [hl] at pm
  rw [hcp, hpr, hl, hr]
  clear hcp hpr hl hr h3
  have hW : ∃ W z, W = w.alloc (.cells #[.int .i64 pr, .int .u32 cp, v2, .slice pa l pc] 61) ∧ z = w.heap.size ∧ Only (fun _ => False) w W ∧ W.cell? ⟨z, 0, none⟩ = some (.int .i64 pr) ∧ W.cell? ⟨z, 1, none⟩ = some (.int .u32 cp) ∧ W.cell? ⟨z, 3, none⟩ = some (.slice pa l pc) :=
    ⟨_, _, rfl, rfl, (Only.refl _ _).alloc _, cell_of_block (heap_new _ _) 0, cell_of_block (heap_new _ _) 1, cell_of_block (heap_new _ _) 3⟩
  obtain ⟨W, z, hWe, hze, hoW, c0, c1, c3⟩ := hW
  have HO := hid hoW
  clear hoW
  go_enter Tryz.func135, Tryz.ntmps135
  go_upto_region 1 with fail
  rw [← hWe, ← hze]
  clear hWe hze
  go_wp2_with fail
  refine (cPriority _ _).mono ?_
  rintro e w2 ⟨rfl, rfl⟩
  obtain ⟨q, hq⟩ : ∃ q, decide (0 ≤ pr ∧ pr < 16) = q := ⟨_, rfl⟩
  have HQ := hid hq
  rw [hq]
  clear hq
  cases q
  · go_wp2_with fail
    go_ret
    have := of_decide_eq_false HQ.out
    have E : r = false := by rw [← HR.out]; exact decide_eq_false (by omega)
    exact ⟨by rw [E]; rfl, HO.out⟩
  by_cases q3 : cp / 2 ^ m = 0
  · have HC := hid ((caps_lt hc.1 m).1 q3)
    go_wp2_with fail
    go_ret
    have := of_decide_eq_true HQ.out
    refine ⟨congrArg (fun b => Ending.returned (.bool b)) (a₁ := decide ((l : Int) ≤ 40)) ?_, HO.out⟩
    rw [← HR.out]
    exact decide_eq_decide.2 ⟨fun h => ⟨by omega, by omega, HC.out, by omega⟩, fun h => by omega⟩
  · have HC := hid (fun h => q3 ((caps_lt hc.1 m).2 h))
    go_wp2_with fail
    go_ret
    have E : r = false := by rw [← HR.out]; exact decide_eq_false (fun h => HC.out h.2.2.1)
    exact ⟨by rw [E]; rfl, HO.out⟩
end Go.Proofs.YtmcmjcaigipoaaaGreat

/-
  Package config: an end, a channel, ends that are shared. Conditions: none.
-/
namespace Go.Proofs.YtmcmjcaigipoaaaGreat
open Go.RowKit Go.Sept

set_option maxRecDepth 100000 in
set_option maxHeartbeats 1000000 in
theorem cEnd {P : Nat → Prop} (w : World) (v : Value) (ps : List Pt) (h : SlOf P 2 (ptE P) w v ps) (p o k : Int) :
    Calls Tryz.prog 137 #[v, .int .i64 p, .int .i64 o, .int .i64 k] w fun e w' => e = .returned (.bool (endOk ps p o k)) ∧ w' = w := by
  obtain ⟨pa, pc, rfl, pm⟩ := h.shape
  have HP := hid h
  obtain ⟨n, hn⟩ : ∃ n, ps.length = n := ⟨_, rfl⟩
  have HN := hid hn
  obtain ⟨r, hr⟩ : ∃ r, endOk ps p o k = r := ⟨_, rfl⟩
  have HR := hid hr
  rw [hr]
  rw [hn] at pm ⊢
  clear h hn hr
  go_enter Tryz.func137, Tryz.ntmps137
  go_wp2_with fail
  refine (cNumber _ _ _).mono ?_
  rintro e w2 ⟨rfl, rfl⟩
  by_cases h12 : 0 ≤ p ∧ p < n
  · rw [decide_eq_true h12]
    obtain ⟨h1, h2⟩ := h12
    obtain ⟨pn, rfl⟩ : ∃ x : Nat, p = x := ⟨p.toNat, by omega⟩
    obtain ⟨b, off, rfl, _, x, hx, ⟨u0, k0, k1⟩, ⟨u1, k2, k3⟩⟩ := HP.out.get pn (by rw [HN.out]; omega)
    obtain ⟨oa, oc, rfl, om⟩ := k3.shape
    have e1 : w2.cell? ⟨b, off + pn * 2 + 1, none⟩ = some (.slice oa x.obs.length oc) := k2
    obtain ⟨m, hm⟩ : ∃ m, x.obs.length = m := ⟨_, rfl⟩
    have HQ := hid k3
    have HX := hid hx
    have HM := hid hm
    rw [hm] at e1 om
    clear k0 k1 k2 k3 hx hm
    go_wp2_with fail
    refine (cNumber _ _ _).mono ?_
    rintro e w3 ⟨rfl, rfl⟩
    by_cases h34 : 0 ≤ o ∧ o < m
    · rw [decide_eq_true h34]
      obtain ⟨h3, h4⟩ := h34
      obtain ⟨on, rfl⟩ : ∃ x : Nat, o = x := ⟨o.toNat, by omega⟩
      obtain ⟨b2, off2, rfl, _, y, hy, j1, _, _⟩ := HQ.out.get on (by rw [HM.out]; omega)
      have f0 : w3.cell? ⟨b2, off2 + on * 3, none⟩ = some (.int .i64 y.kind) := j1.1
      have hb := endOk_some (k := k) (o := on) HX.out
      rw [hy, Option.any_some, HR.out] at hb
      obtain ⟨yk, hyk⟩ : ∃ x, y.kind = x := ⟨_, rfl⟩
      rw [hyk] at f0 hb
      have HRE := hid hb
      clear j1 hy hyk hb
      go_wp2_with fail
      go_ret
      exact ⟨by rw [HRE.out]; exact congrArg (fun b => Ending.returned (.bool b)) (by by_cases e : yk = k <;> simp [e]), rfl⟩
    · rw [decide_eq_false h34]
      have HRE : Hid (r = false) := by
        show _ = _
        rw [← HR.out]
        by_cases h3 : 0 ≤ o
        · obtain ⟨on, rfl⟩ : ∃ x : Nat, o = x := ⟨o.toNat, by omega⟩
          rw [endOk_some HX.out, List.getElem?_eq_none (by rw [HM.out]; omega), Option.any_none]
        · rw [endOk_neg (by omega)]
      clear h34
      go_wp2_with fail
      go_ret
      exact ⟨by rw [HRE.out]; rfl, rfl⟩
  · rw [decide_eq_false h12]
    have HRE : Hid (r = false) := by
      show _ = _
      rw [← HR.out]
      by_cases h3 : 0 ≤ p
      · rw [endOk_part (by rw [HN.out]; omega)]
      · rw [endOk_neg (by omega)]
    clear h12
    go_wp2_with fail
    go_ret
    exact ⟨by rw [HRE.out]; rfl, rfl⟩

/-- A channel's cells. -/
abbrev chO (xf xo xt xi : Int) : Obj := .cells #[.int .i64 xf, .int .i64 xo, .int .i64 xt, .int .i64 xi] 128
theorem ch_cells {V wr : World} {y : Nat} {xf xo xt xi : Int} (hB : V.heap[y]? = some (chO xf xo xt xi)) (ho : Only (fun _ => False) V wr) : wr.cell? ⟨y, 0, none⟩ = some (.int .i64 xf) ∧ wr.cell? ⟨y, 1, none⟩ = some (.int .i64 xo) ∧ wr.cell? ⟨y, 2, none⟩ = some (.int .i64 xt) ∧ wr.cell? ⟨y, 3, none⟩ = some (.int .i64 xi) := by
  have hb := (ho.block y (lt_of_block hB) (fun h => h)).trans hB
  exact ⟨cell_of_block hb 0, cell_of_block hb 1, cell_of_block hb 2, cell_of_block hb 3⟩

set_option maxRecDepth 100000 in
set_option maxHeartbeats 1000000 in
theorem cChannel {P : Nat → Prop} (w : World) (v : Value) (ps : List Pt) (h : SlOf P 2 (ptE P) w v ps) (xf xo xt xi : Int) :
    Calls Tryz.prog 122 #[.agg #[.int .i64 xf, .int .i64 xo, .int .i64 xt, .int .i64 xi], v] w fun e w' => e = .returned (.bool (chOk ps ⟨xf, xo, xt, xi⟩)) ∧ Only (fun _ => False) w w' := by
  obtain ⟨pa, pc, rfl, pm⟩ := h.shape
  have hW : ∃ W z, W = w.alloc (chO xf xo xt xi) ∧ z = w.heap.size ∧ Only (fun _ => False) w W ∧ W.heap[z]? = some (chO xf xo xt xi) := ⟨_, _, rfl, rfl, (Only.refl _ _).alloc _, heap_new _ _⟩
  obtain ⟨W, z, hWe, hze, hoW, hbz⟩ := hW
  obtain ⟨c0, c1, c2, c3⟩ := ch_cells hbz (Only.refl _ _)
  obtain ⟨n, hn⟩ : ∃ n, ps.length = n := ⟨_, rfl⟩
  have HP := hid (h.only (stay_pt hoW (fun _ _ h => h)))
  have HO := hid hoW
  rw [hn] at pm HP ⊢
  clear h hn hoW hbz
  obtain ⟨a1, ha1⟩ : ∃ y, endOk ps xf xo 6 = y := ⟨_, rfl⟩
  obtain ⟨a2, ha2⟩ : ∃ y, endOk ps xt xi 7 = y := ⟨_, rfl⟩
  obtain ⟨r, hr⟩ : ∃ r, chOk ps ⟨xf, xo, xt, xi⟩ = r := ⟨_, rfl⟩
  have HR : Hid (r = (a1 && a2 && decide (xf ≠ xt))) := by show _ = _; rw [← hr, chOk, ha1, ha2]
  have HA1 := hid ha1
  have HA2 := hid ha2
  rw [hr]
  clear ha1 ha2 hr
  simp only [chO] at hWe
  go_enter Tryz.func122, Tryz.ntmps122
  go_upto_region 1 with fail
  rw [← hWe, ← hze]
  clear hWe hze
  by_cases hft : xf = xt
  · have HE : Hid (r = false) := by show _ = _; rw [HR.out, decide_eq_false (fun e => e hft), Bool.and_false]
    subst hft
    go_wp2_with fail
    go_ret
    exact ⟨by rw [HE.out]; rfl, HO.out⟩
  · have HF : Hid (r = (a1 && a2)) := by show _ = _; rw [HR.out, decide_eq_true hft, Bool.and_true]
    go_wp2_with fail
    refine (cEnd _ _ _ HP.out _ _ _).mono ?_
    rintro e w2 ⟨rfl, rfl⟩
    rw [HA1.out]
    cases a1
    · go_wp2_with fail
      go_ret
      exact ⟨by rw [HF.out]; rfl, HO.out⟩
    go_wp2_with fail
    refine (cEnd _ _ _ HP.out _ _ _).mono ?_
    rintro e w3 ⟨rfl, rfl⟩
    rw [HA2.out]
    go_wp2_with fail
    go_ret
    exact ⟨congrArg (fun b => Ending.returned (.bool b)) (a₁ := (xf != xt && a2)) (by rw [HF.out]; simp [hft]), HO.out⟩

set_option maxRecDepth 100000 in
set_option maxHeartbeats 1000000 in
theorem cShares {P : Nat → Prop} (w : World) (v : Value) (l : List Chn) (h : SlOf P 4 chnE w v l) (xf xo xt xi : Int) :
    Calls Tryz.prog 123 #[.agg #[.int .i64 xf, .int .i64 xo, .int .i64 xt, .int .i64 xi], v] w fun e w' => e = .returned (.bool (l.any (clash ⟨xf, xo, xt, xi⟩))) ∧ Only (fun _ => False) w w' := by
  obtain ⟨la, lc, rfl, lm⟩ := h.shape
  have hW : ∃ W z, W = w.alloc (chO xf xo xt xi) ∧ z = w.heap.size ∧ Only (fun _ => False) w W ∧ W.heap[z]? = some (chO xf xo xt xi) := ⟨_, _, rfl, rfl, (Only.refl _ _).alloc _, heap_new _ _⟩
  obtain ⟨W, z, hWe, hze, hoW, hbz⟩ := hW
  obtain ⟨n, hn⟩ : ∃ n, l.length = n := ⟨_, rfl⟩
  have HN := hid hn
  have HL := hid (h.only (stay_chn hoW (fun _ _ h => h)))
  have HO := hid hoW
  have HB := hid hbz
  obtain ⟨r, hr⟩ : ∃ r, l.any (clash ⟨xf, xo, xt, xi⟩) = r := ⟨_, rfl⟩
  have HR := hid hr
  rw [hn] at lm HL ⊢
  rw [hr]
  clear h hn hoW hbz hr
  simp only [chO] at hWe
  go_enter Tryz.func123, Tryz.ntmps123
  go_upto_region 1 with fail
  rw [← hWe, ← hze]
  clear hWe hze
  go_wp2_with fail
  go_loopw [9] (fun i wx => ∃ q : Nat, i = .int .i64 (q : Int) ∧ q ≤ n ∧ (∀ a x', a < q → l[a]? = some x' → clash ⟨xf, xo, xt, xi⟩ x' = false) ∧ Only (fun _ => False) W wx) (fun i _ => n - (intOf i).toNat)
  case atStart => exact ⟨0, rfl, Nat.zero_le _, (fun a x ha => absurd ha (Nat.not_lt_zero _)), Only.refl _ _⟩
  case round =>
  obtain ⟨q, rfl, hq, hcl, hox⟩ := hrel
  have HCL := hid hcl
  have HX := hid hox
  clear hcl hox
  by_cases hlt : (q : Int) < (n : Int)
  · obtain ⟨b, off, rfl, _, x2, hx2, k1, k2, k3, k4⟩ := (HL.out.only (stay_chn HX.out (fun _ _ h => h))).get q (by rw [HN.out]; omega)
    obtain ⟨zf, hzf⟩ : ∃ y, x2.src = y := ⟨_, rfl⟩
    obtain ⟨zo, hzo⟩ : ∃ y, x2.out = y := ⟨_, rfl⟩
    obtain ⟨zt, hzt⟩ : ∃ y, x2.dst = y := ⟨_, rfl⟩
    obtain ⟨zi, hzi⟩ : ∃ y, x2.inn = y := ⟨_, rfl⟩
    have e0 : wr.cell? ⟨b, off + q * 4, none⟩ = some (.int .i64 x2.src) := k1.1
    have e1 : wr.cell? ⟨b, off + q * 4 + 1, none⟩ = some (.int .i64 x2.out) := k2.1
    have e2 : wr.cell? ⟨b, off + q * 4 + 2, none⟩ = some (.int .i64 x2.dst) := k3.1
    have e3 : wr.cell? ⟨b, off + q * 4 + 3, none⟩ = some (.int .i64 x2.inn) := k4.1
    have HG2 := hid hx2
    have HCE : Hid (clash ⟨xf, xo, xt, xi⟩ x2 = decide ((xf = zf ∧ xo = zo) ∨ (xt = zt ∧ xi = zi))) := by show _ = _; rw [clash, hzf, hzo, hzt, hzi]
    rw [hzf] at e0
    rw [hzo] at e1
    rw [hzt] at e2
    rw [hzi] at e3
    have hV : ∃ V y2, V = wr.alloc (chO zf zo zt zi) ∧ y2 = wr.heap.size ∧ Only (fun _ => False) W V ∧ V.heap[y2]? = some (chO zf zo zt zi) :=
      ⟨_, _, rfl, rfl, HX.out.alloc _, heap_new _ _⟩
    obtain ⟨V, y2, hVe, hye, hoV, hby2⟩ := hV
    obtain ⟨f0, f1, f2, f3⟩ := ch_cells HB.out hoV
    obtain ⟨g0, g1, g2, g3⟩ := ch_cells hby2 (Only.refl _ _)
    have HV := hid hoV
    have HYES : Hid ((xf = zf ∧ xo = zo) ∨ (xt = zt ∧ xi = zi) → r = true) := fun e => by
      rw [← HR.out]
      exact any_yes HG2.out (by rw [HCE.out]; exact decide_eq_true e)
    have HNO : Hid (¬ ((xf = zf ∧ xo = zo) ∨ (xt = zt ∧ xi = zi)) → ∀ a x', a < q + 1 → l[a]? = some x' → clash ⟨xf, xo, xt, xi⟩ x' = false) := fun e a y ha hy => by
      by_cases ea : a = q
      · subst ea
        rw [HG2.out] at hy
        injection hy with hy
        subst hy
        rw [HCE.out]
        exact decide_eq_false e
      · exact HCL.out a y (by omega) hy
    clear hoV hby2 k1 k2 k3 k4 hx2 hzf hzo hzt hzi
    simp only [chO] at hVe
    go_upto_region 4 with fail
    rw [← hVe, ← hye]
    clear hVe hye e0 e1 e2 e3
    have HEND := hid (HO.out.chain HV.out (fun _ _ h => h))
    by_cases a1 : xf = zf
    · have b1 : (zf == xf) = true := beq_iff_eq.2 a1.symm
      by_cases a2 : xo = zo
      · have b2 : (zo == xo) = true := beq_iff_eq.2 a2.symm
        have HE := hid (HYES.out (.inl ⟨a1, a2⟩))
        clear a1 a2
        go_wp2_with fail
        go_ret
        exact ⟨by rw [HE.out]; rfl, HEND.out⟩
      · have b2 : (zo == xo) = false := beq_eq_false_iff_ne.2 (fun e => a2 e.symm)
        by_cases a3 : xt = zt
        · have b3 : (zt == xt) = true := beq_iff_eq.2 a3.symm
          by_cases a4 : xi = zi
          · have b4 : (zi == xi) = true := beq_iff_eq.2 a4.symm
            have HE := hid (HYES.out (.inr ⟨a3, a4⟩))
            clear a1 a2 a3 a4
            go_wp2_with fail
            go_ret
            exact ⟨by rw [HE.out]; rfl, HEND.out⟩
          · have b4 : (zi == xi) = false := beq_eq_false_iff_ne.2 (fun e => a4 e.symm)
            have HE := hid (HNO.out (by omega))
            clear a1 a2 a3 a4
            go_wp2_with fail
            go_roundw
            case rel => exact ⟨q + 1, by go_num, by omega, HE.out, HV.out⟩
            case measure => simp [intOf]; omega
        · have b3 : (zt == xt) = false := beq_eq_false_iff_ne.2 (fun e => a3 e.symm)
          have HE := hid (HNO.out (by omega))
          clear a1 a2 a3
          go_wp2_with fail
          go_roundw
          case rel => exact ⟨q + 1, by go_num, by omega, HE.out, HV.out⟩
          case measure => simp [intOf]; omega
    · have b1 : (zf == xf) = false := beq_eq_false_iff_ne.2 (fun e => a1 e.symm)
      by_cases a3 : xt = zt
      · have b3 : (zt == xt) = true := beq_iff_eq.2 a3.symm
        by_cases a4 : xi = zi
        · have b4 : (zi == xi) = true := beq_iff_eq.2 a4.symm
          have HE := hid (HYES.out (.inr ⟨a3, a4⟩))
          clear a1 a3 a4
          go_wp2_with fail
          go_ret
          exact ⟨by rw [HE.out]; rfl, HEND.out⟩
        · have b4 : (zi == xi) = false := beq_eq_false_iff_ne.2 (fun e => a4 e.symm)
          have HE := hid (HNO.out (by omega))
          clear a1 a3 a4
          go_wp2_with fail
          go_roundw
          case rel => exact ⟨q + 1, by go_num, by omega, HE.out, HV.out⟩
          case measure => simp [intOf]; omega
      · have b3 : (zt == xt) = false := beq_eq_false_iff_ne.2 (fun e => a3 e.symm)
        have HE := hid (HNO.out (by omega))
        clear a1 a3
        go_wp2_with fail
        go_roundw
        case rel => exact ⟨q + 1, by go_num, by omega, HE.out, HV.out⟩
        case measure => simp [intOf]; omega
  · have HE : Hid (r = false) := by
      show _ = _
      rw [← HR.out]
      exact any_no (fun a x' ha hx' => HCL.out a x' (by rw [HN.out] at ha; omega) hx')
    go_wp2_with fail
    go_ret
    exact ⟨by rw [HE.out]; rfl, HO.out.chain HX.out (fun _ _ h => h)⟩
end Go.Proofs.YtmcmjcaigipoaaaGreat

/-
  Package config: what is wrong with a partition, with partitions. Conditions: none.
-/
namespace Go.Sept
/-- What is wrong with the partitions first: 1 to 5. -/
def partsW (ps : List Pt) : Int := if ps.length < 1 ∨ 4 < ps.length then 1 else firstW ps
/-- With the windows: 6 to 8. -/
def winsW (n : Nat) (l : List Win) : Int := if l.length < 1 ∨ 16 < l.length then 6 else if l.all (winOk n) = false then 7 else if (List.range n).all (hasWin l) = false then 8 else 0
/-- With the channels: 9 to 11. -/
def chsW (ps : List Pt) (l : List Chn) : Int := if 8 < l.length then 9 else chansW ps [] l
theorem wrongW_eq (c : Cf) : wrongW c = if partsW c.parts ≠ 0 then partsW c.parts else if winsW c.parts.length c.wins ≠ 0 then winsW c.parts.length c.wins else chsW c.parts c.chans := by
  unfold wrongW partsW
  by_cases h1 : c.parts.length < 1 ∨ 4 < c.parts.length
  · rw [if_pos h1, if_pos h1, if_pos (by decide)]
  · rw [if_neg h1, if_neg h1]
    by_cases h2 : firstW c.parts ≠ 0
    · rw [if_pos h2, if_pos h2]
    · rw [if_neg h2, if_neg h2]
      unfold winsW chsW
      by_cases h6 : c.wins.length < 1 ∨ 16 < c.wins.length
      · rw [if_pos h6, if_pos h6, if_pos (by decide)]
      · rw [if_neg h6, if_neg h6]
        by_cases h7 : c.wins.all (winOk c.parts.length) = false
        · rw [if_pos h7, if_pos h7, if_pos (by decide)]
        · rw [if_neg h7, if_neg h7]
          by_cases h8 : (List.range c.parts.length).all (hasWin c.wins) = false
          · rw [if_pos h8, if_pos h8, if_pos (by decide)]
          · rw [if_neg h8, if_neg h8]
            exact (if_neg (c := (0 : Int) ≠ 0) (by decide)).symm
end Go.Sept
namespace Go.Proofs.YtmcmjcaigipoaaaGreat
open Go.RowKit Go.Sept

set_option maxRecDepth 100000 in
set_option maxHeartbeats 1000000 in
theorem cPart {P : Nat → Prop} (w : World) (v0 v1 : Value) (p : Pt) (h : PtIs P w v0 v1 p) :
    Calls Tryz.prog 119 #[.agg #[v0, v1]] w fun e w' => e = .returned (.int .i64 (partW p)) ∧ Only (fun _ => False) w w' := by
  obtain ⟨hT, hO⟩ := h
  obtain ⟨ta, tc, rfl, tm⟩ := hT.shape
  obtain ⟨oa, oc, rfl, om⟩ := hO.shape
  have hW : ∃ W z, W = w.alloc (ptO (.slice ta p.ths.length tc) (.slice oa p.obs.length oc)) ∧ z = w.heap.size ∧ Only (fun _ => False) w W ∧ W.heap[z]? = some (ptO (.slice ta p.ths.length tc) (.slice oa p.obs.length oc)) := ⟨_, _, rfl, rfl, (Only.refl _ _).alloc _, heap_new _ _⟩
  obtain ⟨W, z, hWe, hze, hoW, hbz⟩ := hW
  have HT := hid hT
  have HU := hid hO
  have HO := hid hoW
  have HB := hid hbz
  have c0 : W.cell? ⟨z, 0, none⟩ = some (.slice ta p.ths.length tc) := cell_of_block hbz 0
  have c1 : W.cell? ⟨z, 1, none⟩ = some (.slice oa p.obs.length oc) := cell_of_block hbz 1
  obtain ⟨n, hn⟩ : ∃ n, p.ths.length = n := ⟨_, rfl⟩
  obtain ⟨m, hm⟩ : ∃ m, p.obs.length = m := ⟨_, rfl⟩
  have HN := hid hn
  have HM := hid hm
  obtain ⟨pw, hpw⟩ : ∃ x, partW p = x := ⟨_, rfl⟩
  have HW := hid hpw
  clear hT hO hoW hbz
  rw [hn] at hWe c0 tm ⊢
  rw [hm] at hWe c1 om ⊢
  rw [hpw]
  rw [partW, hn, hm] at hpw
  have HE := hid hpw
  clear hn hm hpw HW
  simp only [ptO] at hWe
  go_enter Tryz.func119, Tryz.ntmps119
  go_upto_region 1 with fail
  rw [← hWe, ← hze]
  clear hWe hze
  by_cases h1 : (n : Int) < 1
  · go_wp2_with fail
    go_ret
    exact ⟨by rw [← HE.out, if_pos (by omega)]; rfl, HO.out⟩
  by_cases h2 : (6 : Int) < n
  · go_wp2_with fail
    go_ret
    exact ⟨by rw [← HE.out, if_pos (by omega)]; rfl, HO.out⟩
  by_cases h3 : (8 : Int) < m
  · go_wp2_with fail
    go_ret
    exact ⟨by rw [← HE.out, if_neg (by omega), if_pos (by omega)]; rfl, HO.out⟩
  go_wp2_with fail
  go_loopw [24] (fun i wx => ∃ j : Nat, i = .int .i64 (j : Int) ∧ j ≤ n ∧ (∀ i x, i < j → p.ths[i]? = some x → thOk m x = true) ∧ Only (fun _ => False) W wx) (fun i _ => n - (intOf i).toNat)
  case atStart => exact ⟨0, rfl, Nat.zero_le _, (fun i p hi => absurd hi (Nat.not_lt_zero _)), Only.refl _ _⟩
  case round =>
  obtain ⟨j, rfl, hj, hall, hox⟩ := hrel
  have HA := hid hall
  have HX := hid hox
  have hbz := (hox.block z (lt_of_block HB.out) (fun h => h)).trans HB.out
  have d0 : wr.cell? ⟨z, 0, none⟩ = some (.slice ta p.ths.length tc) := cell_of_block hbz 0
  have d1 : wr.cell? ⟨z, 1, none⟩ = some (.slice oa p.obs.length oc) := cell_of_block hbz 1
  rw [HN.out] at d0
  rw [HM.out] at d1
  clear hall hox hbz c0 c1
  by_cases hlt : (j : Int) < (n : Int)
  · have hp := HT.out.only (stay_th (HO.out.chain HX.out (fun _ _ h => h)) (fun _ _ h => h))
    obtain ⟨b, off, rfl, _, x, hx, k1, k2, k3, k4, v, k5, k6⟩ := hp.get j (by rw [HN.out]; omega)
    obtain ⟨pa, pc, rfl, pm⟩ := k6.shape
    have HG := hid hx
    have HCP := hid k3
    have e0 : wr.cell? ⟨b, off + j * 4, none⟩ = some (.int .i64 x.prio) := k1.1
    have e1 : wr.cell? ⟨b, off + j * 4 + 1, none⟩ = some (.int .u32 x.caps) := k2
    have e2 : wr.cell? ⟨b, off + j * 4 + 2, none⟩ = some (.bool x.ctl) := k4
    have e3 : wr.cell? ⟨b, off + j * 4 + 3, none⟩ = some (.slice pa x.prog.length pc) := k5
    have hV : ∃ V y, V = wr.alloc (.cells #[.int .i64 x.prio, .int .u32 x.caps, .bool x.ctl, .slice pa x.prog.length pc] 61) ∧ y = wr.heap.size ∧ Only (fun _ => False) W V ∧ Only (fun _ => False) wr V ∧ V.cell? ⟨y, 0, none⟩ = some (.int .i64 x.prio) ∧ V.cell? ⟨y, 1, none⟩ = some (.int .u32 x.caps) ∧ V.cell? ⟨y, 2, none⟩ = some (.bool x.ctl) ∧ V.cell? ⟨y, 3, none⟩ = some (.slice pa x.prog.length pc) ∧ V.cell? ⟨z, 1, none⟩ = some (.slice oa m oc) :=
      ⟨_, _, rfl, rfl, HX.out.alloc _, (Only.refl _ _).alloc _, cell_of_block (heap_new _ _) 0, cell_of_block (heap_new _ _) 1, cell_of_block (heap_new _ _) 2, cell_of_block (heap_new _ _) 3, (World.cell?_of_block (Below.heap_alloc _ _ _ (World.block_lt_of_cell? _ _ d1))).trans d1⟩
    obtain ⟨V, y, hVe, hye, hoV, hoV2, f0, f1, f2, f3, g1⟩ := hV
    have HV := hid hoV
    have HPR := hid (k6.only (stay_cl hoV2 (fun _ _ h => h)))
    clear hoV hoV2 hp k1 k2 k3 k4 k5 k6 hx
    go_upto_region 8 with fail
    rw [← hVe, ← hye]
    clear hVe hye d0 d1 e0 e1 e2 e3
    go_wp2_with fail
    refine (cThread _ x _ _ _ _ rfl rfl HCP.out HPR.out m (by omega)).mono ?_
    rintro e w3 ⟨rfl, ho3⟩
    obtain ⟨ok, hok⟩ : ∃ y, thOk m x = y := ⟨_, rfl⟩
    have HK := hid hok
    have HV3 := hid (HV.out.chain ho3 (fun _ _ h => h))
    rw [hok]
    clear hok ho3 HV f0 f1 f2 f3 g1 HPR
    cases ok
    · go_wp2_with fail
      go_ret
      exact ⟨by rw [← HE.out, if_neg (by omega), if_neg (by omega), if_pos (all_no HG.out HK.out)]; rfl, HO.out.chain HV3.out (fun _ _ h => h)⟩
    · go_wp2_with fail
      go_roundw
      case rel =>
        refine ⟨j + 1, by go_num, by omega, ?_, HV3.out⟩
        intro i y hi hy
        by_cases e : i = j
        · subst e
          rw [HG.out] at hy
          injection hy with hy
          subst hy
          exact HK.out
        · exact HA.out i y (by omega) hy
      case measure => simp [intOf]; omega
  have HJ : Hid (p.ths.all (thOk m) = true) := all_yes (fun i x hi hx => HA.out i x (by rw [HN.out] at hi; omega) hx)
  go_wp2_with fail
  clear hlt
  go_loopw [38] (fun i wx => ∃ j : Nat, i = .int .i64 (j : Int) ∧ j ≤ m ∧ (∀ i x, i < j → p.obs[i]? = some x → obOk x = true) ∧ Only (fun _ => False) W wx) (fun i _ => m - (intOf i).toNat)
  case atStart => exact ⟨0, rfl, Nat.zero_le _, (fun i p hi => absurd hi (Nat.not_lt_zero _)), HX.out⟩
  case round =>
  obtain ⟨i, rfl, hi, hall, hox⟩ := hrel
  have HA2 := hid hall
  have HX2 := hid hox
  clear hall hox HA HX d0 d1
  by_cases hlt : (i : Int) < (m : Int)
  · have hp := HU.out.only (stay_ob (HO.out.chain HX2.out (fun _ _ h => h)) (fun _ _ h => h))
    obtain ⟨b, off, rfl, _, x, hx, k1, k2, k3⟩ := hp.get i (by rw [HM.out]; omega)
    have HG := hid hx
    have e0 : wr.cell? ⟨b, off + i * 3, none⟩ = some (.int .i64 x.kind) := k1.1
    have e1 : wr.cell? ⟨b, off + i * 3 + 1, none⟩ = some (.int .i64 x.size) := k2.1
    have e2 : wr.cell? ⟨b, off + i * 3 + 2, none⟩ = some (.bool x.prio) := k3
    have hV : ∃ V y, V = wr.alloc (.cells #[.int .i64 x.kind, .int .i64 x.size, .bool x.prio] 96) ∧ y = wr.heap.size ∧ Only (fun _ => False) W V ∧ V.cell? ⟨y, 0, none⟩ = some (.int .i64 x.kind) ∧ V.cell? ⟨y, 1, none⟩ = some (.int .i64 x.size) ∧ V.cell? ⟨y, 2, none⟩ = some (.bool x.prio) :=
      ⟨_, _, rfl, rfl, HX2.out.alloc _, cell_of_block (heap_new _ _) 0, cell_of_block (heap_new _ _) 1, cell_of_block (heap_new _ _) 2⟩
    obtain ⟨V, y, hVe, hye, hoV, f0, f1, f2⟩ := hV
    have HV := hid hoV
    clear hp k1 k2 k3 hx hoV
    go_upto_region 14 with fail
    rw [← hVe, ← hye]
    clear hVe hye e0 e1 e2
    go_wp2_with fail
    refine (cObject _ x).mono ?_
    rintro e w2 ⟨rfl, ho2⟩
    obtain ⟨ok, hok⟩ : ∃ y, obOk x = y := ⟨_, rfl⟩
    have HK := hid hok
    have HO2 := hid (HV.out.chain ho2 (fun _ _ h => h))
    rw [hok]
    clear hok ho2 HV f0 f1 f2
    cases ok
    · go_wp2_with fail
      go_ret
      exact ⟨by rw [← HE.out, if_neg (by omega), if_neg (by omega), if_neg (by rw [HJ.out]; decide), if_pos (all_no HG.out HK.out)]; rfl, HO.out.chain HO2.out (fun _ _ h => h)⟩
    · go_wp2_with fail
      go_roundw
      case rel =>
        refine ⟨i + 1, by go_num, by omega, ?_, HO2.out⟩
        intro a y ha hy
        by_cases e : a = i
        · subst e
          rw [HG.out] at hy
          injection hy with hy
          subst hy
          exact HK.out
        · exact HA2.out a y (by omega) hy
      case measure => simp [intOf]; omega
  · have HJ2 : Hid (p.obs.all obOk = true) := all_yes (fun a x ha hx => HA2.out a x (by rw [HM.out] at ha; omega) hx)
    go_wp2_with fail
    go_ret
    exact ⟨by rw [← HE.out, if_neg (by omega), if_neg (by omega), if_neg (by rw [HJ.out]; decide), if_neg (by rw [HJ2.out]; decide)]; rfl, HO.out.chain HX2.out (fun _ _ h => h)⟩

set_option maxRecDepth 100000 in
set_option maxHeartbeats 1000000 in
theorem cParts {P : Nat → Prop} (w : World) (v : Value) (ps : List Pt) (h : SlOf P 2 (ptE P) w v ps) :
    Calls Tryz.prog 90 #[v] w fun e w' => e = .returned (.int .i64 (partsW ps)) ∧ Only (fun _ => False) w w' := by
  obtain ⟨pa, pc, rfl, pm⟩ := h.shape
  obtain ⟨n, hn⟩ : ∃ n, ps.length = n := ⟨_, rfl⟩
  have HN := hid hn
  have HP := hid h
  obtain ⟨r, hr⟩ : ∃ r, partsW ps = r := ⟨_, rfl⟩
  have HR : Hid ((if n < 1 ∨ 4 < n then 1 else firstW ps) = r) := by show _ = _; rw [← hr, partsW, hn]
  rw [hn] at pm HP ⊢
  rw [hr]
  clear h hn hr
  go_enter Tryz.func90, Tryz.ntmps90
  by_cases q1 : (n : Int) < 1
  · go_wp2_with fail
    go_ret
    exact ⟨by rw [← HR.out, if_pos (by omega)]; rfl, Only.refl _ _⟩
  by_cases q2 : (4 : Int) < n
  · go_wp2_with fail
    go_ret
    exact ⟨by rw [← HR.out, if_pos (by omega)]; rfl, Only.refl _ _⟩
  have HF : Hid (firstW ps = r) := by show _ = _; rw [← HR.out, if_neg (by omega)]
  clear HR
  go_wp2_with fail
  go_loopw [16] (fun i wx => ∃ j : Nat, i = .int .i64 (j : Int) ∧ j ≤ n ∧ firstW (ps.drop j) = r ∧ Only (fun _ => False) w wx) (fun i _ => n - (intOf i).toNat)
  case atStart => exact ⟨0, rfl, Nat.zero_le _, HF.out, Only.refl _ _⟩
  case round =>
  obtain ⟨j, rfl, hj, hfw, hox⟩ := hrel
  have HF2 := hid hfw
  have HX := hid hox
  clear hfw hox HF
  by_cases hlt : (j : Int) < (n : Int)
  · obtain ⟨b, off, rfl, _, x, hx, ⟨u0, k0, k1⟩, ⟨u1, k2, k3⟩⟩ := (HP.out.only (stay_pt HX.out (fun _ _ h => h))).get j (by rw [HN.out]; omega)
    obtain ⟨ta, tc, rfl, tm⟩ := k1.shape
    obtain ⟨oa, oc, rfl, om⟩ := k3.shape
    have e0 : wr.cell? ⟨b, off + j * 2, none⟩ = some (.slice ta x.ths.length tc) := k0
    have e1 : wr.cell? ⟨b, off + j * 2 + 1, none⟩ = some (.slice oa x.obs.length oc) := k2
    have hst := first_step hx
    rw [HF2.out] at hst
    obtain ⟨pw, hpw⟩ : ∃ y, partW x = y := ⟨_, rfl⟩
    rw [hpw] at hst
    have HPW := hid hpw
    have HS := hid hst
    have hV : ∃ V y, V = wr.alloc (ptO (.slice ta x.ths.length tc) (.slice oa x.obs.length oc)) ∧ y = wr.heap.size ∧ Only (fun _ => False) w V ∧ Only (fun _ => False) wr V ∧ V.cell? ⟨y, 0, none⟩ = some (.slice ta x.ths.length tc) ∧ V.cell? ⟨y, 1, none⟩ = some (.slice oa x.obs.length oc) :=
      ⟨_, _, rfl, rfl, HX.out.alloc _, (Only.refl _ _).alloc _, cell_of_block (heap_new _ _) 0, cell_of_block (heap_new _ _) 1⟩
    obtain ⟨V, y, hVe, hye, hoV, hoV2, f0, f1⟩ := hV
    have HV := hid hoV
    have HI : Hid (PtIs P V (.slice ta x.ths.length tc) (.slice oa x.obs.length oc) x) := ⟨k1.only (stay_th hoV2 (fun _ _ h => h)), k3.only (stay_ob hoV2 (fun _ _ h => h))⟩
    clear k0 k1 k2 k3 hx hpw hst HF2 HX hoV hoV2
    simp only [ptO] at hVe
    go_upto_region 6 with fail
    rw [← hVe, ← hye]
    clear hVe hye e0 e1
    go_wp2_with fail
    refine (cPart _ _ _ x HI.out).mono ?_
    rintro e w2 ⟨rfl, ho2⟩
    have HO2 := hid (HV.out.chain ho2 (fun _ _ h => h))
    rw [HPW.out]
    clear ho2 HI HPW f0 f1
    by_cases hz : pw = 0
    · go_wp2_with fail
      go_roundw
      case rel => exact ⟨j + 1, by go_num, by omega, by rw [HS.out, if_neg (fun e => e hz)], HO2.out⟩
      case measure => simp [intOf]; omega
    · go_wp2_with fail
      go_ret
      exact ⟨by rw [HS.out, if_pos hz]; rfl, HO2.out⟩
  · have HE : Hid (r = 0) := by show _ = _; rw [← HF2.out, first_end (by rw [HN.out]; omega)]
    go_wp2_with fail
    go_ret
    exact ⟨by rw [HE.out]; rfl, HX.out⟩
end Go.Proofs.YtmcmjcaigipoaaaGreat

/-
  Package config: what is wrong with the windows, the channels, with all; Valid, Frame. Conditions: none.
-/
namespace Go.Proofs.YtmcmjcaigipoaaaGreat
open Go.RowKit Go.Sept

/-- The array of the partitions that have a window. -/
def HasIs (w : World) (z : Nat) (f : Nat → Bool) : Prop := w.heap[z]? = some (.cells #[.bool (f 0), .bool (f 1), .bool (f 2), .bool (f 3)] 181)
theorem HasIs.cell {w : World} {z : Nat} {f : Nat → Bool} (h : HasIs w z f) (i : Nat) (hi : i < 4) : w.cell? ⟨z, i, none⟩ = some (.bool (f i)) := by
  rw [cell_of_block h]
  match i, hi with
  | 0, _ => rfl
  | 1, _ => rfl
  | 2, _ => rfl
  | 3, _ => rfl
theorem HasIs.set {w : World} {z : Nat} {f g : Nat → Bool} (h : HasIs w z f) (i : Nat) (hi : i < 4) (hg : ∀ k, g k = (f k || decide (i = k))) : HasIs (w.setCell ⟨z, i, none⟩ (.bool true)) z g := by
  unfold HasIs at *
  rw [hg 0, hg 1, hg 2, hg 3]
  match i, hi with
  | 0, _ => simp [World.setCell, Array.getElem?_modify, h]
  | 1, _ => simp [World.setCell, Array.getElem?_modify, h]
  | 2, _ => simp [World.setCell, Array.getElem?_modify, h]
  | 3, _ => simp [World.setCell, Array.getElem?_modify, h]
theorem HasIs.only {w w' : World} {z : Nat} {f : Nat → Bool} {S : Nat → Prop} (h : HasIs w z f) (ho : Only S w w') (hz : ¬ S z) : HasIs w' z f := (ho.block z (lt_of_block h) hz).trans h
theorem has_take {l : List Win} {j : Nat} {x : Win} {p : Nat} (h : l[j]? = some x) (hp : x.part = p) (k : Nat) : hasWin (l.take (j + 1)) k = (hasWin (l.take j) k || decide (p = k)) := by
  rw [take_of h, hasWin, hasWin, List.any_append, List.any_cons, List.any_nil, Bool.or_false, hp]
  congr 1
  exact decide_eq_decide.2 (by omega)

theorem slice_has (w : World) (z n : Nat) (h : n ≤ 4) : (Instr.sliceAt 181 (.pointer (some ⟨z, 0, none⟩)) none (some (.int .i64 (n : Int))) none).run Tryz.prog w = .ok (.slice (some ⟨z, 0, none⟩) n 4) w := by
  have ha : Tryz.prog.arrayLen 181 = 4 := by kernel_rfl
  rw [run_sliceAt_array_h w 181 ⟨z, 0, none⟩ (by kernel_rfl) .i64 n (by omega) (by rw [ha]; omega), ha]
  have hs : (sizeOf (Tryz.prog.elem 181)).run Tryz.prog w = .ok 1 w := by kernel_rfl
  rw [hs]
  simp [Result.andThen, slicedAt, Addr.add]

set_option maxRecDepth 100000 in
set_option maxHeartbeats 1000000 in
theorem cWins {P : Nat → Prop} (w : World) (v : Value) (l : List Win) (h : SlOf P 2 winE w v l) (n : Nat) (hn4 : n ≤ 4) :
    Calls Tryz.prog 91 #[v, .int .i64 (n : Int)] w fun e w' => e = .returned (.int .i64 (winsW n l)) ∧ Only (fun _ => False) w w' := by
  obtain ⟨wa, wc, rfl, wm⟩ := h.shape
  obtain ⟨m, hm⟩ : ∃ m, l.length = m := ⟨_, rfl⟩
  have HM := hid hm
  have HP := hid h
  obtain ⟨r, hr⟩ : ∃ r, winsW n l = r := ⟨_, rfl⟩
  have HR : Hid ((if m < 1 ∨ 16 < m then 6 else if l.all (winOk n) = false then 7 else if (List.range n).all (hasWin l) = false then 8 else 0) = r) := by show _ = _; rw [← hr, winsW, hm]
  rw [hm] at wm HP ⊢
  rw [hr]
  clear h hm hr
  go_enter Tryz.func91, Tryz.ntmps91
  by_cases q1 : (m : Int) < 1
  · go_wp2_with fail
    go_ret
    exact ⟨by rw [← HR.out, if_pos (by omega)]; rfl, Only.refl _ _⟩
  by_cases q2 : (16 : Int) < m
  · go_wp2_with fail
    go_ret
    exact ⟨by rw [← HR.out, if_pos (by omega)]; rfl, Only.refl _ _⟩
  have HR2 : Hid ((if l.all (winOk n) = false then 7 else if (List.range n).all (hasWin l) = false then 8 else 0) = r) := by show _ = _; rw [← HR.out, if_neg (c := m < 1 ∨ 16 < m) (by omega)]
  clear HR
  have hW : ∃ W z, W = w.alloc (.cells #[.bool false, .bool false, .bool false, .bool false] 181) ∧ z = w.heap.size ∧ Only (fun _ => False) w W ∧ HasIs W z (hasWin (l.take 0)) ∧ z < W.heap.size :=
    ⟨_, _, rfl, rfl, (Only.refl _ _).alloc _, heap_new _ _, by simp⟩
  obtain ⟨W, z, hWe, hze, hoW, hhas, hzl⟩ := hW
  have HO := hid hoW
  have HH0 := hid hhas
  clear hoW hhas
  go_upto_region 4 with fail
  rw [← hWe, ← hze]
  have hzw : w.heap.size ≤ z := Nat.le_of_eq hze.symm
  clear hWe hze
  go_wp2_with fail
  go_loopw [20] (fun i wx => ∃ j : Nat, i = .int .i64 (j : Int) ∧ j ≤ m ∧ (∀ a x, a < j → l[a]? = some x → winOk n x = true) ∧ HasIs wx z (hasWin (l.take j)) ∧ Only (fun _ => False) w wx) (fun i _ => m - (intOf i).toNat)
  case atStart => exact ⟨0, rfl, Nat.zero_le _, (fun a x ha => absurd ha (Nat.not_lt_zero _)), HH0.out, HO.out⟩
  case round =>
  clear HO HH0 hzl
  obtain ⟨j, rfl, hj, hall, hhas, hox⟩ := hrel
  have HA := hid hall
  have HX := hid hox
  have HH := hid hhas
  clear hall hox hhas
  by_cases hlt : (j : Int) < (m : Int)
  · obtain ⟨b, off, rfl, _, x, hx, k1, k2⟩ := (HP.out.only (stay_win HX.out (fun _ _ h => h))).get j (by rw [HM.out]; omega)
    obtain ⟨xp, hxp⟩ : ∃ y, x.part = y := ⟨_, rfl⟩
    obtain ⟨xt, hxt⟩ : ∃ y, x.ticks = y := ⟨_, rfl⟩
    have e0 : wr.cell? ⟨b, off + j * 2, none⟩ = some (.int .i64 x.part) := k1.1
    have e1 : wr.cell? ⟨b, off + j * 2 + 1, none⟩ = some (.int .i64 x.ticks) := k2.1
    have HG := hid hx
    have HXP := hid hxp
    have HW : Hid (winOk n x = decide (0 ≤ xp ∧ xp < n ∧ 1 ≤ xt ∧ xt ≤ 100)) := by show _ = _; rw [winOk, hxp, hxt]
    rw [hxp] at e0
    rw [hxt] at e1
    have hV : ∃ V y, V = wr.alloc (.cells #[.int .i64 xp, .int .i64 xt] 67) ∧ y = wr.heap.size ∧ Only (fun _ => False) w V ∧ HasIs V z (hasWin (l.take j)) ∧ V.cell? ⟨y, 0, none⟩ = some (.int .i64 xp) ∧ V.cell? ⟨y, 1, none⟩ = some (.int .i64 xt) :=
      ⟨_, _, rfl, rfl, HX.out.alloc _, HH.out.only ((Only.refl (fun _ => False) _).alloc _) (fun h => h), cell_of_block (heap_new _ _) 0, cell_of_block (heap_new _ _) 1⟩
    obtain ⟨V, y, hVe, hye, hoV, hhV, f0, f1⟩ := hV
    have HV := hid hoV
    have HHV := hid hhV
    clear hoV hhV k1 k2 hx hxp hxt
    go_upto_region 7 with fail
    rw [← hVe, ← hye]
    clear hVe hye e0 e1
    have HBAD : Hid (¬ (0 ≤ xp ∧ xp < n ∧ 1 ≤ xt ∧ xt ≤ 100) → r = 7) := fun e => by rw [← HR2.out, if_pos (all_no HG.out (by rw [HW.out]; exact decide_eq_false e))]
    go_wp2_with fail
    refine (cNumber _ _ _).mono ?_
    rintro e w3 ⟨rfl, rfl⟩
    by_cases t1 : 0 ≤ xp ∧ xp < n
    · rw [decide_eq_true t1]
      obtain ⟨t1, t2⟩ := t1
      obtain ⟨pn, rfl⟩ : ∃ x : Nat, xp = x := ⟨xp.toNat, by omega⟩
      go_wp2_with fail
      refine (cTicks _ _).mono ?_
      rintro e w4 ⟨rfl, rfl⟩
      by_cases t3 : 1 ≤ xt ∧ xt ≤ 100
      · rw [decide_eq_true t3]
        have c4 := HHV.out.cell pn (by omega)
        have fz : w4.frozen? ⟨z, pn, none⟩ = false := frozen_of_block HHV.out pn
        have p4 : pn < 4 := by omega
        go_wp2_with fail
        go_roundw
        case rel =>
          refine ⟨j + 1, by go_num, by omega, ?_, HHV.out.set pn (by omega) (has_take HG.out HXP.out), ?_⟩
          · intro a y ha hy
            by_cases e : a = j
            · subst e
              rw [HG.out] at hy
              injection hy with hy
              subst hy
              rw [HW.out]
              exact decide_eq_true ⟨by omega, by omega, by omega, by omega⟩
            · exact HA.out a y (by omega) hy
          · exact HV.out.setCell (.inl hzw) _
        case measure => simp [intOf]; omega
      · rw [decide_eq_false t3]
        have HE := hid (HBAD.out (by omega))
        clear t3
        go_wp2_with fail
        go_ret
        exact ⟨by rw [HE.out]; rfl, HV.out⟩
    · rw [decide_eq_false t1]
      have HE := hid (HBAD.out (by omega))
      clear t1
      go_wp2_with fail
      go_ret
      exact ⟨by rw [HE.out]; rfl, HV.out⟩
  have HR3 : Hid ((if (List.range n).all (hasWin l) = false then 8 else 0) = r) := by
    show _ = _
    rw [← HR2.out, if_neg (c := l.all (winOk n) = false) (by rw [all_yes (f := winOk n) (fun a x ha hx => HA.out a x (by rw [HM.out] at ha; omega) hx)]; decide)]
  have HHA : Hid (HasIs wr z (hasWin l)) := by
    have h9 := HH.out
    rw [List.take_of_length_le (by rw [HM.out]; omega)] at h9
    exact h9
  clear HR2 HA HH hj
  have hS := slice_has wr z n hn4
  go_wp2_with fail
  clear hS hlt
  go_loopw [42] (fun i wx => ∃ j : Nat, i = .int .i64 (j : Int) ∧ j ≤ n ∧ (∀ a, a < j → hasWin l a = true) ∧ wx = wr) (fun i _ => n - (intOf i).toNat)
  case atStart => exact ⟨0, rfl, Nat.zero_le _, (fun a ha => absurd ha (Nat.not_lt_zero _)), rfl⟩
  case round =>
  obtain ⟨i, rfl, hi, hall, rfl⟩ := hrel
  have HA := hid hall
  clear hall
  by_cases hlt : (i : Int) < (n : Int)
  · have c4 := HHA.out.cell i (by omega)
    obtain ⟨bb, hbb⟩ : ∃ bb, hasWin l i = bb := ⟨_, rfl⟩
    have HBB := hid hbb
    rw [hbb] at c4
    clear hbb
    cases bb
    · go_wp2_with fail
      go_ret
      exact ⟨by rw [← HR3.out, if_pos (all_no (get_range (show i < n by omega)) HBB.out)]; rfl, HX.out⟩
    · go_wp2_with fail
      go_roundw
      case rel =>
        refine ⟨i + 1, by go_num, by omega, ?_, trivial⟩
        intro a ha
        by_cases e : a = i
        · subst e
          exact HBB.out
        · exact HA.out a (by omega)
      case measure => simp [intOf]; omega
  · have HE : Hid (r = 0) := by
      show _ = _
      rw [← HR3.out, if_neg]
      rw [all_yes (fun a x ha hx => by
        obtain ⟨e1, e2⟩ := range_get hx
        rw [e1]
        exact HA.out a (by omega))]
      decide
    go_wp2_with fail
    go_ret
    exact ⟨by rw [HE.out]; rfl, HX.out⟩
end Go.Proofs.YtmcmjcaigipoaaaGreat

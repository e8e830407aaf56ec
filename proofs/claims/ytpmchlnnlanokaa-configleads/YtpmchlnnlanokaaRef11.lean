/-
  septumref11: object, Part, end, Frame answer as the plain mathematics. Conditions: none.
-/
import Derived.Test.YtpmchlnnlanokaaPlain11
import Derived.Test.YtpmchlnnlanokaaFew11
namespace Go.Proofs.Ytpmchlnnlanokaa
open Go.RowKit Go.Sept

set_option maxRecDepth 100000 in
set_option maxHeartbeats 1000000 in
theorem rObject (w : World) (o : Ob) : Calls Try.prog 41 #[.agg #[.int .i64 o.kind, .int .i64 o.size, .bool o.prio]] w fun e w' => e = .returned (.bool (obOk o)) ∧ Only (fun _ => False) w w' := by
  obtain ⟨k, s, b⟩ := o
  go_enter Try.func41, Try.ntmps41
  go_wp2_with fail
  all_goals go_ret
  all_goals refine ⟨congrArg (fun b => Ending.returned (.bool b)) ?_, (Only.refl _ _).alloc _⟩
  all_goals simp only [beq_iff_eq, beq_eq_false_iff_ne, ne_eq] at *
  all_goals cases b
  all_goals first
    | exact (decide_eq_true (by simp <;> omega)).symm
    | exact (decide_eq_false (by simp <;> omega)).symm
    | (rw [Bool.eq_iff_iff, obOk, decide_eq_true_iff]; simp <;> omega)
    | (subst_vars; rw [Bool.eq_iff_iff, obOk, decide_eq_true_iff]; simp <;> omega)
    | (subst_vars; rw [Bool.eq_iff_iff, obOk, decide_eq_true_iff]; simp)

set_option maxRecDepth 100000 in
set_option maxHeartbeats 1000000 in
theorem rPart {P : Nat → Prop} (w : World) (v0 v1 : Value) (p : Pt) (h : PtIs P w v0 v1 p) :
    Calls Try.prog 31 #[.agg #[v0, v1]] w fun e w' => e = .returned (.int .i64 (partW p)) ∧ Only (fun _ => False) w w' := by
  obtain ⟨hT, hO⟩ := h
  obtain ⟨ta, tc, rfl, tm⟩ := hT.shape
  obtain ⟨oa, oc, rfl, om⟩ := hO.shape
  have hW : ∃ W z, W = w.alloc (ptO (.slice ta p.ths.length tc) (.slice oa p.obs.length oc)) ∧ z = w.heap.size ∧ Only (fun _ => False) w W ∧ W.heap[z]? = some (ptO (.slice ta p.ths.length tc) (.slice oa p.obs.length oc)) := ⟨_, _, rfl, rfl, (Only.refl _ _).alloc _, heap_new _ _⟩
  obtain ⟨W, z, hWe, hze, hoW, hbz⟩ := hW
  have HT := hid hT
  have HU := hid hO
  have HO := hid hoW
  have HB := hid hbz
  have c0 : W.cell? ⟨z, 0, none⟩ = some (.slice ta p.ths.length tc) := cell_of_block hbz 0
  have c1 : W.cell? ⟨z, 1, none⟩ = some (.slice oa p.obs.length oc) := cell_of_block hbz 1
  obtain ⟨n, hn⟩ : ∃ n, p.ths.length = n := ⟨_, rfl⟩
  obtain ⟨m, hm⟩ : ∃ m, p.obs.length = m := ⟨_, rfl⟩
  have HN := hid hn
  have HM := hid hm
  obtain ⟨pw, hpw⟩ : ∃ x, partW p = x := ⟨_, rfl⟩
  have HW := hid hpw
  clear hT hO hoW hbz
  rw [hn] at hWe c0 tm ⊢
  rw [hm] at hWe c1 om ⊢
  rw [hpw]
  rw [partW, hn, hm] at hpw
  have HE := hid hpw
  clear hn hm hpw HW
  simp only [ptO] at hWe
  go_enter Try.func31, Try.ntmps31
  go_upto_region 1 with fail
  rw [← hWe, ← hze]
  clear hWe hze
  by_cases h1 : (n : Int) < 1
  · go_wp2_with fail
    go_ret
    exact ⟨by rw [← HE.out, if_pos (by omega)]; rfl, HO.out⟩
  · by_cases h2 : (6 : Int) < n
    · go_wp2_with fail
      go_ret
      exact ⟨by rw [← HE.out, if_pos (by omega)]; rfl, HO.out⟩
    · by_cases h3 : (8 : Int) < m
      · go_wp2_with fail
        go_ret
        exact ⟨by rw [← HE.out, if_neg (by omega), if_pos (by omega)]; rfl, HO.out⟩
      · go_wp2_with fail
        go_loopw [23] (fun i wx => ∃ j : Nat, i = .int .i64 (j : Int) ∧ j ≤ n ∧ (∀ i x, i < j → p.ths[i]? = some x → thOk m x = true) ∧ Only (fun _ => False) W wx) (fun i _ => n - (intOf i).toNat)
        case atStart => exact ⟨0, rfl, Nat.zero_le _, (fun i p hi => absurd hi (Nat.not_lt_zero _)), Only.refl _ _⟩
        case round =>
          obtain ⟨j, rfl, hj, hall, hox⟩ := hrel
          have HA := hid hall
          have HX := hid hox
          have hbz := (hox.block z (lt_of_block HB.out) (fun h => h)).trans HB.out
          have d0 : wr.cell? ⟨z, 0, none⟩ = some (.slice ta p.ths.length tc) := cell_of_block hbz 0
          have d1 : wr.cell? ⟨z, 1, none⟩ = some (.slice oa p.obs.length oc) := cell_of_block hbz 1
          rw [HN.out] at d0
          rw [HM.out] at d1
          clear hall hox hbz c0 c1
          by_cases hlt : (j : Int) < (n : Int)
          · have hp := HT.out.only (stay_th (HO.out.chain HX.out (fun _ _ h => h)) (fun _ _ h => h))
            obtain ⟨b, off, rfl, _, x, hx, k1, k2, k3, k4, v, k5, k6⟩ := hp.get j (by rw [HN.out]; omega)
            obtain ⟨pa, pc, rfl, pm⟩ := k6.shape
            have HG := hid hx
            have e0 : wr.cell? ⟨b, off + j * 4, none⟩ = some (.int .i64 x.prio) := k1.1
            have e1 : wr.cell? ⟨b, off + j * 4 + 1, none⟩ = some (.int .u32 x.caps) := k2
            have e2 : wr.cell? ⟨b, off + j * 4 + 2, none⟩ = some (.bool x.ctl) := k4
            have e3 : wr.cell? ⟨b, off + j * 4 + 3, none⟩ = some (.slice pa x.prog.length pc) := k5
            obtain ⟨cp, hcp⟩ : ∃ y, x.caps = y := ⟨_, rfl⟩
            obtain ⟨pr, hpr⟩ : ∃ y, x.prio = y := ⟨_, rfl⟩
            obtain ⟨l, hl⟩ : ∃ y, x.prog.length = y := ⟨_, rfl⟩
            have HK : Hid (thOk m x = decide (0 ≤ pr ∧ pr ≤ 15 ∧ cp < 2 ^ m ∧ l ≤ 40)) := by show _ = _; rw [thOk, hcp, hpr, hl]
            rw [hcp] at e1 k3
            rw [hpr] at e0
            rw [hl] at e3 pm
            clear hp k1 k2 k4 k5 k6 hx hcp hpr hl
            have hV : ∃ V y, V = wr.alloc (.cells #[.int .i64 pr, .int .u32 cp, .bool x.ctl, .slice pa l pc] 43) ∧ y = wr.heap.size ∧ Only (fun _ => False) W V ∧ V.cell? ⟨y, 0, none⟩ = some (.int .i64 pr) ∧ V.cell? ⟨y, 1, none⟩ = some (.int .u32 cp) ∧ V.cell? ⟨y, 3, none⟩ = some (.slice pa l pc) ∧ V.cell? ⟨z, 1, none⟩ = some (.slice oa m oc) :=
              ⟨_, _, rfl, rfl, HX.out.alloc _, cell_of_block (heap_new _ _) 0, cell_of_block (heap_new _ _) 1, cell_of_block (heap_new _ _) 3, (World.cell?_of_block (Below.heap_alloc _ _ _ (World.block_lt_of_cell? _ _ d1))).trans d1⟩
            obtain ⟨V, y, hVe, hye, hoV, f0, f1, f3, g1⟩ := hV
            have HV := hid hoV
            clear hoV
            go_upto_region 9 with fail
            rw [← hVe, ← hye]
            clear hVe hye d0 d1 e0 e1 e2 e3
            by_cases q1 : pr < 0
            · go_wp2_with fail
              go_ret
              exact ⟨by rw [← HE.out, if_neg (by omega), if_neg (by omega), if_pos (all_no HG.out (by rw [HK.out]; exact decide_eq_false (by omega)))]; rfl, HO.out.chain HV.out (fun _ _ h => h)⟩
            · by_cases q2 : 15 < pr
              · go_wp2_with fail
                go_ret
                exact ⟨by rw [← HE.out, if_neg (by omega), if_neg (by omega), if_pos (all_no HG.out (by rw [HK.out]; exact decide_eq_false (by omega)))]; rfl, HO.out.chain HV.out (fun _ _ h => h)⟩
              · by_cases q3 : cp / 2 ^ m = 0
                · have HC := hid ((caps_lt k3.1 m).1 q3)
                  by_cases q4 : (40 : Int) < l
                  · go_wp2_with fail
                    go_ret
                    exact ⟨by rw [← HE.out, if_neg (by omega), if_neg (by omega), if_pos (all_no HG.out (by rw [HK.out]; exact decide_eq_false (by omega)))]; rfl, HO.out.chain HV.out (fun _ _ h => h)⟩
                  · go_wp2_with fail
                    go_roundw
                    case rel =>
                      refine ⟨j + 1, by go_num, by omega, ?_, HV.out⟩
                      intro i y hi hy
                      by_cases e : i = j
                      · subst e
                        rw [HG.out] at hy
                        injection hy with hy
                        subst hy
                        rw [HK.out]
                        exact decide_eq_true ⟨by omega, by omega, HC.out, by omega⟩
                      · exact HA.out i y (by omega) hy
                    case measure => simp [intOf]; omega
                · have HC := hid (fun h => q3 ((caps_lt k3.1 m).2 h))
                  go_wp2_with fail
                  go_ret
                  exact ⟨by rw [← HE.out, if_neg (by omega), if_neg (by omega), if_pos (all_no HG.out (by rw [HK.out]; exact decide_eq_false (fun h => HC.out h.2.2.1)))]; rfl, HO.out.chain HV.out (fun _ _ h => h)⟩
          · have HJ : Hid (p.ths.all (thOk m) = true) := all_yes (fun i x hi hx => HA.out i x (by rw [HN.out] at hi; omega) hx)
            go_wp2_with fail
            clear hlt
            go_loopw [60] (fun i wx => ∃ j : Nat, i = .int .i64 (j : Int) ∧ j ≤ m ∧ (∀ i x, i < j → p.obs[i]? = some x → obOk x = true) ∧ Only (fun _ => False) W wx) (fun i _ => m - (intOf i).toNat)
            case atStart => exact ⟨0, rfl, Nat.zero_le _, (fun i p hi => absurd hi (Nat.not_lt_zero _)), HX.out⟩
            case round =>
              obtain ⟨i, rfl, hi, hall, hox⟩ := hrel
              have HA2 := hid hall
              have HX2 := hid hox
              have hbz := (hox.block z (lt_of_block HB.out) (fun h => h)).trans HB.out
              have d1 : wr.cell? ⟨z, 1, none⟩ = some (.slice oa p.obs.length oc) := cell_of_block hbz 1
              rw [HM.out] at d1
              clear hall hox hbz HA HX
              by_cases hlt : (i : Int) < (m : Int)
              · have hp := HU.out.only (stay_ob (HO.out.chain HX2.out (fun _ _ h => h)) (fun _ _ h => h))
                obtain ⟨b, off, rfl, _, x, hx, k1, k2, k3⟩ := hp.get i (by rw [HM.out]; omega)
                have HG := hid hx
                have e0 : wr.cell? ⟨b, off + i * 3, none⟩ = some (.int .i64 x.kind) := k1.1
                have e1 : wr.cell? ⟨b, off + i * 3 + 1, none⟩ = some (.int .i64 x.size) := k2.1
                have e2 : wr.cell? ⟨b, off + i * 3 + 2, none⟩ = some (.bool x.prio) := k3
                clear hp k1 k2 k3 hx
                go_wp2_with fail
                refine (rObject _ x).mono ?_
                rintro e w2 ⟨rfl, ho2⟩
                obtain ⟨ok, hok⟩ : ∃ y, obOk x = y := ⟨_, rfl⟩
                have HK := hid hok
                have HO2 := hid (HX2.out.chain ho2 (fun _ _ h => h))
                rw [hok]
                clear hok ho2 HX2
                cases ok
                · go_wp2_with fail
                  go_ret
                  exact ⟨by rw [← HE.out, if_neg (by omega), if_neg (by omega), if_neg (by rw [HJ.out]; decide), if_pos (all_no HG.out HK.out)]; rfl, HO.out.chain HO2.out (fun _ _ h => h)⟩
                · go_wp2_with fail
                  go_roundw
                  case rel =>
                    refine ⟨i + 1, by go_num, by omega, ?_, HO2.out⟩
                    intro a y ha hy
                    by_cases e : a = i
                    · subst e
                      rw [HG.out] at hy
                      injection hy with hy
                      subst hy
                      exact HK.out
                    · exact HA2.out a y (by omega) hy
                  case measure => simp [intOf]; omega
              · have HJ2 : Hid (p.obs.all obOk = true) := all_yes (fun a x ha hx => HA2.out a x (by rw [HM.out] at ha; omega) hx)
                go_wp2_with fail
                go_ret
                exact ⟨by rw [← HE.out, if_neg (by omega), if_neg (by omega), if_neg (by rw [HJ.out]; decide), if_neg (by rw [HJ2.out]; decide)]; rfl, HO.out.chain HX2.out (fun _ _ h => h)⟩
end Go.Proofs.Ytpmchlnnlanokaa

/-
  septumref11: end and Frame answer as the plain mathematics. Conditions: none.
-/
namespace Go.Proofs.Ytpmchlnnlanokaa
open Go.RowKit Go.Sept

theorem endOk_neg {ps : List Pt} {p o k : Int} (h : ¬ (0 ≤ p ∧ 0 ≤ o)) : endOk ps p o k = false := by
  rw [endOk, decide_eq_false h, Bool.false_and]
theorem endOk_part {ps : List Pt} {p o k : Int} (h : ps.length ≤ p.toNat) : endOk ps p o k = false := by
  rw [endOk, List.getElem?_eq_none h, Option.bind_none, Option.any_none, Bool.and_false]
theorem endOk_some {ps : List Pt} {p o : Nat} {k : Int} {x : Pt} (h : ps[p]? = some x) : endOk ps p o k = (x.obs[o]?).any fun y => decide (y.kind = k) := by
  rw [endOk, decide_eq_true ⟨by omega, by omega⟩, Bool.true_and, Int.toNat_natCast, Int.toNat_natCast, h, Option.bind_some]

set_option maxRecDepth 100000 in
set_option maxHeartbeats 1000000 in
theorem rEnd {P : Nat → Prop} (w : World) (v0 v1 v2 : Value) (c : Cf) (h : CfIs P w v0 v1 v2 c) (p o k : Int) :
    Calls Try.prog 32 #[.agg #[v0, v1, v2], .int .i64 p, .int .i64 o, .int .i64 k] w fun e w' => e = .returned (.bool (endOk c.parts p o k)) ∧ Only (fun _ => False) w w' := by
  obtain ⟨pa, pc, rfl, pm⟩ := h.parts.shape
  have hW : ∃ W z, W = w.alloc (cfO (.slice pa c.parts.length pc) v1 v2) ∧ z = w.heap.size ∧ Only (fun _ => False) w W ∧ W.heap[z]? = some (cfO (.slice pa c.parts.length pc) v1 v2) := ⟨_, _, rfl, rfl, (Only.refl _ _).alloc _, heap_new _ _⟩
  obtain ⟨W, z, hWe, hze, hoW, hbz⟩ := hW
  have HP := hid (h.parts.only (stay_pt hoW (fun _ _ h => h)))
  have HO := hid hoW
  have c0 : W.cell? ⟨z, 0, none⟩ = some (.slice pa c.parts.length pc) := cell_of_block hbz 0
  obtain ⟨n, hn⟩ : ∃ n, c.parts.length = n := ⟨_, rfl⟩
  have HN := hid hn
  obtain ⟨r, hr⟩ : ∃ r, endOk c.parts p o k = r := ⟨_, rfl⟩
  have HR := hid hr
  rw [hr]
  clear hoW hbz h hr
  rw [hn] at hWe c0 pm ⊢
  clear hn
  simp only [cfO] at hWe
  go_enter Try.func32, Try.ntmps32
  go_upto_region 1 with fail
  rw [← hWe, ← hze]
  clear hWe hze
  by_cases h1 : 0 ≤ p
  · by_cases h2 : p < n
    · obtain ⟨pn, rfl⟩ : ∃ x : Nat, p = x := ⟨p.toNat, by omega⟩
      obtain ⟨b, off, rfl, _, x, hx, ⟨u0, k0, k1⟩, ⟨u1, k2, k3⟩⟩ := HP.out.get pn (by rw [HN.out]; omega)
      obtain ⟨oa, oc, rfl, om⟩ := k3.shape
      have e1 : W.cell? ⟨b, off + pn * 2 + 1, none⟩ = some (.slice oa x.obs.length oc) := k2
      obtain ⟨m, hm⟩ : ∃ m, x.obs.length = m := ⟨_, rfl⟩
      have HQ := hid k3
      have HX := hid hx
      have HM := hid hm
      rw [hm] at e1 om
      clear k0 k1 k2 k3 hx hm
      by_cases h3 : 0 ≤ o
      · by_cases h4 : o < m
        · obtain ⟨on, rfl⟩ : ∃ x : Nat, o = x := ⟨o.toNat, by omega⟩
          obtain ⟨b2, off2, rfl, _, y, hy, j1, _, _⟩ := HQ.out.get on (by rw [HM.out]; omega)
          have f0 : W.cell? ⟨b2, off2 + on * 3, none⟩ = some (.int .i64 y.kind) := j1.1
          have hb := endOk_some (k := k) (o := on) HX.out
          rw [hy, Option.any_some, HR.out] at hb
          obtain ⟨yk, hyk⟩ : ∃ x, y.kind = x := ⟨_, rfl⟩
          rw [hyk] at f0 hb
          have HRE := hid hb
          clear j1 hy hyk hb
          go_wp2_with fail
          go_ret
          exact ⟨by rw [HRE.out]; exact congrArg (fun b => Ending.returned (.bool b)) (by by_cases e : yk = k <;> simp [e]), HO.out⟩
        · have HRE : Hid (r = false) := by
            show _ = _
            obtain ⟨on, rfl⟩ : ∃ x : Nat, o = x := ⟨o.toNat, by omega⟩
            rw [← HR.out, endOk_some HX.out, List.getElem?_eq_none (by rw [HM.out]; omega), Option.any_none]
          go_wp2_with fail
          go_ret
          exact ⟨by rw [HRE.out]; rfl, HO.out⟩
      · have HRE : Hid (r = false) := by show _ = _; rw [← HR.out, endOk_neg (by omega)]
        go_wp2_with fail
        go_ret
        exact ⟨by rw [HRE.out]; rfl, HO.out⟩
    · have HRE : Hid (r = false) := by show _ = _; rw [← HR.out, endOk_part (by rw [HN.out]; omega)]
      go_wp2_with fail
      go_ret
      exact ⟨by rw [HRE.out]; rfl, HO.out⟩
  · have HRE : Hid (r = false) := by show _ = _; rw [← HR.out, endOk_neg (by omega)]
    go_wp2_with fail
    go_ret
    exact ⟨by rw [HRE.out]; rfl, HO.out⟩

theorem min_if (a : Int) : (if 2147483647 < a then 2147483647 else a) = min a 2147483647 := by
  rw [Int.min_def]
  split <;> split <;> omega
theorem frameW_drop {n : Int} {ws : List Win} {j : Nat} {x : Win} (h : ws[j]? = some x) : frameW n (ws.drop j) = frameW (if 1 ≤ x.ticks ∧ x.ticks ≤ 100 then min (n + x.ticks) 2147483647 else n) (ws.drop (j + 1)) := by
  rw [drop_of h, frameW]
theorem frameW_end {n : Int} {ws : List Win} {j : Nat} (h : ws.length ≤ j) : frameW n (ws.drop j) = n := by
  rw [drop_end h, frameW]

set_option maxRecDepth 100000 in
set_option maxHeartbeats 1000000 in
theorem rFrame {P : Nat → Prop} (w : World) (v0 v1 v2 : Value) (c : Cf) (h : CfIs P w v0 v1 v2 c) :
    Calls Try.prog 12 #[.agg #[v0, v1, v2]] w fun e w' => e = .returned (.int .i64 (frameW 0 c.wins)) ∧ Only (fun _ => False) w w' := by
  obtain ⟨wa, wc, rfl, wm⟩ := h.wins.shape
  have hW : ∃ W z, W = w.alloc (cfO v0 (.slice wa c.wins.length wc) v2) ∧ z = w.heap.size ∧ Only (fun _ => False) w W ∧ W.heap[z]? = some (cfO v0 (.slice wa c.wins.length wc) v2) := ⟨_, _, rfl, rfl, (Only.refl _ _).alloc _, heap_new _ _⟩
  obtain ⟨W, z, hWe, hze, hoW, hbz⟩ := hW
  have HP := hid (h.wins.only (stay_win hoW (fun _ _ h => h)))
  have HO := hid hoW
  have c1 : W.cell? ⟨z, 1, none⟩ = some (.slice wa c.wins.length wc) := cell_of_block hbz 1
  obtain ⟨m, hm⟩ : ∃ m, c.wins.length = m := ⟨_, rfl⟩
  have HN := hid hm
  obtain ⟨r, hr⟩ : ∃ r, frameW 0 c.wins = r := ⟨_, rfl⟩
  have HR := hid hr
  rw [hr]
  clear hoW hbz h hr
  rw [hm] at hWe c1 wm ⊢
  clear hm
  simp only [cfO] at hWe
  go_enter Try.func12, Try.ntmps12
  go_upto_region 1 with fail
  rw [← hWe, ← hze]
  clear hWe hze
  go_wp2_with fail
  go_loopw [3, 8] (fun v i wx => ∃ (j : Nat) (n : Int), v = .int .i64 n ∧ i = .int .i64 (j : Int) ∧ j ≤ m ∧ 0 ≤ n ∧ n ≤ 2147483647 ∧ frameW n (c.wins.drop j) = r ∧ wx = W) (fun _ i _ => m - (intOf i).toNat)
  case atStart => exact ⟨0, 0, rfl, rfl, Nat.zero_le _, by decide, by decide, HR.out, rfl⟩
  case round =>
    obtain ⟨j, n, rfl, rfl, hj, n0, n1, hf, rfl⟩ := hrel
    have HF := hid hf
    clear hf
    by_cases hlt : (j : Int) < (m : Int)
    · obtain ⟨b, off, rfl, _, x, hx, k1, k2⟩ := HP.out.get j (by rw [HN.out]; omega)
      obtain ⟨tk, htk⟩ : ∃ y, x.ticks = y := ⟨_, rfl⟩
      have hstep := frameW_drop (n := n) hx
      rw [htk, HF.out] at hstep
      have HS := hid hstep
      have e1 : wr.cell? ⟨b, off + j * 2 + 1, none⟩ = some (.int .i64 x.ticks) := k2.1
      rw [htk] at e1
      clear k1 k2 hx htk hstep HF
      by_cases t1 : 1 ≤ tk
      · by_cases t2 : tk ≤ 100
        · go_wp2_with fail
          go_roundw
          case rel => exact ⟨j + 1, _, rfl, by go_num, by omega, by split <;> omega, by split <;> omega, by rw [min_if, HS.out, if_pos ⟨t1, t2⟩], trivial⟩
          case measure => simp [intOf]; omega
        · go_wp2_with fail
          go_roundw
          case rel => exact ⟨j + 1, n, rfl, by go_num, by omega, n0, n1, by rw [HS.out, if_neg (by omega)], trivial⟩
          case measure => simp [intOf]; omega
      · go_wp2_with fail
        go_roundw
        case rel => exact ⟨j + 1, n, rfl, by go_num, by omega, n0, n1, by rw [HS.out, if_neg (by omega)], trivial⟩
        case measure => simp [intOf]; omega
    · go_wp2_with fail
      go_ret
      exact ⟨by rw [← HF.out, frameW_end (by rw [HN.out]; omega)]; rfl, HO.out⟩
end Go.Proofs.Ytpmchlnnlanokaa

/-
  septumref11: wrong and Valid answer as the plain mathematics. Conditions: none.
-/
namespace Go.Sept
section
variable {c : Cf}
theorem wrong_1 (h : c.parts.length < 1 ∨ 4 < c.parts.length) : wrongW c = 1 := if_pos h
theorem wrong_2 (h1 : ¬ (c.parts.length < 1 ∨ 4 < c.parts.length)) (h : firstW c.parts ≠ 0) : wrongW c = firstW c.parts := by rw [wrongW, if_neg h1, if_pos h]
theorem wrong_6 (h1 : ¬ (c.parts.length < 1 ∨ 4 < c.parts.length)) (h2 : firstW c.parts = 0) (h : c.wins.length < 1 ∨ 16 < c.wins.length) : wrongW c = 6 := by rw [wrongW, if_neg h1, if_neg (fun e => e h2), if_pos h]
theorem wrong_7 (h1 : ¬ (c.parts.length < 1 ∨ 4 < c.parts.length)) (h2 : firstW c.parts = 0) (h6 : ¬ (c.wins.length < 1 ∨ 16 < c.wins.length)) (h : c.wins.all (winOk c.parts.length) = false) : wrongW c = 7 := by rw [wrongW, if_neg h1, if_neg (fun e => e h2), if_neg h6, if_pos h]
theorem wrong_8 (h1 : ¬ (c.parts.length < 1 ∨ 4 < c.parts.length)) (h2 : firstW c.parts = 0) (h6 : ¬ (c.wins.length < 1 ∨ 16 < c.wins.length)) (h7 : c.wins.all (winOk c.parts.length) = true) (h : (List.range c.parts.length).all (hasWin c.wins) = false) : wrongW c = 8 := by rw [wrongW, if_neg h1, if_neg (fun e => e h2), if_neg h6, if_neg (by rw [h7]; decide), if_pos h]
theorem wrong_9 (h1 : ¬ (c.parts.length < 1 ∨ 4 < c.parts.length)) (h2 : firstW c.parts = 0) (h6 : ¬ (c.wins.length < 1 ∨ 16 < c.wins.length)) (h7 : c.wins.all (winOk c.parts.length) = true) (h8 : (List.range c.parts.length).all (hasWin c.wins) = true) (h : 8 < c.chans.length) : wrongW c = 9 := by rw [wrongW, if_neg h1, if_neg (fun e => e h2), if_neg h6, if_neg (by rw [h7]; decide), if_neg (by rw [h8]; decide), if_pos h]
theorem wrong_10 (h1 : ¬ (c.parts.length < 1 ∨ 4 < c.parts.length)) (h2 : firstW c.parts = 0) (h6 : ¬ (c.wins.length < 1 ∨ 16 < c.wins.length)) (h7 : c.wins.all (winOk c.parts.length) = true) (h8 : (List.range c.parts.length).all (hasWin c.wins) = true) (h : ¬ 8 < c.chans.length) : wrongW c = chansW c.parts [] c.chans := by rw [wrongW, if_neg h1, if_neg (fun e => e h2), if_neg h6, if_neg (by rw [h7]; decide), if_neg (by rw [h8]; decide), if_neg h]
end
theorem first_step {ps : List Pt} {j : Nat} {p : Pt} (h : ps[j]? = some p) : firstW (ps.drop j) = if partW p ≠ 0 then partW p else firstW (ps.drop (j + 1)) := by rw [drop_of h, firstW]
theorem first_end {ps : List Pt} {j : Nat} (h : ps.length ≤ j) : firstW (ps.drop j) = 0 := by rw [drop_end h, firstW]
section
variable {ps : List Pt} {l : List Chn} {j : Nat} {x : Chn}
theorem chans_10 (h : l[j]? = some x) (hk : chOk ps x = false) : chansW ps (l.take j) (l.drop j) = 10 := by rw [drop_of h, chansW, if_pos hk]
theorem chans_11 (h : l[j]? = some x) (hk : chOk ps x = true) (ha : (l.take j).any (clash x) = true) : chansW ps (l.take j) (l.drop j) = 11 := by rw [drop_of h, chansW, if_neg (by rw [hk]; decide), if_pos ha]
theorem chans_next (h : l[j]? = some x) (hk : chOk ps x = true) (ha : (l.take j).any (clash x) = false) : chansW ps (l.take j) (l.drop j) = chansW ps (l.take (j + 1)) (l.drop (j + 1)) := by rw [drop_of h, chansW, if_neg (by rw [hk]; decide), if_neg (by rw [ha]; decide), take_of h]
theorem chans_end (h : l.length ≤ j) : chansW ps (l.take j) (l.drop j) = 0 := by rw [drop_end h]; cases l.take j <;> rfl
end
theorem range_get {n i x : Nat} (h : (List.range n)[i]? = some x) : x = i ∧ i < n := by
  obtain ⟨hi, he⟩ := List.getElem?_eq_some_iff.1 h
  simp at hi he
  exact ⟨he.symm, hi⟩
theorem get_range {n i : Nat} (h : i < n) : (List.range n)[i]? = some i := by
  rw [List.getElem?_eq_getElem (by simpa using h)]
  simp
theorem take_get {α : Type} {l : List α} {j i : Nat} {x : α} (h : (l.take j)[i]? = some x) : i < j ∧ l[i]? = some x := by
  rw [List.getElem?_take] at h
  split at h
  · exact ⟨by assumption, h⟩
  · cases h
theorem get_take {α : Type} {l : List α} {j i : Nat} {x : α} (hi : i < j) (h : l[i]? = some x) : (l.take j)[i]? = some x := by
  rw [List.getElem?_take, if_pos hi]
  exact h
end Go.Sept

namespace Go.Proofs.Ytpmchlnnlanokaa
open Go.RowKit Go.Sept

theorem cf_cells {W wr : World} {z : Nat} {v0 v1 v2 : Value} (hB : W.heap[z]? = some (cfO v0 v1 v2)) (ho : Only (fun _ => False) W wr) : wr.cell? ⟨z, 0, none⟩ = some v0 ∧ wr.cell? ⟨z, 1, none⟩ = some v1 ∧ wr.cell? ⟨z, 2, none⟩ = some v2 := by
  have hb := (ho.block z (lt_of_block hB) (fun h => h)).trans hB
  exact ⟨cell_of_block hb 0, cell_of_block hb 1, cell_of_block hb 2⟩

set_option maxRecDepth 100000 in
set_option maxHeartbeats 4000000 in
theorem rWrong {P : Nat → Prop} (w : World) (v0 v1 v2 : Value) (c : Cf) (h : CfIs P w v0 v1 v2 c) :
    Calls Try.prog 20 #[.agg #[v0, v1, v2]] w fun e w' => e = .returned (.int .i64 (wrongW c)) ∧ Only (fun _ => False) w w' := by
  obtain ⟨pa, pc, rfl, pm⟩ := h.parts.shape
  obtain ⟨wa, wc, rfl, wm⟩ := h.wins.shape
  obtain ⟨ca, cc, rfl, cm⟩ := h.chans.shape
  obtain ⟨n, hn⟩ : ∃ n, c.parts.length = n := ⟨_, rfl⟩
  obtain ⟨m, hm⟩ : ∃ m, c.wins.length = m := ⟨_, rfl⟩
  obtain ⟨k, hk⟩ : ∃ k, c.chans.length = k := ⟨_, rfl⟩
  have HN := hid hn
  have HM := hid hm
  have HK := hid hk
  rw [hn] at h pm
  rw [hm] at h wm
  rw [hk] at h cm
  rw [hn, hm, hk]
  clear hn hm hk
  have hW : ∃ W z, W = w.alloc (cfO (.slice pa n pc) (.slice wa m wc) (.slice ca k cc)) ∧ z = w.heap.size ∧ Only (fun _ => False) w W ∧ W.heap[z]? = some (cfO (.slice pa n pc) (.slice wa m wc) (.slice ca k cc)) := ⟨_, _, rfl, rfl, (Only.refl _ _).alloc _, heap_new _ _⟩
  obtain ⟨W, z, hWe, hze, hoW, hbz⟩ := hW
  have HC := hid (h.only hoW (fun _ _ h => h))
  have HO := hid hoW
  have HB := hid hbz
  obtain ⟨c0, c1, c2⟩ := cf_cells hbz (Only.refl _ _)
  obtain ⟨r, hr⟩ : ∃ r, wrongW c = r := ⟨_, rfl⟩
  have HR := hid hr
  rw [hr]
  clear hoW hbz h hr
  simp only [cfO] at hWe
  go_enter Try.func20, Try.ntmps20
  go_upto_region 1 with fail
  rw [← hWe, ← hze]
  clear hWe hze
  by_cases q1 : (n : Int) < 1
  · go_wp2_with fail
    go_ret
    exact ⟨by rw [← HR.out, wrong_1 (by rw [HN.out]; omega)]; rfl, HO.out⟩
  by_cases q2 : (4 : Int) < n
  · go_wp2_with fail
    go_ret
    exact ⟨by rw [← HR.out, wrong_1 (by rw [HN.out]; omega)]; rfl, HO.out⟩
  have H1 : Hid (¬ (c.parts.length < 1 ∨ 4 < c.parts.length)) := by show ¬ _; rw [HN.out]; omega
  go_wp2_with fail
  go_loopw [27] (fun i wx => ∃ j : Nat, i = .int .i64 (j : Int) ∧ j ≤ n ∧ firstW (c.parts.drop j) = firstW c.parts ∧ Only (fun _ => False) W wx) (fun i _ => n - (intOf i).toNat)
  case atStart => exact ⟨0, rfl, Nat.zero_le _, rfl, Only.refl _ _⟩
  case round =>
  obtain ⟨j, rfl, hj, hfw, hox⟩ := hrel
  have HF := hid hfw
  have HX := hid hox
  obtain ⟨d0, d1, d2⟩ := cf_cells HB.out hox
  clear hfw hox c0 c1 c2
  by_cases hlt : (j : Int) < (n : Int)
  · obtain ⟨b, off, rfl, _, x, hx, ⟨u0, k0, k1⟩, ⟨u1, k2, k3⟩⟩ := (HC.out.only HX.out (fun _ _ h => h)).parts.get j (by rw [HN.out]; omega)
    have HI : Hid (PtIs P wr u0 u1 x) := ⟨k1, k3⟩
    have e0 : wr.cell? ⟨b, off + j * 2, none⟩ = some u0 := k0
    have e1 : wr.cell? ⟨b, off + j * 2 + 1, none⟩ = some u1 := k2
    have hst := first_step hx
    rw [HF.out] at hst
    obtain ⟨pw, hpw⟩ : ∃ y, partW x = y := ⟨_, rfl⟩
    rw [hpw] at hst
    have HPW := hid hpw
    have HS := hid hst
    clear k0 k1 k2 k3 hx hpw hst HF
    go_wp2_with fail
    refine (rPart _ _ _ x HI.out).mono ?_
    rintro e w2 ⟨rfl, ho2⟩
    have HO2 := hid (HX.out.chain ho2 (fun _ _ h => h))
    rw [HPW.out]
    clear ho2 HX HI HPW e0 e1 d0 d1 d2
    by_cases hz : pw = 0
    · go_wp2_with fail
      go_roundw
      case rel => exact ⟨j + 1, by go_num, by omega, by rw [HS.out, if_neg (fun e => e hz)], HO2.out⟩
      case measure => simp [intOf]; omega
    · go_wp2_with fail
      go_ret
      exact ⟨by rw [← HR.out, wrong_2 H1.out (by rw [HS.out, if_pos hz]; exact hz), HS.out, if_pos hz]; rfl, HO.out.chain HO2.out (fun _ _ h => h)⟩
  have H2 : Hid (firstW c.parts = 0) := by show _ = _; rw [← HF.out, first_end (by rw [HN.out]; omega)]
  by_cases q6 : (m : Int) < 1
  · go_wp2_with fail
    go_ret
    exact ⟨by rw [← HR.out, wrong_6 H1.out H2.out (by rw [HM.out]; omega)]; rfl, HO.out.chain HX.out (fun _ _ h => h)⟩
  by_cases q7 : (16 : Int) < m
  · go_wp2_with fail
    go_ret
    exact ⟨by rw [← HR.out, wrong_6 H1.out H2.out (by rw [HM.out]; omega)]; rfl, HO.out.chain HX.out (fun _ _ h => h)⟩
  have H6 : Hid (¬ (c.wins.length < 1 ∨ 16 < c.wins.length)) := by show ¬ _; rw [HM.out]; omega
  go_wp2_with fail
  clear hlt d0 d1 d2
  go_loopw [53] (fun i wx => ∃ j : Nat, i = .int .i64 (j : Int) ∧ j ≤ m ∧ (∀ a x, a < j → c.wins[a]? = some x → winOk n x = true) ∧ Only (fun _ => False) W wx) (fun i _ => m - (intOf i).toNat)
  case atStart => exact ⟨0, rfl, Nat.zero_le _, (fun a x ha => absurd ha (Nat.not_lt_zero _)), HX.out⟩
  case round =>
  clear HX HF hj
  obtain ⟨j2, rfl, hj2, hall, hox⟩ := hrel
  have HA := hid hall
  have HX := hid hox
  obtain ⟨d0, d1, d2⟩ := cf_cells HB.out hox
  clear hall hox
  by_cases hlt : (j2 : Int) < (m : Int)
  · obtain ⟨b, off, rfl, _, x, hx, k1, k2⟩ := (HC.out.only HX.out (fun _ _ h => h)).wins.get j2 (by rw [HM.out]; omega)
    obtain ⟨xp, hxp⟩ : ∃ y, x.part = y := ⟨_, rfl⟩
    obtain ⟨xt, hxt⟩ : ∃ y, x.ticks = y := ⟨_, rfl⟩
    have e0 : wr.cell? ⟨b, off + j2 * 2, none⟩ = some (.int .i64 x.part) := k1.1
    have e1 : wr.cell? ⟨b, off + j2 * 2 + 1, none⟩ = some (.int .i64 x.ticks) := k2.1
    have HG := hid hx
    have HW : Hid (winOk n x = decide (0 ≤ xp ∧ xp < n ∧ 1 ≤ xt ∧ xt ≤ 100)) := by show _ = _; rw [winOk, hxp, hxt]
    rw [hxp] at e0
    rw [hxt] at e1
    have hV : ∃ V y, V = wr.alloc (.cells #[.int .i64 xp, .int .i64 xt] 48) ∧ y = wr.heap.size ∧ Only (fun _ => False) W V ∧ V.cell? ⟨y, 0, none⟩ = some (.int .i64 xp) ∧ V.cell? ⟨y, 1, none⟩ = some (.int .i64 xt) ∧ V.cell? ⟨z, 0, none⟩ = some (.slice pa n pc) :=
      ⟨_, _, rfl, rfl, HX.out.alloc _, cell_of_block (heap_new _ _) 0, cell_of_block (heap_new _ _) 1, (World.cell?_of_block (Below.heap_alloc _ _ _ (World.block_lt_of_cell? _ _ d0))).trans d0⟩
    obtain ⟨V, y, hVe, hye, hoV, f0, f1, g0⟩ := hV
    have HV := hid hoV
    clear hoV k1 k2 hx hxp hxt
    go_upto_region 16 with fail
    rw [← hVe, ← hye]
    clear hVe hye d0 d1 d2 e0 e1
    have HBAD : Hid (¬ (0 ≤ xp ∧ xp < n ∧ 1 ≤ xt ∧ xt ≤ 100) → r = 7) := fun e => by rw [← HR.out, wrong_7 H1.out H2.out H6.out (all_no HG.out (by rw [HN.out, HW.out]; exact decide_eq_false e))]
    by_cases t1 : xp < 0
    · go_wp2_with fail
      go_ret
      exact ⟨by rw [HBAD.out (by omega)]; rfl, HO.out.chain HV.out (fun _ _ h => h)⟩
    by_cases t2 : (n : Int) ≤ xp
    · go_wp2_with fail
      go_ret
      exact ⟨by rw [HBAD.out (by omega)]; rfl, HO.out.chain HV.out (fun _ _ h => h)⟩
    by_cases t3 : xt < 1
    · go_wp2_with fail
      go_ret
      exact ⟨by rw [HBAD.out (by omega)]; rfl, HO.out.chain HV.out (fun _ _ h => h)⟩
    by_cases t4 : 100 < xt
    · go_wp2_with fail
      go_ret
      exact ⟨by rw [HBAD.out (by omega)]; rfl, HO.out.chain HV.out (fun _ _ h => h)⟩
    go_wp2_with fail
    go_roundw
    case rel =>
      refine ⟨j2 + 1, by go_num, by omega, ?_, HV.out⟩
      intro a y ha hy
      by_cases e : a = j2
      · subst e
        rw [HG.out] at hy
        injection hy with hy
        subst hy
        rw [HW.out]
        exact decide_eq_true ⟨by omega, by omega, by omega, by omega⟩
      · exact HA.out a y (by omega) hy
    case measure => simp [intOf]; omega
  have H7 : Hid (c.wins.all (winOk c.parts.length) = true) := by show _ = _; rw [HN.out]; exact all_yes (fun a x ha hx => HA.out a x (by rw [HM.out] at ha; omega) hx)
  go_wp2_with fail
  clear hlt d0 d1 d2
  go_loopw [86] (fun i wx => ∃ j : Nat, i = .int .i64 (j : Int) ∧ j ≤ n ∧ (∀ a, a < j → hasWin c.wins a = true) ∧ Only (fun _ => False) W wx) (fun i _ => n - (intOf i).toNat)
  case atStart => exact ⟨0, rfl, Nat.zero_le _, (fun a ha => absurd ha (Nat.not_lt_zero _)), HX.out⟩
  case round =>
  clear HX HA hj2
  obtain ⟨j3, rfl, hj3, hall, hox⟩ := hrel
  have HA := hid hall
  have HX := hid hox
  obtain ⟨d0, d1, d2⟩ := cf_cells HB.out hox
  clear hall hox
  by_cases hlt : (j3 : Int) < (n : Int)
  · go_wp2_with fail
    go_loopw [8, 92] (fun v i wx => ∃ (q : Nat) (bb : Bool), v = .bool bb ∧ i = .int .i64 (q : Int) ∧ q ≤ m ∧ (bb = true → hasWin c.wins j3 = true) ∧ (bb = false → ∀ a x, a < q → c.wins[a]? = some x → x.part ≠ (j3 : Int)) ∧ wx = wr) (fun _ i _ => m - (intOf i).toNat)
    case atStart => exact ⟨0, false, rfl, rfl, Nat.zero_le _, (fun e => Bool.noConfusion e), (fun _ a x ha => absurd ha (Nat.not_lt_zero _)), rfl⟩
    case round =>
    obtain ⟨q, bb, rfl, rfl, hq, hb1, hb2, rfl⟩ := hrel
    have HB1 := hid hb1
    have HB2 := hid hb2
    clear hb1 hb2
    by_cases hlt2 : (q : Int) < (m : Int)
    · cases bb
      · obtain ⟨b, off, rfl, _, x, hx, k1, k2⟩ := (HC.out.only HX.out (fun _ _ h => h)).wins.get q (by rw [HM.out]; omega)
        obtain ⟨xp, hxp⟩ : ∃ y, x.part = y := ⟨_, rfl⟩
        have e0 : wr.cell? ⟨b, off + q * 2, none⟩ = some (.int .i64 x.part) := k1.1
        have HG := hid hx
        have HXP := hid hxp
        rw [hxp] at e0
        clear k1 k2 hx hxp
        go_wp2_with fail
        go_roundw
        case rel =>
          refine ⟨q + 1, _, rfl, by go_num, by omega, ?_, ?_, trivial⟩
          · intro e
            exact any_yes HG.out (decide_eq_true (by rw [HXP.out]; exact beq_iff_eq.1 e))
          · intro e a y ha hy
            by_cases ea : a = q
            · subst ea
              rw [HG.out] at hy
              injection hy with hy
              subst hy
              rw [HXP.out]
              exact beq_eq_false_iff_ne.1 e
            · exact HB2.out rfl a y (by omega) hy
        case measure => simp [intOf]; omega
      · go_wp2_with fail
        go_roundw
        case rel => exact ⟨q + 1, true, rfl, by go_num, by omega, HB1.out, (fun e => Bool.noConfusion e), trivial⟩
        case measure => simp [intOf]; omega
    · cases bb
      · have HE : Hid (hasWin c.wins j3 = false) := any_no (fun a x ha hx => decide_eq_false (HB2.out rfl a x (by rw [HM.out] at ha; omega) hx))
        go_wp2_with fail
        go_ret
        exact ⟨by rw [← HR.out, wrong_8 H1.out H2.out H6.out H7.out (all_no (get_range (show j3 < c.parts.length by rw [HN.out]; omega)) HE.out)]; rfl, HO.out.chain HX.out (fun _ _ h => h)⟩
      · go_wp2_with fail
        go_roundw
        case rel =>
          refine ⟨j3 + 1, by go_num, by omega, ?_, HX.out⟩
          intro a ha
          by_cases ea : a = j3
          · subst ea
            exact HB1.out rfl
          · exact HA.out a (by omega)
        case measure => simp [intOf]; omega
  have H8 : Hid ((List.range c.parts.length).all (hasWin c.wins) = true) := all_yes (fun a x ha hx => by
    obtain ⟨e1, e2⟩ := range_get hx
    rw [e1]
    exact HA.out a (by rw [HN.out] at e2; omega))
  by_cases q9 : (8 : Int) < k
  · go_wp2_with fail
    go_ret
    exact ⟨by rw [← HR.out, wrong_9 H1.out H2.out H6.out H7.out H8.out (by rw [HK.out]; omega)]; rfl, HO.out.chain HX.out (fun _ _ h => h)⟩
  have H9 : Hid (r = chansW c.parts [] c.chans) := by show _ = _; rw [← HR.out, wrong_10 H1.out H2.out H6.out H7.out H8.out (by rw [HK.out]; omega)]
  go_wp2_with fail
  clear hlt d0 d1 d2
  go_loopw [117] (fun i wx => ∃ j : Nat, i = .int .i64 (j : Int) ∧ j ≤ k ∧ chansW c.parts (c.chans.take j) (c.chans.drop j) = r ∧ Only (fun _ => False) W wx) (fun i _ => k - (intOf i).toNat)
  case atStart => exact ⟨0, rfl, Nat.zero_le _, H9.out.symm, HX.out⟩
  case round =>
  clear HX HA hj3
  obtain ⟨j4, rfl, hj4, hch, hox⟩ := hrel
  have HCH := hid hch
  have HX := hid hox
  obtain ⟨d0, d1, d2⟩ := cf_cells HB.out hox
  clear hch hox
  by_cases hlt : (j4 : Int) < (k : Int)
  · obtain ⟨b, off, rfl, _, x, hx, k1, k2, k3, k4⟩ := (HC.out.only HX.out (fun _ _ h => h)).chans.get j4 (by rw [HK.out]; omega)
    obtain ⟨xf, hxf⟩ : ∃ y, x.src = y := ⟨_, rfl⟩
    obtain ⟨xo, hxo⟩ : ∃ y, x.out = y := ⟨_, rfl⟩
    obtain ⟨xt, hxt⟩ : ∃ y, x.dst = y := ⟨_, rfl⟩
    obtain ⟨xi, hxi⟩ : ∃ y, x.inn = y := ⟨_, rfl⟩
    have e0 : wr.cell? ⟨b, off + j4 * 4, none⟩ = some (.int .i64 x.src) := k1.1
    have e1 : wr.cell? ⟨b, off + j4 * 4 + 1, none⟩ = some (.int .i64 x.out) := k2.1
    have e2 : wr.cell? ⟨b, off + j4 * 4 + 2, none⟩ = some (.int .i64 x.dst) := k3.1
    have e3 : wr.cell? ⟨b, off + j4 * 4 + 3, none⟩ = some (.int .i64 x.inn) := k4.1
    have HG := hid hx
    have HXE : Hid (x = ⟨xf, xo, xt, xi⟩) := by show _ = _; cases x; simp_all
    rw [hxf] at e0
    rw [hxo] at e1
    rw [hxt] at e2
    rw [hxi] at e3
    have hV : ∃ V y, V = wr.alloc (.cells #[.int .i64 xf, .int .i64 xo, .int .i64 xt, .int .i64 xi] 54) ∧ y = wr.heap.size ∧ Only (fun _ => False) W V ∧ V.heap[y]? = some (.cells #[.int .i64 xf, .int .i64 xo, .int .i64 xt, .int .i64 xi] 54) :=
      ⟨_, _, rfl, rfl, HX.out.alloc _, heap_new _ _⟩
    obtain ⟨V, y, hVe, hye, hoV, hby⟩ := hV
    have HV := hid hoV
    have HY := hid hby
    obtain ⟨g0, g1, g2⟩ := cf_cells HB.out hoV
    have f0 : V.cell? ⟨y, 0, none⟩ = some (.int .i64 xf) := cell_of_block hby 0
    have f1 : V.cell? ⟨y, 1, none⟩ = some (.int .i64 xo) := cell_of_block hby 1
    clear hoV hby k1 k2 k3 k4 hx hxf hxo hxt hxi
    go_upto_region 37 with fail
    rw [← hVe, ← hye]
    clear hVe hye d0 d1 d2 e0 e1 e2 e3
    go_wp2_with fail
    refine (rEnd _ _ _ _ c (HC.out.only HV.out (fun _ _ h => h)) _ _ _).mono ?_
    rintro e w5 ⟨rfl, ho5⟩
    obtain ⟨a1, ha1⟩ : ∃ y, endOk c.parts xf xo 6 = y := ⟨_, rfl⟩
    rw [ha1]
    have HA1 := hid ha1
    have HV5 := hid (HV.out.chain ho5 (fun _ _ h => h))
    have hby := (ho5.block y (lt_of_block HY.out) (fun h => h)).trans HY.out
    obtain ⟨i0, i1, i2⟩ := cf_cells HB.out HV5.out
    have j0 : w5.cell? ⟨y, 0, none⟩ = some (.int .i64 xf) := cell_of_block hby 0
    have j2 : w5.cell? ⟨y, 2, none⟩ = some (.int .i64 xt) := cell_of_block hby 2
    have j3 : w5.cell? ⟨y, 3, none⟩ = some (.int .i64 xi) := cell_of_block hby 3
    have HY5 := hid hby
    have HBAD : Hid (chOk c.parts x = false → r = 10) := fun e => by rw [← HCH.out, chans_10 HG.out e]
    have HOK : Hid (chOk c.parts x = (a1 && endOk c.parts xt xi 7 && decide (xf ≠ xt))) := by show _ = _; rw [HXE.out, chOk, ha1]
    clear ha1 ho5 hby HV HY g0 g1 g2 f0 f1
    cases a1
    · go_wp2_with fail
      go_ret
      exact ⟨by rw [HBAD.out (by rw [HOK.out]; rfl)]; rfl, HO.out.chain HV5.out (fun _ _ h => h)⟩
    go_wp2_with fail
    refine (rEnd _ _ _ _ c (HC.out.only HV5.out (fun _ _ h => h)) _ _ _).mono ?_
    rintro e w6 ⟨rfl, ho6⟩
    obtain ⟨a2, ha2⟩ : ∃ y, endOk c.parts xt xi 7 = y := ⟨_, rfl⟩
    rw [ha2]
    rw [ha2] at HOK
    have HV6 := hid (HV5.out.chain ho6 (fun _ _ h => h))
    have hby := (ho6.block y (lt_of_block HY5.out) (fun h => h)).trans HY5.out
    obtain ⟨g0, g1, g2⟩ := cf_cells HB.out HV6.out
    have f0 : w6.cell? ⟨y, 0, none⟩ = some (.int .i64 xf) := cell_of_block hby 0
    have f2 : w6.cell? ⟨y, 2, none⟩ = some (.int .i64 xt) := cell_of_block hby 2
    have HY6 := hid hby
    clear ha2 ho6 hby HV5 HY5 i0 i1 i2 j0 j2 j3
    cases a2
    · go_wp2_with fail
      go_ret
      exact ⟨by rw [HBAD.out (by rw [HOK.out]; rfl)]; rfl, HO.out.chain HV6.out (fun _ _ h => h)⟩
    by_cases hft : xf = xt
    · have hbe : (xf == xt) = true := beq_iff_eq.2 hft
      have HFT := hid hft
      clear hft
      go_wp2_with fail
      go_ret
      exact ⟨by rw [HBAD.out (by rw [HOK.out, decide_eq_false (fun e => e HFT.out)]; rfl)]; rfl, HO.out.chain HV6.out (fun _ _ h => h)⟩
    have hbe : (xf == xt) = false := beq_eq_false_iff_ne.2 hft
    have HCO : Hid (chOk c.parts x = true) := by show _ = _; rw [HOK.out, decide_eq_true hft]; rfl
    clear hft HOK HBAD
    go_wp2_with fail
    clear g0 g1 g2 f0 f2 hbe
    go_loopw [149] (fun i wx => ∃ q : Nat, i = .int .i64 (q : Int) ∧ q ≤ j4 ∧ (∀ a x', a < q → c.chans[a]? = some x' → clash x x' = false) ∧ Only (fun _ => False) w6 wx) (fun i _ => j4 - (intOf i).toNat)
    case atStart => exact ⟨0, rfl, Nat.zero_le _, (fun a x ha => absurd ha (Nat.not_lt_zero _)), Only.refl _ _⟩
    case round =>
    obtain ⟨q, rfl, hq, hcl, hox⟩ := hrel
    have HCL := hid hcl
    have HX2 := hid (HV6.out.chain hox (fun _ _ h => h))
    obtain ⟨d0, d1, d2⟩ := cf_cells HB.out HX2.out
    have hby := (hox.block y (lt_of_block HY6.out) (fun h => h)).trans HY6.out
    have HX6 := hid hox
    have HYR := hid hby
    clear hcl hox hby
    by_cases hlt2 : (q : Int) < (j4 : Int)
    · obtain ⟨b2, off2, heq, _, x2, hx2, k1, k2, k3, k4⟩ := (HC.out.only HX2.out (fun _ _ h => h)).chans.get q (by rw [HK.out]; omega)
      injection heq with heq
      injection heq with hb2 ho2 _
      subst hb2 ho2
      obtain ⟨zf, hzf⟩ : ∃ y, x2.src = y := ⟨_, rfl⟩
      obtain ⟨zo, hzo⟩ : ∃ y, x2.out = y := ⟨_, rfl⟩
      obtain ⟨zt, hzt⟩ : ∃ y, x2.dst = y := ⟨_, rfl⟩
      obtain ⟨zi, hzi⟩ : ∃ y, x2.inn = y := ⟨_, rfl⟩
      have e0 : wr.cell? ⟨b, off + q * 4, none⟩ = some (.int .i64 x2.src) := k1.1
      have e1 : wr.cell? ⟨b, off + q * 4 + 1, none⟩ = some (.int .i64 x2.out) := k2.1
      have e2 : wr.cell? ⟨b, off + q * 4 + 2, none⟩ = some (.int .i64 x2.dst) := k3.1
      have e3 : wr.cell? ⟨b, off + q * 4 + 3, none⟩ = some (.int .i64 x2.inn) := k4.1
      have HG2 := hid hx2
      have HCE : Hid (clash x x2 = decide ((xf = zf ∧ xo = zo) ∨ (xt = zt ∧ xi = zi))) := by show _ = _; rw [clash, HXE.out, hzf, hzo, hzt, hzi]
      rw [hzf] at e0
      rw [hzo] at e1
      rw [hzt] at e2
      rw [hzi] at e3
      have hV : ∃ V y2, V = wr.alloc (.cells #[.int .i64 zf, .int .i64 zo, .int .i64 zt, .int .i64 zi] 54) ∧ y2 = wr.heap.size ∧ Only (fun _ => False) w6 V ∧ Only (fun _ => False) wr V ∧ V.heap[y2]? = some (.cells #[.int .i64 zf, .int .i64 zo, .int .i64 zt, .int .i64 zi] 54) :=
        ⟨_, _, rfl, rfl, HX6.out.alloc _, (Only.refl _ _).alloc _, heap_new _ _⟩
      obtain ⟨V, y2, hVe, hye, hoV, hoV2, hby2⟩ := hV
      have HV := hid hoV
      have hby := (hoV2.block y (lt_of_block HYR.out) (fun h => h)).trans HYR.out
      have f0 : V.cell? ⟨y, 0, none⟩ = some (.int .i64 xf) := cell_of_block hby 0
      have f1 : V.cell? ⟨y, 1, none⟩ = some (.int .i64 xo) := cell_of_block hby 1
      have f2 : V.cell? ⟨y, 2, none⟩ = some (.int .i64 xt) := cell_of_block hby 2
      have f3 : V.cell? ⟨y, 3, none⟩ = some (.int .i64 xi) := cell_of_block hby 3
      have g0 : V.cell? ⟨y2, 0, none⟩ = some (.int .i64 zf) := cell_of_block hby2 0
      have g1 : V.cell? ⟨y2, 1, none⟩ = some (.int .i64 zo) := cell_of_block hby2 1
      have g2 : V.cell? ⟨y2, 2, none⟩ = some (.int .i64 zt) := cell_of_block hby2 2
      have g3 : V.cell? ⟨y2, 3, none⟩ = some (.int .i64 zi) := cell_of_block hby2 3
      have HYES : Hid ((xf = zf ∧ xo = zo) ∨ (xt = zt ∧ xi = zi) → r = 11) := fun e => by
        rw [← HCH.out, chans_11 HG.out HCO.out (any_yes (get_take (by omega) HG2.out) (by rw [HCE.out]; exact decide_eq_true e))]
      have HNO : Hid (¬ ((xf = zf ∧ xo = zo) ∨ (xt = zt ∧ xi = zi)) → ∀ a x', a < q + 1 → c.chans[a]? = some x' → clash x x' = false) := fun e a y ha hy => by
        by_cases ea : a = q
        · subst ea
          rw [HG2.out] at hy
          injection hy with hy
          subst hy
          rw [HCE.out]
          exact decide_eq_false e
        · exact HCL.out a y (by omega) hy
      clear hoV hoV2 hby hby2 k1 k2 k3 k4 hx2 hzf hzo hzt hzi
      go_upto_region 43 with fail
      rw [← hVe, ← hye]
      clear hVe hye d0 d1 d2 e0 e1 e2 e3
      have HEND := hid (HO.out.chain (HV6.out.chain HV.out (fun _ _ h => h)) (fun _ _ h => h))
      by_cases a1 : xf = zf
      · have b1 : (xf == zf) = true := beq_iff_eq.2 a1
        by_cases a2 : xo = zo
        · have b2 : (xo == zo) = true := beq_iff_eq.2 a2
          have HE := hid (HYES.out (.inl ⟨a1, a2⟩))
          clear a1 a2
          go_wp2_with fail
          go_ret
          exact ⟨by rw [HE.out]; rfl, HEND.out⟩
        · have b2 : (xo == zo) = false := beq_eq_false_iff_ne.2 a2
          by_cases a3 : xt = zt
          · have b3 : (xt == zt) = true := beq_iff_eq.2 a3
            by_cases a4 : xi = zi
            · have b4 : (xi == zi) = true := beq_iff_eq.2 a4
              have HE := hid (HYES.out (.inr ⟨a3, a4⟩))
              clear a1 a2 a3 a4
              go_wp2_with fail
              go_ret
              exact ⟨by rw [HE.out]; rfl, HEND.out⟩
            · have b4 : (xi == zi) = false := beq_eq_false_iff_ne.2 a4
              have HE := hid (HNO.out (by omega))
              clear a1 a2 a3 a4
              go_wp2_with fail
              go_roundw
              case rel => exact ⟨q + 1, by go_num, by omega, HE.out, HV.out⟩
              case measure => simp [intOf]; omega
          · have b3 : (xt == zt) = false := beq_eq_false_iff_ne.2 a3
            have HE := hid (HNO.out (by omega))
            clear a1 a2 a3
            go_wp2_with fail
            go_roundw
            case rel => exact ⟨q + 1, by go_num, by omega, HE.out, HV.out⟩
            case measure => simp [intOf]; omega
      · have b1 : (xf == zf) = false := beq_eq_false_iff_ne.2 a1
        by_cases a3 : xt = zt
        · have b3 : (xt == zt) = true := beq_iff_eq.2 a3
          by_cases a4 : xi = zi
          · have b4 : (xi == zi) = true := beq_iff_eq.2 a4
            have HE := hid (HYES.out (.inr ⟨a3, a4⟩))
            clear a1 a3 a4
            go_wp2_with fail
            go_ret
            exact ⟨by rw [HE.out]; rfl, HEND.out⟩
          · have b4 : (xi == zi) = false := beq_eq_false_iff_ne.2 a4
            have HE := hid (HNO.out (by omega))
            clear a1 a3 a4
            go_wp2_with fail
            go_roundw
            case rel => exact ⟨q + 1, by go_num, by omega, HE.out, HV.out⟩
            case measure => simp [intOf]; omega
        · have b3 : (xt == zt) = false := beq_eq_false_iff_ne.2 a3
          have HE := hid (HNO.out (by omega))
          clear a1 a3
          go_wp2_with fail
          go_roundw
          case rel => exact ⟨q + 1, by go_num, by omega, HE.out, HV.out⟩
          case measure => simp [intOf]; omega
    · have HAN : Hid ((c.chans.take j4).any (clash x) = false) := any_no (fun a x' ha hx' => by
        obtain ⟨e1, e2⟩ := take_get hx'
        exact HCL.out a x' (by omega) e2)
      have HNX : Hid (chansW c.parts (c.chans.take (j4 + 1)) (c.chans.drop (j4 + 1)) = r) := by show _ = _; rw [← HCH.out, chans_next HG.out HCO.out HAN.out]
      go_wp2_with fail
      go_roundw
      case rel => exact ⟨j4 + 1, by go_num, by omega, HNX.out, HX2.out⟩
      case measure => simp [intOf]; omega
  · go_wp2_with fail
    go_ret
    exact ⟨by rw [← HCH.out, chans_end (by rw [HK.out]; omega)]; rfl, HO.out.chain HX.out (fun _ _ h => h)⟩
end Go.Proofs.Ytpmchlnnlanokaa

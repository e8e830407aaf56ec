/-
  septumref11: object, Part, end, Frame answer as the plain mathematics. Conditions: none.
-/
import Derived.Test.YtapmakdklpbjkaaPlain11
import Derived.Test.YtapmakdklpbjkaaFew11
namespace Go.Proofs.Ytapmakdklpbjkaa
open Go.RowKit Go.Sept

set_option maxRecDepth 100000 in
set_option maxHeartbeats 1000000 in
theorem rObject (w : World) (o : Ob) : Calls Try.prog 19 #[.agg #[.int .i64 o.kind, .int .i64 o.size, .bool o.prio]] w fun e w' => e = .returned (.bool (obOk o)) ∧ Only (fun _ => False) w w' := by
  obtain ⟨k, s, b⟩ := o
  go_enter Try.func19, Try.ntmps19
  go_wp2_with fail
  all_goals go_ret
  all_goals refine ⟨congrArg (fun b => Ending.returned (.bool b)) ?_, (Only.refl _ _).alloc _⟩
  all_goals simp only [beq_iff_eq, beq_eq_false_iff_ne, ne_eq] at *
  all_goals cases b
  all_goals first
    | exact (decide_eq_true (by simp <;> omega)).symm
    | exact (decide_eq_false (by simp <;> omega)).symm
    | (rw [Bool.eq_iff_iff, obOk, decide_eq_true_iff]; simp <;> omega)
    | (subst_vars; rw [Bool.eq_iff_iff, obOk, decide_eq_true_iff]; simp <;> omega)
    | (subst_vars; rw [Bool.eq_iff_iff, obOk, decide_eq_true_iff]; simp)

set_option maxRecDepth 100000 in
set_option maxHeartbeats 1000000 in
theorem rPart {P : Nat → Prop} (w : World) (v0 v1 : Value) (p : Pt) (h : PtIs P w v0 v1 p) :
    Calls Try.prog 9 #[.agg #[v0, v1]] w fun e w' => e = .returned (.int .i64 (partW p)) ∧ Only (fun _ => False) w w' := by
  obtain ⟨hT, hO⟩ := h
  obtain ⟨ta, tc, rfl, tm⟩ := hT.shape
  obtain ⟨oa, oc, rfl, om⟩ := hO.shape
  have hW : ∃ W z, W = w.alloc (ptO (.slice ta p.ths.length tc) (.slice oa p.obs.length oc)) ∧ z = w.heap.size ∧ Only (fun _ => False) w W ∧ W.heap[z]? = some (ptO (.slice ta p.ths.length tc) (.slice oa p.obs.length oc)) := ⟨_, _, rfl, rfl, (Only.refl _ _).alloc _, heap_new _ _⟩
  obtain ⟨W, z, hWe, hze, hoW, hbz⟩ := hW
  have HT := hid hT
  have HU := hid hO
  have HO := hid hoW
  have HB := hid hbz
  have c0 : W.cell? ⟨z, 0, none⟩ = some (.slice ta p.ths.length tc) := cell_of_block hbz 0
  have c1 : W.cell? ⟨z, 1, none⟩ = some (.slice oa p.obs.length oc) := cell_of_block hbz 1
  obtain ⟨n, hn⟩ : ∃ n, p.ths.length = n := ⟨_, rfl⟩
  obtain ⟨m, hm⟩ : ∃ m, p.obs.length = m := ⟨_, rfl⟩
  have HN := hid hn
  have HM := hid hm
  obtain ⟨pw, hpw⟩ : ∃ x, partW p = x := ⟨_, rfl⟩
  have HW := hid hpw
  clear hT hO hoW hbz
  rw [hn] at hWe c0 tm ⊢
  rw [hm] at hWe c1 om ⊢
  rw [hpw]
  rw [partW, hn, hm] at hpw
  have HE := hid hpw
  clear hn hm hpw HW
  simp only [ptO] at hWe
  go_enter Try.func9, Try.ntmps9
  go_upto_region 1 with fail
  rw [← hWe, ← hze]
  clear hWe hze
  by_cases h1 : (n : Int) < 1
  · go_wp2_with fail
    go_ret
    exact ⟨by rw [← HE.out, if_pos (by omega)]; rfl, HO.out⟩
  · by_cases h2 : (6 : Int) < n
    · go_wp2_with fail
      go_ret
      exact ⟨by rw [← HE.out, if_pos (by omega)]; rfl, HO.out⟩
    · by_cases h3 : (8 : Int) < m
      · go_wp2_with fail
        go_ret
        exact ⟨by rw [← HE.out, if_neg (by omega), if_pos (by omega)]; rfl, HO.out⟩
      · go_wp2_with fail
        go_loopw [23] (fun i wx => ∃ j : Nat, i = .int .i64 (j : Int) ∧ j ≤ n ∧ (∀ i x, i < j → p.ths[i]? = some x → thOk m x = true) ∧ Only (fun _ => False) W wx) (fun i _ => n - (intOf i).toNat)
        case atStart => exact ⟨0, rfl, Nat.zero_le _, (fun i p hi => absurd hi (Nat.not_lt_zero _)), Only.refl _ _⟩
        case round =>
          obtain ⟨j, rfl, hj, hall, hox⟩ := hrel
          have HA := hid hall
          have HX := hid hox
          have hbz := (hox.block z (lt_of_block HB.out) (fun h => h)).trans HB.out
          have d0 : wr.cell? ⟨z, 0, none⟩ = some (.slice ta p.ths.length tc) := cell_of_block hbz 0
          have d1 : wr.cell? ⟨z, 1, none⟩ = some (.slice oa p.obs.length oc) := cell_of_block hbz 1
          rw [HN.out] at d0
          rw [HM.out] at d1
          clear hall hox hbz c0 c1
          by_cases hlt : (j : Int) < (n : Int)
          · have hp := HT.out.only (stay_th (HO.out.chain HX.out (fun _ _ h => h)) (fun _ _ h => h))
            obtain ⟨b, off, rfl, _, x, hx, k1, k2, k3, k4, v, k5, k6⟩ := hp.get j (by rw [HN.out]; omega)
            obtain ⟨pa, pc, rfl, pm⟩ := k6.shape
            have HG := hid hx
            have e0 : wr.cell? ⟨b, off + j * 4, none⟩ = some (.int .i64 x.prio) := k1.1
            have e1 : wr.cell? ⟨b, off + j * 4 + 1, none⟩ = some (.int .u32 x.caps) := k2
            have e2 : wr.cell? ⟨b, off + j * 4 + 2, none⟩ = some (.bool x.ctl) := k4
            have e3 : wr.cell? ⟨b, off + j * 4 + 3, none⟩ = some (.slice pa x.prog.length pc) := k5
            obtain ⟨cp, hcp⟩ : ∃ y, x.caps = y := ⟨_, rfl⟩
            obtain ⟨pr, hpr⟩ : ∃ y, x.prio = y := ⟨_, rfl⟩
            obtain ⟨l, hl⟩ : ∃ y, x.prog.length = y := ⟨_, rfl⟩
            have HK : Hid (thOk m x = decide (0 ≤ pr ∧ pr ≤ 15 ∧ cp < 2 ^ m ∧ l ≤ 40)) := by show _ = _; rw [thOk, hcp, hpr, hl]
            rw [hcp] at e1 k3
            rw [hpr] at e0
            rw [hl] at e3 pm
            clear hp k1 k2 k4 k5 k6 hx hcp hpr hl
            have hV : ∃ V y, V = wr.alloc (.cells #[.int .i64 pr, .int .u32 cp, .bool x.ctl, .slice pa l pc] 50) ∧ y = wr.heap.size ∧ Only (fun _ => False) W V ∧ V.cell? ⟨y, 0, none⟩ = some (.int .i64 pr) ∧ V.cell? ⟨y, 1, none⟩ = some (.int .u32 cp) ∧ V.cell? ⟨y, 3, none⟩ = some (.slice pa l pc) ∧ V.cell? ⟨z, 1, none⟩ = some (.slice oa m oc) :=
              ⟨_, _, rfl, rfl, HX.out.alloc _, cell_of_block (heap_new _ _) 0, cell_of_block (heap_new _ _) 1, cell_of_block (heap_new _ _) 3, (World.cell?_of_block (Below.heap_alloc _ _ _ (World.block_lt_of_cell? _ _ d1))).trans d1⟩
            obtain ⟨V, y, hVe, hye, hoV, f0, f1, f3, g1⟩ := hV
            have HV := hid hoV
            clear hoV
            go_upto_region 9 with fail
            rw [← hVe, ← hye]
            clear hVe hye d0 d1 e0 e1 e2 e3
            by_cases q1 : pr < 0
            · go_wp2_with fail
              go_ret
              exact ⟨by rw [← HE.out, if_neg (by omega), if_neg (by omega), if_pos (all_no HG.out (by rw [HK.out]; exact decide_eq_false (by omega)))]; rfl, HO.out.chain HV.out (fun _ _ h => h)⟩
            · by_cases q2 : 15 < pr
              · go_wp2_with fail
                go_ret
                exact ⟨by rw [← HE.out, if_neg (by omega), if_neg (by omega), if_pos (all_no HG.out (by rw [HK.out]; exact decide_eq_false (by omega)))]; rfl, HO.out.chain HV.out (fun _ _ h => h)⟩
              · by_cases q3 : cp / 2 ^ m = 0
                · have HC := hid ((caps_lt k3.1 m).1 q3)
                  by_cases q4 : (40 : Int) < l
                  · go_wp2_with fail
                    go_ret
                    exact ⟨by rw [← HE.out, if_neg (by omega), if_neg (by omega), if_pos (all_no HG.out (by rw [HK.out]; exact decide_eq_false (by omega)))]; rfl, HO.out.chain HV.out (fun _ _ h => h)⟩
                  · go_wp2_with fail
                    go_roundw
                    case rel =>
                      refine ⟨j + 1, by go_num, by omega, ?_, HV.out⟩
                      intro i y hi hy
                      by_cases e : i = j
                      · subst e
                        rw [HG.out] at hy
                        injection hy with hy
                        subst hy
                        rw [HK.out]
                        exact decide_eq_true ⟨by omega, by omega, HC.out, by omega⟩
                      · exact HA.out i y (by omega) hy
                    case measure => simp [intOf]; omega
                · have HC := hid (fun h => q3 ((caps_lt k3.1 m).2 h))
                  go_wp2_with fail
                  go_ret
                  exact ⟨by rw [← HE.out, if_neg (by omega), if_neg (by omega), if_pos (all_no HG.out (by rw [HK.out]; exact decide_eq_false (fun h => HC.out h.2.2.1)))]; rfl, HO.out.chain HV.out (fun _ _ h => h)⟩
          · have HJ : Hid (p.ths.all (thOk m) = true) := all_yes (fun i x hi hx => HA.out i x (by rw [HN.out] at hi; omega) hx)
            go_wp2_with fail
            clear hlt
            go_loopw [60] (fun i wx => ∃ j : Nat, i = .int .i64 (j : Int) ∧ j ≤ m ∧ (∀ i x, i < j → p.obs[i]? = some x → obOk x = true) ∧ Only (fun _ => False) W wx) (fun i _ => m - (intOf i).toNat)
            case atStart => exact ⟨0, rfl, Nat.zero_le _, (fun i p hi => absurd hi (Nat.not_lt_zero _)), HX.out⟩
            case round =>
              obtain ⟨i, rfl, hi, hall, hox⟩ := hrel
              have HA2 := hid hall
              have HX2 := hid hox
              have hbz := (hox.block z (lt_of_block HB.out) (fun h => h)).trans HB.out
              have d1 : wr.cell? ⟨z, 1, none⟩ = some (.slice oa p.obs.length oc) := cell_of_block hbz 1
              rw [HM.out] at d1
              clear hall hox hbz HA HX
              by_cases hlt : (i : Int) < (m : Int)
              · have hp := HU.out.only (stay_ob (HO.out.chain HX2.out (fun _ _ h => h)) (fun _ _ h => h))
                obtain ⟨b, off, rfl, _, x, hx, k1, k2, k3⟩ := hp.get i (by rw [HM.out]; omega)
                have HG := hid hx
                have e0 : wr.cell? ⟨b, off + i * 3, none⟩ = some (.int .i64 x.kind) := k1.1
                have e1 : wr.cell? ⟨b, off + i * 3 + 1, none⟩ = some (.int .i64 x.size) := k2.1
                have e2 : wr.cell? ⟨b, off + i * 3 + 2, none⟩ = some (.bool x.prio) := k3
                clear hp k1 k2 k3 hx
                go_wp2_with fail
                refine (rObject _ x).mono ?_
                rintro e w2 ⟨rfl, ho2⟩
                obtain ⟨ok, hok⟩ : ∃ y, obOk x = y := ⟨_, rfl⟩
                have HK := hid hok
                have HO2 := hid (HX2.out.chain ho2 (fun _ _ h => h))
                rw [hok]
                clear hok ho2 HX2
                cases ok
                · go_wp2_with fail
                  go_ret
                  exact ⟨by rw [← HE.out, if_neg (by omega), if_neg (by omega), if_neg (by rw [HJ.out]; decide), if_pos (all_no HG.out HK.out)]; rfl, HO.out.chain HO2.out (fun _ _ h => h)⟩
                · go_wp2_with fail
                  go_roundw
                  case rel =>
                    refine ⟨i + 1, by go_num, by omega, ?_, HO2.out⟩
                    intro a y ha hy
                    by_cases e : a = i
                    · subst e
                      rw [HG.out] at hy
                      injection hy with hy
                      subst hy
                      exact HK.out
                    · exact HA2.out a y (by omega) hy
                  case measure => simp [intOf]; omega
              · have HJ2 : Hid (p.obs.all obOk = true) := all_yes (fun a x ha hx => HA2.out a x (by rw [HM.out] at ha; omega) hx)
                go_wp2_with fail
                go_ret
                exact ⟨by rw [← HE.out, if_neg (by omega), if_neg (by omega), if_neg (by rw [HJ.out]; decide), if_neg (by rw [HJ2.out]; decide)]; rfl, HO.out.chain HX2.out (fun _ _ h => h)⟩
end Go.Proofs.Ytapmakdklpbjkaa

/-
  septumref11: end and Frame answer as the plain mathematics. Conditions: none.
-/
namespace Go.Proofs.Ytapmakdklpbjkaa
open Go.RowKit Go.Sept

theorem endOk_neg {ps : List Pt} {p o k : Int} (h : ¬ (0 ≤ p ∧ 0 ≤ o)) : endOk ps p o k = false := by
  rw [endOk, decide_eq_false h, Bool.false_and]
theorem endOk_part {ps : List Pt} {p o k : Int} (h : ps.length ≤ p.toNat) : endOk ps p o k = false := by
  rw [endOk, List.getElem?_eq_none h, Option.bind_none, Option.any_none, Bool.and_false]
theorem endOk_some {ps : List Pt} {p o : Nat} {k : Int} {x : Pt} (h : ps[p]? = some x) : endOk ps p o k = (x.obs[o]?).any fun y => decide (y.kind = k) := by
  rw [endOk, decide_eq_true ⟨by omega, by omega⟩, Bool.true_and, Int.toNat_natCast, Int.toNat_natCast, h, Option.bind_some]

theorem min_if (a : Int) : (if 2147483647 < a then 2147483647 else a) = min a 2147483647 := by
  rw [Int.min_def]
  split <;> split <;> omega
theorem frameW_drop {n : Int} {ws : List Win} {j : Nat} {x : Win} (h : ws[j]? = some x) : frameW n (ws.drop j) = frameW (if 1 ≤ x.ticks ∧ x.ticks ≤ 100 then min (n + x.ticks) 2147483647 else n) (ws.drop (j + 1)) := by
  rw [drop_of h, frameW]
theorem frameW_end {n : Int} {ws : List Win} {j : Nat} (h : ws.length ≤ j) : frameW n (ws.drop j) = n := by
  rw [drop_end h, frameW]

end Go.Proofs.Ytapmakdklpbjkaa

/-
  septumref11: wrong and Valid answer as the plain mathematics. Conditions: none.
-/
namespace Go.Sept
section
variable {c : Cf}
theorem wrong_1 (h : c.parts.length < 1 ∨ 4 < c.parts.length) : wrongW c = 1 := if_pos h
theorem wrong_2 (h1 : ¬ (c.parts.length < 1 ∨ 4 < c.parts.length)) (h : firstW c.parts ≠ 0) : wrongW c = firstW c.parts := by rw [wrongW, if_neg h1, if_pos h]
theorem wrong_6 (h1 : ¬ (c.parts.length < 1 ∨ 4 < c.parts.length)) (h2 : firstW c.parts = 0) (h : c.wins.length < 1 ∨ 16 < c.wins.length) : wrongW c = 6 := by rw [wrongW, if_neg h1, if_neg (fun e => e h2), if_pos h]
theorem wrong_7 (h1 : ¬ (c.parts.length < 1 ∨ 4 < c.parts.length)) (h2 : firstW c.parts = 0) (h6 : ¬ (c.wins.length < 1 ∨ 16 < c.wins.length)) (h : c.wins.all (winOk c.parts.length) = false) : wrongW c = 7 := by rw [wrongW, if_neg h1, if_neg (fun e => e h2), if_neg h6, if_pos h]
theorem wrong_8 (h1 : ¬ (c.parts.length < 1 ∨ 4 < c.parts.length)) (h2 : firstW c.parts = 0) (h6 : ¬ (c.wins.length < 1 ∨ 16 < c.wins.length)) (h7 : c.wins.all (winOk c.parts.length) = true) (h : (List.range c.parts.length).all (hasWin c.wins) = false) : wrongW c = 8 := by rw [wrongW, if_neg h1, if_neg (fun e => e h2), if_neg h6, if_neg (by rw [h7]; decide), if_pos h]
theorem wrong_9 (h1 : ¬ (c.parts.length < 1 ∨ 4 < c.parts.length)) (h2 : firstW c.parts = 0) (h6 : ¬ (c.wins.length < 1 ∨ 16 < c.wins.length)) (h7 : c.wins.all (winOk c.parts.length) = true) (h8 : (List.range c.parts.length).all (hasWin c.wins) = true) (h : 8 < c.chans.length) : wrongW c = 9 := by rw [wrongW, if_neg h1, if_neg (fun e => e h2), if_neg h6, if_neg (by rw [h7]; decide), if_neg (by rw [h8]; decide), if_pos h]
theorem wrong_10 (h1 : ¬ (c.parts.length < 1 ∨ 4 < c.parts.length)) (h2 : firstW c.parts = 0) (h6 : ¬ (c.wins.length < 1 ∨ 16 < c.wins.length)) (h7 : c.wins.all (winOk c.parts.length) = true) (h8 : (List.range c.parts.length).all (hasWin c.wins) = true) (h : ¬ 8 < c.chans.length) : wrongW c = chansW c.parts [] c.chans := by rw [wrongW, if_neg h1, if_neg (fun e => e h2), if_neg h6, if_neg (by rw [h7]; decide), if_neg (by rw [h8]; decide), if_neg h]
end
theorem first_step {ps : List Pt} {j : Nat} {p : Pt} (h : ps[j]? = some p) : firstW (ps.drop j) = if partW p ≠ 0 then partW p else firstW (ps.drop (j + 1)) := by rw [drop_of h, firstW]
theorem first_end {ps : List Pt} {j : Nat} (h : ps.length ≤ j) : firstW (ps.drop j) = 0 := by rw [drop_end h, firstW]
section
variable {ps : List Pt} {l : List Chn} {j : Nat} {x : Chn}
theorem chans_10 (h : l[j]? = some x) (hk : chOk ps x = false) : chansW ps (l.take j) (l.drop j) = 10 := by rw [drop_of h, chansW, if_pos hk]
theorem chans_11 (h : l[j]? = some x) (hk : chOk ps x = true) (ha : (l.take j).any (clash x) = true) : chansW ps (l.take j) (l.drop j) = 11 := by rw [drop_of h, chansW, if_neg (by rw [hk]; decide), if_pos ha]
theorem chans_next (h : l[j]? = some x) (hk : chOk ps x = true) (ha : (l.take j).any (clash x) = false) : chansW ps (l.take j) (l.drop j) = chansW ps (l.take (j + 1)) (l.drop (j + 1)) := by rw [drop_of h, chansW, if_neg (by rw [hk]; decide), if_neg (by rw [ha]; decide), take_of h]
theorem chans_end (h : l.length ≤ j) : chansW ps (l.take j) (l.drop j) = 0 := by rw [drop_end h]; cases l.take j <;> rfl
end
theorem range_get {n i x : Nat} (h : (List.range n)[i]? = some x) : x = i ∧ i < n := by
  obtain ⟨hi, he⟩ := List.getElem?_eq_some_iff.1 h
  simp at hi he
  exact ⟨he.symm, hi⟩
theorem get_range {n i : Nat} (h : i < n) : (List.range n)[i]? = some i := by
  rw [List.getElem?_eq_getElem (by simpa using h)]
  simp
theorem take_get {α : Type} {l : List α} {j i : Nat} {x : α} (h : (l.take j)[i]? = some x) : i < j ∧ l[i]? = some x := by
  rw [List.getElem?_take] at h
  split at h
  · exact ⟨by assumption, h⟩
  · cases h
theorem get_take {α : Type} {l : List α} {j i : Nat} {x : α} (hi : i < j) (h : l[i]? = some x) : (l.take j)[i]? = some x := by
  rw [List.getElem?_take, if_pos hi]
  exact h
end Go.Sept

namespace Go.Proofs.Ytapmakdklpbjkaa
open Go.RowKit Go.Sept

theorem cf_cells {W wr : World} {z : Nat} {v0 v1 v2 : Value} (hB : W.heap[z]? = some (cfO v0 v1 v2)) (ho : Only (fun _ => False) W wr) : wr.cell? ⟨z, 0, none⟩ = some v0 ∧ wr.cell? ⟨z, 1, none⟩ = some v1 ∧ wr.cell? ⟨z, 2, none⟩ = some v2 := by
  have hb := (ho.block z (lt_of_block hB) (fun h => h)).trans hB
  exact ⟨cell_of_block hb 0, cell_of_block hb 1, cell_of_block hb 2⟩

end Go.Proofs.Ytapmakdklpbjkaa

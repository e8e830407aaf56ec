/-
  septumref11: wrong and Valid answer as the plain mathematics. Conditions: none.
-/
import Derived.Test.YtpmchlnnlanokaaRef11b
namespace Go.Sept
section
variable {c : Cf}
theorem wrong_1 (h : c.parts.length < 1 ∨ 4 < c.parts.length) : wrongW c = 1 := if_pos h
variable (h1 : ¬ (c.parts.length < 1 ∨ 4 < c.parts.length))
include h1
theorem wrong_2 (h : firstW c.parts ≠ 0) : wrongW c = firstW c.parts := by rw [wrongW, if_neg h1, if_pos h]
variable (h2 : firstW c.parts = 0)
include h2
theorem wrong_6 (h : c.wins.length < 1 ∨ 16 < c.wins.length) : wrongW c = 6 := by rw [wrongW, if_neg h1, if_neg (fun e => e h2), if_pos h]
variable (h6 : ¬ (c.wins.length < 1 ∨ 16 < c.wins.length))
include h6
theorem wrong_7 (h : c.wins.all (winOk c.parts.length) = false) : wrongW c = 7 := by rw [wrongW, if_neg h1, if_neg (fun e => e h2), if_neg h6, if_pos h]
variable (h7 : c.wins.all (winOk c.parts.length) = true)
include h7
theorem wrong_8 (h : (List.range c.parts.length).all (hasWin c.wins) = false) : wrongW c = 8 := by rw [wrongW, if_neg h1, if_neg (fun e => e h2), if_neg h6, if_neg (by rw [h7]; decide), if_pos h]
variable (h8 : (List.range c.parts.length).all (hasWin c.wins) = true)
include h8
theorem wrong_9 (h : 8 < c.chans.length) : wrongW c = 9 := by rw [wrongW, if_neg h1, if_neg (fun e => e h2), if_neg h6, if_neg (by rw [h7]; decide), if_neg (by rw [h8]; decide), if_pos h]
theorem wrong_10 (h : ¬ 8 < c.chans.length) : wrongW c = chansW c.parts [] c.chans := by rw [wrongW, if_neg h1, if_neg (fun e => e h2), if_neg h6, if_neg (by rw [h7]; decide), if_neg (by rw [h8]; decide), if_neg h]
end
theorem first_step {ps : List Pt} {j : Nat} {p : Pt} (h : ps[j]? = some p) : firstW (ps.drop j) = if partW p ≠ 0 then partW p else firstW (ps.drop (j + 1)) := by rw [drop_of h, firstW]
theorem first_end {ps : List Pt} {j : Nat} (h : ps.length ≤ j) : firstW (ps.drop j) = 0 := by rw [drop_end h, firstW]
section
variable {ps : List Pt} {l : List Chn} {j : Nat} {x : Chn}
theorem chans_10 (h : l[j]? = some x) (hk : chOk ps x = false) : chansW ps (l.take j) (l.drop j) = 10 := by rw [drop_of h, chansW, if_pos hk]
theorem chans_11 (h : l[j]? = some x) (hk : chOk ps x = true) (ha : (l.take j).any (clash x) = true) : chansW ps (l.take j) (l.drop j) = 11 := by rw [drop_of h, chansW, if_neg (by rw [hk]; decide), if_pos ha]
theorem chans_next (h : l[j]? = some x) (hk : chOk ps x = true) (ha : (l.take j).any (clash x) = false) : chansW ps (l.take j) (l.drop j) = chansW ps (l.take (j + 1)) (l.drop (j + 1)) := by rw [drop_of h, chansW, if_neg (by rw [hk]; decide), if_neg (by rw [ha]; decide), take_of h]
theorem chans_end (h : l.length ≤ j) : chansW ps (l.take j) (l.drop j) = 0 := by rw [drop_end h]; cases l.take j <;> rfl
end
theorem range_get {n i x : Nat} (h : (List.range n)[i]? = some x) : x = i ∧ i < n := by
  obtain ⟨hi, he⟩ := List.getElem?_eq_some_iff.1 h
  simp at hi he
  exact ⟨he.symm, hi⟩
theorem get_range {n i : Nat} (h : i < n) : (List.range n)[i]? = some i := by
  rw [List.getElem?_eq_getElem (by simpa using h)]
  simp
theorem take_get {α : Type} {l : List α} {j i : Nat} {x : α} (h : (l.take j)[i]? = some x) : i < j ∧ l[i]? = some x := by
  rw [List.getElem?_take] at h
  split at h
  · exact ⟨by assumption, h⟩
  · cases h
theorem get_take {α : Type} {l : List α} {j i : Nat} {x : α} (hi : i < j) (h : l[i]? = some x) : (l.take j)[i]? = some x := by
  rw [List.getElem?_take, if_pos hi]
  exact h
end Go.Sept

namespace Go.Proofs.Ytpmchlnnlanokaa
open Go.RowKit Go.Sept

theorem cf_cells {W wr : World} {z : Nat} {v0 v1 v2 : Value} (hB : W.heap[z]? = some (cfO v0 v1 v2)) (ho : Only (fun _ => False) W wr) : wr.cell? ⟨z, 0, none⟩ = some v0 ∧ wr.cell? ⟨z, 1, none⟩ = some v1 ∧ wr.cell? ⟨z, 2, none⟩ = some v2 := by
  have hb := (ho.block z (lt_of_block hB) (fun h => h)).trans hB
  exact ⟨cell_of_block hb 0, cell_of_block hb 1, cell_of_block hb 2⟩

set_option maxRecDepth 100000 in
set_option maxHeartbeats 4000000 in
theorem rWrong {P : Nat → Prop} (w : World) (v0 v1 v2 : Value) (c : Cf) (h : CfIs P w v0 v1 v2 c) :
    Calls Try.prog 20 #[.agg #[v0, v1, v2]] w fun e w' => e = .returned (.int .i64 (wrongW c)) ∧ Only (fun _ => False) w w' := by
  obtain ⟨pa, pc, rfl, pm⟩ := h.parts.shape
  obtain ⟨wa, wc, rfl, wm⟩ := h.wins.shape
  obtain ⟨ca, cc, rfl, cm⟩ := h.chans.shape
  obtain ⟨n, hn⟩ : ∃ n, c.parts.length = n := ⟨_, rfl⟩
  obtain ⟨m, hm⟩ : ∃ m, c.wins.length = m := ⟨_, rfl⟩
  obtain ⟨k, hk⟩ : ∃ k, c.chans.length = k := ⟨_, rfl⟩
  have HN := hid hn
  have HM := hid hm
  have HK := hid hk
  rw [hn] at h pm
  rw [hm] at h wm
  rw [hk] at h cm
  rw [hn, hm, hk]
  clear hn hm hk
  have hW : ∃ W z, W = w.alloc (cfO (.slice pa n pc) (.slice wa m wc) (.slice ca k cc)) ∧ z = w.heap.size ∧ Only (fun _ => False) w W ∧ W.heap[z]? = some (cfO (.slice pa n pc) (.slice wa m wc) (.slice ca k cc)) := ⟨_, _, rfl, rfl, (Only.refl _ _).alloc _, heap_new _ _⟩
  obtain ⟨W, z, hWe, hze, hoW, hbz⟩ := hW
  have HC := hid (h.only hoW (fun _ _ h => h))
  have HO := hid hoW
  have HB := hid hbz
  obtain ⟨c0, c1, c2⟩ := cf_cells hbz (Only.refl _ _)
  obtain ⟨r, hr⟩ : ∃ r, wrongW c = r := ⟨_, rfl⟩
  have HR := hid hr
  rw [hr]
  clear hoW hbz h hr
  simp only [cfO] at hWe
  go_enter Try.func20, Try.ntmps20
  go_upto_region 1 with fail
  rw [← hWe, ← hze]
  clear hWe hze
  by_cases q1 : (n : Int) < 1
  · go_wp2_with fail
    go_ret
    exact ⟨by rw [← HR.out, wrong_1 (by rw [HN.out]; omega)]; rfl, HO.out⟩
  by_cases q2 : (4 : Int) < n
  · go_wp2_with fail
    go_ret
    exact ⟨by rw [← HR.out, wrong_1 (by rw [HN.out]; omega)]; rfl, HO.out⟩
  have H1 : Hid (¬ (c.parts.length < 1 ∨ 4 < c.parts.length)) := by show ¬ _; rw [HN.out]; omega
  go_wp2_with fail
  go_loopw [27] (fun i wx => ∃ j : Nat, i = .int .i64 (j : Int) ∧ j ≤ n ∧ firstW (c.parts.drop j) = firstW c.parts ∧ Only (fun _ => False) W wx) (fun i _ => n - (intOf i).toNat)
  case atStart => exact ⟨0, rfl, Nat.zero_le _, rfl, Only.refl _ _⟩
  case round =>
  obtain ⟨j, rfl, hj, hfw, hox⟩ := hrel
  have HF := hid hfw
  have HX := hid hox
  obtain ⟨d0, d1, d2⟩ := cf_cells HB.out hox
  clear hfw hox c0 c1 c2
  by_cases hlt : (j : Int) < (n : Int)
  · obtain ⟨b, off, rfl, _, x, hx, ⟨u0, k0, k1⟩, ⟨u1, k2, k3⟩⟩ := (HC.out.only HX.out (fun _ _ h => h)).parts.get j (by rw [HN.out]; omega)
    have HI : Hid (PtIs P wr u0 u1 x) := ⟨k1, k3⟩
    have e0 : wr.cell? ⟨b, off + j * 2, none⟩ = some u0 := k0
    have e1 : wr.cell? ⟨b, off + j * 2 + 1, none⟩ = some u1 := k2
    have hst := first_step hx
    rw [HF.out] at hst
    obtain ⟨pw, hpw⟩ : ∃ y, partW x = y := ⟨_, rfl⟩
    rw [hpw] at hst
    have HPW := hid hpw
    have HS := hid hst
    clear k0 k1 k2 k3 hx hpw hst HF
    go_wp2_with fail
    refine (rPart _ _ _ x HI.out).mono ?_
    rintro e w2 ⟨rfl, ho2⟩
    have HO2 := hid (HX.out.chain ho2 (fun _ _ h => h))
    rw [HPW.out]
    clear ho2 HX HI HPW e0 e1 d0 d1 d2
    by_cases hz : pw = 0
    · go_wp2_with fail
      go_roundw
      case rel => exact ⟨j + 1, by go_num, by omega, by rw [HS.out, if_neg (fun e => e hz)], HO2.out⟩
      case measure => simp [intOf]; omega
    · go_wp2_with fail
      go_ret
      exact ⟨by rw [← HR.out, wrong_2 H1.out (by rw [HS.out, if_pos hz]; exact hz), HS.out, if_pos hz]; rfl, HO.out.chain HO2.out (fun _ _ h => h)⟩
  have H2 : Hid (firstW c.parts = 0) := by show _ = _; rw [← HF.out, first_end (by rw [HN.out]; omega)]
  by_cases q6 : (m : Int) < 1
  · go_wp2_with fail
    go_ret
    exact ⟨by rw [← HR.out, wrong_6 H1.out H2.out (by rw [HM.out]; omega)]; rfl, HO.out.chain HX.out (fun _ _ h => h)⟩
  by_cases q7 : (16 : Int) < m
  · go_wp2_with fail
    go_ret
    exact ⟨by rw [← HR.out, wrong_6 H1.out H2.out (by rw [HM.out]; omega)]; rfl, HO.out.chain HX.out (fun _ _ h => h)⟩
  have H6 : Hid (¬ (c.wins.length < 1 ∨ 16 < c.wins.length)) := by show ¬ _; rw [HM.out]; omega
  go_wp2_with fail
  clear hlt d0 d1 d2
  go_loopw [53] (fun i wx => ∃ j : Nat, i = .int .i64 (j : Int) ∧ j ≤ m ∧ (∀ a x, a < j → c.wins[a]? = some x → winOk n x = true) ∧ Only (fun _ => False) W wx) (fun i _ => m - (intOf i).toNat)
  case atStart => exact ⟨0, rfl, Nat.zero_le _, (fun a x ha => absurd ha (Nat.not_lt_zero _)), HX.out⟩
  case round =>
  clear HX HF hj
  obtain ⟨j2, rfl, hj2, hall, hox⟩ := hrel
  have HA := hid hall
  have HX := hid hox
  obtain ⟨d0, d1, d2⟩ := cf_cells HB.out hox
  clear hall hox
  by_cases hlt : (j2 : Int) < (m : Int)
  · obtain ⟨b, off, rfl, _, x, hx, k1, k2⟩ := (HC.out.only HX.out (fun _ _ h => h)).wins.get j2 (by rw [HM.out]; omega)
    obtain ⟨xp, hxp⟩ : ∃ y, x.part = y := ⟨_, rfl⟩
    obtain ⟨xt, hxt⟩ : ∃ y, x.ticks = y := ⟨_, rfl⟩
    have e0 : wr.cell? ⟨b, off + j2 * 2, none⟩ = some (.int .i64 x.part) := k1.1
    have e1 : wr.cell? ⟨b, off + j2 * 2 + 1, none⟩ = some (.int .i64 x.ticks) := k2.1
    have HG := hid hx
    have HW : Hid (winOk n x = decide (0 ≤ xp ∧ xp < n ∧ 1 ≤ xt ∧ xt ≤ 100)) := by show _ = _; rw [winOk, hxp, hxt]
    rw [hxp] at e0
    rw [hxt] at e1
    have hV : ∃ V y, V = wr.alloc (.cells #[.int .i64 xp, .int .i64 xt] 48) ∧ y = wr.heap.size ∧ Only (fun _ => False) W V ∧ V.cell? ⟨y, 0, none⟩ = some (.int .i64 xp) ∧ V.cell? ⟨y, 1, none⟩ = some (.int .i64 xt) ∧ V.cell? ⟨z, 0, none⟩ = some (.slice pa n pc) :=
      ⟨_, _, rfl, rfl, HX.out.alloc _, cell_of_block (heap_new _ _) 0, cell_of_block (heap_new _ _) 1, (World.cell?_of_block (Below.heap_alloc _ _ _ (World.block_lt_of_cell? _ _ d0))).trans d0⟩
    obtain ⟨V, y, hVe, hye, hoV, f0, f1, g0⟩ := hV
    have HV := hid hoV
    clear hoV k1 k2 hx hxp hxt
    go_upto_region 16 with fail
    rw [← hVe, ← hye]
    clear hVe hye d0 d1 d2 e0 e1
    have HBAD : Hid (¬ (0 ≤ xp ∧ xp < n ∧ 1 ≤ xt ∧ xt ≤ 100) → r = 7) := fun e => by rw [← HR.out, wrong_7 H1.out H2.out H6.out (all_no HG.out (by rw [HN.out, HW.out]; exact decide_eq_false e))]
    by_cases t1 : xp < 0
    · go_wp2_with fail
      go_ret
      exact ⟨by rw [HBAD.out (by omega)]; rfl, HO.out.chain HV.out (fun _ _ h => h)⟩
    by_cases t2 : (n : Int) ≤ xp
    · go_wp2_with fail
      go_ret
      exact ⟨by rw [HBAD.out (by omega)]; rfl, HO.out.chain HV.out (fun _ _ h => h)⟩
    by_cases t3 : xt < 1
    · go_wp2_with fail
      go_ret
      exact ⟨by rw [HBAD.out (by omega)]; rfl, HO.out.chain HV.out (fun _ _ h => h)⟩
    by_cases t4 : 100 < xt
    · go_wp2_with fail
      go_ret
      exact ⟨by rw [HBAD.out (by omega)]; rfl, HO.out.chain HV.out (fun _ _ h => h)⟩
    go_wp2_with fail
    go_roundw
    case rel =>
      refine ⟨j2 + 1, by go_num, by omega, ?_, HV.out⟩
      intro a y ha hy
      by_cases e : a = j2
      · subst e
        rw [HG.out] at hy
        injection hy with hy
        subst hy
        rw [HW.out]
        exact decide_eq_true ⟨by omega, by omega, by omega, by omega⟩
      · exact HA.out a y (by omega) hy
    case measure => simp [intOf]; omega
  have H7 : Hid (c.wins.all (winOk c.parts.length) = true) := by show _ = _; rw [HN.out]; exact all_yes (fun a x ha hx => HA.out a x (by rw [HM.out] at ha; omega) hx)
  go_wp2_with fail
  clear hlt d0 d1 d2
  go_loopw [86] (fun i wx => ∃ j : Nat, i = .int .i64 (j : Int) ∧ j ≤ n ∧ (∀ a, a < j → hasWin c.wins a = true) ∧ Only (fun _ => False) W wx) (fun i _ => n - (intOf i).toNat)
  case atStart => exact ⟨0, rfl, Nat.zero_le _, (fun a ha => absurd ha (Nat.not_lt_zero _)), HX.out⟩
  case round =>
  clear HX HA hj2
  obtain ⟨j3, rfl, hj3, hall, hox⟩ := hrel
  have HA := hid hall
  have HX := hid hox
  obtain ⟨d0, d1, d2⟩ := cf_cells HB.out hox
  clear hall hox
  by_cases hlt : (j3 : Int) < (n : Int)
  · go_wp2_with fail
    go_loopw [8, 92] (fun v i wx => ∃ (q : Nat) (bb : Bool), v = .bool bb ∧ i = .int .i64 (q : Int) ∧ q ≤ m ∧ (bb = true → hasWin c.wins j3 = true) ∧ (bb = false → ∀ a x, a < q → c.wins[a]? = some x → x.part ≠ (j3 : Int)) ∧ wx = wr) (fun _ i _ => m - (intOf i).toNat)
    case atStart => exact ⟨0, false, rfl, rfl, Nat.zero_le _, (fun e => nomatch e), (fun _ a x ha => absurd ha (Nat.not_lt_zero _)), rfl⟩
    case round =>
    obtain ⟨q, bb, rfl, rfl, hq, hb1, hb2, rfl⟩ := hrel
    have HB1 := hid hb1
    have HB2 := hid hb2
    clear hb1 hb2
    by_cases hlt2 : (q : Int) < (m : Int)
    · cases bb
      · obtain ⟨b, off, rfl, _, x, hx, k1, k2⟩ := (HC.out.only HX.out (fun _ _ h => h)).wins.get q (by rw [HM.out]; omega)
        obtain ⟨xp, hxp⟩ : ∃ y, x.part = y := ⟨_, rfl⟩
        have e0 : wr.cell? ⟨b, off + q * 2, none⟩ = some (.int .i64 x.part) := k1.1
        have HG := hid hx
        have HXP := hid hxp
        rw [hxp] at e0
        clear k1 k2 hx hxp
        go_wp2_with fail
        go_roundw
        case rel =>
          refine ⟨q + 1, _, rfl, by go_num, by omega, ?_, ?_, trivial⟩
          · intro e
            exact any_yes HG.out (decide_eq_true (by rw [HXP.out]; exact beq_iff_eq.1 e))
          · intro e a y ha hy
            by_cases ea : a = q
            · subst ea
              rw [HG.out] at hy
              injection hy with hy
              subst hy
              rw [HXP.out]
              exact beq_eq_false_iff_ne.1 e
            · exact HB2.out rfl a y (by omega) hy
        case measure => simp [intOf]; omega
      · go_wp2_with fail
        go_roundw
        case rel => exact ⟨q + 1, true, rfl, by go_num, by omega, HB1.out, (fun e => nomatch e), trivial⟩
        case measure => simp [intOf]; omega
    · cases bb
      · have HE : Hid (hasWin c.wins j3 = false) := any_no (fun a x ha hx => decide_eq_false (HB2.out rfl a x (by rw [HM.out] at ha; omega) hx))
        go_wp2_with fail
        go_ret
        exact ⟨by rw [← HR.out, wrong_8 H1.out H2.out H6.out H7.out (all_no (get_range (show j3 < c.parts.length by rw [HN.out]; omega)) HE.out)]; rfl, HO.out.chain HX.out (fun _ _ h => h)⟩
      · go_wp2_with fail
        go_roundw
        case rel =>
          refine ⟨j3 + 1, by go_num, by omega, ?_, HX.out⟩
          intro a ha
          by_cases ea : a = j3
          · subst ea
            exact HB1.out rfl
          · exact HA.out a (by omega)
        case measure => simp [intOf]; omega
  have H8 : Hid ((List.range c.parts.length).all (hasWin c.wins) = true) := all_yes (fun a x ha hx => by
    obtain ⟨e1, e2⟩ := range_get hx
    rw [e1]
    exact HA.out a (by rw [HN.out] at e2; omega))
  by_cases q9 : (8 : Int) < k
  · go_wp2_with fail
    go_ret
    exact ⟨by rw [← HR.out, wrong_9 H1.out H2.out H6.out H7.out H8.out (by rw [HK.out]; omega)]; rfl, HO.out.chain HX.out (fun _ _ h => h)⟩
  have H9 : Hid (r = chansW c.parts [] c.chans) := by show _ = _; rw [← HR.out, wrong_10 H1.out H2.out H6.out H7.out H8.out (by rw [HK.out]; omega)]
  go_wp2_with fail
  clear hlt d0 d1 d2
  go_loopw [117] (fun i wx => ∃ j : Nat, i = .int .i64 (j : Int) ∧ j ≤ k ∧ chansW c.parts (c.chans.take j) (c.chans.drop j) = r ∧ Only (fun _ => False) W wx) (fun i _ => k - (intOf i).toNat)
  case atStart => exact ⟨0, rfl, Nat.zero_le _, H9.out.symm, HX.out⟩
  case round =>
  clear HX HA hj3
  obtain ⟨j4, rfl, hj4, hch, hox⟩ := hrel
  have HCH := hid hch
  have HX := hid hox
  obtain ⟨d0, d1, d2⟩ := cf_cells HB.out hox
  clear hch hox
  by_cases hlt : (j4 : Int) < (k : Int)
  · obtain ⟨b, off, rfl, _, x, hx, k1, k2, k3, k4⟩ := (HC.out.only HX.out (fun _ _ h => h)).chans.get j4 (by rw [HK.out]; omega)
    obtain ⟨xf, hxf⟩ : ∃ y, x.src = y := ⟨_, rfl⟩
    obtain ⟨xo, hxo⟩ : ∃ y, x.out = y := ⟨_, rfl⟩
    obtain ⟨xt, hxt⟩ : ∃ y, x.dst = y := ⟨_, rfl⟩
    obtain ⟨xi, hxi⟩ : ∃ y, x.inn = y := ⟨_, rfl⟩
    have e0 : wr.cell? ⟨b, off + j4 * 4, none⟩ = some (.int .i64 x.src) := k1.1
    have e1 : wr.cell? ⟨b, off + j4 * 4 + 1, none⟩ = some (.int .i64 x.out) := k2.1
    have e2 : wr.cell? ⟨b, off + j4 * 4 + 2, none⟩ = some (.int .i64 x.dst) := k3.1
    have e3 : wr.cell? ⟨b, off + j4 * 4 + 3, none⟩ = some (.int .i64 x.inn) := k4.1
    have HG := hid hx
    have HXE : Hid (x = ⟨xf, xo, xt, xi⟩) := by show _ = _; cases x; simp_all
    rw [hxf] at e0
    rw [hxo] at e1
    rw [hxt] at e2
    rw [hxi] at e3
    have hV : ∃ V y, V = wr.alloc (.cells #[.int .i64 xf, .int .i64 xo, .int .i64 xt, .int .i64 xi] 54) ∧ y = wr.heap.size ∧ Only (fun _ => False) W V ∧ V.heap[y]? = some (.cells #[.int .i64 xf, .int .i64 xo, .int .i64 xt, .int .i64 xi] 54) :=
      ⟨_, _, rfl, rfl, HX.out.alloc _, heap_new _ _⟩
    obtain ⟨V, y, hVe, hye, hoV, hby⟩ := hV
    have HV := hid hoV
    have HY := hid hby
    obtain ⟨g0, g1, g2⟩ := cf_cells HB.out hoV
    have f0 : V.cell? ⟨y, 0, none⟩ = some (.int .i64 xf) := cell_of_block hby 0
    have f1 : V.cell? ⟨y, 1, none⟩ = some (.int .i64 xo) := cell_of_block hby 1
    clear hoV hby k1 k2 k3 k4 hx hxf hxo hxt hxi
    go_upto_region 37 with fail
    rw [← hVe, ← hye]
    clear hVe hye d0 d1 d2 e0 e1 e2 e3
    go_wp2_with fail
    refine (rEnd _ _ _ _ c (HC.out.only HV.out (fun _ _ h => h)) _ _ _).mono ?_
    rintro e w5 ⟨rfl, ho5⟩
    obtain ⟨a1, ha1⟩ : ∃ y, endOk c.parts xf xo 6 = y := ⟨_, rfl⟩
    rw [ha1]
    have HA1 := hid ha1
    have HV5 := hid (HV.out.chain ho5 (fun _ _ h => h))
    have hby := (ho5.block y (lt_of_block HY.out) (fun h => h)).trans HY.out
    obtain ⟨i0, i1, i2⟩ := cf_cells HB.out HV5.out
    have j0 : w5.cell? ⟨y, 0, none⟩ = some (.int .i64 xf) := cell_of_block hby 0
    have j2 : w5.cell? ⟨y, 2, none⟩ = some (.int .i64 xt) := cell_of_block hby 2
    have j3 : w5.cell? ⟨y, 3, none⟩ = some (.int .i64 xi) := cell_of_block hby 3
    have HY5 := hid hby
    have HBAD : Hid (chOk c.parts x = false → r = 10) := fun e => by rw [← HCH.out, chans_10 HG.out e]
    have HOK : Hid (chOk c.parts x = (a1 && endOk c.parts xt xi 7 && decide (xf ≠ xt))) := by show _ = _; rw [HXE.out, chOk, ha1]
    clear ha1 ho5 hby HV HY g0 g1 g2 f0 f1
    cases a1
    · go_wp2_with fail
      go_ret
      exact ⟨by rw [HBAD.out (by rw [HOK.out]; rfl)]; rfl, HO.out.chain HV5.out (fun _ _ h => h)⟩
    go_wp2_with fail
    refine (rEnd _ _ _ _ c (HC.out.only HV5.out (fun _ _ h => h)) _ _ _).mono ?_
    rintro e w6 ⟨rfl, ho6⟩
    obtain ⟨a2, ha2⟩ : ∃ y, endOk c.parts xt xi 7 = y := ⟨_, rfl⟩
    rw [ha2]
    rw [ha2] at HOK
    have HV6 := hid (HV5.out.chain ho6 (fun _ _ h => h))
    have hby := (ho6.block y (lt_of_block HY5.out) (fun h => h)).trans HY5.out
    obtain ⟨g0, g1, g2⟩ := cf_cells HB.out HV6.out
    have f0 : w6.cell? ⟨y, 0, none⟩ = some (.int .i64 xf) := cell_of_block hby 0
    have f2 : w6.cell? ⟨y, 2, none⟩ = some (.int .i64 xt) := cell_of_block hby 2
    have HY6 := hid hby
    clear ha2 ho6 hby HV5 HY5 i0 i1 i2 j0 j2 j3
    cases a2
    · go_wp2_with fail
      go_ret
      exact ⟨by rw [HBAD.out (by rw [HOK.out]; rfl)]; rfl, HO.out.chain HV6.out (fun _ _ h => h)⟩
    by_cases hft : xf = xt
    · have hbe : (xf == xt) = true := beq_iff_eq.2 hft
      have HFT := hid hft
      clear hft
      go_wp2_with fail
      go_ret
      exact ⟨by rw [HBAD.out (by rw [HOK.out, decide_eq_false (fun e => e HFT.out)]; rfl)]; rfl, HO.out.chain HV6.out (fun _ _ h => h)⟩
    have hbe : (xf == xt) = false := beq_eq_false_iff_ne.2 hft
    have HCO : Hid (chOk c.parts x = true) := by show _ = _; rw [HOK.out, decide_eq_true hft]; rfl
    clear hft HOK HBAD
    go_wp2_with fail
    clear g0 g1 g2 f0 f2 hbe
    go_loopw [149] (fun i wx => ∃ q : Nat, i = .int .i64 (q : Int) ∧ q ≤ j4 ∧ (∀ a x', a < q → c.chans[a]? = some x' → clash x x' = false) ∧ Only (fun _ => False) w6 wx) (fun i _ => j4 - (intOf i).toNat)
    case atStart => exact ⟨0, rfl, Nat.zero_le _, (fun a x ha => absurd ha (Nat.not_lt_zero _)), Only.refl _ _⟩
    case round =>
    obtain ⟨q, rfl, hq, hcl, hox⟩ := hrel
    have HCL := hid hcl
    have HX2 := hid (HV6.out.chain hox (fun _ _ h => h))
    obtain ⟨d0, d1, d2⟩ := cf_cells HB.out HX2.out
    have hby := (hox.block y (lt_of_block HY6.out) (fun h => h)).trans HY6.out
    have HX6 := hid hox
    have HYR := hid hby
    clear hcl hox hby
    by_cases hlt2 : (q : Int) < (j4 : Int)
    · obtain ⟨b2, off2, heq, _, x2, hx2, k1, k2, k3, k4⟩ := (HC.out.only HX2.out (fun _ _ h => h)).chans.get q (by rw [HK.out]; omega)
      injection heq with heq
      injection heq with hb2 ho2 _
      subst hb2 ho2
      obtain ⟨zf, hzf⟩ : ∃ y, x2.src = y := ⟨_, rfl⟩
      obtain ⟨zo, hzo⟩ : ∃ y, x2.out = y := ⟨_, rfl⟩
      obtain ⟨zt, hzt⟩ : ∃ y, x2.dst = y := ⟨_, rfl⟩
      obtain ⟨zi, hzi⟩ : ∃ y, x2.inn = y := ⟨_, rfl⟩
      have e0 : wr.cell? ⟨b, off + q * 4, none⟩ = some (.int .i64 x2.src) := k1.1
      have e1 : wr.cell? ⟨b, off + q * 4 + 1, none⟩ = some (.int .i64 x2.out) := k2.1
      have e2 : wr.cell? ⟨b, off + q * 4 + 2, none⟩ = some (.int .i64 x2.dst) := k3.1
      have e3 : wr.cell? ⟨b, off + q * 4 + 3, none⟩ = some (.int .i64 x2.inn) := k4.1
      have HG2 := hid hx2
      have HCE : Hid (clash x x2 = decide ((xf = zf ∧ xo = zo) ∨ (xt = zt ∧ xi = zi))) := by show _ = _; rw [clash, HXE.out, hzf, hzo, hzt, hzi]
      rw [hzf] at e0
      rw [hzo] at e1
      rw [hzt] at e2
      rw [hzi] at e3
      have hV : ∃ V y2, V = wr.alloc (.cells #[.int .i64 zf, .int .i64 zo, .int .i64 zt, .int .i64 zi] 54) ∧ y2 = wr.heap.size ∧ Only (fun _ => False) w6 V ∧ Only (fun _ => False) wr V ∧ V.heap[y2]? = some (.cells #[.int .i64 zf, .int .i64 zo, .int .i64 zt, .int .i64 zi] 54) :=
        ⟨_, _, rfl, rfl, HX6.out.alloc _, (Only.refl _ _).alloc _, heap_new _ _⟩
      obtain ⟨V, y2, hVe, hye, hoV, hoV2, hby2⟩ := hV
      have HV := hid hoV
      have hby := (hoV2.block y (lt_of_block HYR.out) (fun h => h)).trans HYR.out
      have f0 : V.cell? ⟨y, 0, none⟩ = some (.int .i64 xf) := cell_of_block hby 0
      have f1 : V.cell? ⟨y, 1, none⟩ = some (.int .i64 xo) := cell_of_block hby 1
      have f2 : V.cell? ⟨y, 2, none⟩ = some (.int .i64 xt) := cell_of_block hby 2
      have f3 : V.cell? ⟨y, 3, none⟩ = some (.int .i64 xi) := cell_of_block hby 3
      have g0 : V.cell? ⟨y2, 0, none⟩ = some (.int .i64 zf) := cell_of_block hby2 0
      have g1 : V.cell? ⟨y2, 1, none⟩ = some (.int .i64 zo) := cell_of_block hby2 1
      have g2 : V.cell? ⟨y2, 2, none⟩ = some (.int .i64 zt) := cell_of_block hby2 2
      have g3 : V.cell? ⟨y2, 3, none⟩ = some (.int .i64 zi) := cell_of_block hby2 3
      have HYES : Hid ((xf = zf ∧ xo = zo) ∨ (xt = zt ∧ xi = zi) → r = 11) := fun e => by
        rw [← HCH.out, chans_11 HG.out HCO.out (any_yes (get_take (by omega) HG2.out) (by rw [HCE.out]; exact decide_eq_true e))]
      have HNO : Hid (¬ ((xf = zf ∧ xo = zo) ∨ (xt = zt ∧ xi = zi)) → ∀ a x', a < q + 1 → c.chans[a]? = some x' → clash x x' = false) := fun e a y ha hy => by
        by_cases ea : a = q
        · subst ea
          rw [HG2.out] at hy
          injection hy with hy
          subst hy
          rw [HCE.out]
          exact decide_eq_false e
        · exact HCL.out a y (by omega) hy
      clear hoV hoV2 hby hby2 k1 k2 k3 k4 hx2 hzf hzo hzt hzi
      go_upto_region 43 with fail
      rw [← hVe, ← hye]
      clear hVe hye d0 d1 d2 e0 e1 e2 e3
      have HEND := hid (HO.out.chain (HV6.out.chain HV.out (fun _ _ h => h)) (fun _ _ h => h))
      by_cases a1 : xf = zf
      · have b1 : (xf == zf) = true := beq_iff_eq.2 a1
        by_cases a2 : xo = zo
        · have b2 : (xo == zo) = true := beq_iff_eq.2 a2
          have HE := hid (HYES.out (.inl ⟨a1, a2⟩))
          clear a1 a2
          go_wp2_with fail
          go_ret
          exact ⟨by rw [HE.out]; rfl, HEND.out⟩
        · have b2 : (xo == zo) = false := beq_eq_false_iff_ne.2 a2
          by_cases a3 : xt = zt
          · have b3 : (xt == zt) = true := beq_iff_eq.2 a3
            by_cases a4 : xi = zi
            · have b4 : (xi == zi) = true := beq_iff_eq.2 a4
              have HE := hid (HYES.out (.inr ⟨a3, a4⟩))
              clear a1 a2 a3 a4
              go_wp2_with fail
              go_ret
              exact ⟨by rw [HE.out]; rfl, HEND.out⟩
            · have b4 : (xi == zi) = false := beq_eq_false_iff_ne.2 a4
              have HE := hid (HNO.out (by omega))
              clear a1 a2 a3 a4
              go_wp2_with fail
              go_roundw
              case rel => exact ⟨q + 1, by go_num, by omega, HE.out, HV.out⟩
              case measure => simp [intOf]; omega
          · have b3 : (xt == zt) = false := beq_eq_false_iff_ne.2 a3
            have HE := hid (HNO.out (by omega))
            clear a1 a2 a3
            go_wp2_with fail
            go_roundw
            case rel => exact ⟨q + 1, by go_num, by omega, HE.out, HV.out⟩
            case measure => simp [intOf]; omega
      · have b1 : (xf == zf) = false := beq_eq_false_iff_ne.2 a1
        by_cases a3 : xt = zt
        · have b3 : (xt == zt) = true := beq_iff_eq.2 a3
          by_cases a4 : xi = zi
          · have b4 : (xi == zi) = true := beq_iff_eq.2 a4
            have HE := hid (HYES.out (.inr ⟨a3, a4⟩))
            clear a1 a3 a4
            go_wp2_with fail
            go_ret
            exact ⟨by rw [HE.out]; rfl, HEND.out⟩
          · have b4 : (xi == zi) = false := beq_eq_false_iff_ne.2 a4
            have HE := hid (HNO.out (by omega))
            clear a1 a3 a4
            go_wp2_with fail
            go_roundw
            case rel => exact ⟨q + 1, by go_num, by omega, HE.out, HV.out⟩
            case measure => simp [intOf]; omega
        · have b3 : (xt == zt) = false := beq_eq_false_iff_ne.2 a3
          have HE := hid (HNO.out (by omega))
          clear a1 a3
          go_wp2_with fail
          go_roundw
          case rel => exact ⟨q + 1, by go_num, by omega, HE.out, HV.out⟩
          case measure => simp [intOf]; omega
    · have HAN : Hid ((c.chans.take j4).any (clash x) = false) := any_no (fun a x' ha hx' => by
        obtain ⟨e1, e2⟩ := take_get hx'
        exact HCL.out a x' (by omega) e2)
      have HNX : Hid (chansW c.parts (c.chans.take (j4 + 1)) (c.chans.drop (j4 + 1)) = r) := by show _ = _; rw [← HCH.out, chans_next HG.out HCO.out HAN.out]
      go_wp2_with fail
      go_roundw
      case rel => exact ⟨j4 + 1, by go_num, by omega, HNX.out, HX2.out⟩
      case measure => simp [intOf]; omega
  · go_wp2_with fail
    go_ret
    exact ⟨by rw [← HCH.out, chans_end (by rw [HK.out]; omega)]; rfl, HO.out.chain HX.out (fun _ _ h => h)⟩
end Go.Proofs.Ytpmchlnnlanokaa

/-
  Package config: what is wrong with a partition, with partitions. Conditions: none.
-/
import Derived.Test.YtapmakdklpbjkaaConf11b
namespace Go.Sept
/-- What is wrong with the partitions first: 1 to 5. -/
def partsW (ps : List Pt) : Int := if ps.length < 1 ∨ 4 < ps.length then 1 else firstW ps
/-- With the windows: 6 to 8. -/
def winsW (n : Nat) (l : List Win) : Int := if l.length < 1 ∨ 16 < l.length then 6 else if l.all (winOk n) = false then 7 else if (List.range n).all (hasWin l) = false then 8 else 0
/-- With the channels: 9 to 11. -/
def chsW (ps : List Pt) (l : List Chn) : Int := if 8 < l.length then 9 else chansW ps [] l
theorem wrongW_eq (c : Cf) : wrongW c = if partsW c.parts ≠ 0 then partsW c.parts else if winsW c.parts.length c.wins ≠ 0 then winsW c.parts.length c.wins else chsW c.parts c.chans := by
  unfold wrongW partsW
  by_cases h1 : c.parts.length < 1 ∨ 4 < c.parts.length
  · rw [if_pos h1, if_pos h1, if_pos (by decide)]
  · rw [if_neg h1, if_neg h1]
    by_cases h2 : firstW c.parts ≠ 0
    · rw [if_pos h2, if_pos h2]
    · rw [if_neg h2, if_neg h2]
      unfold winsW chsW
      by_cases h6 : c.wins.length < 1 ∨ 16 < c.wins.length
      · rw [if_pos h6, if_pos h6, if_pos (by decide)]
      · rw [if_neg h6, if_neg h6]
        by_cases h7 : c.wins.all (winOk c.parts.length) = false
        · rw [if_pos h7, if_pos h7, if_pos (by decide)]
        · rw [if_neg h7, if_neg h7]
          by_cases h8 : (List.range c.parts.length).all (hasWin c.wins) = false
          · rw [if_pos h8, if_pos h8, if_pos (by decide)]
          · rw [if_neg h8, if_neg h8]
            exact (if_neg (c := (0 : Int) ≠ 0) (by decide)).symm
end Go.Sept
namespace Go.Proofs.Ytapmakdklpbjkaa
open Go.RowKit Go.Sept

set_option maxRecDepth 100000 in
set_option maxHeartbeats 1000000 in
theorem cPart {P : Nat → Prop} (w : World) (v0 v1 : Value) (p : Pt) (h : PtIs P w v0 v1 p) :
    Calls Try.prog 73 #[.agg #[v0, v1]] w fun e w' => e = .returned (.int .i64 (partW p)) ∧ Only (fun _ => False) w w' := by
  obtain ⟨hT, hO⟩ := h
  obtain ⟨ta, tc, rfl, tm⟩ := hT.shape
  obtain ⟨oa, oc, rfl, om⟩ := hO.shape
  have hW : ∃ W z, W = w.alloc (ptO (.slice ta p.ths.length tc) (.slice oa p.obs.length oc)) ∧ z = w.heap.size ∧ Only (fun _ => False) w W ∧ W.heap[z]? = some (ptO (.slice ta p.ths.length tc) (.slice oa p.obs.length oc)) := ⟨_, _, rfl, rfl, (Only.refl _ _).alloc _, heap_new _ _⟩
  obtain ⟨W, z, hWe, hze, hoW, hbz⟩ := hW
  have HT := hid hT
  have HU := hid hO
  have HO := hid hoW
  have HB := hid hbz
  have c0 : W.cell? ⟨z, 0, none⟩ = some (.slice ta p.ths.length tc) := cell_of_block hbz 0
  have c1 : W.cell? ⟨z, 1, none⟩ = some (.slice oa p.obs.length oc) := cell_of_block hbz 1
  obtain ⟨n, hn⟩ : ∃ n, p.ths.length = n := ⟨_, rfl⟩
  obtain ⟨m, hm⟩ : ∃ m, p.obs.length = m := ⟨_, rfl⟩
  have HN := hid hn
  have HM := hid hm
  obtain ⟨pw, hpw⟩ : ∃ x, partW p = x := ⟨_, rfl⟩
  have HW := hid hpw
  clear hT hO hoW hbz
  rw [hn] at hWe c0 tm ⊢
  rw [hm] at hWe c1 om ⊢
  rw [hpw]
  rw [partW, hn, hm] at hpw
  have HE := hid hpw
  clear hn hm hpw HW
  simp only [ptO] at hWe
  go_enter Try.func73, Try.ntmps73
  go_upto_region 1 with fail
  rw [← hWe, ← hze]
  clear hWe hze
  by_cases h1 : (n : Int) < 1
  · go_wp2_with fail
    go_ret
    exact ⟨by rw [← HE.out, if_pos (by omega)]; rfl, HO.out⟩
  by_cases h2 : (6 : Int) < n
  · go_wp2_with fail
    go_ret
    exact ⟨by rw [← HE.out, if_pos (by omega)]; rfl, HO.out⟩
  by_cases h3 : (8 : Int) < m
  · go_wp2_with fail
    go_ret
    exact ⟨by rw [← HE.out, if_neg (by omega), if_pos (by omega)]; rfl, HO.out⟩
  go_wp2_with fail
  go_loopw [24] (fun i wx => ∃ j : Nat, i = .int .i64 (j : Int) ∧ j ≤ n ∧ (∀ i x, i < j → p.ths[i]? = some x → thOk m x = true) ∧ Only (fun _ => False) W wx) (fun i _ => n - (intOf i).toNat)
  case atStart => exact ⟨0, rfl, Nat.zero_le _, (fun i p hi => absurd hi (Nat.not_lt_zero _)), Only.refl _ _⟩
  case round =>
  obtain ⟨j, rfl, hj, hall, hox⟩ := hrel
  have HA := hid hall
  have HX := hid hox
  have hbz := (hox.block z (lt_of_block HB.out) (fun h => h)).trans HB.out
  have d0 : wr.cell? ⟨z, 0, none⟩ = some (.slice ta p.ths.length tc) := cell_of_block hbz 0
  have d1 : wr.cell? ⟨z, 1, none⟩ = some (.slice oa p.obs.length oc) := cell_of_block hbz 1
  rw [HN.out] at d0
  rw [HM.out] at d1
  clear hall hox hbz c0 c1
  by_cases hlt : (j : Int) < (n : Int)
  · have hp := HT.out.only (stay_th (HO.out.chain HX.out (fun _ _ h => h)) (fun _ _ h => h))
    obtain ⟨b, off, rfl, _, x, hx, k1, k2, k3, k4, v, k5, k6⟩ := hp.get j (by rw [HN.out]; omega)
    obtain ⟨pa, pc, rfl, pm⟩ := k6.shape
    have HG := hid hx
    have HCP := hid k3
    have e0 : wr.cell? ⟨b, off + j * 4, none⟩ = some (.int .i64 x.prio) := k1.1
    have e1 : wr.cell? ⟨b, off + j * 4 + 1, none⟩ = some (.int .u32 x.caps) := k2
    have e2 : wr.cell? ⟨b, off + j * 4 + 2, none⟩ = some (.bool x.ctl) := k4
    have e3 : wr.cell? ⟨b, off + j * 4 + 3, none⟩ = some (.slice pa x.prog.length pc) := k5
    have hV : ∃ V y, V = wr.alloc (.cells #[.int .i64 x.prio, .int .u32 x.caps, .bool x.ctl, .slice pa x.prog.length pc] 50) ∧ y = wr.heap.size ∧ Only (fun _ => False) W V ∧ Only (fun _ => False) wr V ∧ V.cell? ⟨y, 0, none⟩ = some (.int .i64 x.prio) ∧ V.cell? ⟨y, 1, none⟩ = some (.int .u32 x.caps) ∧ V.cell? ⟨y, 2, none⟩ = some (.bool x.ctl) ∧ V.cell? ⟨y, 3, none⟩ = some (.slice pa x.prog.length pc) ∧ V.cell? ⟨z, 1, none⟩ = some (.slice oa m oc) :=
      ⟨_, _, rfl, rfl, HX.out.alloc _, (Only.refl _ _).alloc _, cell_of_block (heap_new _ _) 0, cell_of_block (heap_new _ _) 1, cell_of_block (heap_new _ _) 2, cell_of_block (heap_new _ _) 3, (World.cell?_of_block (Below.heap_alloc _ _ _ (World.block_lt_of_cell? _ _ d1))).trans d1⟩
    obtain ⟨V, y, hVe, hye, hoV, hoV2, f0, f1, f2, f3, g1⟩ := hV
    have HV := hid hoV
    have HPR := hid (k6.only (stay_cl hoV2 (fun _ _ h => h)))
    clear hoV hoV2 hp k1 k2 k3 k4 k5 k6 hx
    go_upto_region 8 with fail
    rw [← hVe, ← hye]
    clear hVe hye d0 d1 e0 e1 e2 e3
    go_wp2_with fail
    refine (cThread _ x _ _ _ _ rfl rfl HCP.out HPR.out m (by omega)).mono ?_
    rintro e w3 ⟨rfl, ho3⟩
    obtain ⟨ok, hok⟩ : ∃ y, thOk m x = y := ⟨_, rfl⟩
    have HK := hid hok
    have HV3 := hid (HV.out.chain ho3 (fun _ _ h => h))
    rw [hok]
    clear hok ho3 HV f0 f1 f2 f3 g1 HPR
    cases ok
    · go_wp2_with fail
      go_ret
      exact ⟨by rw [← HE.out, if_neg (by omega), if_neg (by omega), if_pos (all_no HG.out HK.out)]; rfl, HO.out.chain HV3.out (fun _ _ h => h)⟩
    · go_wp2_with fail
      go_roundw
      case rel =>
        refine ⟨j + 1, by go_num, by omega, ?_, HV3.out⟩
        intro i y hi hy
        by_cases e : i = j
        · subst e
          rw [HG.out] at hy
          injection hy with hy
          subst hy
          exact HK.out
        · exact HA.out i y (by omega) hy
      case measure => simp [intOf]; omega
  have HJ : Hid (p.ths.all (thOk m) = true) := all_yes (fun i x hi hx => HA.out i x (by rw [HN.out] at hi; omega) hx)
  go_wp2_with fail
  clear hlt
  go_loopw [38] (fun i wx => ∃ j : Nat, i = .int .i64 (j : Int) ∧ j ≤ m ∧ (∀ i x, i < j → p.obs[i]? = some x → obOk x = true) ∧ Only (fun _ => False) W wx) (fun i _ => m - (intOf i).toNat)
  case atStart => exact ⟨0, rfl, Nat.zero_le _, (fun i p hi => absurd hi (Nat.not_lt_zero _)), HX.out⟩
  case round =>
  obtain ⟨i, rfl, hi, hall, hox⟩ := hrel
  have HA2 := hid hall
  have HX2 := hid hox
  clear hall hox HA HX d0 d1
  by_cases hlt : (i : Int) < (m : Int)
  · have hp := HU.out.only (stay_ob (HO.out.chain HX2.out (fun _ _ h => h)) (fun _ _ h => h))
    obtain ⟨b, off, rfl, _, x, hx, k1, k2, k3⟩ := hp.get i (by rw [HM.out]; omega)
    have HG := hid hx
    have e0 : wr.cell? ⟨b, off + i * 3, none⟩ = some (.int .i64 x.kind) := k1.1
    have e1 : wr.cell? ⟨b, off + i * 3 + 1, none⟩ = some (.int .i64 x.size) := k2.1
    have e2 : wr.cell? ⟨b, off + i * 3 + 2, none⟩ = some (.bool x.prio) := k3
    have hV : ∃ V y, V = wr.alloc (.cells #[.int .i64 x.kind, .int .i64 x.size, .bool x.prio] 68) ∧ y = wr.heap.size ∧ Only (fun _ => False) W V ∧ V.cell? ⟨y, 0, none⟩ = some (.int .i64 x.kind) ∧ V.cell? ⟨y, 1, none⟩ = some (.int .i64 x.size) ∧ V.cell? ⟨y, 2, none⟩ = some (.bool x.prio) :=
      ⟨_, _, rfl, rfl, HX2.out.alloc _, cell_of_block (heap_new _ _) 0, cell_of_block (heap_new _ _) 1, cell_of_block (heap_new _ _) 2⟩
    obtain ⟨V, y, hVe, hye, hoV, f0, f1, f2⟩ := hV
    have HV := hid hoV
    clear hp k1 k2 k3 hx hoV
    go_upto_region 14 with fail
    rw [← hVe, ← hye]
    clear hVe hye e0 e1 e2
    go_wp2_with fail
    refine (cObject _ x).mono ?_
    rintro e w2 ⟨rfl, ho2⟩
    obtain ⟨ok, hok⟩ : ∃ y, obOk x = y := ⟨_, rfl⟩
    have HK := hid hok
    have HO2 := hid (HV.out.chain ho2 (fun _ _ h => h))
    rw [hok]
    clear hok ho2 HV f0 f1 f2
    cases ok
    · go_wp2_with fail
      go_ret
      exact ⟨by rw [← HE.out, if_neg (by omega), if_neg (by omega), if_neg (by rw [HJ.out]; decide), if_pos (all_no HG.out HK.out)]; rfl, HO.out.chain HO2.out (fun _ _ h => h)⟩
    · go_wp2_with fail
      go_roundw
      case rel =>
        refine ⟨i + 1, by go_num, by omega, ?_, HO2.out⟩
        intro a y ha hy
        by_cases e : a = i
        · subst e
          rw [HG.out] at hy
          injection hy with hy
          subst hy
          exact HK.out
        · exact HA2.out a y (by omega) hy
      case measure => simp [intOf]; omega
  · have HJ2 : Hid (p.obs.all obOk = true) := all_yes (fun a x ha hx => HA2.out a x (by rw [HM.out] at ha; omega) hx)
    go_wp2_with fail
    go_ret
    exact ⟨by rw [← HE.out, if_neg (by omega), if_neg (by omega), if_neg (by rw [HJ.out]; decide), if_neg (by rw [HJ2.out]; decide)]; rfl, HO.out.chain HX2.out (fun _ _ h => h)⟩

set_option maxRecDepth 100000 in
set_option maxHeartbeats 1000000 in
theorem cParts {P : Nat → Prop} (w : World) (v : Value) (ps : List Pt) (h : SlOf P 2 (ptE P) w v ps) :
    Calls Try.prog 53 #[v] w fun e w' => e = .returned (.int .i64 (partsW ps)) ∧ Only (fun _ => False) w w' := by
  obtain ⟨pa, pc, rfl, pm⟩ := h.shape
  obtain ⟨n, hn⟩ : ∃ n, ps.length = n := ⟨_, rfl⟩
  have HN := hid hn
  have HP := hid h
  obtain ⟨r, hr⟩ : ∃ r, partsW ps = r := ⟨_, rfl⟩
  have HR : Hid ((if n < 1 ∨ 4 < n then 1 else firstW ps) = r) := by show _ = _; rw [← hr, partsW, hn]
  rw [hn] at pm HP ⊢
  rw [hr]
  clear h hn hr
  go_enter Try.func53, Try.ntmps53
  by_cases q1 : (n : Int) < 1
  · go_wp2_with fail
    go_ret
    exact ⟨by rw [← HR.out, if_pos (by omega)]; rfl, Only.refl _ _⟩
  by_cases q2 : (4 : Int) < n
  · go_wp2_with fail
    go_ret
    exact ⟨by rw [← HR.out, if_pos (by omega)]; rfl, Only.refl _ _⟩
  have HF : Hid (firstW ps = r) := by show _ = _; rw [← HR.out, if_neg (by omega)]
  clear HR
  go_wp2_with fail
  go_loopw [16] (fun i wx => ∃ j : Nat, i = .int .i64 (j : Int) ∧ j ≤ n ∧ firstW (ps.drop j) = r ∧ Only (fun _ => False) w wx) (fun i _ => n - (intOf i).toNat)
  case atStart => exact ⟨0, rfl, Nat.zero_le _, HF.out, Only.refl _ _⟩
  case round =>
  obtain ⟨j, rfl, hj, hfw, hox⟩ := hrel
  have HF2 := hid hfw
  have HX := hid hox
  clear hfw hox HF
  by_cases hlt : (j : Int) < (n : Int)
  · obtain ⟨b, off, rfl, _, x, hx, ⟨u0, k0, k1⟩, ⟨u1, k2, k3⟩⟩ := (HP.out.only (stay_pt HX.out (fun _ _ h => h))).get j (by rw [HN.out]; omega)
    obtain ⟨ta, tc, rfl, tm⟩ := k1.shape
    obtain ⟨oa, oc, rfl, om⟩ := k3.shape
    have e0 : wr.cell? ⟨b, off + j * 2, none⟩ = some (.slice ta x.ths.length tc) := k0
    have e1 : wr.cell? ⟨b, off + j * 2 + 1, none⟩ = some (.slice oa x.obs.length oc) := k2
    have hst := first_step hx
    rw [HF2.out] at hst
    obtain ⟨pw, hpw⟩ : ∃ y, partW x = y := ⟨_, rfl⟩
    rw [hpw] at hst
    have HPW := hid hpw
    have HS := hid hst
    have hV : ∃ V y, V = wr.alloc (ptO (.slice ta x.ths.length tc) (.slice oa x.obs.length oc)) ∧ y = wr.heap.size ∧ Only (fun _ => False) w V ∧ Only (fun _ => False) wr V ∧ V.cell? ⟨y, 0, none⟩ = some (.slice ta x.ths.length tc) ∧ V.cell? ⟨y, 1, none⟩ = some (.slice oa x.obs.length oc) :=
      ⟨_, _, rfl, rfl, HX.out.alloc _, (Only.refl _ _).alloc _, cell_of_block (heap_new _ _) 0, cell_of_block (heap_new _ _) 1⟩
    obtain ⟨V, y, hVe, hye, hoV, hoV2, f0, f1⟩ := hV
    have HV := hid hoV
    have HI : Hid (PtIs P V (.slice ta x.ths.length tc) (.slice oa x.obs.length oc) x) := ⟨k1.only (stay_th hoV2 (fun _ _ h => h)), k3.only (stay_ob hoV2 (fun _ _ h => h))⟩
    clear k0 k1 k2 k3 hx hpw hst HF2 HX hoV hoV2
    simp only [ptO] at hVe
    go_upto_region 6 with fail
    rw [← hVe, ← hye]
    clear hVe hye e0 e1
    go_wp2_with fail
    refine (cPart _ _ _ x HI.out).mono ?_
    rintro e w2 ⟨rfl, ho2⟩
    have HO2 := hid (HV.out.chain ho2 (fun _ _ h => h))
    rw [HPW.out]
    clear ho2 HI HPW f0 f1
    by_cases hz : pw = 0
    · go_wp2_with fail
      go_roundw
      case rel => exact ⟨j + 1, by go_num, by omega, by rw [HS.out, if_neg (fun e => e hz)], HO2.out⟩
      case measure => simp [intOf]; omega
    · go_wp2_with fail
      go_ret
      exact ⟨by rw [HS.out, if_pos hz]; rfl, HO2.out⟩
  · have HE : Hid (r = 0) := by show _ = _; rw [← HF2.out, first_end (by rw [HN.out]; omega)]
    go_wp2_with fail
    go_ret
    exact ⟨by rw [HE.out]; rfl, HX.out⟩
end Go.Proofs.Ytapmakdklpbjkaa

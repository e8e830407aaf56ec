/-
  Package config: what is wrong with the channels, with all; Valid, Frame. Conditions: none.
-/
import Derived.Test.YtmcmjcaigipoaaaGreatConf11a
import Derived.Deep.RegionHeld
namespace Go.Proofs.YtmcmjcaigipoaaaGreat
open Go.RowKit Go.Sept

set_option maxRecDepth 100000 in
set_option maxHeartbeats 1000000 in
theorem cChans {P : Nat → Prop} (w : World) (v v2 : Value) (l : List Chn) (ps : List Pt) (h : SlOf P 4 chnE w v l) (h2 : SlOf P 2 (ptE P) w v2 ps) :
    Calls Tryz.prog 92 #[v, v2] w fun e w' => e = .returned (.int .i64 (chsW ps l)) ∧ Only (fun _ => False) w w' := by
  obtain ⟨ca, cc, rfl, cm⟩ := h.shape
  obtain ⟨pa, pc, rfl, pm⟩ := h2.shape
  obtain ⟨hk0, hroom, hmax⟩ := h.room
  obtain ⟨k, hk⟩ : ∃ k, l.length = k := ⟨_, rfl⟩
  obtain ⟨n, hn⟩ : ∃ n, ps.length = n := ⟨_, rfl⟩
  have HK := hid hk
  have HL := hid h
  have HP := hid h2
  obtain ⟨r, hr⟩ : ∃ r, chsW ps l = r := ⟨_, rfl⟩
  have HR : Hid ((if 8 < k then 9 else chansW ps [] l) = r) := by show _ = _; rw [← hr, chsW, hk]
  rw [hk] at cm HL hroom ⊢
  rw [hn] at pm HP ⊢
  rw [hr]
  clear h h2 hk hn hr hk0
  go_enter Tryz.func92, Tryz.ntmps92
  by_cases q1 : (8 : Int) < k
  · go_wp2_with fail
    go_ret
    exact ⟨by rw [← HR.out, if_pos (by omega)]; rfl, Only.refl _ _⟩
  have HR2 : Hid (chansW ps [] l = r) := by show _ = _; rw [← HR.out, if_neg (c := 8 < k) (by omega)]
  clear HR
  go_wp2_with fail
  go_loopw [12] (fun i wx => ∃ j : Nat, i = .int .i64 (j : Int) ∧ j ≤ k ∧ chansW ps (l.take j) (l.drop j) = r ∧ Only (fun _ => False) w wx) (fun i _ => k - (intOf i).toNat)
  case atStart => exact ⟨0, rfl, Nat.zero_le _, HR2.out, Only.refl _ _⟩
  case round =>
  clear HR2
  obtain ⟨j, rfl, hj, hch, hox⟩ := hrel
  have HCH := hid hch
  have HX := hid hox
  clear hch hox
  by_cases hlt : (j : Int) < (k : Int)
  · have hp := HL.out.only (stay_chn HX.out (fun _ _ h => h))
    obtain ⟨b, off, rfl, _, x, hx, k1, k2, k3, k4⟩ := hp.get j (by rw [HK.out]; omega)
    obtain ⟨xf, xo, xt, xi⟩ := x
    have e0 : wr.cell? ⟨b, off + j * 4, none⟩ = some (.int .i64 xf) := k1.1
    have e1 : wr.cell? ⟨b, off + j * 4 + 1, none⟩ = some (.int .i64 xo) := k2.1
    have e2 : wr.cell? ⟨b, off + j * 4 + 2, none⟩ = some (.int .i64 xt) := k3.1
    have e3 : wr.cell? ⟨b, off + j * 4 + 3, none⟩ = some (.int .i64 xi) := k4.1
    have HG := hid hx
    have hV : ∃ V y, V = wr.alloc (chO xf xo xt xi) ∧ y = wr.heap.size ∧ Only (fun _ => False) w V ∧ V.heap[y]? = some (chO xf xo xt xi) :=
      ⟨_, _, rfl, rfl, HX.out.alloc _, heap_new _ _⟩
    obtain ⟨V, y, hVe, hye, hoV, hby⟩ := hV
    obtain ⟨f0, f1, f2, f3⟩ := ch_cells hby (Only.refl _ _)
    have HV := hid hoV
    have HY := hid hby
    clear hoV hby hp k1 k2 k3 k4 hx
    simp only [chO] at hVe
    go_upto_region 6 with fail
    rw [← hVe, ← hye]
    clear hVe hye e0 e1 e2 e3
    go_wp2_with fail
    refine (cChannel _ _ _ (HP.out.only (stay_pt HV.out (fun _ _ h => h))) _ _ _ _).mono ?_
    rintro e w5 ⟨rfl, ho5⟩
    obtain ⟨ok, hok⟩ : ∃ y, chOk ps ⟨xf, xo, xt, xi⟩ = y := ⟨_, rfl⟩
    have HOK := hid hok
    have HV5 := hid (HV.out.chain ho5 (fun _ _ h => h))
    obtain ⟨g0, g1, g2, g3⟩ := ch_cells HY.out ho5
    have HY5 := hid ((ho5.block y (lt_of_block HY.out) (fun h => h)).trans HY.out)
    rw [hok]
    clear hok ho5 f0 f1 f2 f3 HV HY
    cases ok
    · go_wp2_with fail
      go_ret
      exact ⟨by rw [← HCH.out, chans_10 HG.out HOK.out]; rfl, HV5.out⟩
    obtain ⟨sh, hsh⟩ : ∃ y, (l.take j).any (clash ⟨xf, xo, xt, xi⟩) = y := ⟨_, rfl⟩
    have HSH := hid hsh
    clear hsh
    have HJ : Hid (j ≤ k) := hj
    have HC : Hid (∀ w', Only (fun _ => False) w5 w' → Calls Tryz.prog 123 #[.agg #[.int .i64 xf, .int .i64 xo, .int .i64 xt, .int .i64 xi], .slice (some ⟨b, off, none⟩) j cc] w' fun e w'' => e = .returned (.bool sh) ∧ Only (fun _ => False) w5 w'') := fun w' ho => by
      refine (cShares w' _ _ ((HL.out.only (stay_chn (HV5.out.chain ho (fun _ _ h => h)) (fun _ _ h => h))).take HJ.out) xf xo xt xi).mono ?_
      rintro e w'' ⟨rfl, ho2⟩
      exact ⟨by rw [HSH.out], ho.chain ho2 (fun _ _ h => h)⟩
    have HD : Hid (∀ n, Only (fun _ => False) w5 (w5.drewN n)) := fun n => only_drewN (Only.refl _ _) n
    have hjc : (j : Int) ≤ (cc : Int) := by omega
    go_wp2_with fail
    go_region_held (fun w' => w'.cell? ⟨y, 0, none⟩ = some (.int .i64 xf) ∧ w'.cell? ⟨y, 1, none⟩ = some (.int .i64 xo) ∧ w'.cell? ⟨y, 2, none⟩ = some (.int .i64 xt) ∧ w'.cell? ⟨y, 3, none⟩ = some (.int .i64 xi)) (go_keep)
      (first | (go_at_call 123; refine (HC.out _ (by first | exact HD.out _ | exact (Only.refl _ _).drew | exact Only.refl _ _)).mono ?_; rintro e w6 ⟨rfl, ho6⟩; have HQ := hid ho6; obtain ⟨i0, i1, i2, i3⟩ := ch_cells HY5.out ho6; clear ho6))
    cases sh
    · go_wp2_with fail
      go_roundw
      case rel => exact ⟨j + 1, by go_num, by omega, by rw [← chans_next HG.out HOK.out HSH.out]; exact HCH.out, HV5.out.chain HQ.out (fun _ _ h => h)⟩
      case measure => simp [intOf]; omega
    · go_wp2_with fail
      go_ret
      exact ⟨by rw [← HCH.out, chans_11 HG.out HOK.out HSH.out]; rfl, HV5.out.chain HQ.out (fun _ _ h => h)⟩
  · go_wp2_with fail
    go_ret
    exact ⟨by rw [← HCH.out, chans_end (by rw [HK.out]; omega)]; rfl, HX.out⟩

set_option maxRecDepth 100000 in
set_option maxHeartbeats 1000000 in
theorem cFirst {P : Nat → Prop} (w : World) (v0 v1 v2 : Value) (c : Cf) (h : CfIs P w v0 v1 v2 c) :
    Calls Tryz.prog 53 #[.agg #[v0, v1, v2]] w fun e w' => e = .returned (.int .i64 (wrongW c)) ∧ Only (fun _ => False) w w' := by
  obtain ⟨pa, pc, rfl, pm⟩ := h.parts.shape
  have hW : ∃ W z, W = w.alloc (cfO (.slice pa c.parts.length pc) v1 v2) ∧ z = w.heap.size ∧ Only (fun _ => False) w W ∧ W.heap[z]? = some (cfO (.slice pa c.parts.length pc) v1 v2) := ⟨_, _, rfl, rfl, (Only.refl _ _).alloc _, heap_new _ _⟩
  obtain ⟨W, z, hWe, hze, hoW, hbz⟩ := hW
  have HC := hid (h.only hoW (fun _ _ h => h))
  have HO := hid hoW
  have HB := hid hbz
  obtain ⟨c0, c1, c2⟩ := cf_cells hbz (Only.refl _ _)
  obtain ⟨n, hn⟩ : ∃ n, c.parts.length = n := ⟨_, rfl⟩
  obtain ⟨r, hr⟩ : ∃ r, wrongW c = r := ⟨_, rfl⟩
  obtain ⟨a1, ha1⟩ : ∃ a, partsW c.parts = a := ⟨_, rfl⟩
  obtain ⟨a2, ha2⟩ : ∃ a, winsW n c.wins = a := ⟨_, rfl⟩
  obtain ⟨a3, ha3⟩ : ∃ a, chsW c.parts c.chans = a := ⟨_, rfl⟩
  have HR : Hid (r = if a1 ≠ 0 then a1 else if a2 ≠ 0 then a2 else a3) := by show _ = _; rw [← hr, wrongW_eq, hn, ha1, ha2, ha3]
  have HN4 : Hid (a1 = 0 → n ≤ 4) := fun e => by
    rw [e, partsW, hn] at ha1
    by_cases hb : n < 1 ∨ 4 < n
    · rw [if_pos hb] at ha1
      cases ha1
    · omega
  have HA1 := hid ha1
  have HA2 := hid ha2
  have HA3 := hid ha3
  have HN := hid hn
  rw [hn] at hWe pm c0 HB HC ⊢
  rw [hr]
  clear hoW hbz h hr ha1 ha2 ha3 hn
  simp only [cfO] at hWe
  go_enter Tryz.func53, Tryz.ntmps53
  go_upto_region 1 with fail
  rw [← hWe, ← hze]
  clear hWe hze
  go_wp2_with fail
  refine (cParts _ _ _ HC.out.parts).mono ?_
  rintro e w2 ⟨rfl, ho2⟩
  rw [HA1.out]
  have HC2 := hid (HC.out.only ho2 (fun _ _ h => h))
  have HO2 := hid (HO.out.chain ho2 (fun _ _ h => h))
  obtain ⟨d0, d1, d2⟩ := cf_cells HB.out ho2
  have HB2 := hid ((ho2.block z (lt_of_block HB.out) (fun h => h)).trans HB.out)
  clear ho2 c0 c1 c2
  by_cases hz : a1 = 0
  · have hn4 := hid (HN4.out hz)
    go_wp2_with fail
    refine (cWins _ _ _ HC2.out.wins n hn4.out).mono ?_
    rintro e w3 ⟨rfl, ho3⟩
    rw [HA2.out]
    have HC3 := hid (HC2.out.only ho3 (fun _ _ h => h))
    have HO3 := hid (HO2.out.chain ho3 (fun _ _ h => h))
    obtain ⟨c0, c1, c2⟩ := cf_cells HB2.out ho3
    clear ho3 d0 d1 d2
    by_cases hz2 : a2 = 0
    · go_wp2_with fail
      refine (cChans _ _ _ _ _ HC3.out.chans HC3.out.parts).mono ?_
      rintro e w4 ⟨rfl, ho4⟩
      rw [HA3.out]
      have HO4 := hid (HO3.out.chain ho4 (fun _ _ h => h))
      clear ho4 c0 c1 c2
      go_wp2_with fail
      go_ret
      exact ⟨by rw [HR.out, if_neg (fun e => e hz), if_neg (fun e => e hz2)]; rfl, HO4.out⟩
    · go_wp2_with fail
      go_ret
      exact ⟨by rw [HR.out, if_neg (fun e => e hz), if_pos hz2]; rfl, HO3.out⟩
  · go_wp2_with fail
    go_ret
    exact ⟨by rw [HR.out, if_pos hz]; rfl, HO2.out⟩

set_option maxRecDepth 100000 in
set_option maxHeartbeats 1000000 in
theorem cValid {P : Nat → Prop} (w : World) (v0 v1 v2 : Value) (c : Cf) (h : CfIs P w v0 v1 v2 c) :
    Calls Tryz.prog 18 #[.agg #[v0, v1, v2]] w fun e w' => e = .returned (validV (wrongW c)) ∧ Only (fun _ => False) w w' := by
  have hW : ∃ W z, W = w.alloc (cfO v0 v1 v2) ∧ z = w.heap.size ∧ Only (fun _ => False) w W ∧ W.heap[z]? = some (cfO v0 v1 v2) := ⟨_, _, rfl, rfl, (Only.refl _ _).alloc _, heap_new _ _⟩
  obtain ⟨W, z, hWe, hze, hoW, hbz⟩ := hW
  have HC := hid (h.only hoW (fun _ _ h => h))
  have HO := hid hoW
  obtain ⟨c0, c1, c2⟩ := cf_cells hbz (Only.refl _ _)
  obtain ⟨r, hr⟩ : ∃ r, wrongW c = r := ⟨_, rfl⟩
  have HR := hid hr
  rw [hr]
  clear hoW hbz h hr
  simp only [cfO] at hWe
  go_enter Tryz.func18, Tryz.ntmps18
  go_upto_region 1 with fail
  rw [← hWe, ← hze]
  clear hWe hze
  go_wp2_with fail
  refine (cFirst _ _ _ _ c HC.out).mono ?_
  rintro e w2 ⟨rfl, ho2⟩
  rw [HR.out]
  have HO2 := hid (HO.out.chain ho2 (fun _ _ h => h))
  clear ho2
  by_cases hz : r = 0
  · subst hz
    go_wp2_with fail
    go_ret2
    exact ⟨rfl, HO2.out⟩
  · have HE : Hid (validV r = .tuple #[.int .i64 r, .int .i64 15]) := by show _ = _; rw [validV, errW, if_neg hz]
    go_wp2_with fail
    go_ret2
    exact ⟨by rw [HE.out]; rfl, HO2.out⟩

theorem frameW_full (l : List Win) : frameW 2147483647 l = 2147483647 := by
  induction l with
  | nil => rfl
  | cons x l ih =>
    rw [frameW]
    by_cases h : 1 ≤ x.ticks ∧ x.ticks ≤ 100
    · rw [if_pos h, Int.min_eq_right (by omega)]
      exact ih
    · rw [if_neg h]
      exact ih

end Go.Proofs.YtmcmjcaigipoaaaGreat

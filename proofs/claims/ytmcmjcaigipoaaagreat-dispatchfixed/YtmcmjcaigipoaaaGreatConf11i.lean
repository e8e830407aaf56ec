/-
  Package config: Clone. Conditions: of a size that is looked at.
-/
import Derived.Test.YtmcmjcaigipoaaaGreatConf11g
import Derived.Deep.RegionHeld
namespace Go.Proofs.YtmcmjcaigipoaaaGreat
open Go.RowKit Go.Sept

set_option maxRecDepth 100000 in
set_option maxHeartbeats 2000000 in
theorem cClone {P : Nat → Prop} (w : World) (v0 v1 v2 : Value) (c : Cf) (h : CfIs P w v0 v1 v2 c) (hP : ∀ k, P k → k < w.heap.size) (hsm : Small2 c) :
    Calls Tryz.prog 20 #[.agg #[v0, v1, v2]] w fun e w' => ∃ o0 o1 o2, e = .returned (.agg #[o0, o1, o2]) ∧ CfIs (Hi w) w' o0 o1 o2 c ∧ Only (fun _ => False) w w' := by
  obtain ⟨pa, pc, rfl, pm⟩ := h.parts.shape
  obtain ⟨wa, wc, rfl, wm⟩ := h.wins.shape
  obtain ⟨ca, cc, rfl, cm⟩ := h.chans.shape
  obtain ⟨n, hn⟩ : ∃ n, c.parts.length = n := ⟨_, rfl⟩
  obtain ⟨m, hm⟩ : ∃ m, c.wins.length = m := ⟨_, rfl⟩
  obtain ⟨k, hk⟩ : ∃ k, c.chans.length = k := ⟨_, rfl⟩
  have HN := hid hn
  have HM0 := hid hm
  have HK := hid hk
  have n20 : n ≤ 20 := hn ▸ hsm.1
  have m100 : m ≤ 100 := hm ▸ hsm.2.1
  have k40 : k ≤ 40 := hk ▸ hsm.2.2.1
  have HS := hid hsm.2.2.2
  have HP := hid hP
  rw [hn] at h pm
  rw [hm] at h wm
  rw [hk] at h cm
  rw [hn, hm, hk]
  have hW : ∃ W z, W = (w.alloc (cfO (.slice pa n pc) (.slice wa m wc) (.slice ca k cc))).alloc (cfO (.slice none 0 0) (.slice none 0 0) (.slice none 0 0)) ∧ z = w.heap.size ∧ Only (fun _ => False) w W ∧ W.heap[z]? = some (cfO (.slice pa n pc) (.slice wa m wc) (.slice ca k cc)) ∧ W.heap[z + 1]? = some (cfO (.slice none 0 0) (.slice none 0 0) (.slice none 0 0)) ∧ W.heap.size = z + 1 + 1 :=
    ⟨_, _, rfl, rfl, ((Only.refl _ _).alloc _).alloc _, (Below.heap_alloc _ _ _ (by simp)).trans (heap_new _ _), (by have := heap_new (w.alloc (cfO (.slice pa n pc) (.slice wa m wc) (.slice ca k cc))) (cfO (.slice none 0 0) (.slice none 0 0) (.slice none 0 0)); rw [World.size_alloc] at this; exact this), by simp⟩
  obtain ⟨W, z, hWe, hze, hoW, hbz, hbz1, hWs⟩ := hW
  have HZ : Hid (w.heap.size = z ∧ W.heap.size = z + 1 + 1) := ⟨hze.symm, hWs⟩
  obtain ⟨c0, _, _⟩ := cf_cells hbz (Only.refl _ _)
  have hCW := h.only hoW (fun _ _ h => h)
  have HCF := hid hCW
  have HO := hid hoW
  have HB := hid hbz
  have HB1 := hid hbz1
  obtain ⟨news, n1, n2, n3, n4⟩ := news_of hCW.parts (whole_pt P P W)
  rw [hn] at n1
  have HN4 := hid n4
  have HF : Hid (Calls Tryz.prog 57 #[.slice pa n pc] W fun e w' => FreshIs 25 W w' e n news) := freshPt W pa n pc news n1 n2 n3 (by omega)
  clear n1 n2 n3 n4 h hCW hoW hbz hbz1 hWs hsm hn hm hk hP
  simp only [cfO] at hWe
  go_enter Tryz.func20, Tryz.ntmps20
  go_upto_region 1 with fail
  rw [← hWe, ← hze]
  clear hWe hze
  go_wp2_with fail
  refine HF.out.mono ?_
  rintro e w1 hf
  obtain ⟨co, C, rfl, hC, hCw, ho1⟩ := hf.one
  have HC := hid (fun h0 => (hC h0).1)
  have HCW := hid hCw
  have HO1 := hid ho1
  have HCB : Hid (0 < n → ∃ cs, w1.heap[C]? = some (.cells cs 25)) := fun h0 => ⟨_, (hC h0).2⟩
  have HM : Hid (Mid 2 (ptE P) (ptE fun k => W.heap.size ≤ k ∧ k ≠ C) w1 C 0 c.parts) := Mid.start fun i x hx => by
    have h0 : 0 < n := by have := (List.getElem?_eq_some_iff.1 hx).1; rw [HN.out] at this; omega
    exact HN4.out w1 C ⟨fun v l hl => hl.only (stay_th ho1 (fun _ _ h => h)), fun v l hl => hl.only (stay_ob ho1 (fun _ _ h => h))⟩ (news_cells (hC h0).2) i x hx
  clear hf hC hCw ho1 c0
  go_wp2_with fail
  go_loopw [11] (fun i wx => ∃ j : Nat, i = .int .i64 (j : Int) ∧ j ≤ n ∧ Only (fun _ => False) W wx ∧ (0 < n → ∃ cs, wx.heap[C]? = some (.cells cs 25)) ∧ Mid 2 (ptE P) (ptE fun k => W.heap.size ≤ k ∧ k ≠ C) wx C j c.parts) (fun i _ => n - (intOf i).toNat)
  case atStart => exact ⟨0, rfl, Nat.zero_le _, HO1.out, HCB.out, HM.out⟩
  case round =>
  clear HM HO1 HCB
  obtain ⟨j, rfl, hj, hox, hcb, hmid⟩ := hrel
  have HX := hid hox
  have HM := hid hmid
  have HCB := hid hcb
  clear hox hmid hcb
  by_cases hlt : (j : Int) < (n : Int)
  · obtain ⟨x, hx⟩ : ∃ x, c.parts[j]? = some x := ⟨_, List.getElem?_eq_getElem (show j < c.parts.length by rw [HN.out]; omega)⟩
    have HXJ := hid hx
    obtain ⟨⟨v1, k1, k2⟩, ⟨v2, k3, k4⟩⟩ := HM.out.at hx
    obtain ⟨ta, tc, rfl, tm⟩ := k2.shape
    obtain ⟨oa, oc, rfl, om⟩ := k4.shape
    have hco := HC.out (by omega)
    subst hco
    obtain ⟨cs, hcs⟩ := HCB.out (by omega)
    have HCS := hid hcs
    have e0 : wr.cell? ⟨C, j * 2, none⟩ = some (.slice ta x.ths.length tc) := k1
    have e1 : wr.cell? ⟨C, j * 2 + 1, none⟩ = some (.slice oa x.obs.length oc) := k3
    have hU : ∃ U y, U = wr.alloc (ptO (.slice ta x.ths.length tc) (.slice oa x.obs.length oc)) ∧ y = wr.heap.size ∧ Only (fun _ => False) wr U ∧ U.cell? ⟨y, 0, none⟩ = some (.slice ta x.ths.length tc) ∧ U.cell? ⟨y, 1, none⟩ = some (.slice oa x.obs.length oc) :=
      ⟨_, _, rfl, rfl, (Only.refl _ _).alloc _, cell_of_block (heap_new _ _) 0, cell_of_block (heap_new _ _) 1⟩
    obtain ⟨U, y, hUe, hye, hoU, f0, f1⟩ := hU
    have HOU := hid hoU
    have HF2 : Hid (Calls Tryz.prog 58 #[.agg #[.slice ta x.ths.length tc, .slice oa x.obs.length oc]] U fun e w' => ∃ u0 u1, e = .returned (.agg #[u0, u1]) ∧ PtIs (Hi U) w' u0 u1 x ∧ Only (fun _ => False) U w') :=
      cClonePart U _ _ x ⟨k2.only (stay_th hoU (fun _ _ h => h)), k4.only (stay_ob hoU (fun _ _ h => h))⟩ (fun k hk => by have := HP.out k hk; have := HO.out.size; have := HX.out.size; have := hoU.size; omega) (HS.out x (List.mem_of_getElem? hx))
    clear k1 k2 k3 k4 hx hcs hoU
    simp only [ptO] at hUe
    go_upto_region 5 with fail
    rw [← hUe, ← hye]
    clear hUe hye e0 e1
    go_wp2_with fail
    refine HF2.out.mono ?_
    rintro e w2 ⟨u0, u1, rfl, hpt, ho2⟩
    obtain ⟨a0, b0, rfl, _⟩ := hpt.1.shape
    obtain ⟨a1, b1, rfl, _⟩ := hpt.2.shape
    have ho3 := HOU.out.chain ho2 (fun _ _ h => h)
    have hcs2 : w2.heap[C]? = some (.cells cs 25) := (ho3.block C (lt_of_block HCS.out) (fun h => h)).trans HCS.out
    have hpre := HM.out.at HXJ.out
    have g0 : ∃ v, w2.cell? ⟨C, j * 2, none⟩ = some v := by
      obtain ⟨⟨v, k1, _⟩, _⟩ := hpre
      exact ⟨v, k1.only ho3 (fun h => h)⟩
    have g1 : ∃ v, w2.cell? ⟨C, j * 2 + 1, none⟩ = some v := by
      obtain ⟨_, ⟨v, k1, _⟩⟩ := hpre
      exact ⟨v, k1.only ho3 (fun h => h)⟩
    obtain ⟨q0, g0⟩ := g0
    obtain ⟨q1, g1⟩ := g1
    have fz0 : w2.frozen? ⟨C, j * 2, none⟩ = false := frozen_of_block hcs2 _
    have fz1 : w2.frozen? ⟨C, j * 2 + 1, none⟩ = false := frozen_of_block hcs2 _
    have HV2 : Hid (Only (fun _ => False) W ((w2.setCell ⟨C, j * 2, none⟩ (.slice a0 x.ths.length b0)).setCell ⟨C, j * 2 + 1, none⟩ (.slice a1 x.obs.length b1)) ∧ (∃ cs, ((w2.setCell ⟨C, j * 2, none⟩ (.slice a0 x.ths.length b0)).setCell ⟨C, j * 2 + 1, none⟩ (.slice a1 x.obs.length b1)).heap[C]? = some (.cells cs 25)) ∧ Mid 2 (ptE P) (ptE fun k => W.heap.size ≤ k ∧ k ≠ C) ((w2.setCell ⟨C, j * 2, none⟩ (.slice a0 x.ths.length b0)).setCell ⟨C, j * 2 + 1, none⟩ (.slice a1 x.obs.length b1)) C (j + 1) c.parts) := by
      have hb3 := block_set11 hcs2 (j * 2) (.slice a0 x.ths.length b0)
      refine ⟨((HX.out.chain ho3 (fun _ _ h => h)).setCell (.inl HCW.out) _).setCell (.inl HCW.out) _, ⟨_, block_set11 hb3 _ _⟩, ?_⟩
      have hp : Poke C (fun o => o = j * 2 ∨ o = j * 2 + 1) wr w2 := Poke.new ho3 (lt_of_block HCS.out) _
      have hp2 := (hp.set (i := j * 2) (.inl rfl) (.slice a0 x.ths.length b0)).set (i := j * 2 + 1) (.inr rfl) (.slice a1 x.obs.length b1)
      have hCw := HCW.out
      have hwx := HX.out.size
      have hou := HOU.out.size
      have hz := HZ.out
      have hCl := lt_of_block HCS.out
      have hall : Only (fun k => k = C) w2 ((w2.setCell ⟨C, j * 2, none⟩ (.slice a0 x.ths.length b0)).setCell ⟨C, j * 2 + 1, none⟩ (.slice a1 x.obs.length b1)) := ((Only.refl (fun k => k = C) w2).setCell (p := ⟨C, j * 2, none⟩) (.inr rfl) _).setCell (p := ⟨C, j * 2 + 1, none⟩) (.inr rfl) _
      refine HM.out.step (fun i y hi hy => hp2.pt (fun k hk => by have := HP.out k hk; omega) (fun q hq => by omega) hy) (fun i y hi hy => hp2.pt (fun k hk => hk.2) (fun q hq => by omega) hy) HXJ.out ?_
      have hk1 : (w2.setCell ⟨C, j * 2, none⟩ (.slice a0 x.ths.length b0)).cell? ⟨C, j * 2 + 1, none⟩ = some q1 := (World.cell?_setCell_other w2 _ _ _ (fun e => by injection e with _ e _; omega)).trans g1
      refine ⟨⟨_, (World.cell?_setCell_other _ _ _ _ (fun e => by injection e with _ e _; omega)).trans (cell_set_self hcs2 g0 _), ?_⟩, ⟨_, cell_set_self hb3 hk1 _, ?_⟩⟩
      · have h3 : SlOf (fun k => W.heap.size ≤ k ∧ k ≠ C) 4 (thE fun k => W.heap.size ≤ k ∧ k ≠ C) w2 (.slice a0 x.ths.length b0) x.ths := hpt.1.mono (fun k hk => by have : U.heap.size ≤ k := hk; exact ⟨by omega, by omega⟩) (fun _ _ _ h => mono_th (fun k hk => by have : U.heap.size ≤ k := hk; exact ⟨by omega, by omega⟩) _ h)
        exact h3.only (stay_th hall (fun k hk => hk.2))
      · have h3 : SlOf (fun k => W.heap.size ≤ k ∧ k ≠ C) 3 obE w2 (.slice a1 x.obs.length b1) x.obs := hpt.2.mono (fun k hk => by have : U.heap.size ≤ k := hk; exact ⟨by omega, by omega⟩) (fun _ _ _ h => h)
        exact h3.only (stay_ob hall (fun k hk => hk.2))
    clear hpt hcs2 ho2 ho3 hpre f0 f1
    go_wp2_with fail
    go_roundw
    case rel => exact ⟨j + 1, by go_num, by omega, HV2.out.1, fun _ => HV2.out.2.1, HV2.out.2.2⟩
    case measure => simp [intOf]; omega
  · have HE : Hid (SlOf (Hi W) 2 (ptE (Hi W)) wr (.slice co n n) c.parts) := by
      have h9 := HM.out
      rw [show j = n by omega] at h9
      exact h9.done HN.out pm HC.out HCW.out (fun _ _ _ h => mono_pt (fun _ h => h.1) _ h)
    obtain ⟨_, d1, d2⟩ := cf_cells HB.out HX.out
    have HB2 := hid ((HX.out.block (z + 1) (lt_of_block HB1.out) (fun h => h)).trans HB1.out)
    have HBZ := hid ((HX.out.block z (lt_of_block HB.out) (fun h => h)).trans HB.out)
    have HA : Hid (∀ w', Only (fun _ => False) wr w' → Calls Tryz.prog 59 #[.slice wa m wc] w' fun e w'' => ∃ a b, e = .returned (.slice a m b) ∧ SlOf (Hi W) 2 winE w'' (.slice a m b) c.wins ∧ Only (fun _ => False) wr w'') := fun w' ho => by
      obtain ⟨nw, q1, q2, q3, q4⟩ := news_of ((HCF.out.only (HX.out.chain ho (fun _ _ h => h)) (fun _ _ h => h)).wins) (whole_win w')
      rw [HM0.out] at q1
      refine (freshWin w' wa m wc nw q1 q2 q3 m100).mono ?_
      rintro e w'' hf
      obtain ⟨v, rfl, ho2, hsl⟩ := hf.sl (xs := c.wins) (sz := 2) (E' := winE) HM0.out wm (fun b' hc => q4 w'' b' trivial hc)
      obtain ⟨a, b, rfl, _⟩ := hsl.shape
      rw [HM0.out] at hsl ⊢
      exact ⟨a, b, rfl, hsl.mono (fun q hq => (show W.heap.size ≤ q from Nat.le_trans (Nat.le_trans HX.out.size ho.size) hq)) (fun _ _ _ h => h), ho.chain ho2 (fun _ _ h => h)⟩
    have HCH : Hid (∀ w', Only (fun _ => False) wr w' → Calls Tryz.prog 60 #[.slice ca k cc] w' fun e w'' => ∃ a b, e = .returned (.slice a k b) ∧ SlOf (Hi W) 4 chnE w'' (.slice a k b) c.chans ∧ Only (fun _ => False) w' w'') := fun w' ho => by
      obtain ⟨nw, q1, q2, q3, q4⟩ := news_of ((HCF.out.only (HX.out.chain ho (fun _ _ h => h)) (fun _ _ h => h)).chans) (whole_chn w')
      rw [HK.out] at q1
      refine (freshChn w' ca k cc nw q1 q2 q3 (by omega)).mono ?_
      rintro e w'' hf
      obtain ⟨v, rfl, ho2, hsl⟩ := hf.sl (xs := c.chans) (sz := 4) (E' := chnE) HK.out cm (fun b' hc => q4 w'' b' trivial hc)
      obtain ⟨a, b, rfl, _⟩ := hsl.shape
      rw [HK.out] at hsl ⊢
      exact ⟨a, b, rfl, hsl.mono (fun q hq => (show W.heap.size ≤ q from Nat.le_trans (Nat.le_trans HX.out.size ho.size) hq)) (fun _ _ _ h => h), ho2⟩
    have HD : Hid (Only (fun _ => False) wr wr.drew) := (Only.refl _ _).drew
    go_wp2_with fail
    go_region_held (fun w' => w'.cell? ⟨z, 1, none⟩ = some (.slice wa m wc) ∧ w'.cell? ⟨z, 2, none⟩ = some (.slice ca k cc)) (go_keep)
      (first
        | (go_at_call 59; refine (HA.out _ HD.out).mono ?_; rintro e w5 ⟨a5, b5, rfl, hs5, ho5⟩; have HQ1 := hid ho5; have HS5 := hid hs5; obtain ⟨_, j1, j2⟩ := cf_cells HBZ.out ho5; clear ho5 hs5)
        | (go_at_call 60; refine (HCH.out _ HQ1.out).mono ?_; rintro e w6 ⟨a6, b6, rfl, hs6, ho6⟩; have HQ2 := hid ho6; have HS6 := hid hs6; obtain ⟨_, l1, l2⟩ := cf_cells HBZ.out (HQ1.out.chain ho6 (fun _ _ h => h)); have hb6 := ((HQ1.out.chain ho6 (fun _ _ h => h)).block (z + 1) (lt_of_block HB2.out) (fun h => h)).trans HB2.out; have HB6 := hid hb6; have r0 := cell_of_block hb6 0; have r1 := cell_of_block hb6 1; have r2 := cell_of_block hb6 2; have t0 := frozen_of_block hb6 0; have t1 := frozen_of_block hb6 1; have t2 := frozen_of_block hb6 2; clear ho6 hs6 hb6))
    go_wp2_with fail
    have hfin := block_set11 (block_set11 (block_set11 HB6.out 0 (.slice co n n)) 1 (.slice a5 m b5)) 2 (.slice a6 k b6)
    have hz := HZ.out
    have hwx := HX.out.size
    have hall : Only (fun k => k = z + 1) w6 (((w6.setCell ⟨z + 1, 0, none⟩ (.slice co n n)).setCell ⟨z + 1, 1, none⟩ (.slice a5 m b5)).setCell ⟨z + 1, 2, none⟩ (.slice a6 k b6)) := (((Only.refl (fun k => k = z + 1) w6).setCell (p := ⟨z + 1, 0, none⟩) (.inr rfl) _).setCell (p := ⟨z + 1, 1, none⟩) (.inr rfl) _).setCell (p := ⟨z + 1, 2, none⟩) (.inr rfl) _
    have h56 := HQ1.out.chain HQ2.out (fun _ _ h => h)
    refine bodyPost_ret (results_cell_row rfl _ _ (z + 1) 71 #[.slice co n n, .slice a5 m b5, .slice a6 k b6] (0, 0) _ rfl hfin Tryz.underlying71 rfl (by kernel_rfl)) rfl ⟨_, _, _, rfl, ⟨?_, ?_, ?_⟩, ?_⟩
    · exact ((HE.out.only (stay_pt h56 (fun _ _ h => h))).only (stay_pt hall (fun k hk e => by have : W.heap.size ≤ k := hk; omega))).mono (fun k hk => (show w.heap.size ≤ k from by have : W.heap.size ≤ k := hk; omega)) (fun _ _ _ h => mono_pt (fun k hk => (show w.heap.size ≤ k from by have : W.heap.size ≤ k := hk; omega)) _ h)
    · exact ((HS5.out.only (stay_win HQ2.out (fun _ _ h => h))).only (stay_win hall (fun k hk e => by have : W.heap.size ≤ k := hk; omega))).mono (fun k hk => (show w.heap.size ≤ k from by have : W.heap.size ≤ k := hk; omega)) (fun _ _ _ h => h)
    · exact (HS6.out.only (stay_chn hall (fun k hk e => by have : W.heap.size ≤ k := hk; omega))).mono (fun k hk => (show w.heap.size ≤ k from by have : W.heap.size ≤ k := hk; omega)) (fun _ _ _ h => h)
    · exact (HO.out.chain (HX.out.chain h56 (fun _ _ h => h)) (fun _ _ h => h)).chain hall (fun i hi e => by omega)

/-- What Clone does, of whatever configuration. -/
theorem cClone_any (P : Nat → Prop) (w : World) (v0 v1 v2 : Value) (c : Cf) (h : CfIs P w v0 v1 v2 c) (hsm : Small2 c) :
    Calls Tryz.prog 20 #[.agg #[v0, v1, v2]] w fun e w' => ∃ o0 o1 o2, e = .returned (.agg #[o0, o1, o2]) ∧ CfIs (fun k => w.heap.size ≤ k) w' o0 o1 o2 c ∧ Only (fun _ => False) w w' :=
  cClone w v0 v1 v2 c h.low (fun _ h => h) hsm
end Go.Proofs.YtmcmjcaigipoaaaGreat

/-
  DispatchIdle: If no thread is ready, a dispatch leaves its core without one. Conditions: none.
-/
import Derived.Test.YtmcmjcaigipoaaaGreatLaw15
import Derived.Deep.RegionHeld
import Derived.BigQuiet
namespace Go.Proofs.YtmcmjcaigipoaaaGreat.dispatchIdle
open Go.Sept Go.RowKit

set_option maxRecDepth 100000 in
set_option maxHeartbeats 20000000 in
theorem walk (w : World) (v0 v1 : Value) (p : Pt) (h : PtIs (fun k => k < w.heap.size) w v0 v1 p) (core : Int) (hcore : 0 ≤ core ∧ core ≤ 255) :
    Calls Tryz.prog 4 #[.agg #[v0, v1], .int .u8 core] w fun e w' => e = .returned (.bool true) ∧ Below w.heap.size w w' := by
  obtain ⟨xa, xc, rfl, xm⟩ := h.1.shape
  obtain ⟨ya, yc, rfl, ym⟩ := h.2.shape
  obtain ⟨n, hn⟩ : ∃ n, p.ths.length = n := ⟨_, rfl⟩
  obtain ⟨m, hm⟩ : ∃ m, p.obs.length = m := ⟨_, rfl⟩
  have HN := hid hn
  have HM := hid hm
  rw [hn] at h xm ⊢
  rw [hm] at h ym ⊢
  clear hn hm
  have hW : ∃ W z, W = w.alloc (ptO (.slice xa n xc) (.slice ya m yc)) ∧ z = w.heap.size ∧ Only (fun _ => False) w W ∧ W.heap[z]? = some (ptO (.slice xa n xc) (.slice ya m yc)) := ⟨_, _, rfl, rfl, (Only.refl _ _).alloc _, heap_new _ _⟩
  obtain ⟨W, z, hWe, hze, hoW, hbz⟩ := hW
  have HC := hid (h.only hoW (fun _ _ h => h))
  have HO := hid hoW
  have HB := hid hbz
  have HCELL : Hid (∀ w', Only (fun _ => False) W w' → w'.cell? ⟨z, 0, none⟩ = some (.slice xa n xc) ∧ w'.cell? ⟨z, 1, none⟩ = some (.slice ya m yc)) := fun w' ho => by
    have h9 := (ho.block z (lt_of_block hbz) (fun h => h)).trans hbz
    exact ⟨cell_of_block h9 0, cell_of_block h9 1⟩
  clear hoW hbz h
  simp only [ptO] at hWe
  go_enter Tryz.func4, Tryz.ntmps4
  go_upto_region 1 with fail
  rw [← hWe, ← hze]
  clear hWe hze
  go_wp2_with fail
  refine (awake15_any _).mono ?_
  rintro e w1 ⟨rfl, ho1⟩
  obtain ⟨c0, c1⟩ := HCELL.out w1 ho1
  have HO1 := hid ho1
  clear ho1
  go_wp2_with fail
  refine (fewPart2_any _ _ _ p (HC.out.only HO1.out (fun _ _ h => h))).mono ?_
  rintro e w2 ⟨⟨b, rfl, hb⟩, ho2⟩
  have HO2 := hid (HO1.out.chain ho2 (fun _ _ h => h))
  clear ho2 c0 c1 HO1
  cases b
  · clear hb
    go_wp2_with fail
    refine (awake15_any _).mono ?_
    rintro e w9 ⟨rfl, ho9⟩
    have HO9 := hid (HO.out.chain (HO2.out.chain ho9 (fun _ _ h => h)) (fun _ _ h => h))
    clear ho9
    go_wp2_with fail
    go_ret
    exact ⟨rfl, HO9.out.below (Nat.le_refl _) (fun _ _ h => h)⟩
  have HS := hid (hb rfl)
  clear hb
  have HC2 := hid (HC.out.only HO2.out (fun _ _ h => h))
  obtain ⟨c0, c1⟩ := HCELL.out w2 HO2.out
  go_wp2_with fail
  refine (of_rel _ _ _ p HC2.out HS.out).mono ?_
  rintro e w3 ⟨hof, ho3⟩
  have HO3 := hid (HO2.out.chain ho3 (fun _ _ h => h))
  clear ho3 c0 c1 HO2 HC2
  rcases hof with ⟨hne, rfl⟩ | ⟨heq, cs, rfl, hpl⟩
  · clear hne
    go_wp2_with fail
    go_ret
    exact ⟨rfl, (HO.out.chain (HO3.out.alloc _) (fun _ _ h => h)).below (Nat.le_refl _) (fun _ _ h => h)⟩
  have hth := ThIs.of hpl heq
  obtain ⟨⟨hsn1, hsn⟩, hsm, hths, hobs⟩ := part_parts heq
  have hplL := hpl
  obtain ⟨ta, oa, za, zc, zb, zd, rfl⟩ := hpl.shape
  clear hpl
  rw [HN.out, HM.out] at hplL hth ⊢
  rw [HN.out] at hsn hsn1
  rw [HM.out] at hsm
  have HPL := hid hplL
  have HEQ := hid heq
  have HSZ : Hid (∀ x ∈ p.obs, x.kind = 4 → 0 ≤ x.size ∧ x.size ≤ 1000) := fun x hx hk => by
    have h8 := of_decide_eq_true (List.all_eq_true.1 hobs x hx)
    omega
  have HPR : Hid (∀ x ∈ p.ths, 0 ≤ x.prio ∧ x.prio ≤ 15) := fun x hx => by
    have h8 := of_decide_eq_true (List.all_eq_true.1 hths x hx)
    exact ⟨h8.1, h8.2.1⟩
  have HV : ∃ V y, V = w3.alloc (plO (planCs n m ta oa (.slice za n zc) (.slice zb m zd))) ∧ y = w3.heap.size ∧ Only (fun _ => False) w3 V ∧ V.heap[y]? = some (plO (planCs n m ta oa (.slice za n zc) (.slice zb m zd))) := ⟨_, _, rfl, rfl, (Only.refl _ _).alloc _, heap_new _ _⟩
  obtain ⟨V, y, hVe, hye, hoV, hby⟩ := HV
  have HOV := hid (HO3.out.chain hoV (fun _ _ h => h))
  have HBY := hid hby
  have HTH := hid (hth.only hoV (fun _ _ h => h))
  have HN6 : Hid (n ≤ 6) := hth.1
  have HBT : Hid (∀ wx, Only (fun _ => False) V wx → Calls Tryz.prog 9 #[.agg (planCs n m ta oa (.slice za n zc) (.slice zb m zd))] wx fun e w' => ∃ g r, e = .returned (.pointer (some ⟨g, 0, none⟩)) ∧ MemIs 130 w' g r (bootX 16 [3, 5] p n m) ∧ (wx.heap.size ≤ g ∧ wx.heap.size ≤ r) ∧ Only (fun _ => False) wx w') := fun wx ho => by
    have h9 := boot_rel wx _ p (HPL.out.only (hoV.chain ho (fun _ _ h => h)) (fun _ _ h => h)) HEQ.out
    rw [HN.out, HM.out] at h9
    exact h9
  obtain ⟨YS, hYS⟩ : ∃ YS, bootX 16 [3, 5] p n m = YS := ⟨_, rfl⟩
  have hlen := length_bootX 16 [3, 5] p n m
  have HYS := hid hYS
  rw [hYS] at HBT hlen
  have HLEN : Hid (0 < YS.length) := by show 0 < _; omega
  have HPC : Hid (∀ wx, Only (fun _ => False) V wx → PlC14 wx y n m ta oa (.slice za n zc) (.slice zb m zd)) := fun wx ho => plan_cells ((ho.block y (lt_of_block HBY.out) (fun h => h)).trans HBY.out)
  have HEND : Hid (∀ w9, Only (fun _ => False) V w9 → Below w.heap.size w w9) := fun w9 ho => (HO.out.chain (HOV.out.chain ho (fun _ _ h => h)) (fun _ _ h => h)).below (Nat.le_refl _) (fun _ _ h => h)
  obtain ⟨f0, f1, f2, f3, f4, f5, f6, f7, f8, f9, f10, f11, f12, f13⟩ := plan_cells hby
  obtain ⟨c0, c1⟩ := HCELL.out V HOV.out
  clear hoV hby heq hths hobs hplL hth hYS hlen HO3
  go_upto_region 4 with fail
  rw [← hVe, ← hye]
  clear hVe hye
  go_upto_region 6 with fail
  go_wp2_with fail
  refine (HBT.out V (Only.refl _ _)).mono ?_
  rintro e w4 ⟨g, r, rfl, hmem, ⟨hg, hr⟩, ho4⟩
  have hmid : Mid13 V w4 (planCs n m ta oa (.slice za n zc) (.slice zb m zd)) n m g r YS := ⟨HTH.out.low.only ho4 (fun _ _ h => h), hmem, hg, hr, HLEN.out, ho4⟩
  have HME := hid (boot_mem15 HEQ.out HN.out HM.out HPR.out HYS.out hmid)
  obtain ⟨c0, c1⟩ := HCELL.out w4 (HOV.out.chain ho4 (fun _ _ h => h))
  have hth6 := HN6.out
  clear hmem hg hr ho4 hmid HBT HTH HPL HEQ HSZ HPR HLEN HYS f0 f1 f2 f3 f4 f5 f6 f7 f8 f9 f10 f11 f12 f13
  have hmf : ∀ (fn : Fn) (first cap : Array Value) (w : World), (Instr.makeFunc fn first cap).run Tryz.prog w = .ok (.func fn first cap) w := fun _ _ _ _ => rfl
  go_upto_region 8 with fail
  clear c0 c1
  go_loopw [33] (fun i wx => ∃ (j : Nat) (s : Sim14) (xs : List Int), i = .int .i64 (j : Int) ∧ j ≤ n ∧ Mem15 V wx (planCs n m ta oa (.slice za n zc) (.slice zb m zd)) n m g r s (fun _ => 0) (core0 p) (core1 p) xs ∧ (∀ t, t < j → s.st t ≠ 0) ∧ ∀ t, j ≤ t → s.st t = 0) (fun i _ => n - (intOf i).toNat)
  case atStart => exact ⟨0, _, _, rfl, Nat.zero_le _, HME.out, fun t h => absurd h (Nat.not_lt_zero _), fun t _ => rfl⟩
  case round =>
  clear HME
  obtain ⟨j, s, xs, rfl, hj, hme, hs1, hs2⟩ := hrel
  have HME := hid hme
  have HS1 := hid hs1
  have HS2 := hid hs2
  obtain ⟨f0, f1, f2, f3, f4, f5, f6, f7, f8, f9, f10, f11, f12, f13⟩ := HPC.out wr HME.out.mid.only
  clear hme hs1 hs2
  by_cases hlt : (j : Int) < (n : Int)
  · have hX : ∃ X U, X = wr.alloc (act15O n m ta oa za zb zc zd 1 (j : Int) 0 false 0 (0, false)) ∧ U = wr.heap.size ∧ Only (fun _ => False) wr X ∧ X.heap[U]? = some (act15O n m ta oa za zb zc zd 1 (j : Int) 0 false 0 (0, false)) := ⟨_, _, rfl, rfl, (Only.refl _ _).alloc _, heap_new _ _⟩
    obtain ⟨X, U, hXe, hUe, hoX, hbU⟩ := hX
    have hUg : U ≠ g ∧ U ≠ r := by
      have e2 := lt_of_block HME.out.mid.mem.head
      have e3 := HME.out.mid.mem.row.lt
      exact ⟨by omega, by omega⟩
    have hdo : doM15 n s (fun _ => 0) ⟨1, (j : Int), 0, false, 0⟩ = (true, s.unready j 2, fun _ => 0) := by
      have e0 : s.st j = 0 := HS2.out j (Nat.le_refl _)
      simp [doM15, e0]
      omega
    have hrun := mem_op15 (HME.out.keep hoX) ⟨1, (j : Int), 0, false, 0⟩ (show (0 : Int) ≤ 1 by decide) (show (1 : Int) ≤ 4 by decide) (show (0 : Int) ≤ 0 by decide) (by rw [hdo]) (0, false) hbU hUg.1 hUg.2
    rw [hdo] at hrun
    have HRUN := hid hrun
    clear hoX hbU hUg hdo hrun
    simp only [act15O] at hXe
    go_upto_region 11 with fail
    rw [← hXe, ← hUe]
    clear hXe hUe f0 f1 f2 f3 f4 f5 f6 f7 f8 f9 f10 f11 f12 f13
    go_wp2_with fail
    refine HRUN.out.mono ?_
    rintro e w5 ⟨rfl, ⟨xs', hm5⟩, ho5⟩
    have HM5 := hid hm5
    have HT1 : Hid (∀ t, t < j + 1 → (s.unready j 2).st t ≠ 0) := fun t ht => by
      show updF s.st j 2 t ≠ 0
      unfold updF
      by_cases e : t = j
      · rw [if_pos e]; decide
      · rw [if_neg e]; exact HS1.out t (by omega)
    have HT2 : Hid (∀ t, j + 1 ≤ t → (s.unready j 2).st t = 0) := fun t ht => by
      show updF s.st j 2 t = 0
      unfold updF
      rw [if_neg (by omega)]
      exact HS2.out t (by omega)
    clear hm5 ho5 HRUN
    go_wp2_with fail
    go_roundw
    case rel => exact ⟨j + 1, _, _, by go_num, by omega, HM5.out, HT1.out, HT2.out⟩
    case measure => simp [intOf]; omega
  · have HNO : Hid (∀ t, t < n → s.st t ≠ 0) := fun t ht => HS1.out t (by omega)
    have HTL : Hid (tailL s.qs 16 = []) := by
      show _ = _
      rw [List.eq_nil_iff_forall_not_mem]
      intro t ht
      obtain ⟨q, _, hq⟩ := tail_mem15 s.qs 16 ht
      obtain ⟨i, _, hi, h0, _⟩ := HME.out.ok.mem q _ hq
      exact HNO.out i hi h0
    have HD : Hid (∀ u v, dispM (tailL s.qs 16) (fxM n s (fun _ => 0)) u v = -1) := fun u v => by
      have hf : ∀ t, fxM n s (fun _ => 0) t = false := fun t => by
        cases h : fxM n s (fun _ => 0) t with
        | false => rfl
        | true =>
          have h9 := fx_in15 HME.out.ok _ t h
          rw [HTL.out] at h9
          cases h9
      have e : best2 (tailL s.qs 16) ([u, v].filter (fxM n s (fun _ => 0))) = [] := by
        rw [HTL.out]
        rfl
      unfold dispM
      rw [e, hf u, if_neg (fun h => h.elim (fun h => Bool.noConfusion h) (fun h => by cases h))]
      rfl
    obtain ⟨ci, hci⟩ : ∃ ci : Int, core % 2 = ci := ⟨_, rfl⟩
    have HCI : Hid (core % 2 = ci) := hci
    have hci2 : ci = 0 ∨ ci = 1 := by omega
    clear hci HS1 HS2 f0 f1 f2 f3 f4 f5 f6 f7 f8 f9 f10 f11 f12 f13
    go_upto_region 15 with fail
    go_loopw [47] (fun i wx => ∃ (j : Nat) (a c : Int) (xs : List Int), i = .int .i64 (j : Int) ∧ j ≤ 2 ∧ Mem15 V wx (planCs n m ta oa (.slice za n zc) (.slice zb m zd)) n m g r s (fun _ => 0) a c xs ∧ (1 ≤ j → (ci = 0 → a = -1) ∧ (ci = 1 → c = -1)) ∧ (2 ≤ j → a = -1 ∧ c = -1)) (fun i _ => 2 - (intOf i).toNat)
    case atStart => exact ⟨0, _, _, _, rfl, by decide, HME.out, fun h => absurd h (by decide), fun h => absurd h (by decide)⟩
    case round =>
    clear HME
    obtain ⟨j, a, c, xs, rfl, hj, hme, hj1, hj2⟩ := hrel
    have HME := hid hme
    have HJ1 := hid hj1
    have HJ2 := hid hj2
    obtain ⟨f0, f1, f2, f3, f4, f5, f6, f7, f8, f9, f10, f11, f12, f13⟩ := HPC.out wr HME.out.mid.only
    clear hme hj1 hj2
    by_cases hlt : (j : Int) < 2
    · have hX : ∃ X U, X = wr.alloc (act15O n m ta oa za zb zc zd 5 ((core + (j : Int)) % 2) 0 false 0 (0, false)) ∧ U = wr.heap.size ∧ Only (fun _ => False) wr X ∧ X.heap[U]? = some (act15O n m ta oa za zb zc zd 5 ((core + (j : Int)) % 2) 0 false 0 (0, false)) := ⟨_, _, rfl, rfl, (Only.refl _ _).alloc _, heap_new _ _⟩
      obtain ⟨X, U, hXe, hUe, hoX, hbU⟩ := hX
      have hUg : V.heap.size ≤ U ∧ U ≠ g ∧ U ≠ r := by
        have e1 := HME.out.mid.only.size
        have e2 := lt_of_block HME.out.mid.mem.head
        have e3 := HME.out.mid.mem.row.lt
        exact ⟨by omega, by omega, by omega⟩
      have HRUN := hid (mem_disp15 (HME.out.keep hoX) ⟨5, (core + (j : Int)) % 2, 0, false, 0⟩ (show (4 : Int) < 5 by decide) (0, false) hbU hUg.1 hUg.2.1 hUg.2.2)
      clear hoX hbU hUg
      simp only [act15O] at hXe
      go_upto_region 18 with fail
      rw [← hXe, ← hUe]
      clear hXe hUe f0 f1 f2 f3 f4 f5 f6 f7 f8 f9 f10 f11 f12 f13
      go_wp2_with fail
      refine HRUN.out.mono ?_
      rintro e w5 ⟨rfl, ⟨xs', hm5⟩, ⟨yv, hb5, hy0, hy1⟩, ho5⟩
      have hT : ∃ a' c', (disp2 (tailL s.qs 16) (fxM n s (fun _ => 0)) ((core + (j : Int)) % 2) a c) = (a', c') ∧ yv.2 = false ∧ (1 ≤ j + 1 → (ci = 0 → a' = -1) ∧ (ci = 1 → c' = -1)) ∧ (2 ≤ j + 1 → a' = -1 ∧ c' = -1) := by
        have hci := HCI.out
        rcases (show (core + (j : Int)) % 2 = 0 ∨ (core + (j : Int)) % 2 = 1 by omega) with e | e
        · refine ⟨-1, c, by rw [e]; unfold disp2; rw [if_pos rfl, HD.out], by rw [hy0 e, HD.out]; rfl, fun _ => ⟨fun _ => rfl, fun h => (HJ1.out (by omega)).2 h⟩, fun h => ⟨rfl, (HJ1.out (by omega)).2 (by omega)⟩⟩
        · refine ⟨a, -1, by rw [e]; unfold disp2; rw [if_neg (by decide), if_pos rfl, HD.out], by rw [hy1 e, HD.out]; rfl, fun _ => ⟨fun h => (HJ1.out (by omega)).1 h, fun _ => rfl⟩, fun h => ⟨(HJ1.out (by omega)).1 (by omega), rfl⟩⟩
      obtain ⟨a', c', he, hyf, hr1, hr2⟩ := hT
      simp only [he] at hm5
      have HM5 := hid hm5
      have HR1 := hid hr1
      have HR2 := hid hr2
      have f20 : w5.cell? ⟨U, 20, none⟩ = some (.bool yv.2) := cell_of_block hb5 20
      rw [hyf] at f20
      clear hm5 hb5 hy0 hy1 ho5 HRUN he hyf hr1 hr2
      go_wp2_with fail
      go_roundw
      case rel => exact ⟨j + 1, _, _, _, by go_num, by omega, HM5.out, HR1.out, HR2.out⟩
      case measure => simp [intOf]; omega
    · obtain ⟨rfl, rfl⟩ := HJ2.out (by omega)
      clear HJ1 HJ2
      go_wp2_with fail
      refine (mem_seen15 HME.out).mono ?_
      rintro e w5 ⟨U, q0, q1, rfl, hU, hm5, hb5, ho5⟩
      have HF := hid (HEND.out _ hm5.mid.only)
      obtain ⟨_, _, _, _, _, _, _, _, _, _, _, _, _, _, _, _, e16, e17, _, _⟩ := look15_cells hb5
      have e16' : w5.cell? ⟨U, 16, none⟩ = some (.bool false) := e16
      have e17' : w5.cell? ⟨U, 17, none⟩ = some (.bool false) := e17
      clear e16 e17 hU hm5 hb5 ho5 f0 f1 f2 f3 f4 f5 f6 f7 f8 f9 f10 f11 f12 f13
      go_wp2_with fail
      go_ret
      exact ⟨rfl, HF.out⟩
end Go.Proofs.YtmcmjcaigipoaaaGreat.dispatchIdle
namespace Go.Proofs.YtmcmjcaigipoaaaGreat.dispatchIdle
open Go.Sept Go.RowKit Go.ChangeShapes Go.WideShapes Go.ChangeAt Go.Joins Go.Deep

set_option maxRecDepth 100000 in
theorem lifted (os : Os) (started : os.Started) (H : Type) (enc : TypeId × Value → H) :
    ReturnsInHanded {} Tryz.checked os 4 .any (Rows.dispatchIdleSpec.pre6 enc Tryz.prog Tryz.f4 Rows.dispatchIdleRow.domain false) (Rows.dispatchIdleSpec.post enc Tryz.prog Tryz.f4 false true false false) := by
  refine returnsInHanded_of_change (C := Tryz.checked) ownKnob15 started (by kernel_rfl) Tryz.func4
    (ChangeSpec.witness6 (enc := enc) (C := Tryz.checked) false ⟨#[], #[.agg #[.slice none 0 0, .slice none 0 0], .int .u8 0], []⟩ 8 (by kernel_rfl) (by kernel_rfl) (by kernel_rfl) (by kernel_rfl)) ?_
  intro W base args ds gs before hval0 hW hcnd _
  have hval : ∀ (j : Nat) t v, Tryz.f4.params[j]? = some t → args[j]? = some v → Value.okWide Tryz.prog W .any base t v := hval0
  have hW' := hW
  obtain ⟨p, q, hA0, hV, rfl, hfz, hnd⟩ := hW
  have hA : DataW.TrodAll enc Tryz.prog W 0 (fun _ => true) true Tryz.f4.params.toList args.toList ds p := hA0
  rw [Tryz.params4] at hA hval
  obtain ⟨v0, vs0, d0, ds0, p0, q0, hargs, rfl, rfl, h0, r0⟩ := trodAll_cons hA
  obtain ⟨v1, vs1, d1, ds1, p1, q1, rfl, rfl, rfl, h1, r1⟩ := trodAll_cons r0
  obtain ⟨rfl, rfl, rfl⟩ := trodAll_nil r1
  obtain rfl : args = #[v0, v1] := by cases args; simp_all
  obtain ⟨x0, x1, c, rfl, hc⟩ := open_pt (hval 0 25 v0 rfl rfl) h0
  obtain ⟨a1, rfl, rfl, rfl, w1⟩ := open_int Tryz.underlying5 (hval 1 5 v1 rfl rfl) h1
  refine (walk W x0 x1 c hc a1 (bounds_u8 w1)).mono fun e W' ⟨he, hg⟩ => ?_
  subst he
  exact ⟨_, rfl, post_law 2 4 laidOut15 (by kernel_rfl) rfl rfl rfl Tryz.underlying4 (fun l hl => by match l, hl with | [_, _], _ => rfl) hW' hg⟩

theorem over : Rows.dispatchIdleRow.holds Tryz.pinned (OpenSpec.ofChange Rows.dispatchIdleSpec) :=
  OpenClaim.holds_of_wide 4 Tryz.f4 rfl rfl rfl rfl rfl rfl rfl ⟨rfl, rfl, rfl, rfl, rfl⟩ rfl rfl rfl rfl rfl (by kernel_rfl) Tryz.func4 (by kernel_rfl)
    (of_decide_eq_true (by kernel_rfl)) (by unfold Func.isWrapper; first | (rw [if_pos (by decide +kernel)]; kernel_rfl) | (rw [if_neg (by decide +kernel)]; exact ⟨rfl, rfl⟩))
    (fun os started H enc _ => lifted os started H enc)

theorem proved : Rows.DispatchIdleSaid := over
#print axioms proved
end Go.Proofs.YtmcmjcaigipoaaaGreat.dispatchIdle

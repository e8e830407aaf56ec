/-
  ThreadOdd: of no such thread or field nothing is done, without an access. Conditions: none.
-/
import Derived.Test.YtabdlbmdbceemaaAwake13
import Derived.Test.YtabdlbmdbceemaaIdle13
import Derived.Test.YtabdlbmdbceemaaOpenCf11
import Derived.Deep.RegionHeld
import Derived.BigRegion
import Derived.Laws.NewBlocks
namespace Go.Proofs.Ytabdlbmdbceemaa.threadOdd
open Go.Sept Go.RowKit Go.ChangeShapes Go.WideShapes Go.ChangeAt Go.Joins Go.Deep

theorem own : ownKnob Try.prog.godebug = none := by kernel_rfl
theorem laidOut : laidOutB Try.prog = true := by kernel_rfl
end Go.Proofs.Ytabdlbmdbceemaa.threadOdd
namespace Go.Proofs.Ytabdlbmdbceemaa.threadOdd
open Go.Sept Go.RowKit

structure Two13 (w wc : World) (A B : Nat) (oa ob : Obj) : Prop where
  a : wc.heap[A]? = some oa
  b : wc.heap[B]? = some ob
  ab : A ≠ B
  la : w.heap.size ≤ A
  lb : w.heap.size ≤ B
  only : Only (fun _ => False) w wc
theorem two_new (w : World) (oa ob : Obj) : Two13 w ((w.alloc oa).alloc ob).drew w.heap.size (w.heap.size + 1) oa ob :=
  ⟨newKeep12 (newAt12 _ _ rfl), newAt12 _ _ (by simp), by omega, by omega, by omega, (((Only.refl _ _).alloc _).alloc _).drew⟩
theorem two_old (w : World) (oa ob : Obj) : Two13 w ((w.drew.alloc oa).alloc ob) w.heap.size (w.heap.size + 1) oa ob :=
  ⟨newKeep12 (newAt12 _ _ rfl), newAt12 _ _ (by simp), by omega, by omega, by omega, ((((Only.refl _ _).drew).alloc _).alloc _)⟩
theorem Two13.swap {w wc : World} {A B : Nat} {oa ob : Obj} (h : Two13 w wc A B oa ob) : Two13 w wc B A ob oa := ⟨h.b, h.a, fun e => h.ab e.symm, h.lb, h.la, h.only⟩
theorem steps13 (w : World) (F lb : Nat) (s : FrSt) (h : FrameIs w F lb s) (hs : s.log = []) : Calls Try.prog 20 #[.pointer (some ⟨F, 0, none⟩)] w fun e w' => e = .returned (.int .i64 0) ∧ w' = w := by
  have h9 := steps_rel w F lb s h
  rw [hs] at h9
  exact h9

set_option maxRecDepth 100000 in
set_option maxHeartbeats 4000000 in
theorem walk {P0 : Nat → Prop} (w : World) (v0 v1 : Value) (p : Pt) (h0 : PtIs P0 w v0 v1 p) (t f v : Int) :
    Calls Try.prog 5 #[.agg #[v0, v1], .int .i64 t, .int .i64 f, .int .i64 v] w fun e w' => e = .returned (.bool true) ∧ Below w.heap.size w w' := by
  have h : PtIs (fun k => k < w.heap.size) w v0 v1 p := ⟨h0.1.low (fun _ _ _ h => low_th _ h), h0.2.low (fun _ _ _ h => ⟨Cel.lt h.1.1, h⟩)⟩
  clear h0
  obtain ⟨xa, xc, rfl, xm⟩ := h.1.shape
  obtain ⟨ya, yc, rfl, ym⟩ := h.2.shape
  obtain ⟨n, hn⟩ : ∃ n, p.ths.length = n := ⟨_, rfl⟩
  obtain ⟨m, hm⟩ : ∃ m, p.obs.length = m := ⟨_, rfl⟩
  have HN := hid hn
  have HM := hid hm
  rw [hn] at h xm ⊢
  rw [hm] at h ym ⊢
  clear hn hm
  have hW : ∃ W z, W = w.alloc (ptO (.slice xa n xc) (.slice ya m yc)) ∧ z = w.heap.size ∧ Only (fun _ => False) w W ∧ W.heap[z]? = some (ptO (.slice xa n xc) (.slice ya m yc)) := ⟨_, _, rfl, rfl, (Only.refl _ _).alloc _, heap_new _ _⟩
  obtain ⟨W, z, hWe, hze, hoW, hbz⟩ := hW
  have HC := hid (h.only hoW (fun _ _ h => h))
  have HO := hid hoW
  have HB := hid hbz
  have HCELL : Hid (∀ w', Only (fun _ => False) W w' → w'.cell? ⟨z, 0, none⟩ = some (.slice xa n xc) ∧ w'.cell? ⟨z, 1, none⟩ = some (.slice ya m yc)) := fun w' ho => by
    have h9 := (ho.block z (lt_of_block hbz) (fun h => h)).trans hbz
    exact ⟨cell_of_block h9 0, cell_of_block h9 1⟩
  clear hoW hbz h
  simp only [ptO] at hWe
  go_enter Try.func5, Try.ntmps5
  go_upto_region 1 with fail
  rw [← hWe, ← hze]
  clear hWe hze
  go_wp2_with fail
  refine (awake13_any _).mono ?_
  rintro e w1 ⟨rfl, ho1⟩
  obtain ⟨c0, c1⟩ := HCELL.out w1 ho1
  have HO1 := hid ho1
  clear ho1
  go_wp2_with fail
  refine (fewPart2_any _ _ _ p (HC.out.only HO1.out (fun _ _ h => h))).mono ?_
  rintro e w2 ⟨⟨b, rfl, hb⟩, ho2⟩
  have HO2 := hid (HO1.out.chain ho2 (fun _ _ h => h))
  clear ho2 c0 c1
  cases b
  · clear hb
    go_wp2_with fail
    refine (awake13_any _).mono ?_
    rintro e w3 ⟨rfl, ho3⟩
    have HO3 := hid (HO.out.chain (HO2.out.chain ho3 (fun _ _ h => h)) (fun _ _ h => h))
    clear ho3
    go_wp2_with fail
    go_ret
    exact ⟨rfl, HO3.out.below (Nat.le_refl _) (fun _ _ h => h)⟩
  have HS := hid (hb rfl)
  have HC2 := hid (HC.out.only HO2.out (fun _ _ h => h))
  obtain ⟨c0, c1⟩ := HCELL.out w2 HO2.out
  clear hb HO1
  go_wp2_with fail
  refine (of13_rel _ _ _ p HC2.out HS.out).mono ?_
  rintro e w3 ⟨hof, ho3⟩
  have HO3 := hid (HO2.out.chain ho3 (fun _ _ h => h))
  clear ho3 c0 c1 HO2 HC2
  rcases hof with ⟨hne, rfl⟩ | ⟨heq, cs, rfl, hpl⟩
  · clear hne
    go_wp2_with fail
    go_ret
    exact ⟨rfl, (HO.out.chain (HO3.out.alloc _) (fun _ _ h => h)).below (Nat.le_refl _) (fun _ _ h => h)⟩
  have hth := ThIs.of hpl heq
  have hplL := hpl
  obtain ⟨ta, oa, za, zc, zb, zd, rfl⟩ := hpl.shape
  clear hpl
  rw [HN.out, HM.out] at hplL hth ⊢
  have HPL := hid hplL
  have HEQ := hid heq
  have HV : ∃ V y, V = w3.alloc (plO (planCs n m ta oa (.slice za n zc) (.slice zb m zd))) ∧ y = w3.heap.size ∧ Only (fun _ => False) w3 V ∧ V.heap[y]? = some (plO (planCs n m ta oa (.slice za n zc) (.slice zb m zd))) := ⟨_, _, rfl, rfl, (Only.refl _ _).alloc _, heap_new _ _⟩
  obtain ⟨V, y, hVe, hye, hoV, hby⟩ := HV
  have HOV := hid (HO3.out.chain hoV (fun _ _ h => h))
  have HBY := hid hby
  have HTH := hid (hth.only hoV (fun _ _ h => h))
  have hn6 : n ≤ 6 := hth.1
  have hm8 : m ≤ 8 := hth.2.1
  have HPLV := hid (hplL.only hoV (fun _ _ h => h))
  obtain ⟨f0, f1, f2, f3, f4, f5, f6, f7, f8, f9, f10, f11, f12, f13⟩ := plan_cells hby
  obtain ⟨c0, c1⟩ := HCELL.out V HOV.out
  clear hoV hby hplL hth heq
  go_upto_region 4 with fail
  rw [← hVe, ← hye]
  clear hVe hye
  have HPC : Hid (∀ wx, Only (fun _ => False) V wx → wx.cell? ⟨y, 0, none⟩ = some (.int .i64 0) ∧ wx.cell? ⟨y, 1, none⟩ = some (.int .i64 2) ∧ wx.cell? ⟨y, 2, none⟩ = some (.int .i64 4) ∧ wx.cell? ⟨y, 3, none⟩ = some (.int .i64 3) ∧ wx.cell? ⟨y, 4, none⟩ = some (.int .i64 5) ∧ wx.cell? ⟨y, 5, none⟩ = some (.int .i64 6) ∧ wx.cell? ⟨y, 6, none⟩ = some (.int .i64 8) ∧ wx.cell? ⟨y, 7, none⟩ = some (.int .i64 41) ∧ wx.cell? ⟨y, 8, none⟩ = some (.int .i64 43) ∧ wx.cell? ⟨y, 9, none⟩ = some (.slice ta n n) ∧ wx.cell? ⟨y, 10, none⟩ = some (.slice oa m m) ∧ wx.cell? ⟨y, 11, none⟩ = some (.int .i64 (43 + (m : Int) + (n : Int) * 24 + (m : Int) * 24)) ∧ wx.cell? ⟨y, 12, none⟩ = some (.slice za n zc) ∧ wx.cell? ⟨y, 13, none⟩ = some (.slice zb m zd)) := fun wx ho => plan_cells ((ho.block y (lt_of_block HBY.out) (fun h => h)).trans HBY.out)
  by_cases hin : 0 ≤ t ∧ t < (n : Int) ∧ 0 ≤ f ∧ f < 19
  · obtain ⟨i1, i2, i3, i4⟩ := hin
    go_wp2_with fail
    go_ret
    exact ⟨rfl, (HO.out.chain HOV.out (fun _ _ h => h)).below (Nat.le_refl _) (fun _ _ h => h)⟩
  have HFN : Hid (fieldV n m t f < 0) := by show _ < _; rw [fieldV_out hin]; decide
  go_cut [49] (fun b wc => b = .bool false ∧ wc = V)
  case first =>
    rcases (show t < 0 ∨ (0 ≤ t ∧ (n : Int) ≤ t) ∨ (0 ≤ t ∧ t < (n : Int) ∧ f < 0) ∨ (0 ≤ t ∧ t < (n : Int) ∧ 0 ≤ f ∧ 19 ≤ f) by omega) with h1 | ⟨h1, h2⟩ | ⟨h1, h2, h3⟩ | ⟨h1, h2, h3, h4⟩
    all_goals
      clear hin
      go_wp2_with fail
      go_meet
      exact ⟨by first | rfl | exact congrArg Value.bool (decide_eq_false (by omega)), rfl⟩
  case rest =>
  obtain ⟨rfl, hwc⟩ := hcut
  obtain rfl : V = wc := hwc.symm
  have hmf : ∀ (fn : Fn) (first cap : Array Value) (w : World), (Instr.makeFunc fn first cap).run Try.prog w = .ok (.func fn first cap) w := fun _ _ _ _ => rfl
  have hmk : ∀ w : World, (Instr.makeSlice 52 (.int .i64 600) (.int .i64 600)).run Try.prog w = _ := make_words 600 (by omega)
  clear hin hwc f0 f1 f2 f3 f4 f5 f6 f7 f8 f9 f10 f11 f12 f13 c0 c1
  go_wp2_with fail
  refine (new_rel _ _).mono ?_
  rintro e w5 ⟨g, q, rfl, hm, hg, hq, ho5⟩
  rw [show clampN 600 = 600 from clamp_nat 600 (by decide)] at hm
  have HM := hid hm
  have HO5 := hid ho5
  have HGQ : Hid (V.heap.size ≤ g ∧ V.heap.size ≤ q) := by
    show _ ∧ _
    omega
  clear hm ho5 hg hq
  go_wp2_with fail
  refine (fnew_rel _ _).mono ?_
  rintro e w6 ⟨F1, rfl, hf1, hF1, ho6⟩
  have HF1 := hid hf1
  have HE1 := hid hF1
  have HO6 := hid ho6
  clear hf1 hF1 ho6
  go_wp2_with fail
  refine (fnew_rel _ _).mono ?_
  rintro e w7 ⟨F2, rfl, hf2, hF2, ho7⟩
  have HF2 := hid hf2
  have HE2 := hid hF2
  have HO7 := hid ho7
  have HOA := hid (HO5.out.chain (HO6.out.chain ho7 (fun _ _ h => h)) (fun _ _ h => h))
  clear hf2 hF2 ho7
  obtain ⟨f0, f1, f2, f3, f4, f5, f6, f7, f8, f9, f10, f11, f12, f13⟩ := HPC.out w7 HOA.out
  go_upto_region 8 with fail
  go_cut [14, 15] (fun vx vy wc => ∃ U1 U2 : Nat, vx = ptrV U1 ∧ vy = ptrV U2 ∧ Two13 w7 wc U1 U2 (act13O n m ta oa za zb zc zd t f v true 0) (act13O n m ta oa za zb zc zd t f 0 false 0))
  case first =>
    go_region_held (fun w' => w'.cell? ⟨y, 0, none⟩ = some (.int .i64 0) ∧ w'.cell? ⟨y, 1, none⟩ = some (.int .i64 2) ∧ w'.cell? ⟨y, 2, none⟩ = some (.int .i64 4) ∧ w'.cell? ⟨y, 3, none⟩ = some (.int .i64 3) ∧ w'.cell? ⟨y, 4, none⟩ = some (.int .i64 5) ∧ w'.cell? ⟨y, 5, none⟩ = some (.int .i64 6) ∧ w'.cell? ⟨y, 6, none⟩ = some (.int .i64 8) ∧ w'.cell? ⟨y, 7, none⟩ = some (.int .i64 41) ∧ w'.cell? ⟨y, 8, none⟩ = some (.int .i64 43) ∧ w'.cell? ⟨y, 9, none⟩ = some (.slice ta n n) ∧ w'.cell? ⟨y, 10, none⟩ = some (.slice oa m m) ∧ w'.cell? ⟨y, 11, none⟩ = some (.int .i64 (43 + (m : Int) + (n : Int) * 24 + (m : Int) * 24)) ∧ w'.cell? ⟨y, 12, none⟩ = some (.slice za n zc) ∧ w'.cell? ⟨y, 13, none⟩ = some (.slice zb m zd)) (go_keep) (fail)
    all_goals go_wp2_with fail
    all_goals go_meet
    all_goals refine ⟨_, _, rfl, rfl, ?_⟩
    all_goals first
      | exact two_new _ _ _
      | exact (two_new _ _ _).swap
      | exact two_old _ _ _
      | exact (two_old _ _ _).swap
  case rest =>
  obtain ⟨U1, U2, rfl, rfl, hT⟩ := hcut
  have HOD : Hid (Odd13 V wc n m ta oa za zb zc zd t f v g q F1 F1 F2 F2 U1 U2 (fresh (some ⟨g, 0, none⟩)) (fresh (some ⟨g, 0, none⟩)) (List.replicate 600 0)) := by
    have m7 := (HM.out.only HO6.out (fun h => h) (fun h => h)).only HO7.out (fun h => h) (fun h => h)
    have f7 := HF1.out.only HO7.out (fun h => h) (fun h => h)
    have lg := lt_of_block HM.out.head
    have lq := HM.out.row.lt
    have l1 := HF1.out.lt
    have l2 := HF2.out.lt
    have e1 := HE1.out
    have e2 := HE2.out
    have z1 := HO6.out.size
    have z2 := HO7.out.size
    have z3 := HO5.out.size
    have z4 := hT.only.size
    have b1 := HGQ.out.1
    have b2 := HGQ.out.2
    have u1 := hT.la
    have u2 := hT.lb
    have u3 := hT.ab
    refine ⟨HTH.out.low.only (HOA.out.chain hT.only (fun _ _ h => h)) (fun _ _ h => h), m7.only hT.only (fun h => h) (fun h => h), f7.only hT.only (fun h => h) (fun h => h), HF2.out.only hT.only (fun h => h) (fun h => h), hT.a, hT.b, HOA.out.chain hT.only (fun _ _ h => h), ?_, ?_, ?_, ?_⟩
    · omega
    · clear u3; omega
    · refine ⟨⟨?_, ?_, ?_, ?_, ?_, ?_⟩, ⟨?_, ?_, ?_, ?_, ?_, ?_⟩, u3⟩ <;> (clear u3; omega)
    · omega
  have HX : Hid (0 < (List.replicate 600 (0 : Int)).length) := by show _ < _; rw [List.length_replicate]; decide
  have k0 : wc.cell? ⟨U2, 18, none⟩ = some (.int .i64 0) := cell_of_block HOD.out.y 18
  clear hT f0 f1 f2 f3 f4 f5 f6 f7 f8 f9 f10 f11 f12 f13 HM HO5 HO6 HO7 HF1 HF2 HE1 HE2 HGQ
  go_upto_region 9 with fail
  go_region_held (fun w' => w'.cell? ⟨U2, 18, none⟩ = some (.int .i64 0)) (go_keep)
    (first
      | (go_at_call 19; refine ((HOD.out.keep ((Only.refl _ _).drew)).step1 HFN.out HX.out).mono ?_; rintro e w9 ⟨s1, l1, rfl, hg1, hd⟩
         have HD1 := hid hd; have HG1 := hid hg1; have k1 : w9.cell? ⟨U2, 18, none⟩ = some (.int .i64 0) := cell_of_block hd.y 18; clear hd hg1 HOD k0)
      | (go_at_call 19; refine (HD1.out.step2 HFN.out HX.out).mono ?_; rintro e w10 ⟨s2, l2, rfl, hg2, hd⟩
         have HD2 := hid hd; have HG2 := hid hg2; have k2 : w10.cell? ⟨U2, 18, none⟩ = some (.int .i64 0) := cell_of_block hd.y 18; clear hd hg2 HD1 k1)
      | (go_at_call 20; refine (steps13 _ F1 _ _ HD2.out.fr1 HG1.out).mono ?_; rintro e w11 ⟨rfl, rfl⟩; clear HG1)
      | (go_at_call 20; refine (steps13 _ F2 _ _ HD2.out.fr2 HG2.out).mono ?_; rintro e w11 ⟨rfl, rfl⟩; clear HG2)
      | (go_at_call 22; refine (words_zero13 600 (by decide) (by decide) _ g q HD2.out.mem).mono ?_; rintro e w12 ⟨b6, rfl, hr6, hb6, ho6⟩
         have HD6 := hid (HD2.out.keep ho6); have HR6 := hid hr6; have k3 : w12.cell? ⟨U2, 18, none⟩ = some (.int .i64 0) := cell_of_block HD6.out.y 18; clear hr6 hb6 ho6)
      | (go_at_call 22; refine (words_zero13 600 (by decide) (by decide) _ g q (HD2.out.mem.alloc _)).mono ?_; rintro e w12 ⟨b6, rfl, hr6, hb6, ho6⟩
         have HD6 := hid (HD2.out.keep (((Only.refl (fun _ => False) _).alloc _).chain ho6 (fun _ _ h => h))); have HR6 := hid hr6; have HR7 := hid ((made_row13 600 w11).only ho6 (fun h => h))
         have k3 : w12.cell? ⟨U2, 18, none⟩ = some (.int .i64 0) := cell_of_block HD6.out.y 18; clear hr6 hb6 ho6)
      | (go_at_call 21; refine (same_zero13 600 (by decide) _ _ _ HR6.out HR7.out).mono ?_; rintro e w13 ⟨rfl, ho8⟩
         have HD8 := hid (HD6.out.keep ho8); have k4 : w13.cell? ⟨U2, 18, none⟩ = some (.int .i64 0) := cell_of_block HD8.out.y 18; clear ho8)
      | (go_at_call 21; refine (same_zero13 600 (by decide) _ _ _ (HR6.out.only ((Only.refl (fun _ => False) _).alloc _) (fun h => h)) (made_row13 600 _)).mono ?_; rintro e w13 ⟨rfl, ho8⟩
         have HD8 := hid (HD6.out.keep (((Only.refl (fun _ => False) _).alloc _).chain ho8 (fun _ _ h => h))); have k4 : w13.cell? ⟨U2, 18, none⟩ = some (.int .i64 0) := cell_of_block HD8.out.y 18; clear ho8))
  all_goals
    go_wp2_with fail
    go_ret
    exact ⟨rfl, (HO.out.chain (HOV.out.chain HD8.out.only (fun _ _ h => h)) (fun _ _ h => h)).below (Nat.le_refl _) (fun _ _ h => h)⟩
end Go.Proofs.Ytabdlbmdbceemaa.threadOdd
namespace Go.Proofs.Ytabdlbmdbceemaa.threadOdd
open Go.Sept Go.RowKit Go.ChangeShapes Go.WideShapes Go.ChangeAt Go.Joins Go.Deep

set_option maxRecDepth 100000 in
theorem lifted (os : Os) (started : os.Started) (H : Type) (enc : TypeId × Value → H) :
    ReturnsInHanded {} Try.checked os 5 .any (Rows.threadOddSpec.pre6 enc Try.prog Try.f5 Rows.threadOddRow.domain false) (Rows.threadOddSpec.post enc Try.prog Try.f5 false true false false) := by
  refine returnsInHanded_of_change (C := Try.checked) own started (by kernel_rfl) Try.func5
    (ChangeSpec.witness6 (enc := enc) (C := Try.checked) false ⟨#[], #[.agg #[.slice none 0 0, .slice none 0 0], .int .i64 0, .int .i64 0, .int .i64 0], []⟩ 8 (by kernel_rfl) (by kernel_rfl) (by kernel_rfl) (by kernel_rfl)) ?_
  intro W base args ds gs before hval0 hW hcnd _
  have hval : ∀ (j : Nat) t v, Try.f5.params[j]? = some t → args[j]? = some v → Value.okWide Try.prog W .any base t v := hval0
  have hW' := hW
  obtain ⟨p, q, hA0, hV, rfl, hfz, hnd⟩ := hW
  have hA : DataW.TrodAll enc Try.prog W 0 (fun _ => true) true Try.f5.params.toList args.toList ds p := hA0
  rw [Try.params5] at hA hval
  obtain ⟨v0, vs0, d0, ds0, p0, q0, hargs, rfl, rfl, h0, r0⟩ := trodAll_cons hA
  obtain ⟨v1, vs1, d1, ds1, p1, q1, rfl, rfl, rfl, h1, r1⟩ := trodAll_cons r0
  obtain ⟨v2, vs2, d2, ds2, p2, q2, rfl, rfl, rfl, h2, r2⟩ := trodAll_cons r1
  obtain ⟨v3, vs3, d3, ds3, p3, q3, rfl, rfl, rfl, h3, r3⟩ := trodAll_cons r2
  obtain ⟨rfl, rfl, rfl⟩ := trodAll_nil r3
  obtain rfl : args = #[v0, v1, v2, v3] := by cases args; simp_all
  obtain ⟨x0, x1, c, rfl, hc⟩ := open_pt (hval 0 25 v0 rfl rfl) h0
  obtain ⟨a1, rfl, rfl, rfl, w1⟩ := open_int Try.underlying3 (hval 1 3 v1 rfl rfl) h1
  obtain ⟨a2, rfl, rfl, rfl, w2⟩ := open_int Try.underlying3 (hval 2 3 v2 rfl rfl) h2
  obtain ⟨a3, rfl, rfl, rfl, w3⟩ := open_int Try.underlying2 (hval 3 2 v3 rfl rfl) h3
  refine (walk W x0 x1 c hc a1 a2 a3 ).mono fun e W' ⟨he, hg⟩ => ?_
  subst he
  exact ⟨_, rfl, post_law 4 4 laidOut (by kernel_rfl) rfl rfl rfl Try.underlying4 (fun l hl => by match l, hl with | [_, _, _, _], _ => rfl) hW' hg⟩

theorem over : Rows.threadOddRow.holds Try.pinned (OpenSpec.ofChange Rows.threadOddSpec) :=
  OpenClaim.holds_of_wide 5 Try.f5 rfl rfl rfl rfl rfl rfl rfl ⟨rfl, rfl, rfl, rfl, rfl⟩ rfl rfl rfl rfl rfl (by kernel_rfl) Try.func5 (by kernel_rfl)
    (of_decide_eq_true (by kernel_rfl)) (by unfold Func.isWrapper; first | (rw [if_pos (by decide +kernel)]; kernel_rfl) | (rw [if_neg (by decide +kernel)]; exact ⟨rfl, rfl⟩))
    (fun os started H enc _ => lifted os started H enc)

theorem proved : Rows.ThreadOddSaid := over
#print axioms proved
end Go.Proofs.Ytabdlbmdbceemaa.threadOdd

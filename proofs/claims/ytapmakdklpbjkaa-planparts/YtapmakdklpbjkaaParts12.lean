/-
  PlanParts: any partition has a plan in which no two things share a word, or none, as the document says. Conditions: none.
-/
import Derived.Test.YtapmakdklpbjkaaApart12
import Derived.Test.YtapmakdklpbjkaaOpenCf11
import Derived.Test.YtapmakdklpbjkaaRef11
namespace Go.Proofs.Ytapmakdklpbjkaa.planParts
open Go.Sept Go.RowKit Go.ChangeShapes Go.WideShapes Go.ChangeAt Go.Joins Go.Deep

theorem own : ownKnob Try.prog.godebug = none := by kernel_rfl
theorem laidOut : laidOutB Try.prog = true := by kernel_rfl

theorem infoBool : (Try.prog.info? 4).map (fun i => (i.zero, i.size, i.bytes)) = some (some (.bool false), 1, 1) := by kernel_rfl
/-- Which words have been looked at. -/
def UsedIs (w : World) (ub m i k : Nat) : Prop := ∃ cs : Array Value, w.heap[ub]? = some (.cells cs 4) ∧ ∀ a, a < 600 → ∃ b, cs[a]? = some (.bool b) ∧ (b = true → Cov m i k a)
theorem UsedIs.only {w w' : World} {ub m i k : Nat} {S : Nat → Prop} (h : UsedIs w ub m i k) (ho : Only S w w') (hb : ¬ S ub) : UsedIs w' ub m i k := by
  obtain ⟨cs, h1, h2⟩ := h
  exact ⟨cs, (ho.block ub (lt_of_block h1) hb).trans h1, h2⟩
theorem UsedIs.step {w : World} {ub m i k : Nat} (h : UsedIs w ub m i k) : UsedIs (w.setCell ⟨ub, atF m i + k, none⟩ (.bool true)) ub m i (k + 1) := by
  obtain ⟨cs, h1, h2⟩ := h
  refine ⟨_, block_setCell h1 (atF m i + k) (.bool true), fun a ha => ?_⟩
  obtain ⟨b, hb, hc⟩ := h2 a ha
  have hlt : a < cs.size := (Array.getElem?_eq_some_iff.1 hb).1
  by_cases e : atF m i + k = a
  · subst e
    exact ⟨true, by rw [Array.getElem?_setIfInBounds_self, if_pos hlt], fun _ => .inr ⟨by omega, by omega⟩⟩
  · exact ⟨b, by rw [Array.getElem?_setIfInBounds_ne e]; exact hb, fun h => cov_step (hc h)⟩
theorem made_bools (w : World) : (Instr.makeSlice 38 (.int .i64 600) (.int .i64 600)).run Try.prog w = .ok (.slice (some ⟨w.heap.size, 0, none⟩) 600 600) (w.alloc (.cells (madeCells #[.bool false] 600) 4)) :=
  run_make_all (P := Try.prog) 38 4 (.bool false) 1 1 Try.underlying38 infoBool 600 (by omega) (by omega) w
theorem used_start (w : World) (m : Nat) : UsedIs (w.alloc (.cells (madeCells #[.bool false] 600) 4)) w.heap.size m 0 0 :=
  ⟨_, heap_new _ _, fun a ha => ⟨false, by simp [madeCells, ha, Nat.mod_one], fun h => Bool.noConfusion h⟩⟩

theorem PlIs.low {P : Nat → Prop} {w : World} {cs : Array Value} {p : Pt} (h : PlIs P w cs p) : PlIs (fun k => k < w.heap.size) w cs p := by
  obtain ⟨ta, oa, u0, u1, h1, ⟨h2, h3⟩, h4, h5⟩ := h
  exact ⟨ta, oa, u0, u1, h1, ⟨h2.low (fun _ _ _ h => low_th _ h), h3.low (fun _ _ _ h => ⟨Cel.lt h.1.1, h⟩)⟩, h4.low (fun _ _ _ h => ⟨Cel.lt h.1, h⟩), h5.low (fun _ _ _ h => ⟨Cel.lt h.1, h⟩)⟩
theorem part_small {p : Pt} (h : partW p = 0) : (1 ≤ p.ths.length ∧ p.ths.length ≤ 6) ∧ p.obs.length ≤ 8 := by
  unfold partW at h
  by_cases h1 : p.ths.length < 1 ∨ 6 < p.ths.length
  · rw [if_pos h1] at h; omega
  · rw [if_neg h1] at h
    by_cases h2 : 8 < p.obs.length
    · rw [if_pos h2] at h; omega
    · omega
/-- An element of a slice of one's own. -/
theorem Own13.at12 {w : World} {v : Value} {b i : Nat} {xs : List Int} {x : Int} (h : Own13 w v b xs) (hx : xs[i]? = some x) : w.cell? ⟨b, i, none⟩ = some (.int .i64 x) := by
  have h0 : 0 < xs.length := Nat.lt_of_le_of_lt (Nat.zero_le _) (List.getElem?_eq_some_iff.1 hx).1
  obtain ⟨_, _, _, _, hc⟩ := Grow.cells h h0
  exact hc i _ (by rw [List.getElem?_map, hx]; rfl)

set_option maxRecDepth 100000 in
set_option maxHeartbeats 2000000 in
theorem walk {P : Nat → Prop} (w : World) (v0 v1 : Value) (p : Pt) (h : PtIs P w v0 v1 p) :
    Calls Try.prog 3 #[.agg #[v0, v1]] w fun e w' => e = .returned (.bool true) ∧ Below w.heap.size w w' := by
  obtain ⟨xa, xc, rfl, xm⟩ := h.1.shape
  obtain ⟨ya, yc, rfl, ym⟩ := h.2.shape
  obtain ⟨n, hn⟩ : ∃ n, p.ths.length = n := ⟨_, rfl⟩
  obtain ⟨m, hm⟩ : ∃ m, p.obs.length = m := ⟨_, rfl⟩
  have HN := hid hn
  have HM := hid hm
  rw [hn] at h xm ⊢
  rw [hm] at h ym ⊢
  clear hn hm
  have hW : ∃ W z, W = w.alloc (ptO (.slice xa n xc) (.slice ya m yc)) ∧ z = w.heap.size ∧ Only (fun _ => False) w W ∧ W.heap[z]? = some (ptO (.slice xa n xc) (.slice ya m yc)) := ⟨_, _, rfl, rfl, (Only.refl _ _).alloc _, heap_new _ _⟩
  obtain ⟨W, z, hWe, hze, hoW, hbz⟩ := hW
  have HC := hid (h.only hoW (fun _ _ h => h))
  have HO := hid hoW
  have HB := hid hbz
  have HCELL : Hid (∀ w', Only (fun _ => False) W w' → w'.cell? ⟨z, 0, none⟩ = some (.slice xa n xc) ∧ w'.cell? ⟨z, 1, none⟩ = some (.slice ya m yc)) := fun w' ho => by
    have h9 := (ho.block z (lt_of_block hbz) (fun h => h)).trans hbz
    exact ⟨Sept.cell_of_block h9 0, Sept.cell_of_block h9 1⟩
  clear hoW hbz h
  simp only [ptO] at hWe
  go_enter Try.func3, Try.ntmps3
  go_upto_region 1 with fail
  rw [← hWe, ← hze]
  clear hWe hze
  go_wp2_with fail
  refine (awake12_any _).mono ?_
  rintro e w1 ⟨rfl, ho1⟩
  obtain ⟨c0, c1⟩ := HCELL.out w1 ho1
  have HO1 := hid ho1
  clear ho1
  go_wp2_with fail
  refine (fewPart2_any _ _ _ p (HC.out.only HO1.out (fun _ _ h => h))).mono ?_
  rintro e w2 ⟨⟨b, rfl, hb⟩, ho2⟩
  have HO2 := hid (HO1.out.chain ho2 (fun _ _ h => h))
  clear ho2 c0 c1
  cases b
  · clear hb
    go_wp2_with fail
    refine (awake12_any _).mono ?_
    rintro e w3 ⟨rfl, ho3⟩
    have HO3 := hid (HO.out.chain (HO2.out.chain ho3 (fun _ _ h => h)) (fun _ _ h => h))
    clear ho3
    go_wp2_with fail
    go_ret
    exact ⟨rfl, HO3.out.below (Nat.le_refl _) (fun _ _ h => h)⟩
  have HS := hid (hb rfl)
  have HC2 := hid (HC.out.only HO2.out (fun _ _ h => h))
  obtain ⟨c0, c1⟩ := HCELL.out w2 HO2.out
  clear hb HO1
  go_wp2_with fail
  refine (of_rel _ _ _ p HC2.out HS.out).mono ?_
  rintro e w3 ⟨hof, ho3⟩
  have HO3 := hid (HO2.out.chain ho3 (fun _ _ h => h))
  obtain ⟨d0, d1⟩ := HCELL.out w3 HO3.out
  have HSZ3 := hid ho3.size
  clear ho3 c0 c1 HO2 HC2
  rcases hof with ⟨hne, rfl⟩ | ⟨heq, cs, rfl, hpl⟩
  · have HV : ∃ V y, V = w3.alloc (plO (plCs 0 0 0 0 0 0 0 0 0 nilS nilS 0 nilS nilS)) ∧ y = w3.heap.size ∧ Only (fun _ => False) w3 V ∧ V.heap[y]? = some (plO (plCs 0 0 0 0 0 0 0 0 0 nilS nilS 0 nilS nilS)) := ⟨_, _, rfl, rfl, (Only.refl _ _).alloc _, heap_new _ _⟩
    obtain ⟨V, y, hVe, hye, hoV, hby⟩ := HV
    obtain ⟨f0, f1⟩ := HCELL.out V (HO3.out.chain hoV (fun _ _ h => h))
    have HOV := hid hoV
    have HBY := hid hby
    have HNE := hid hne
    clear hoV hby hne d0 d1
    go_upto_region 4 with fail
    rw [← hVe, ← hye]
    clear hVe hye
    go_wp2_with fail
    refine (rPart _ _ _ p (HC.out.only (HO3.out.chain HOV.out (fun _ _ h => h)) (fun _ _ h => h))).mono ?_
    rintro e w4 ⟨rfl, ho4⟩
    obtain ⟨r, hr⟩ : ∃ r, partW p = r := ⟨_, rfl⟩
    have hz : (r != 0) = true := bne_iff_ne.2 (by rw [← hr]; exact HNE.out)
    rw [hr]
    have hby := (ho4.block y (lt_of_block HBY.out) (fun h => h)).trans HBY.out
    have g0 : w4.cell? ⟨y, 11, none⟩ = some (.int .i64 0) := Sept.cell_of_block hby 11
    have g1 : w4.cell? ⟨y, 9, none⟩ = some nilS := Sept.cell_of_block hby 9
    have HO4 := hid ho4
    clear ho4 hby hr f0 f1
    go_wp2_with fail
    go_ret
    exact ⟨rfl, (HO.out.chain (HO3.out.chain (HOV.out.chain HO4.out (fun _ _ h => h)) (fun _ _ h => h)) (fun _ _ h => h)).below (Nat.le_refl _) (fun _ _ h => h)⟩
  · obtain ⟨hsn, hsm⟩ := part_small heq
    have hplL := PlIs.low hpl
    have hpl3 := hplL
    obtain ⟨ta, oa, za, zc, zb, zd, rfl⟩ := hpl.shape
    clear hpl
    rw [HN.out, HM.out] at hpl3 ⊢
    rw [HN.out] at hsn
    rw [HM.out] at hsm
    have HPL := hid hpl3
    have HV : ∃ V y, V = w3.alloc (plO (planCs n m ta oa (.slice za n zc) (.slice zb m zd))) ∧ y = w3.heap.size ∧ Only (fun _ => False) w3 V ∧ V.heap[y]? = some (plO (planCs n m ta oa (.slice za n zc) (.slice zb m zd))) := ⟨_, _, rfl, rfl, (Only.refl _ _).alloc _, heap_new _ _⟩
    obtain ⟨V, y, hVe, hye, hoV, hby⟩ := HV
    obtain ⟨f0, f1⟩ := HCELL.out V (HO3.out.chain hoV (fun _ _ h => h))
    have HOV := hid hoV
    have HBY := hid hby
    have HEQ := hid heq
    clear hoV hby heq d0 d1 hpl3 hplL
    go_upto_region 4 with fail
    rw [← hVe, ← hye]
    clear hVe hye
    go_wp2_with fail
    refine (rPart _ _ _ p (HC.out.only (HO3.out.chain HOV.out (fun _ _ h => h)) (fun _ _ h => h))).mono ?_
    rintro e w4 ⟨rfl, ho4⟩
    rw [HEQ.out]
    have hby := (ho4.block y (lt_of_block HBY.out) (fun h => h)).trans HBY.out
    obtain ⟨d0, d1⟩ := HCELL.out w4 (HO3.out.chain (HOV.out.chain ho4 (fun _ _ h => h)) (fun _ _ h => h))
    clear f0 f1
    have f0 : w4.cell? ⟨y, 0, none⟩ = some (.int .i64 0) := Sept.cell_of_block hby 0
    have f1 : w4.cell? ⟨y, 1, none⟩ = some (.int .i64 2) := Sept.cell_of_block hby 1
    have f2 : w4.cell? ⟨y, 2, none⟩ = some (.int .i64 4) := Sept.cell_of_block hby 2
    have f3 : w4.cell? ⟨y, 3, none⟩ = some (.int .i64 3) := Sept.cell_of_block hby 3
    have f4 : w4.cell? ⟨y, 4, none⟩ = some (.int .i64 5) := Sept.cell_of_block hby 4
    have f5 : w4.cell? ⟨y, 5, none⟩ = some (.int .i64 6) := Sept.cell_of_block hby 5
    have f6 : w4.cell? ⟨y, 6, none⟩ = some (.int .i64 8) := Sept.cell_of_block hby 6
    have f7 : w4.cell? ⟨y, 7, none⟩ = some (.int .i64 41) := Sept.cell_of_block hby 7
    have f8 : w4.cell? ⟨y, 8, none⟩ = some (.int .i64 43) := Sept.cell_of_block hby 8
    have f9 : w4.cell? ⟨y, 9, none⟩ = some (.slice ta n n) := Sept.cell_of_block hby 9
    have f10 : w4.cell? ⟨y, 10, none⟩ = some (.slice oa m m) := Sept.cell_of_block hby 10
    have f11 : w4.cell? ⟨y, 11, none⟩ = some (.int .i64 (43 + (m : Int) + (n : Int) * 24 + (m : Int) * 24)) := Sept.cell_of_block hby 11
    have f12 : w4.cell? ⟨y, 12, none⟩ = some (.slice za n zc) := Sept.cell_of_block hby 12
    have f13 : w4.cell? ⟨y, 13, none⟩ = some (.slice zb m zd) := Sept.cell_of_block hby 13
    have HO4 := hid ho4
    have HBY4 := hid hby
    have HTH : Hid (Calls Try.prog 10 #[.agg (planCs n m ta oa (.slice za n zc) (.slice zb m zd))] w4 fun e w' => ∃ v1 v2 b1 b2, e = .returned (.tuple #[v1, v2]) ∧ Two12 w4.heap.size w' v1 v2 b1 b2 (atL n m) (nL n m) ∧ Only (fun _ => False) w4 w') := by
      have h9 := things_rel w4 _ p (HPL.out.only (HOV.out.chain ho4 (fun _ _ h => h)) (fun _ _ h => h)) (fun k hk => Nat.lt_of_lt_of_le hk (Nat.le_trans HOV.out.size ho4.size)) (by rw [HN.out]; omega) (by rw [HM.out]; omega)
      rw [HN.out, HM.out] at h9
      exact h9
    clear ho4 hby
    go_wp2_with fail
    refine HTH.out.mono ?_
    rintro e w5 ⟨v1, v2, b1, b2, rfl, htw, ho5⟩
    obtain ⟨k1, hv1, _⟩ := Grow.cells htw.o1 (by rw [length_atL]; omega)
    obtain ⟨k2, hv2, _⟩ := Grow.cells htw.o2 (by rw [length_nL]; omega)
    obtain ⟨L, hL⟩ : ∃ L, 9 + n + m = L := ⟨_, rfl⟩
    rw [length_atL, hL] at hv1
    rw [length_nL, hL] at hv2
    subst hv1 hv2
    have HTW := hid htw
    have HO5 := hid ho5
    have HLL := hid hL
    have hLb : L ≤ 23 := by omega
    have hV6 : ∃ V6 ub, V6 = w5.alloc (.cells (madeCells #[.bool false] 600) 4) ∧ ub = w5.heap.size ∧ Only (fun _ => False) w5 V6 ∧ UsedIs V6 ub m 0 0 := ⟨_, _, rfl, rfl, (Only.refl _ _).alloc _, used_start w5 m⟩
    obtain ⟨V6, ub, hVe, hue, hoV, hus⟩ := hV6
    have hmk := made_bools w5
    have HUB := hid hue
    have HOV6 := hid hoV
    have HUS := hid hus
    clear htw ho5 hL hoV hus d0 d1 f0 f1 f2 f3 f4 f5 f6 f7 f8 f9 f10 f11 f12 f13
    go_upto_region 10 with fail
    rw [← hVe, ← hue]
    clear hVe hue hmk
    go_wp2_with fail
    go_loopw [77] (fun i wx => ∃ j : Nat, i = .int .i64 (j : Int) ∧ j ≤ L ∧ UsedIs wx ub m j 0 ∧ Only (fun k => k = ub) V6 wx) (fun i _ => L - (intOf i).toNat)
    case atStart => exact ⟨0, rfl, Nat.zero_le _, HUS.out, Only.refl _ _⟩
    case round =>
    clear HUS
    obtain ⟨j, rfl, hj, hus, hox⟩ := hrel
    have HUS := hid hus
    have HX := hid hox
    clear hus hox
    have HKEEP : Hid (∀ wx, Only (fun k => k = ub) V6 wx → (∀ i, i < L → wx.cell? ⟨b1, i, none⟩ = some (.int .i64 (atF m i : Nat)) ∧ wx.cell? ⟨b2, i, none⟩ = some (.int .i64 (nF m i : Nat))) ∧ wx.cell? ⟨y, 11, none⟩ = some (.int .i64 (43 + (m : Int) + (n : Int) * 24 + (m : Int) * 24))) := fun wx ho => by
      have hu := HUB.out
      have h1 := HTW.out.l1
      have h2 := HTW.out.l2
      have hb1 := Own13.keep12 (Own13.keep12 HTW.out.o1 HOV6.out (fun h => h)) ho (by omega)
      have hb2 := Own13.keep12 (Own13.keep12 HTW.out.o2 HOV6.out (fun h => h)) ho (by omega)
      refine ⟨fun i hi => ⟨Own13.at12 hb1 (atL_at n m i (by have := HLL.out; omega)), Own13.at12 hb2 (nL_at n m i (by have := HLL.out; omega))⟩, ?_⟩
      have y4 := lt_of_block HBY4.out
      have y5 := HO5.out.size
      have h9 := (ho.block y (Nat.lt_of_lt_of_le y4 (Nat.le_trans y5 HOV6.out.size)) (by omega)).trans ((HOV6.out.block y (Nat.lt_of_lt_of_le y4 y5) (fun h => h)).trans ((HO5.out.block y y4 (fun h => h)).trans HBY4.out))
      exact Sept.cell_of_block h9 11
    by_cases hlt : (j : Int) < (L : Int)
    · have e2 : wr.cell? ⟨b2, j, none⟩ = some (.int .i64 (nF m j : Nat)) := ((HKEEP.out wr HX.out).1 j (by omega)).2
      obtain ⟨nf, hnf⟩ : ∃ x, nF m j = x := ⟨_, rfl⟩
      obtain ⟨X, hX⟩ : ∃ x, atF m j = x := ⟨_, rfl⟩
      have hend : X + nf ≤ 43 + m + n * 24 + m * 24 := by rw [← hX, ← hnf]; exact atF_end n m j (by have := HLL.out; omega)
      have hnf43 : nf ≤ 43 := by rw [← hnf]; exact nF_le m j (by omega)
      have HNF := hid hnf
      have HXX := hid hX
      rw [hnf] at e2
      clear hnf hX
      go_wp2_with fail
      go_loopw [84] (fun i wx => ∃ q : Nat, i = .int .i64 (q : Int) ∧ q ≤ nf ∧ UsedIs wx ub m j q ∧ Only (fun k => k = ub) V6 wx) (fun i _ => nf - (intOf i).toNat)
      case atStart => exact ⟨0, rfl, Nat.zero_le _, HUS.out, HX.out⟩
      case round =>
      clear HUS HX e2
      obtain ⟨q, rfl, hq, hus, hox⟩ := hrel
      have HUS := hid hus
      have HX := hid hox
      by_cases hlt2 : (q : Int) < (nf : Int)
      · have hk9 := HKEEP.out wr hox
        have e1 : wr.cell? ⟨b1, j, none⟩ = some (.int .i64 (X : Nat)) := by have h9 := (hk9.1 j (by omega)).1; rwa [HXX.out] at h9
        have e3 := hk9.2
        obtain ⟨cs, hcs, hcov⟩ := hus
        obtain ⟨b, hb, hbc⟩ := hcov (X + q) (by omega)
        have hbf : b = false := by
          cases b with
          | false => rfl
          | true => exact absurd (hbc rfl) (by rw [← HXX.out]; exact cov_no (by rw [HNF.out]; omega))
        subst hbf
        have e4 : wr.cell? ⟨ub, X + q, none⟩ = some (.bool false) := (Sept.cell_of_block hcs _).trans hb
        have f4 : wr.frozen? ⟨ub, X + q, none⟩ = false := frozen_of_block hcs _
        have HST : Hid (UsedIs (wr.setCell ⟨ub, X + q, none⟩ (.bool true)) ub m j (q + 1) ∧ Only (fun k => k = ub) V6 (wr.setCell ⟨ub, X + q, none⟩ (.bool true))) := by
          have h9 := HUS.out.step
          rw [HXX.out] at h9
          exact ⟨h9, hox.own _ _⟩
        clear hk9 hcs hcov hb hbc hox
        go_wp2_with fail
        go_roundw
        case rel => exact ⟨q + 1, by go_num, by omega, HST.out⟩
        case measure => simp [intOf]; omega
      · have HNX : Hid (UsedIs wr ub m (j + 1) 0) := by
          obtain ⟨cs, hcs, hcov⟩ := hus
          refine ⟨cs, hcs, fun a ha => ?_⟩
          obtain ⟨b, hb, hbc⟩ := hcov a ha
          refine ⟨b, hb, fun e => cov_next ?_⟩
          have h9 := hbc e
          rwa [show q = nF m j by rw [HNF.out]; omega] at h9
        clear hus hox
        go_wp2_with fail
        go_roundw
        case rel => exact ⟨j + 1, by go_num, by omega, HNX.out, HX.out⟩
        case measure => simp [intOf]; omega
    · go_wp2_with fail
      go_ret
      refine ⟨rfl, ((HO.out.chain (HO3.out.chain (HOV.out.chain (HO4.out.chain (HO5.out.chain HOV6.out (fun _ _ h => h)) (fun _ _ h => h)) (fun _ _ h => h)) (fun _ _ h => h)) (fun _ _ h => h)).chain HX.out (S := fun _ => False) (T := fun k => k = ub) (fun i hi e => ?_)).below (Nat.le_refl _) (fun _ _ h => h)⟩
      have h1 := HUB.out
      have h2 := HO.out.size
      have h3 := HO3.out.size
      have h4 := HOV.out.size
      have h5 := HO4.out.size
      have h6 := HO5.out.size
      omega

set_option maxRecDepth 100000 in
theorem lifted (os : Os) (started : os.Started) (H : Type) (enc : TypeId × Value → H) :
    ReturnsInHanded {} Try.checked os 3 .any (Rows.planPartsSpec.pre6 enc Try.prog Try.f3 Rows.planPartsRow.domain false) (Rows.planPartsSpec.post enc Try.prog Try.f3 false true false false) := by
  refine returnsInHanded_of_change (C := Try.checked) own started (by kernel_rfl) Try.func3
    (ChangeSpec.witness6 (enc := enc) (C := Try.checked) false ⟨#[], #[.agg #[.slice none 0 0, .slice none 0 0]], []⟩ 8 (by kernel_rfl) (by kernel_rfl) (by kernel_rfl) (by kernel_rfl)) ?_
  intro W base args ds gs before hval0 hW hcnd _
  have hval : ∀ (j : Nat) t v, Try.f3.params[j]? = some t → args[j]? = some v → Value.okWide Try.prog W .any base t v := hval0
  have hW' := hW
  obtain ⟨p, q, hA0, hV, rfl, hfz, hnd⟩ := hW
  have hA : DataW.TrodAll enc Try.prog W 0 (fun _ => true) true Try.f3.params.toList args.toList ds p := hA0
  rw [Try.params3] at hA hval
  obtain ⟨v0, vs0, d0, ds0, p0, q0, hargs, rfl, rfl, h0, r0⟩ := trodAll_cons hA
  obtain ⟨rfl, rfl, rfl⟩ := trodAll_nil r0
  obtain rfl : args = #[v0] := by cases args; simp_all
  obtain ⟨x0, x1, c, rfl, hc⟩ := open_pt (hval 0 25 v0 rfl rfl) h0
  refine (walk W x0 x1 c hc).mono fun e W' ⟨he, hg⟩ => ?_
  subst he
  exact ⟨_, rfl, post_law 1 4 laidOut (by kernel_rfl) rfl rfl rfl Try.underlying4 (fun l hl => by match l, hl with | [_], _ => rfl) hW' hg⟩

theorem over : Rows.planPartsRow.holds Try.pinned (OpenSpec.ofChange Rows.planPartsSpec) :=
  OpenClaim.holds_of_wide 3 Try.f3 rfl rfl rfl rfl rfl rfl rfl ⟨rfl, rfl, rfl, rfl, rfl⟩ rfl rfl rfl rfl rfl (by kernel_rfl) Try.func3 (by kernel_rfl)
    (of_decide_eq_true (by kernel_rfl)) (by unfold Func.isWrapper; first | (rw [if_pos (by decide +kernel)]; kernel_rfl) | (rw [if_neg (by decide +kernel)]; exact ⟨rfl, rfl⟩))
    (fun os started H enc _ => lifted os started H enc)

theorem proved : Rows.PlanPartsSaid := over
#print axioms proved
end Go.Proofs.Ytapmakdklpbjkaa.planParts

/-
  ThreadNodes: each thread is told by its nodes, and by no other address; there is no other thread. Conditions: a timer's node.
-/
import Derived.Test.YtabdlbmdbceemaaAwake13
import Derived.Test.YtabdlbmdbceemaaMath12a
import Derived.Test.YtabdlbmdbceemaaOpenCf11
import Derived.Deep.RegionHeld
namespace Go.Proofs.Ytabdlbmdbceemaa.threadNodese
open Go.Sept Go.RowKit Go.ChangeShapes Go.WideShapes Go.ChangeAt Go.Joins Go.Deep

theorem own : ownKnob Try.prog.godebug = none := by kernel_rfl
theorem laidOut : laidOutB Try.prog = true := by kernel_rfl
end Go.Proofs.Ytabdlbmdbceemaa.threadNodese
namespace Go.Proofs.Ytabdlbmdbceemaa.threadNodese
open Go.Sept Go.RowKit

set_option maxRecDepth 100000 in
set_option maxHeartbeats 4000000 in
theorem walk {P0 : Nat → Prop} (w : World) (v0 v1 : Value) (p : Pt) (h0 : PtIs P0 w v0 v1 p) (t a : Int) (hcase : (0 ≤ t ∧ t < p.ths.length) ∧ ∃ c, ownerV p.ths.length p.obs.length a 2 = (c, true)) :
    Calls Try.prog 3 #[.agg #[v0, v1], .int .i64 t, .int .i64 a] w fun e w' => e = .returned (.bool true) ∧ Below w.heap.size w w' := by
  have h : PtIs (fun k => k < w.heap.size) w v0 v1 p := ⟨h0.1.low (fun _ _ _ h => low_th _ h), h0.2.low (fun _ _ _ h => ⟨Cel.lt h.1.1, h⟩)⟩
  clear h0
  have HCASE := hid hcase
  clear hcase
  obtain ⟨xa, xc, rfl, xm⟩ := h.1.shape
  obtain ⟨ya, yc, rfl, ym⟩ := h.2.shape
  obtain ⟨n, hn⟩ : ∃ n, p.ths.length = n := ⟨_, rfl⟩
  obtain ⟨m, hm⟩ : ∃ m, p.obs.length = m := ⟨_, rfl⟩
  have HN := hid hn
  have HM := hid hm
  rw [hn] at h xm ⊢
  rw [hm] at h ym ⊢
  clear hn hm
  have hW : ∃ W z, W = w.alloc (ptO (.slice xa n xc) (.slice ya m yc)) ∧ z = w.heap.size ∧ Only (fun _ => False) w W ∧ W.heap[z]? = some (ptO (.slice xa n xc) (.slice ya m yc)) := ⟨_, _, rfl, rfl, (Only.refl _ _).alloc _, heap_new _ _⟩
  obtain ⟨W, z, hWe, hze, hoW, hbz⟩ := hW
  have HC := hid (h.only hoW (fun _ _ h => h))
  have HO := hid hoW
  have HB := hid hbz
  have HCELL : Hid (∀ w', Only (fun _ => False) W w' → w'.cell? ⟨z, 0, none⟩ = some (.slice xa n xc) ∧ w'.cell? ⟨z, 1, none⟩ = some (.slice ya m yc)) := fun w' ho => by
    have h9 := (ho.block z (lt_of_block hbz) (fun h => h)).trans hbz
    exact ⟨cell_of_block h9 0, cell_of_block h9 1⟩
  clear hoW hbz h
  simp only [ptO] at hWe
  go_enter Try.func3, Try.ntmps3
  go_upto_region 1 with fail
  rw [← hWe, ← hze]
  clear hWe hze
  go_wp2_with fail
  refine (awake13_any _).mono ?_
  rintro e w1 ⟨rfl, ho1⟩
  obtain ⟨c0, c1⟩ := HCELL.out w1 ho1
  have HO1 := hid ho1
  clear ho1
  go_wp2_with fail
  refine (fewPart2_any _ _ _ p (HC.out.only HO1.out (fun _ _ h => h))).mono ?_
  rintro e w2 ⟨⟨b, rfl, hb⟩, ho2⟩
  have HO2 := hid (HO1.out.chain ho2 (fun _ _ h => h))
  clear ho2 c0 c1
  cases b
  · clear hb
    go_wp2_with fail
    refine (awake13_any _).mono ?_
    rintro e w3 ⟨rfl, ho3⟩
    have HO3 := hid (HO.out.chain (HO2.out.chain ho3 (fun _ _ h => h)) (fun _ _ h => h))
    clear ho3
    go_wp2_with fail
    go_ret
    exact ⟨rfl, HO3.out.below (Nat.le_refl _) (fun _ _ h => h)⟩
  have HS := hid (hb rfl)
  have HC2 := hid (HC.out.only HO2.out (fun _ _ h => h))
  obtain ⟨c0, c1⟩ := HCELL.out w2 HO2.out
  clear hb HO1
  go_wp2_with fail
  refine (of13_rel _ _ _ p HC2.out HS.out).mono ?_
  rintro e w3 ⟨hof, ho3⟩
  have HO3 := hid (HO2.out.chain ho3 (fun _ _ h => h))
  clear ho3 c0 c1 HO2 HC2
  rcases hof with ⟨hne, rfl⟩ | ⟨heq, cs, rfl, hpl⟩
  · clear hne
    go_wp2_with fail
    go_ret
    exact ⟨rfl, (HO.out.chain (HO3.out.alloc _) (fun _ _ h => h)).below (Nat.le_refl _) (fun _ _ h => h)⟩
  have hth := ThIs.of hpl heq
  have hplL := hpl
  obtain ⟨ta, oa, za, zc, zb, zd, rfl⟩ := hpl.shape
  clear hpl
  rw [HN.out, HM.out] at hplL hth ⊢
  have HPL := hid hplL
  have HEQ := hid heq
  have HV : ∃ V y, V = w3.alloc (plO (planCs n m ta oa (.slice za n zc) (.slice zb m zd))) ∧ y = w3.heap.size ∧ Only (fun _ => False) w3 V ∧ V.heap[y]? = some (plO (planCs n m ta oa (.slice za n zc) (.slice zb m zd))) := ⟨_, _, rfl, rfl, (Only.refl _ _).alloc _, heap_new _ _⟩
  obtain ⟨V, y, hVe, hye, hoV, hby⟩ := HV
  have HOV := hid (HO3.out.chain hoV (fun _ _ h => h))
  have HBY := hid hby
  have HTH := hid (hth.only hoV (fun _ _ h => h))
  have hn6 : n ≤ 6 := hth.1
  have hm8 : m ≤ 8 := hth.2.1
  have HPLV := hid (hplL.only hoV (fun _ _ h => h))
  obtain ⟨f0, f1, f2, f3, f4, f5, f6, f7, f8, f9, f10, f11, f12, f13⟩ := plan_cells hby
  obtain ⟨c0, c1⟩ := HCELL.out V HOV.out
  clear hoV hby hplL hth heq
  go_upto_region 4 with fail
  rw [← hVe, ← hye]
  clear hVe hye
  have HPC : Hid (∀ wx, Only (fun _ => False) V wx → wx.cell? ⟨y, 0, none⟩ = some (.int .i64 0) ∧ wx.cell? ⟨y, 1, none⟩ = some (.int .i64 2) ∧ wx.cell? ⟨y, 2, none⟩ = some (.int .i64 4) ∧ wx.cell? ⟨y, 3, none⟩ = some (.int .i64 3) ∧ wx.cell? ⟨y, 4, none⟩ = some (.int .i64 5) ∧ wx.cell? ⟨y, 5, none⟩ = some (.int .i64 6) ∧ wx.cell? ⟨y, 6, none⟩ = some (.int .i64 8) ∧ wx.cell? ⟨y, 7, none⟩ = some (.int .i64 41) ∧ wx.cell? ⟨y, 8, none⟩ = some (.int .i64 43) ∧ wx.cell? ⟨y, 9, none⟩ = some (.slice ta n n) ∧ wx.cell? ⟨y, 10, none⟩ = some (.slice oa m m) ∧ wx.cell? ⟨y, 11, none⟩ = some (.int .i64 (43 + (m : Int) + (n : Int) * 24 + (m : Int) * 24)) ∧ wx.cell? ⟨y, 12, none⟩ = some (.slice za n zc) ∧ wx.cell? ⟨y, 13, none⟩ = some (.slice zb m zd)) := fun wx ho => plan_cells ((ho.block y (lt_of_block HBY.out) (fun h => h)).trans HBY.out)
  have HND : Hid (∀ wx (t : Int), Only (fun _ => False) V wx → Calls Try.prog 10 #[.agg (planCs n m ta oa (.slice za n zc) (.slice zb m zd)), .int .i64 t] wx fun e w' => e = .returned (.int .i64 (tplaceV n m t 0)) ∧ Only (fun _ => False) wx w') := fun wx t ho => tNode_rel wx _ n m (HTH.out.only ho (fun _ _ h => h)) t
  have HTM : Hid (∀ wx (t : Int), Only (fun _ => False) V wx → Calls Try.prog 11 #[.agg (planCs n m ta oa (.slice za n zc) (.slice zb m zd)), .int .i64 t] wx fun e w' => e = .returned (.int .i64 (tplaceV n m t 2)) ∧ Only (fun _ => False) wx w') := fun wx t ho => tTimer_rel wx _ n m (HTH.out.only ho (fun _ _ h => h)) t
  have HOF : Hid (∀ wx (a : Int), Only (fun _ => False) V wx → Calls Try.prog 12 #[.agg (planCs n m ta oa (.slice za n zc) (.slice zb m zd)), .int .i64 a] wx fun e w' => e = .returned (.tuple #[.int .i64 (ownerV n m a 0).1, .bool (ownerV n m a 0).2]) ∧ Only (fun _ => False) wx w') := fun wx a ho => tOf_rel wx _ n m (HTH.out.only ho (fun _ _ h => h)) a
  have HOT : Hid (∀ wx (a : Int), Only (fun _ => False) V wx → Calls Try.prog 13 #[.agg (planCs n m ta oa (.slice za n zc) (.slice zb m zd)), .int .i64 a] wx fun e w' => e = .returned (.tuple #[.int .i64 (ownerV n m a 2).1, .bool (ownerV n m a 2).2]) ∧ Only (fun _ => False) wx w') := fun wx a ho => tOfTimer_rel wx _ n m (HTH.out.only ho (fun _ _ h => h)) a
  have HRG : 0 ≤ t ∧ t < (n : Int) := by have h9 := HCASE.out.1; rw [HN.out] at h9; exact h9
  obtain ⟨c, hcc⟩ := HCASE.out.2
  rw [HN.out, HM.out] at hcc
  obtain ⟨hc1, hc2, hc3⟩ := owner_yes hcc
  have ha : 0 ≤ a := by omega
  have HCV : Hid (tplaceV n m c 2 = a) := by show _ = _; rw [tplaceV, if_pos ⟨hc1, hc2⟩, hc3]
  have HDT : Hid (ownerV n m a 2 = (c, true)) := hcc
  have HCT : Hid (ownerV n m a 0 = (0, false)) := owner_none (fun t ht => by omega)
  clear hcc hc1 hc2 hc3
  obtain ⟨o, rfl⟩ : ∃ o : Nat, t = (o : Int) := ⟨t.toNat, by omega⟩
  have hon : o < n := by omega
  obtain ⟨A, hA⟩ : ∃ A, 43 + (m : Int) + (o : Int) * 24 = A := ⟨_, rfl⟩
  have hAb : 0 ≤ A ∧ A ≤ 2000 := by omega
  have HWR : Hid (IntKind.i64.wrap (A + 24) = A + 24) := IntWalk.i64_in (A + 24) ⟨by omega, by omega⟩
  have HV0 : Hid (tplaceV n m (o : Int) 0 = A) := by show _ = _; rw [tplaceV, if_pos (by omega)]; omega
  have HV2 : Hid (tplaceV n m (o : Int) 2 = A + 2) := by show _ = _; rw [tplaceV, if_pos (by omega)]; omega
  have HW0 : Hid (ownerV n m A 0 = ((o : Int), true)) := by show _ = _; rw [← hA]; have h9 := owner_at (n := n) (m := m) (t := (o : Int)) (off := 0) (by omega) (by omega); rwa [Int.add_zero] at h9
  have HW2 : Hid (ownerV n m (A + 2) 2 = ((o : Int), true)) := by show _ = _; rw [← hA]; exact owner_at (by omega) (by omega)
  have HTC : Hid (∃ b1 o1, ta = some ⟨b1, o1, none⟩ ∧ ∀ wx, Only (fun _ => False) V wx → wx.cell? ⟨b1, o1 + o, none⟩ = some (.int .i64 A)) := by
    obtain ⟨b1, o1, h1, h2⟩ := HTH.out.get o hon
    refine ⟨b1, o1, h1, fun wx ho => ?_⟩
    obtain ⟨b2, o2, h3, h4⟩ := (HTH.out.only ho (fun _ _ h => h)).get o hon
    rw [h1] at h3
    injection h3 with h3
    injection h3 with h5 h6 _
    subst h5 h6
    rw [← hA]
    exact h4
  obtain ⟨b1, o1, hta, htc⟩ := HTC.out
  subst hta
  have HT1 := hid htc
  clear HTC htc
  clear hA
  go_upto_region 8 with fail
  go_region_held (fun w' => w'.cell? ⟨y, 0, none⟩ = some (.int .i64 0) ∧ w'.cell? ⟨y, 1, none⟩ = some (.int .i64 2) ∧ w'.cell? ⟨y, 2, none⟩ = some (.int .i64 4) ∧ w'.cell? ⟨y, 3, none⟩ = some (.int .i64 3) ∧ w'.cell? ⟨y, 4, none⟩ = some (.int .i64 5) ∧ w'.cell? ⟨y, 5, none⟩ = some (.int .i64 6) ∧ w'.cell? ⟨y, 6, none⟩ = some (.int .i64 8) ∧ w'.cell? ⟨y, 7, none⟩ = some (.int .i64 41) ∧ w'.cell? ⟨y, 8, none⟩ = some (.int .i64 43) ∧ w'.cell? ⟨y, 9, none⟩ = some (.slice (some ⟨b1, o1, none⟩) n n) ∧ w'.cell? ⟨y, 10, none⟩ = some (.slice oa m m) ∧ w'.cell? ⟨y, 11, none⟩ = some (.int .i64 (43 + (m : Int) + (n : Int) * 24 + (m : Int) * 24)) ∧ w'.cell? ⟨y, 12, none⟩ = some (.slice za n zc) ∧ w'.cell? ⟨y, 13, none⟩ = some (.slice zb m zd)) (go_keep)
    (first
      | (go_at_call 10; refine (HND.out _ (o : Int) (by exact (Only.refl _ _).drew)).mono ?_; rintro e w4 ⟨rfl, ho4⟩; rw [HV0.out]
         have HO4 : Hid (Only (fun _ => False) V w4) := hid (((Only.refl _ _).drew).chain ho4 (fun _ _ h => h)); clear ho4 f0 f1 f2 f3 f4 f5 f6 f7 f8 f9 f10 f11 f12 f13; obtain ⟨f0, f1, f2, f3, f4, f5, f6, f7, f8, f9, f10, f11, f12, f13⟩ := HPC.out w4 HO4.out)
      | (go_at_call 12; refine (HOF.out w4 A HO4.out).mono ?_; rintro e w5 ⟨rfl, ho5⟩; rw [HW0.out]
         have HO5 : Hid (Only (fun _ => False) V w5) := hid (HO4.out.chain ho5 (fun _ _ h => h)); clear ho5 f0 f1 f2 f3 f4 f5 f6 f7 f8 f9 f10 f11 f12 f13 HO4; obtain ⟨f0, f1, f2, f3, f4, f5, f6, f7, f8, f9, f10, f11, f12, f13⟩ := HPC.out w5 HO5.out))
  go_upto_region 9 with fail
  go_region_held (fun w' => w'.cell? ⟨y, 0, none⟩ = some (.int .i64 0) ∧ w'.cell? ⟨y, 1, none⟩ = some (.int .i64 2) ∧ w'.cell? ⟨y, 2, none⟩ = some (.int .i64 4) ∧ w'.cell? ⟨y, 3, none⟩ = some (.int .i64 3) ∧ w'.cell? ⟨y, 4, none⟩ = some (.int .i64 5) ∧ w'.cell? ⟨y, 5, none⟩ = some (.int .i64 6) ∧ w'.cell? ⟨y, 6, none⟩ = some (.int .i64 8) ∧ w'.cell? ⟨y, 7, none⟩ = some (.int .i64 41) ∧ w'.cell? ⟨y, 8, none⟩ = some (.int .i64 43) ∧ w'.cell? ⟨y, 9, none⟩ = some (.slice (some ⟨b1, o1, none⟩) n n) ∧ w'.cell? ⟨y, 10, none⟩ = some (.slice oa m m) ∧ w'.cell? ⟨y, 11, none⟩ = some (.int .i64 (43 + (m : Int) + (n : Int) * 24 + (m : Int) * 24)) ∧ w'.cell? ⟨y, 12, none⟩ = some (.slice za n zc) ∧ w'.cell? ⟨y, 13, none⟩ = some (.slice zb m zd)) (go_keep)
    (first
      | (go_at_call 11; refine (HTM.out _ (o : Int) (by exact HO5.out.chain ((Only.refl _ _).drew) (fun _ _ h => h))).mono ?_; rintro e w6 ⟨rfl, ho6⟩; rw [HV2.out]
         have HO6 : Hid (Only (fun _ => False) V w6) := hid (HO5.out.chain (((Only.refl _ _).drew).chain ho6 (fun _ _ h => h)) (fun _ _ h => h)); clear ho6 f0 f1 f2 f3 f4 f5 f6 f7 f8 f9 f10 f11 f12 f13; obtain ⟨f0, f1, f2, f3, f4, f5, f6, f7, f8, f9, f10, f11, f12, f13⟩ := HPC.out w6 HO6.out)
      | (go_at_call 13; refine (HOT.out w6 (A + 2) HO6.out).mono ?_; rintro e w7 ⟨rfl, ho7⟩; rw [HW2.out]
         have HO7 : Hid (Only (fun _ => False) V w7) := hid (HO6.out.chain ho7 (fun _ _ h => h)); clear ho7 f0 f1 f2 f3 f4 f5 f6 f7 f8 f9 f10 f11 f12 f13 HO6; obtain ⟨f0, f1, f2, f3, f4, f5, f6, f7, f8, f9, f10, f11, f12, f13⟩ := HPC.out w7 HO7.out))
  go_wp2_with fail
  refine (HOF.out _ a HO7.out).mono ?_
  rintro e w8 ⟨rfl, ho8⟩
  rw [HCT.out]
  have HO8 := hid (HO7.out.chain ho8 (fun _ _ h => h))
  clear ho8 f0 f1 f2 f3 f4 f5 f6 f7 f8 f9 f10 f11 f12 f13
  obtain ⟨f0, f1, f2, f3, f4, f5, f6, f7, f8, f9, f10, f11, f12, f13⟩ := HPC.out w8 HO8.out
  go_wp2_with fail
  refine (HOT.out _ a HO8.out).mono ?_
  rintro e w9 ⟨rfl, ho9⟩
  rw [HDT.out]
  have HO9 := hid (HO8.out.chain ho9 (fun _ _ h => h))
  clear ho9 f0 f1 f2 f3 f4 f5 f6 f7 f8 f9 f10 f11 f12 f13 HO7 HO8
  obtain ⟨f0, f1, f2, f3, f4, f5, f6, f7, f8, f9, f10, f11, f12, f13⟩ := HPC.out w9 HO9.out
  go_upto_region 12 with fail
  have hself : (a == a) = true := beq_self_eq_true a
  have hwr : IntKind.i64.wrap (A + 24) = A + 24 := HWR.out
  have hself2 : ((o : Int) == (o : Int)) = true := beq_self_eq_true _
  go_upto_region 14 with fail
  refine (HTM.out _ c HO9.out).mono ?_
  rintro e w10 ⟨rfl, ho10⟩
  rw [HCV.out]
  have HO10 := hid (HO9.out.chain ho10 (fun _ _ h => h))
  clear ho10 f0 f1 f2 f3 f4 f5 f6 f7 f8 f9 f10 f11 f12 f13
  obtain ⟨f0, f1, f2, f3, f4, f5, f6, f7, f8, f9, f10, f11, f12, f13⟩ := HPC.out w10 HO10.out
  go_upto_region 14 with fail
  have e1 := HT1.out w10 HO10.out
  refine wp_region_held_drew (S := (fun w' => w'.cell? ⟨b1, o1 + o, none⟩ = some (.int .i64 A) ∧ w'.cell? ⟨y, 0, none⟩ = some (.int .i64 0) ∧ w'.cell? ⟨y, 1, none⟩ = some (.int .i64 2) ∧ w'.cell? ⟨y, 2, none⟩ = some (.int .i64 4) ∧ w'.cell? ⟨y, 3, none⟩ = some (.int .i64 3) ∧ w'.cell? ⟨y, 4, none⟩ = some (.int .i64 5) ∧ w'.cell? ⟨y, 5, none⟩ = some (.int .i64 6) ∧ w'.cell? ⟨y, 6, none⟩ = some (.int .i64 8) ∧ w'.cell? ⟨y, 7, none⟩ = some (.int .i64 41) ∧ w'.cell? ⟨y, 8, none⟩ = some (.int .i64 43) ∧ w'.cell? ⟨y, 9, none⟩ = some (.slice (some ⟨b1, o1, none⟩) n n) ∧ w'.cell? ⟨y, 10, none⟩ = some (.slice oa m m) ∧ w'.cell? ⟨y, 11, none⟩ = some (.int .i64 (43 + (m : Int) + (n : Int) * 24 + (m : Int) * 24)) ∧ w'.cell? ⟨y, 12, none⟩ = some (.slice za n zc) ∧ w'.cell? ⟨y, 13, none⟩ = some (.slice zb m zd))) (by kernel_rfl) ?_ (fun hHeld => ?_)
  · (try dsimp only); go_keep
  refine wpAnyH_take (i := 0) (oi := { dst := some 105, op := Go.Op.move (Go.Operand.tmp 10), type := 4, pos := _, after := #[], guard := none }) (v := ?_) rfl (by kernel_rfl) (by kernel_rfl) (by kernel_rfl) (fun _ _ _ h => h) (Or.inl ⟨by rfl, ?_⟩) (by assumption) ?_
  rotate_left 1
  · intro w' hSw
    try dsimp only at hSw
    go_simp
    try with_reducible rfl
  try simp only [Act.put, List.setIfInBounds_toArray, List.set_cons_zero, List.set_cons_succ]
  refine wpAnyH_take (i := 1) (oi := { dst := some 106, op := Go.Op.move (Go.Operand.tmp 105), type := 4, pos := _, after := #[{ on := 0, ground := Go.Ground.data }], guard := none }) (v := ?_) rfl (by kernel_rfl) (by kernel_rfl) (by kernel_rfl) (fun _ _ _ h => h) (Or.inl ⟨by rfl, ?_⟩) (by assumption) ?_
  rotate_left 1
  · intro w' hSw
    try dsimp only at hSw
    go_simp
    try with_reducible rfl
  try simp only [Act.put, List.setIfInBounds_toArray, List.set_cons_zero, List.set_cons_succ]
  refine wpAnyH_take (i := 2) (oi := { dst := some 107, op := Go.Op.move (Go.Operand.tmp 12), type := 4, pos := _, after := #[{ on := 1, ground := Go.Ground.guard }], guard := some (1, true) }) (v := ?_) rfl (by kernel_rfl) (by kernel_rfl) (by kernel_rfl) (fun _ _ _ h => h) (Or.inl ⟨by rfl, ?_⟩) (by assumption) ?_
  rotate_left 1
  · intro w' hSw
    try dsimp only at hSw
    go_simp
    try with_reducible rfl
  try simp only [Act.put, List.setIfInBounds_toArray, List.set_cons_zero, List.set_cons_succ]
  refine wpAnyH_take (i := 3) (oi := { dst := some 108, op := Go.Op.pick (Go.Operand.tmp 106) (Go.Operand.tmp 107) (Go.Operand.const (Go.Value.bool false)), type := 4, pos := _, after := #[{ on := 1, ground := Go.Ground.data }, { on := 2, ground := Go.Ground.data }], guard := none }) (v := ?_) rfl (by kernel_rfl) (by kernel_rfl) (by kernel_rfl) (fun _ _ _ h => h) (Or.inl ⟨by rfl, ?_⟩) (by assumption) ?_
  rotate_left 1
  · intro w' hSw
    try dsimp only at hSw
    go_simp
    try with_reducible rfl
  try simp only [Act.put, List.setIfInBounds_toArray, List.set_cons_zero, List.set_cons_succ]
  refine wpAnyH_take (i := 4) (oi := { dst := some 109, op := Go.Op.move (Go.Operand.tmp 108), type := 4, pos := _, after := #[{ on := 3, ground := Go.Ground.data }, { on := 1, ground := Go.Ground.chain }], guard := none }) (v := ?_) rfl (by kernel_rfl) (by kernel_rfl) (by kernel_rfl) (fun _ _ _ h => h) (Or.inl ⟨by rfl, ?_⟩) (by assumption) ?_
  rotate_left 1
  · intro w' hSw
    try dsimp only at hSw
    go_simp
    try with_reducible rfl
  try simp only [Act.put, List.setIfInBounds_toArray, List.set_cons_zero, List.set_cons_succ]
  refine wpAnyH_take (i := 5) (oi := { dst := some 110, op := Go.Op.move (Go.Operand.tmp 9), type := 3, pos := _, after := #[{ on := 4, ground := Go.Ground.guard }], guard := some (4, true) }) (v := ?_) rfl (by kernel_rfl) (by kernel_rfl) (by kernel_rfl) (fun _ _ _ h => h) (Or.inl ⟨by rfl, ?_⟩) (by assumption) ?_
  rotate_left 1
  · intro w' hSw
    try dsimp only at hSw
    go_simp
    try with_reducible rfl
  try simp only [Act.put, List.setIfInBounds_toArray, List.set_cons_zero, List.set_cons_succ]
  refine wpAnyH_take (i := 6) (oi := { dst := some 111, op := Go.Op.move (Go.Operand.tmp 1), type := 3, pos := _, after := #[{ on := 4, ground := Go.Ground.guard }], guard := some (4, true) }) (v := ?_) rfl (by kernel_rfl) (by kernel_rfl) (by kernel_rfl) (fun _ _ _ h => h) (Or.inl ⟨by rfl, ?_⟩) (by assumption) ?_
  rotate_left 1
  · intro w' hSw
    try dsimp only at hSw
    go_simp
    try with_reducible rfl
  try simp only [Act.put, List.setIfInBounds_toArray, List.set_cons_zero, List.set_cons_succ]
  refine wpAnyH_take (i := 7) (oi := { dst := some 112, op := Go.Op.binOp Go.BinOp.eql 3 (Go.Operand.tmp 110) (Go.Operand.tmp 111) 3, type := 4, pos := _, after := #[{ on := 5, ground := Go.Ground.data }, { on := 6, ground := Go.Ground.data }, { on := 4, ground := Go.Ground.guard }], guard := some (4, true) }) (v := .bool true) rfl (by kernel_rfl) (by kernel_rfl) (by kernel_rfl) (fun _ _ _ h => h) (Or.inl ⟨by rfl, ?_⟩) (by assumption) ?_
  · intro w' hSw
    try dsimp only at hSw
    go_simp
    all_goals simp
  try simp only [Act.put, List.setIfInBounds_toArray, List.set_cons_zero, List.set_cons_succ]
  refine wpAnyH_take (i := 8) (oi := { dst := some 113, op := Go.Op.pick (Go.Operand.tmp 109) (Go.Operand.tmp 112) (Go.Operand.const (Go.Value.bool false)), type := 4, pos := _, after := #[{ on := 4, ground := Go.Ground.data }, { on := 7, ground := Go.Ground.data }], guard := none }) (v := ?_) rfl (by kernel_rfl) (by kernel_rfl) (by kernel_rfl) (fun _ _ _ h => h) (Or.inl ⟨by rfl, ?_⟩) (by assumption) ?_
  rotate_left 1
  · intro w' hSw
    try dsimp only at hSw
    go_simp
    try with_reducible rfl
  try simp only [Act.put, List.setIfInBounds_toArray, List.set_cons_zero, List.set_cons_succ]
  refine wpAnyH_take (i := 9) (oi := { dst := some 114, op := Go.Op.move (Go.Operand.tmp 113), type := 4, pos := _, after := #[{ on := 8, ground := Go.Ground.data }, { on := 4, ground := Go.Ground.chain }], guard := none }) (v := ?_) rfl (by kernel_rfl) (by kernel_rfl) (by kernel_rfl) (fun _ _ _ h => h) (Or.inl ⟨by rfl, ?_⟩) (by assumption) ?_
  rotate_left 1
  · intro w' hSw
    try dsimp only at hSw
    go_simp
    try with_reducible rfl
  try simp only [Act.put, List.setIfInBounds_toArray, List.set_cons_zero, List.set_cons_succ]
  refine wpAnyH_take (i := 10) (oi := { dst := some 115, op := Go.Op.move (Go.Operand.tmp 11), type := 3, pos := _, after := #[{ on := 9, ground := Go.Ground.guard }], guard := some (9, true) }) (v := ?_) rfl (by kernel_rfl) (by kernel_rfl) (by kernel_rfl) (fun _ _ _ h => h) (Or.inl ⟨by rfl, ?_⟩) (by assumption) ?_
  rotate_left 1
  · intro w' hSw
    try dsimp only at hSw
    go_simp
    try with_reducible rfl
  try simp only [Act.put, List.setIfInBounds_toArray, List.set_cons_zero, List.set_cons_succ]
  refine wpAnyH_take (i := 11) (oi := { dst := some 116, op := Go.Op.move (Go.Operand.tmp 1), type := 3, pos := _, after := #[{ on := 9, ground := Go.Ground.guard }], guard := some (9, true) }) (v := ?_) rfl (by kernel_rfl) (by kernel_rfl) (by kernel_rfl) (fun _ _ _ h => h) (Or.inl ⟨by rfl, ?_⟩) (by assumption) ?_
  rotate_left 1
  · intro w' hSw
    try dsimp only at hSw
    go_simp
    try with_reducible rfl
  try simp only [Act.put, List.setIfInBounds_toArray, List.set_cons_zero, List.set_cons_succ]
  refine wpAnyH_take (i := 12) (oi := { dst := some 117, op := Go.Op.binOp Go.BinOp.eql 3 (Go.Operand.tmp 115) (Go.Operand.tmp 116) 3, type := 4, pos := _, after := #[{ on := 10, ground := Go.Ground.data }, { on := 11, ground := Go.Ground.data }, { on := 9, ground := Go.Ground.guard }], guard := some (9, true) }) (v := .bool true) rfl (by kernel_rfl) (by kernel_rfl) (by kernel_rfl) (fun _ _ _ h => h) (Or.inl ⟨by rfl, ?_⟩) (by assumption) ?_
  · intro w' hSw
    try dsimp only at hSw
    go_simp
    all_goals simp
  try simp only [Act.put, List.setIfInBounds_toArray, List.set_cons_zero, List.set_cons_succ]
  refine wpAnyH_take (i := 13) (oi := { dst := some 118, op := Go.Op.pick (Go.Operand.tmp 114) (Go.Operand.tmp 117) (Go.Operand.const (Go.Value.bool false)), type := 4, pos := _, after := #[{ on := 9, ground := Go.Ground.data }, { on := 12, ground := Go.Ground.data }], guard := none }) (v := ?_) rfl (by kernel_rfl) (by kernel_rfl) (by kernel_rfl) (fun _ _ _ h => h) (Or.inl ⟨by rfl, ?_⟩) (by assumption) ?_
  rotate_left 1
  · intro w' hSw
    try dsimp only at hSw
    go_simp
    try with_reducible rfl
  try simp only [Act.put, List.setIfInBounds_toArray, List.set_cons_zero, List.set_cons_succ]
  refine wpAnyH_take (i := 14) (oi := { dst := some 119, op := Go.Op.move (Go.Operand.tmp 118), type := 4, pos := _, after := #[{ on := 13, ground := Go.Ground.data }, { on := 9, ground := Go.Ground.chain }], guard := none }) (v := ?_) rfl (by kernel_rfl) (by kernel_rfl) (by kernel_rfl) (fun _ _ _ h => h) (Or.inl ⟨by rfl, ?_⟩) (by assumption) ?_
  rotate_left 1
  · intro w' hSw
    try dsimp only at hSw
    go_simp
    try with_reducible rfl
  try simp only [Act.put, List.setIfInBounds_toArray, List.set_cons_zero, List.set_cons_succ]
  refine wpAnyH_take (i := 15) (oi := { dst := some 120, op := Go.Op.move (Go.Operand.tmp 17), type := 4, pos := _, after := #[{ on := 14, ground := Go.Ground.guard }], guard := some (14, true) }) (v := ?_) rfl (by kernel_rfl) (by kernel_rfl) (by kernel_rfl) (fun _ _ _ h => h) (Or.inl ⟨by rfl, ?_⟩) (by assumption) ?_
  rotate_left 1
  · intro w' hSw
    try dsimp only at hSw
    go_simp
    try with_reducible rfl
  try simp only [Act.put, List.setIfInBounds_toArray, List.set_cons_zero, List.set_cons_succ]
  refine wpAnyH_take (i := 16) (oi := { dst := some 121, op := Go.Op.move (Go.Operand.tmp 120), type := 4, pos := _, after := #[{ on := 15, ground := Go.Ground.data }, { on := 14, ground := Go.Ground.chain }, { on := 14, ground := Go.Ground.guard }], guard := some (14, true) }) (v := ?_) rfl (by kernel_rfl) (by kernel_rfl) (by kernel_rfl) (fun _ _ _ h => h) (Or.inl ⟨by rfl, ?_⟩) (by assumption) ?_
  rotate_left 1
  · intro w' hSw
    try dsimp only at hSw
    go_simp
    try with_reducible rfl
  try simp only [Act.put, List.setIfInBounds_toArray, List.set_cons_zero, List.set_cons_succ]
  refine wpAnyH_take (i := 17) (oi := { dst := some 122, op := Go.Op.move (Go.Operand.tmp 14), type := 4, pos := _, after := #[{ on := 16, ground := Go.Ground.guard }], guard := some (16, false) }) (v := ?_) rfl (by kernel_rfl) (by kernel_rfl) (by kernel_rfl) (fun _ _ _ h => h) (Or.inl ⟨by rfl, ?_⟩) (by assumption) ?_
  rotate_left 1
  · intro w' hSw
    try dsimp only at hSw
    go_simp
    try with_reducible rfl
  try simp only [Act.put, List.setIfInBounds_toArray, List.set_cons_zero, List.set_cons_succ]
  refine wpAnyH_take (i := 18) (oi := { dst := some 123, op := Go.Op.unOp Go.UnOp.not 4 (Go.Operand.tmp 122), type := 4, pos := _, after := #[{ on := 17, ground := Go.Ground.data }, { on := 16, ground := Go.Ground.guard }], guard := some (16, false) }) (v := ?_) rfl (by kernel_rfl) (by kernel_rfl) (by kernel_rfl) (fun _ _ _ h => h) (Or.inl ⟨by rfl, ?_⟩) (by assumption) ?_
  rotate_left 1
  · intro w' hSw
    try dsimp only at hSw
    go_simp
    try with_reducible rfl
  try simp only [Act.put, List.setIfInBounds_toArray, List.set_cons_zero, List.set_cons_succ]
  refine wpAnyH_take (i := 19) (oi := { dst := some 124, op := Go.Op.move (Go.Operand.tmp 123), type := 4, pos := _, after := #[{ on := 18, ground := Go.Ground.data }, { on := 16, ground := Go.Ground.chain }, { on := 16, ground := Go.Ground.guard }], guard := some (16, false) }) (v := ?_) rfl (by kernel_rfl) (by kernel_rfl) (by kernel_rfl) (fun _ _ _ h => h) (Or.inl ⟨by rfl, ?_⟩) (by assumption) ?_
  rotate_left 1
  · intro w' hSw
    try dsimp only at hSw
    go_simp
    try with_reducible rfl
  try simp only [Act.put, List.setIfInBounds_toArray, List.set_cons_zero, List.set_cons_succ]
  refine wpAnyH_take (i := 20) (oi := { dst := some 125, op := Go.Op.move (Go.Operand.tmp 13), type := 3, pos := _, after := #[{ on := 19, ground := Go.Ground.guard }], guard := some (19, true) }) (v := ?_) rfl (by kernel_rfl) (by kernel_rfl) (by kernel_rfl) (fun _ _ _ h => h) (Or.inl ⟨by rfl, ?_⟩) (by assumption) ?_
  rotate_left 1
  · intro w' hSw
    try dsimp only at hSw
    go_simp
    try with_reducible rfl
  try simp only [Act.put, List.setIfInBounds_toArray, List.set_cons_zero, List.set_cons_succ]
  refine wpAnyH_take (i := 21) (oi := { dst := some 126, op := Go.Op.binOp Go.BinOp.eql 3 (Go.Operand.tmp 125) (Go.Operand.const (Go.Value.int Go.IntKind.i64 0)) 3, type := 4, pos := _, after := #[{ on := 20, ground := Go.Ground.data }, { on := 19, ground := Go.Ground.guard }], guard := some (19, true) }) (v := .bool true) rfl (by kernel_rfl) (by kernel_rfl) (by kernel_rfl) (fun _ _ _ h => h) (Or.inl ⟨by rfl, ?_⟩) (by assumption) ?_
  · intro w' hSw
    try dsimp only at hSw
    go_simp
    all_goals simp
  try simp only [Act.put, List.setIfInBounds_toArray, List.set_cons_zero, List.set_cons_succ]
  refine wpAnyH_take (i := 22) (oi := { dst := some 127, op := Go.Op.pick (Go.Operand.tmp 124) (Go.Operand.tmp 126) (Go.Operand.const (Go.Value.bool false)), type := 4, pos := _, after := #[{ on := 19, ground := Go.Ground.data }, { on := 21, ground := Go.Ground.data }, { on := 16, ground := Go.Ground.guard }], guard := some (16, false) }) (v := ?_) rfl (by kernel_rfl) (by kernel_rfl) (by kernel_rfl) (fun _ _ _ h => h) (Or.inl ⟨by rfl, ?_⟩) (by assumption) ?_
  rotate_left 1
  · intro w' hSw
    try dsimp only at hSw
    go_simp
    try with_reducible rfl
  try simp only [Act.put, List.setIfInBounds_toArray, List.set_cons_zero, List.set_cons_succ]
  refine wpAnyH_take (i := 23) (oi := { dst := some 128, op := Go.Op.pick (Go.Operand.tmp 121) (Go.Operand.const (Go.Value.bool true)) (Go.Operand.tmp 127), type := 4, pos := _, after := #[{ on := 16, ground := Go.Ground.data }, { on := 22, ground := Go.Ground.data }, { on := 14, ground := Go.Ground.guard }], guard := some (14, true) }) (v := ?_) rfl (by kernel_rfl) (by kernel_rfl) (by kernel_rfl) (fun _ _ _ h => h) (Or.inl ⟨by rfl, ?_⟩) (by assumption) ?_
  rotate_left 1
  · intro w' hSw
    try dsimp only at hSw
    go_simp
    try with_reducible rfl
  try simp only [Act.put, List.setIfInBounds_toArray, List.set_cons_zero, List.set_cons_succ]
  refine wpAnyH_take (i := 24) (oi := { dst := some 129, op := Go.Op.pick (Go.Operand.tmp 119) (Go.Operand.tmp 128) (Go.Operand.const (Go.Value.bool false)), type := 4, pos := _, after := #[{ on := 14, ground := Go.Ground.data }, { on := 23, ground := Go.Ground.data }], guard := none }) (v := ?_) rfl (by kernel_rfl) (by kernel_rfl) (by kernel_rfl) (fun _ _ _ h => h) (Or.inl ⟨by rfl, ?_⟩) (by assumption) ?_
  rotate_left 1
  · intro w' hSw
    try dsimp only at hSw
    go_simp
    try with_reducible rfl
  try simp only [Act.put, List.setIfInBounds_toArray, List.set_cons_zero, List.set_cons_succ]
  refine wpAnyH_take (i := 25) (oi := { dst := some 130, op := Go.Op.move (Go.Operand.tmp 129), type := 4, pos := _, after := #[{ on := 24, ground := Go.Ground.data }, { on := 19, ground := Go.Ground.chain }], guard := none }) (v := ?_) rfl (by kernel_rfl) (by kernel_rfl) (by kernel_rfl) (fun _ _ _ h => h) (Or.inl ⟨by rfl, ?_⟩) (by assumption) ?_
  rotate_left 1
  · intro w' hSw
    try dsimp only at hSw
    go_simp
    try with_reducible rfl
  try simp only [Act.put, List.setIfInBounds_toArray, List.set_cons_zero, List.set_cons_succ]
  refine wpAnyH_take (i := 26) (oi := { dst := some 131, op := Go.Op.move (Go.Operand.tmp 18), type := 4, pos := _, after := #[{ on := 25, ground := Go.Ground.guard }], guard := some (25, true) }) (v := ?_) rfl (by kernel_rfl) (by kernel_rfl) (by kernel_rfl) (fun _ _ _ h => h) (Or.inl ⟨by rfl, ?_⟩) (by assumption) ?_
  rotate_left 1
  · intro w' hSw
    try dsimp only at hSw
    go_simp
    try with_reducible rfl
  try simp only [Act.put, List.setIfInBounds_toArray, List.set_cons_zero, List.set_cons_succ]
  refine wpAnyH_take (i := 27) (oi := { dst := some 132, op := Go.Op.move (Go.Operand.tmp 131), type := 4, pos := _, after := #[{ on := 26, ground := Go.Ground.data }, { on := 25, ground := Go.Ground.chain }, { on := 25, ground := Go.Ground.guard }], guard := some (25, true) }) (v := ?_) rfl (by kernel_rfl) (by kernel_rfl) (by kernel_rfl) (fun _ _ _ h => h) (Or.inl ⟨by rfl, ?_⟩) (by assumption) ?_
  rotate_left 1
  · intro w' hSw
    try dsimp only at hSw
    go_simp
    try with_reducible rfl
  try simp only [Act.put, List.setIfInBounds_toArray, List.set_cons_zero, List.set_cons_succ]
  refine wpAnyH_take (i := 28) (oi := { dst := some 133, op := Go.Op.move (Go.Operand.tmp 16), type := 4, pos := _, after := #[{ on := 27, ground := Go.Ground.guard }], guard := some (27, false) }) (v := undef) rfl (by kernel_rfl) (by kernel_rfl) (by kernel_rfl) (fun _ _ _ h => h) (Or.inr ⟨by rfl, rfl⟩) (by assumption) ?_
  try simp only [Act.put, List.setIfInBounds_toArray, List.set_cons_zero, List.set_cons_succ]
  refine wpAnyH_take (i := 29) (oi := { dst := some 134, op := Go.Op.unOp Go.UnOp.not 4 (Go.Operand.tmp 133), type := 4, pos := _, after := #[{ on := 28, ground := Go.Ground.data }, { on := 27, ground := Go.Ground.guard }], guard := some (27, false) }) (v := undef) rfl (by kernel_rfl) (by kernel_rfl) (by kernel_rfl) (fun _ _ _ h => h) (Or.inr ⟨by rfl, rfl⟩) (by assumption) ?_
  try simp only [Act.put, List.setIfInBounds_toArray, List.set_cons_zero, List.set_cons_succ]
  refine wpAnyH_take (i := 30) (oi := { dst := some 135, op := Go.Op.move (Go.Operand.tmp 134), type := 4, pos := _, after := #[{ on := 29, ground := Go.Ground.data }, { on := 27, ground := Go.Ground.chain }, { on := 27, ground := Go.Ground.guard }], guard := some (27, false) }) (v := undef) rfl (by kernel_rfl) (by kernel_rfl) (by kernel_rfl) (fun _ _ _ h => h) (Or.inr ⟨by rfl, rfl⟩) (by assumption) ?_
  try simp only [Act.put, List.setIfInBounds_toArray, List.set_cons_zero, List.set_cons_succ]
  refine wpAnyH_take (i := 31) (oi := { dst := some 136, op := Go.Op.move (Go.Operand.tmp 15), type := 3, pos := _, after := #[{ on := 30, ground := Go.Ground.guard }], guard := some (30, true) }) (v := undef) rfl (by kernel_rfl) (by kernel_rfl) (by kernel_rfl) (fun _ _ _ h => h) (Or.inr ⟨by rfl, rfl⟩) (by assumption) ?_
  try simp only [Act.put, List.setIfInBounds_toArray, List.set_cons_zero, List.set_cons_succ]
  refine wpAnyH_take (i := 32) (oi := { dst := some 137, op := Go.Op.binOp Go.BinOp.eql 3 (Go.Operand.tmp 136) (Go.Operand.const (Go.Value.int Go.IntKind.i64 0)) 3, type := 4, pos := _, after := #[{ on := 31, ground := Go.Ground.data }, { on := 30, ground := Go.Ground.guard }], guard := some (30, true) }) (v := undef) rfl (by kernel_rfl) (by kernel_rfl) (by kernel_rfl) (fun _ _ _ h => h) (Or.inr ⟨by rfl, rfl⟩) (by assumption) ?_
  try simp only [Act.put, List.setIfInBounds_toArray, List.set_cons_zero, List.set_cons_succ]
  refine wpAnyH_take (i := 33) (oi := { dst := some 138, op := Go.Op.pick (Go.Operand.tmp 135) (Go.Operand.tmp 137) (Go.Operand.const (Go.Value.bool false)), type := 4, pos := _, after := #[{ on := 30, ground := Go.Ground.data }, { on := 32, ground := Go.Ground.data }, { on := 27, ground := Go.Ground.guard }], guard := some (27, false) }) (v := undef) rfl (by kernel_rfl) (by kernel_rfl) (by kernel_rfl) (fun _ _ _ h => h) (Or.inr ⟨by rfl, rfl⟩) (by assumption) ?_
  try simp only [Act.put, List.setIfInBounds_toArray, List.set_cons_zero, List.set_cons_succ]
  refine wpAnyH_take (i := 34) (oi := { dst := some 139, op := Go.Op.pick (Go.Operand.tmp 132) (Go.Operand.const (Go.Value.bool true)) (Go.Operand.tmp 138), type := 4, pos := _, after := #[{ on := 27, ground := Go.Ground.data }, { on := 33, ground := Go.Ground.data }, { on := 25, ground := Go.Ground.guard }], guard := some (25, true) }) (v := ?_) rfl (by kernel_rfl) (by kernel_rfl) (by kernel_rfl) (fun _ _ _ h => h) (Or.inl ⟨by rfl, ?_⟩) (by assumption) ?_
  rotate_left 1
  · intro w' hSw
    try dsimp only at hSw
    go_simp
    try with_reducible rfl
  try simp only [Act.put, List.setIfInBounds_toArray, List.set_cons_zero, List.set_cons_succ]
  refine wpAnyH_take (i := 35) (oi := { dst := some 140, op := Go.Op.pick (Go.Operand.tmp 130) (Go.Operand.tmp 139) (Go.Operand.const (Go.Value.bool false)), type := 4, pos := _, after := #[{ on := 25, ground := Go.Ground.data }, { on := 34, ground := Go.Ground.data }], guard := none }) (v := ?_) rfl (by kernel_rfl) (by kernel_rfl) (by kernel_rfl) (fun _ _ _ h => h) (Or.inl ⟨by rfl, ?_⟩) (by assumption) ?_
  rotate_left 1
  · intro w' hSw
    try dsimp only at hSw
    go_simp
    try with_reducible rfl
  try simp only [Act.put, List.setIfInBounds_toArray, List.set_cons_zero, List.set_cons_succ]
  refine wpAnyH_take (i := 36) (oi := { dst := some 141, op := Go.Op.move (Go.Operand.tmp 140), type := 4, pos := _, after := #[{ on := 35, ground := Go.Ground.data }, { on := 30, ground := Go.Ground.chain }], guard := none }) (v := ?_) rfl (by kernel_rfl) (by kernel_rfl) (by kernel_rfl) (fun _ _ _ h => h) (Or.inl ⟨by rfl, ?_⟩) (by assumption) ?_
  rotate_left 1
  · intro w' hSw
    try dsimp only at hSw
    go_simp
    try with_reducible rfl
  try simp only [Act.put, List.setIfInBounds_toArray, List.set_cons_zero, List.set_cons_succ]
  refine wpAnyH_take (i := 37) (oi := { dst := some 142, op := Go.Op.load 31 (Go.Operand.tmp 7), type := 31, pos := _, after := #[{ on := 36, ground := Go.Ground.guard }], guard := some (36, true) }) (v := ?_) rfl (by kernel_rfl) (by kernel_rfl) (by kernel_rfl) (fun _ _ _ h => h) (Or.inl ⟨by rfl, ?_⟩) (by assumption) ?_
  rotate_left 1
  · intro w' hSw
    try dsimp only at hSw
    go_simp
    try with_reducible rfl
  try simp only [Act.put, List.setIfInBounds_toArray, List.set_cons_zero, List.set_cons_succ]
  refine wpAnyH_take (i := 38) (oi := { dst := some 143, op := Go.Op.move (Go.Operand.tmp 1), type := 3, pos := _, after := #[{ on := 36, ground := Go.Ground.guard }], guard := some (36, true) }) (v := ?_) rfl (by kernel_rfl) (by kernel_rfl) (by kernel_rfl) (fun _ _ _ h => h) (Or.inl ⟨by rfl, ?_⟩) (by assumption) ?_
  rotate_left 1
  · intro w' hSw
    try dsimp only at hSw
    go_simp
    try with_reducible rfl
  try simp only [Act.put, List.setIfInBounds_toArray, List.set_cons_zero, List.set_cons_succ]
  refine wpAnyH_take (i := 40) (oi := { dst := some 145, op := Go.Op.fieldAddr 31 (Go.Operand.tmp 7) 7, type := 0, pos := _, after := #[{ on := 36, ground := Go.Ground.guard }], guard := some (36, true) }) (v := ?_) rfl (by kernel_rfl) (by kernel_rfl) (by kernel_rfl) (fun _ _ _ h => h) (Or.inl ⟨by rfl, ?_⟩) (by assumption) ?_
  rotate_left 1
  · intro w' hSw
    try dsimp only at hSw
    go_simp
    try with_reducible rfl
  try simp only [Act.put, List.setIfInBounds_toArray, List.set_cons_zero, List.set_cons_succ]
  refine wpAnyH_take (i := 41) (oi := { dst := some 146, op := Go.Op.load 29 (Go.Operand.tmp 145), type := 29, pos := _, after := #[{ on := 40, ground := Go.Ground.data }, { on := 36, ground := Go.Ground.guard }], guard := some (36, true) }) (v := ?_) rfl (by kernel_rfl) (by kernel_rfl) (by kernel_rfl) (fun _ _ _ h => h) (Or.inl ⟨by rfl, ?_⟩) (by assumption) ?_
  rotate_left 1
  · intro w' hSw
    try dsimp only at hSw
    go_simp
    try with_reducible rfl
  try simp only [Act.put, List.setIfInBounds_toArray, List.set_cons_zero, List.set_cons_succ]
  refine wpAnyH_take (i := 42) (oi := { dst := some 147, op := Go.Op.move (Go.Operand.tmp 1), type := 3, pos := _, after := #[{ on := 36, ground := Go.Ground.guard }], guard := some (36, true) }) (v := ?_) rfl (by kernel_rfl) (by kernel_rfl) (by kernel_rfl) (fun _ _ _ h => h) (Or.inl ⟨by rfl, ?_⟩) (by assumption) ?_
  rotate_left 1
  · intro w' hSw
    try dsimp only at hSw
    go_simp
    try with_reducible rfl
  try simp only [Act.put, List.setIfInBounds_toArray, List.set_cons_zero, List.set_cons_succ]
  refine wpAnyH_take (i := 43) (oi := { dst := some 148, op := Go.Op.indexAddr 29 (Go.Operand.tmp 146) (Go.Operand.tmp 147), type := 0, pos := _, after := #[{ on := 41, ground := Go.Ground.data }, { on := 42, ground := Go.Ground.data }, { on := 36, ground := Go.Ground.guard }], guard := some (36, true) }) (v := ?_) rfl (by kernel_rfl) (by kernel_rfl) (by kernel_rfl) (fun _ _ _ h => h) (Or.inl ⟨by rfl, ?_⟩) (by assumption) ?_
  rotate_left 1
  · intro w' hSw
    try dsimp only at hSw
    go_simp
    try with_reducible rfl
  try simp only [Act.put, List.setIfInBounds_toArray, List.set_cons_zero, List.set_cons_succ]
  refine wpAnyH_take (i := 44) (oi := { dst := some 149, op := Go.Op.load 3 (Go.Operand.tmp 148), type := 3, pos := _, after := #[{ on := 43, ground := Go.Ground.data }, { on := 36, ground := Go.Ground.guard }], guard := some (36, true) }) (v := ?_) rfl (by kernel_rfl) (by kernel_rfl) (by kernel_rfl) (fun _ _ _ h => h) (Or.inl ⟨by rfl, ?_⟩) (by assumption) ?_
  rotate_left 1
  · intro w' hSw
    try dsimp only at hSw
    go_simp
    try with_reducible rfl
  try simp only [Act.put, List.setIfInBounds_toArray, List.set_cons_zero, List.set_cons_succ]
  refine wpAnyH_ready (rs := [39]) (by kernel_rfl) (by simp) ?_
  refine AllReadyH.cons rfl (fun K hK => ?_) AllReadyH.nil
  go_simp
  go_wp2_with (first | (go_at_call 10; refine (HND.out _ (o : Int) (by exact HO10.out.chain ((Only.refl _ _).drew) (fun _ _ h => h))).mono ?_; rintro e w11 ⟨rfl, ho11⟩; rw [HV0.out]; have HO11 : Hid (Only (fun _ => False) V w11) := hid (HO10.out.chain (((Only.refl _ _).drew).chain ho11 (fun _ _ h => h)) (fun _ _ h => h)); clear ho11 e1 f0 f1 f2 f3 f4 f5 f6 f7 f8 f9 f10 f11 f12 f13 hHeld; obtain ⟨f0, f1, f2, f3, f4, f5, f6, f7, f8, f9, f10, f11, f12, f13⟩ := HPC.out w11 HO11.out; have e1 := HT1.out w11 HO11.out))
  refine hK.out _ _ ?_ (fun hHeld => ?_)
  · (try dsimp only); go_keep
  clear hK K
  refine wpAnyH_take (i := 45) (oi := { dst := some 150, op := Go.Op.binOp Go.BinOp.geq 3 (Go.Operand.tmp 144) (Go.Operand.tmp 149) 3, type := 4, pos := _, after := #[{ on := 39, ground := Go.Ground.data }, { on := 44, ground := Go.Ground.data }, { on := 36, ground := Go.Ground.guard }], guard := some (36, true) }) (v := .bool true) rfl (by kernel_rfl) (by kernel_rfl) (by kernel_rfl) (fun _ _ _ h => h) (Or.inl ⟨by rfl, ?_⟩) (by assumption) ?_
  · intro w' hSw
    try dsimp only at hSw
    go_simp
    all_goals simp
  try simp only [Act.put, List.setIfInBounds_toArray, List.set_cons_zero, List.set_cons_succ]
  refine wpAnyH_take (i := 46) (oi := { dst := some 151, op := Go.Op.pick (Go.Operand.tmp 141) (Go.Operand.tmp 150) (Go.Operand.const (Go.Value.bool false)), type := 4, pos := _, after := #[{ on := 36, ground := Go.Ground.data }, { on := 45, ground := Go.Ground.data }], guard := none }) (v := ?_) rfl (by kernel_rfl) (by kernel_rfl) (by kernel_rfl) (fun _ _ _ h => h) (Or.inl ⟨by rfl, ?_⟩) (by assumption) ?_
  rotate_left 1
  · intro w' hSw
    try dsimp only at hSw
    go_simp
    try with_reducible rfl
  try simp only [Act.put, List.setIfInBounds_toArray, List.set_cons_zero, List.set_cons_succ]
  refine wpAnyH_take (i := 47) (oi := { dst := some 152, op := Go.Op.move (Go.Operand.tmp 151), type := 4, pos := _, after := #[{ on := 46, ground := Go.Ground.data }, { on := 39, ground := Go.Ground.chain }], guard := none }) (v := ?_) rfl (by kernel_rfl) (by kernel_rfl) (by kernel_rfl) (fun _ _ _ h => h) (Or.inl ⟨by rfl, ?_⟩) (by assumption) ?_
  rotate_left 1
  · intro w' hSw
    try dsimp only at hSw
    go_simp
    try with_reducible rfl
  try simp only [Act.put, List.setIfInBounds_toArray, List.set_cons_zero, List.set_cons_succ]
  refine wpAnyH_take (i := 48) (oi := { dst := some 153, op := Go.Op.load 31 (Go.Operand.tmp 7), type := 31, pos := _, after := #[{ on := 47, ground := Go.Ground.guard }], guard := some (47, true) }) (v := ?_) rfl (by kernel_rfl) (by kernel_rfl) (by kernel_rfl) (fun _ _ _ h => h) (Or.inl ⟨by rfl, ?_⟩) (by assumption) ?_
  rotate_left 1
  · intro w' hSw
    try dsimp only at hSw
    go_simp
    try with_reducible rfl
  try simp only [Act.put, List.setIfInBounds_toArray, List.set_cons_zero, List.set_cons_succ]
  refine wpAnyH_take (i := 49) (oi := { dst := some 154, op := Go.Op.move (Go.Operand.tmp 1), type := 3, pos := _, after := #[{ on := 47, ground := Go.Ground.guard }], guard := some (47, true) }) (v := ?_) rfl (by kernel_rfl) (by kernel_rfl) (by kernel_rfl) (fun _ _ _ h => h) (Or.inl ⟨by rfl, ?_⟩) (by assumption) ?_
  rotate_left 1
  · intro w' hSw
    try dsimp only at hSw
    go_simp
    try with_reducible rfl
  try simp only [Act.put, List.setIfInBounds_toArray, List.set_cons_zero, List.set_cons_succ]
  refine wpAnyH_take (i := 51) (oi := { dst := some 156, op := Go.Op.fieldAddr 31 (Go.Operand.tmp 7) 7, type := 0, pos := _, after := #[{ on := 47, ground := Go.Ground.guard }], guard := some (47, true) }) (v := ?_) rfl (by kernel_rfl) (by kernel_rfl) (by kernel_rfl) (fun _ _ _ h => h) (Or.inl ⟨by rfl, ?_⟩) (by assumption) ?_
  rotate_left 1
  · intro w' hSw
    try dsimp only at hSw
    go_simp
    try with_reducible rfl
  try simp only [Act.put, List.setIfInBounds_toArray, List.set_cons_zero, List.set_cons_succ]
  refine wpAnyH_take (i := 52) (oi := { dst := some 157, op := Go.Op.load 29 (Go.Operand.tmp 156), type := 29, pos := _, after := #[{ on := 51, ground := Go.Ground.data }, { on := 47, ground := Go.Ground.guard }], guard := some (47, true) }) (v := ?_) rfl (by kernel_rfl) (by kernel_rfl) (by kernel_rfl) (fun _ _ _ h => h) (Or.inl ⟨by rfl, ?_⟩) (by assumption) ?_
  rotate_left 1
  · intro w' hSw
    try dsimp only at hSw
    go_simp
    try with_reducible rfl
  try simp only [Act.put, List.setIfInBounds_toArray, List.set_cons_zero, List.set_cons_succ]
  refine wpAnyH_take (i := 53) (oi := { dst := some 158, op := Go.Op.move (Go.Operand.tmp 1), type := 3, pos := _, after := #[{ on := 47, ground := Go.Ground.guard }], guard := some (47, true) }) (v := ?_) rfl (by kernel_rfl) (by kernel_rfl) (by kernel_rfl) (fun _ _ _ h => h) (Or.inl ⟨by rfl, ?_⟩) (by assumption) ?_
  rotate_left 1
  · intro w' hSw
    try dsimp only at hSw
    go_simp
    try with_reducible rfl
  try simp only [Act.put, List.setIfInBounds_toArray, List.set_cons_zero, List.set_cons_succ]
  refine wpAnyH_take (i := 54) (oi := { dst := some 159, op := Go.Op.indexAddr 29 (Go.Operand.tmp 157) (Go.Operand.tmp 158), type := 0, pos := _, after := #[{ on := 52, ground := Go.Ground.data }, { on := 53, ground := Go.Ground.data }, { on := 47, ground := Go.Ground.guard }], guard := some (47, true) }) (v := ?_) rfl (by kernel_rfl) (by kernel_rfl) (by kernel_rfl) (fun _ _ _ h => h) (Or.inl ⟨by rfl, ?_⟩) (by assumption) ?_
  rotate_left 1
  · intro w' hSw
    try dsimp only at hSw
    go_simp
    try with_reducible rfl
  try simp only [Act.put, List.setIfInBounds_toArray, List.set_cons_zero, List.set_cons_succ]
  refine wpAnyH_take (i := 55) (oi := { dst := some 160, op := Go.Op.load 3 (Go.Operand.tmp 159), type := 3, pos := _, after := #[{ on := 54, ground := Go.Ground.data }, { on := 47, ground := Go.Ground.guard }], guard := some (47, true) }) (v := ?_) rfl (by kernel_rfl) (by kernel_rfl) (by kernel_rfl) (fun _ _ _ h => h) (Or.inl ⟨by rfl, ?_⟩) (by assumption) ?_
  rotate_left 1
  · intro w' hSw
    try dsimp only at hSw
    go_simp
    try with_reducible rfl
  try simp only [Act.put, List.setIfInBounds_toArray, List.set_cons_zero, List.set_cons_succ]
  refine wpAnyH_take (i := 56) (oi := { dst := some 161, op := Go.Op.binOp Go.BinOp.add 3 (Go.Operand.tmp 160) (Go.Operand.const (Go.Value.int Go.IntKind.i64 24)) 3, type := 3, pos := _, after := #[{ on := 55, ground := Go.Ground.data }, { on := 47, ground := Go.Ground.guard }], guard := some (47, true) }) (v := ?_) rfl (by kernel_rfl) (by kernel_rfl) (by kernel_rfl) (fun _ _ _ h => h) (Or.inl ⟨by rfl, ?_⟩) (by assumption) ?_
  rotate_left 1
  · intro w' hSw
    try dsimp only at hSw
    go_simp
    try with_reducible rfl
  try simp only [Act.put, List.setIfInBounds_toArray, List.set_cons_zero, List.set_cons_succ]
  refine wpAnyH_ready (rs := [50]) (by kernel_rfl) (by simp) ?_
  refine AllReadyH.cons rfl (fun K hK => ?_) AllReadyH.nil
  go_simp
  go_wp2_with (first | (go_at_call 11; refine (HTM.out w11 (o : Int) HO11.out).mono ?_; rintro e w12 ⟨rfl, ho12⟩; rw [HV2.out]; have HO12 : Hid (Only (fun _ => False) V w12) := hid (HO11.out.chain ho12 (fun _ _ h => h)); clear ho12 e1 f0 f1 f2 f3 f4 f5 f6 f7 f8 f9 f10 f11 f12 f13 HO11 hHeld; obtain ⟨f0, f1, f2, f3, f4, f5, f6, f7, f8, f9, f10, f11, f12, f13⟩ := HPC.out w12 HO12.out; have e1 := HT1.out w12 HO12.out))
  refine hK.out _ _ ?_ (fun hHeld => ?_)
  · (try dsimp only); go_keep
  clear hK K
  refine wpAnyH_take (i := 57) (oi := { dst := some 162, op := Go.Op.binOp Go.BinOp.lss 3 (Go.Operand.tmp 155) (Go.Operand.tmp 161) 3, type := 4, pos := _, after := #[{ on := 50, ground := Go.Ground.data }, { on := 56, ground := Go.Ground.data }, { on := 47, ground := Go.Ground.guard }], guard := some (47, true) }) (v := .bool true) rfl (by kernel_rfl) (by kernel_rfl) (by kernel_rfl) (fun _ _ _ h => h) (Or.inl ⟨by rfl, ?_⟩) (by assumption) ?_
  · intro w' hSw
    try dsimp only at hSw
    go_simp
    all_goals (first | omega | (rw [hwr]; omega) | (refine congrArg _ (decide_eq_true ?_); omega) | (congr 2; omega) | (simp; omega) | trace_state)
  try simp only [Act.put, List.setIfInBounds_toArray, List.set_cons_zero, List.set_cons_succ]
  refine wpAnyH_take (i := 58) (oi := { dst := some 163, op := Go.Op.pick (Go.Operand.tmp 152) (Go.Operand.tmp 162) (Go.Operand.const (Go.Value.bool false)), type := 4, pos := _, after := #[{ on := 47, ground := Go.Ground.data }, { on := 57, ground := Go.Ground.data }], guard := none }) (v := ?_) rfl (by kernel_rfl) (by kernel_rfl) (by kernel_rfl) (fun _ _ _ h => h) (Or.inl ⟨by rfl, ?_⟩) (by assumption) ?_
  rotate_left 1
  · intro w' hSw
    try dsimp only at hSw
    go_simp
    try with_reducible rfl
  try simp only [Act.put, List.setIfInBounds_toArray, List.set_cons_zero, List.set_cons_succ]
  refine wpAnyH_take (i := 59) (oi := { dst := some 6, op := Go.Op.assign (Go.Operand.tmp 163), type := 4, pos := _, after := #[{ on := 58, ground := Go.Ground.data }, { on := 50, ground := Go.Ground.chain }, { on := 0, ground := Go.Ground.phase }, { on := 1, ground := Go.Ground.phase }, { on := 2, ground := Go.Ground.phase }, { on := 3, ground := Go.Ground.phase }, { on := 4, ground := Go.Ground.phase }, { on := 5, ground := Go.Ground.phase }, { on := 6, ground := Go.Ground.phase }, { on := 7, ground := Go.Ground.phase }, { on := 8, ground := Go.Ground.phase }, { on := 9, ground := Go.Ground.phase }, { on := 10, ground := Go.Ground.phase }, { on := 11, ground := Go.Ground.phase }, { on := 12, ground := Go.Ground.phase }, { on := 13, ground := Go.Ground.phase }, { on := 14, ground := Go.Ground.phase }, { on := 15, ground := Go.Ground.phase }, { on := 16, ground := Go.Ground.phase }, { on := 17, ground := Go.Ground.phase }, { on := 18, ground := Go.Ground.phase }, { on := 19, ground := Go.Ground.phase }, { on := 20, ground := Go.Ground.phase }, { on := 21, ground := Go.Ground.phase }, { on := 22, ground := Go.Ground.phase }, { on := 23, ground := Go.Ground.phase }, { on := 24, ground := Go.Ground.phase }, { on := 25, ground := Go.Ground.phase }, { on := 26, ground := Go.Ground.phase }, { on := 27, ground := Go.Ground.phase }, { on := 28, ground := Go.Ground.phase }, { on := 29, ground := Go.Ground.phase }, { on := 30, ground := Go.Ground.phase }, { on := 31, ground := Go.Ground.phase }, { on := 32, ground := Go.Ground.phase }, { on := 33, ground := Go.Ground.phase }, { on := 34, ground := Go.Ground.phase }, { on := 35, ground := Go.Ground.phase }, { on := 36, ground := Go.Ground.phase }, { on := 37, ground := Go.Ground.phase }, { on := 38, ground := Go.Ground.phase }, { on := 39, ground := Go.Ground.phase }, { on := 40, ground := Go.Ground.phase }, { on := 41, ground := Go.Ground.phase }, { on := 42, ground := Go.Ground.phase }, { on := 43, ground := Go.Ground.phase }, { on := 44, ground := Go.Ground.phase }, { on := 45, ground := Go.Ground.phase }, { on := 46, ground := Go.Ground.phase }, { on := 47, ground := Go.Ground.phase }, { on := 48, ground := Go.Ground.phase }, { on := 49, ground := Go.Ground.phase }, { on := 50, ground := Go.Ground.phase }, { on := 51, ground := Go.Ground.phase }, { on := 52, ground := Go.Ground.phase }, { on := 53, ground := Go.Ground.phase }, { on := 54, ground := Go.Ground.phase }, { on := 55, ground := Go.Ground.phase }, { on := 56, ground := Go.Ground.phase }, { on := 57, ground := Go.Ground.phase }, { on := 58, ground := Go.Ground.phase }], guard := none }) (v := ?_) rfl (by kernel_rfl) (by kernel_rfl) (by kernel_rfl) (fun _ _ _ h => h) (Or.inl ⟨by rfl, ?_⟩) (by assumption) ?_
  rotate_left 1
  · intro w' hSw
    try dsimp only at hSw
    go_simp
    try with_reducible rfl
  try simp only [Act.put, List.setIfInBounds_toArray, List.set_cons_zero, List.set_cons_succ]
  refine wpAnyH_done (by kernel_rfl) ?_ _
  go_wp2_with fail
  go_ret
  exact ⟨rfl, (HO.out.chain (HOV.out.chain HO12.out (fun _ _ h => h)) (fun _ _ h => h)).below (Nat.le_refl _) (fun _ _ h => h)⟩
end Go.Proofs.Ytabdlbmdbceemaa.threadNodese

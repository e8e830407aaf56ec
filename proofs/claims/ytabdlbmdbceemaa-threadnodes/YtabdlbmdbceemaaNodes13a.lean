/-
  ThreadNodes: each thread is told by its nodes, and by no other address; there is no other thread. Conditions: there is no such thread.
-/
import Derived.Test.YtabdlbmdbceemaaAwake13
import Derived.Test.YtabdlbmdbceemaaOpenCf11
import Derived.Deep.RegionHeld
namespace Go.Proofs.Ytabdlbmdbceemaa.threadNodesa
open Go.Sept Go.RowKit Go.ChangeShapes Go.WideShapes Go.ChangeAt Go.Joins Go.Deep

theorem own : ownKnob Try.prog.godebug = none := by kernel_rfl
theorem laidOut : laidOutB Try.prog = true := by kernel_rfl
end Go.Proofs.Ytabdlbmdbceemaa.threadNodesa
namespace Go.Proofs.Ytabdlbmdbceemaa.threadNodesa
open Go.Sept Go.RowKit

set_option maxRecDepth 100000 in
set_option maxHeartbeats 4000000 in
theorem walk {P0 : Nat → Prop} (w : World) (v0 v1 : Value) (p : Pt) (h0 : PtIs P0 w v0 v1 p) (t a : Int) (hcase : t < 0 ∨ (p.ths.length : Int) ≤ t) :
    Calls Try.prog 3 #[.agg #[v0, v1], .int .i64 t, .int .i64 a] w fun e w' => e = .returned (.bool true) ∧ Below w.heap.size w w' := by
  have h : PtIs (fun k => k < w.heap.size) w v0 v1 p := ⟨h0.1.low (fun _ _ _ h => low_th _ h), h0.2.low (fun _ _ _ h => ⟨Cel.lt h.1.1, h⟩)⟩
  clear h0
  have HCASE := hid hcase
  clear hcase
  obtain ⟨xa, xc, rfl, xm⟩ := h.1.shape
  obtain ⟨ya, yc, rfl, ym⟩ := h.2.shape
  obtain ⟨n, hn⟩ : ∃ n, p.ths.length = n := ⟨_, rfl⟩
  obtain ⟨m, hm⟩ : ∃ m, p.obs.length = m := ⟨_, rfl⟩
  have HN := hid hn
  have HM := hid hm
  rw [hn] at h xm ⊢
  rw [hm] at h ym ⊢
  clear hn hm
  have hW : ∃ W z, W = w.alloc (ptO (.slice xa n xc) (.slice ya m yc)) ∧ z = w.heap.size ∧ Only (fun _ => False) w W ∧ W.heap[z]? = some (ptO (.slice xa n xc) (.slice ya m yc)) := ⟨_, _, rfl, rfl, (Only.refl _ _).alloc _, heap_new _ _⟩
  obtain ⟨W, z, hWe, hze, hoW, hbz⟩ := hW
  have HC := hid (h.only hoW (fun _ _ h => h))
  have HO := hid hoW
  have HB := hid hbz
  have HCELL : Hid (∀ w', Only (fun _ => False) W w' → w'.cell? ⟨z, 0, none⟩ = some (.slice xa n xc) ∧ w'.cell? ⟨z, 1, none⟩ = some (.slice ya m yc)) := fun w' ho => by
    have h9 := (ho.block z (lt_of_block hbz) (fun h => h)).trans hbz
    exact ⟨cell_of_block h9 0, cell_of_block h9 1⟩
  clear hoW hbz h
  simp only [ptO] at hWe
  go_enter Try.func3, Try.ntmps3
  go_upto_region 1 with fail
  rw [← hWe, ← hze]
  clear hWe hze
  go_wp2_with fail
  refine (awake13_any _).mono ?_
  rintro e w1 ⟨rfl, ho1⟩
  obtain ⟨c0, c1⟩ := HCELL.out w1 ho1
  have HO1 := hid ho1
  clear ho1
  go_wp2_with fail
  refine (fewPart2_any _ _ _ p (HC.out.only HO1.out (fun _ _ h => h))).mono ?_
  rintro e w2 ⟨⟨b, rfl, hb⟩, ho2⟩
  have HO2 := hid (HO1.out.chain ho2 (fun _ _ h => h))
  clear ho2 c0 c1
  cases b
  · clear hb
    go_wp2_with fail
    refine (awake13_any _).mono ?_
    rintro e w3 ⟨rfl, ho3⟩
    have HO3 := hid (HO.out.chain (HO2.out.chain ho3 (fun _ _ h => h)) (fun _ _ h => h))
    clear ho3
    go_wp2_with fail
    go_ret
    exact ⟨rfl, HO3.out.below (Nat.le_refl _) (fun _ _ h => h)⟩
  have HS := hid (hb rfl)
  have HC2 := hid (HC.out.only HO2.out (fun _ _ h => h))
  obtain ⟨c0, c1⟩ := HCELL.out w2 HO2.out
  clear hb HO1
  go_wp2_with fail
  refine (of13_rel _ _ _ p HC2.out HS.out).mono ?_
  rintro e w3 ⟨hof, ho3⟩
  have HO3 := hid (HO2.out.chain ho3 (fun _ _ h => h))
  clear ho3 c0 c1 HO2 HC2
  rcases hof with ⟨hne, rfl⟩ | ⟨heq, cs, rfl, hpl⟩
  · clear hne
    go_wp2_with fail
    go_ret
    exact ⟨rfl, (HO.out.chain (HO3.out.alloc _) (fun _ _ h => h)).below (Nat.le_refl _) (fun _ _ h => h)⟩
  have hth := ThIs.of hpl heq
  have hplL := hpl
  obtain ⟨ta, oa, za, zc, zb, zd, rfl⟩ := hpl.shape
  clear hpl
  rw [HN.out, HM.out] at hplL hth ⊢
  have HPL := hid hplL
  have HEQ := hid heq
  have HV : ∃ V y, V = w3.alloc (plO (planCs n m ta oa (.slice za n zc) (.slice zb m zd))) ∧ y = w3.heap.size ∧ Only (fun _ => False) w3 V ∧ V.heap[y]? = some (plO (planCs n m ta oa (.slice za n zc) (.slice zb m zd))) := ⟨_, _, rfl, rfl, (Only.refl _ _).alloc _, heap_new _ _⟩
  obtain ⟨V, y, hVe, hye, hoV, hby⟩ := HV
  have HOV := hid (HO3.out.chain hoV (fun _ _ h => h))
  have HBY := hid hby
  have HTH := hid (hth.only hoV (fun _ _ h => h))
  have hn6 : n ≤ 6 := hth.1
  have hm8 : m ≤ 8 := hth.2.1
  have HPLV := hid (hplL.only hoV (fun _ _ h => h))
  obtain ⟨f0, f1, f2, f3, f4, f5, f6, f7, f8, f9, f10, f11, f12, f13⟩ := plan_cells hby
  obtain ⟨c0, c1⟩ := HCELL.out V HOV.out
  clear hoV hby hplL hth heq
  go_upto_region 4 with fail
  rw [← hVe, ← hye]
  clear hVe hye
  have HPC : Hid (∀ wx, Only (fun _ => False) V wx → wx.cell? ⟨y, 0, none⟩ = some (.int .i64 0) ∧ wx.cell? ⟨y, 1, none⟩ = some (.int .i64 2) ∧ wx.cell? ⟨y, 2, none⟩ = some (.int .i64 4) ∧ wx.cell? ⟨y, 3, none⟩ = some (.int .i64 3) ∧ wx.cell? ⟨y, 4, none⟩ = some (.int .i64 5) ∧ wx.cell? ⟨y, 5, none⟩ = some (.int .i64 6) ∧ wx.cell? ⟨y, 6, none⟩ = some (.int .i64 8) ∧ wx.cell? ⟨y, 7, none⟩ = some (.int .i64 41) ∧ wx.cell? ⟨y, 8, none⟩ = some (.int .i64 43) ∧ wx.cell? ⟨y, 9, none⟩ = some (.slice ta n n) ∧ wx.cell? ⟨y, 10, none⟩ = some (.slice oa m m) ∧ wx.cell? ⟨y, 11, none⟩ = some (.int .i64 (43 + (m : Int) + (n : Int) * 24 + (m : Int) * 24)) ∧ wx.cell? ⟨y, 12, none⟩ = some (.slice za n zc) ∧ wx.cell? ⟨y, 13, none⟩ = some (.slice zb m zd)) := fun wx ho => plan_cells ((ho.block y (lt_of_block HBY.out) (fun h => h)).trans HBY.out)
  have HND : Hid (∀ wx (t : Int), Only (fun _ => False) V wx → Calls Try.prog 10 #[.agg (planCs n m ta oa (.slice za n zc) (.slice zb m zd)), .int .i64 t] wx fun e w' => e = .returned (.int .i64 (tplaceV n m t 0)) ∧ Only (fun _ => False) wx w') := fun wx t ho => tNode_rel wx _ n m (HTH.out.only ho (fun _ _ h => h)) t
  have HTM : Hid (∀ wx (t : Int), Only (fun _ => False) V wx → Calls Try.prog 11 #[.agg (planCs n m ta oa (.slice za n zc) (.slice zb m zd)), .int .i64 t] wx fun e w' => e = .returned (.int .i64 (tplaceV n m t 2)) ∧ Only (fun _ => False) wx w') := fun wx t ho => tTimer_rel wx _ n m (HTH.out.only ho (fun _ _ h => h)) t
  have HOF : Hid (∀ wx (a : Int), Only (fun _ => False) V wx → Calls Try.prog 12 #[.agg (planCs n m ta oa (.slice za n zc) (.slice zb m zd)), .int .i64 a] wx fun e w' => e = .returned (.tuple #[.int .i64 (ownerV n m a 0).1, .bool (ownerV n m a 0).2]) ∧ Only (fun _ => False) wx w') := fun wx a ho => tOf_rel wx _ n m (HTH.out.only ho (fun _ _ h => h)) a
  have HOT : Hid (∀ wx (a : Int), Only (fun _ => False) V wx → Calls Try.prog 13 #[.agg (planCs n m ta oa (.slice za n zc) (.slice zb m zd)), .int .i64 a] wx fun e w' => e = .returned (.tuple #[.int .i64 (ownerV n m a 2).1, .bool (ownerV n m a 2).2]) ∧ Only (fun _ => False) wx w') := fun wx a ho => tOfTimer_rel wx _ n m (HTH.out.only ho (fun _ _ h => h)) a
  have hr : t < 0 ∨ (n : Int) ≤ t := by have h9 := HCASE.out; rw [HN.out] at h9; exact h9
  have HV1 : Hid (∀ o : Int, tplaceV n m t o = -1) := fun o => by rw [tplaceV, if_neg (by omega)]
  have HEND : Hid (Calls Try.prog 10 #[.agg (planCs n m ta oa (.slice za n zc) (.slice zb m zd)), .int .i64 t] V fun e w' => e = .returned (.int .i64 (-1)) ∧ Only (fun _ => False) V w') := by
    have h9 := HND.out V t (Only.refl _ _)
    rw [HV1.out] at h9
    exact h9
  rcases (show t < 0 ∨ (0 ≤ t ∧ (n : Int) ≤ t) by omega) with h1 | ⟨h1, h2⟩
  all_goals
    clear hr
    go_wp2_with fail
    refine HEND.out.mono ?_
    rintro e w4 ⟨rfl, ho4⟩
    have HO4 := hid ho4
    clear f0 f1 f2 f3 f4 f5 f6 f7 f8 f9 f10 f11 f12 f13
    obtain ⟨f0, f1, f2, f3, f4, f5, f6, f7, f8, f9, f10, f11, f12, f13⟩ := HPC.out w4 ho4
    clear ho4
    go_wp2_with fail
    refine (HTM.out w4 t HO4.out).mono ?_
    rintro e w5 ⟨rfl, ho5⟩
    rw [HV1.out]
    have HO5 := hid (HO4.out.chain ho5 (fun _ _ h => h))
    clear ho5 f0 f1 f2 f3 f4 f5 f6 f7 f8 f9 f10 f11 f12 f13
    go_wp2_with fail
    go_ret
    exact ⟨rfl, (HO.out.chain (HOV.out.chain HO5.out (fun _ _ h => h)) (fun _ _ h => h)).below (Nat.le_refl _) (fun _ _ h => h)⟩
end Go.Proofs.Ytabdlbmdbceemaa.threadNodesa

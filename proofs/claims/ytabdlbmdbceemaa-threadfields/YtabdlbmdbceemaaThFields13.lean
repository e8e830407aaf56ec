/-
  ThreadFields: each field of each thread keeps what was stored there, by one access, and no other one is touched. Conditions: none.
-/
import Derived.Test.YtabdlbmdbceemaaAwake13
import Derived.Test.YtabdlbmdbceemaaIdle13
import Derived.Test.YtabdlbmdbceemaaOpenCf11
import Derived.Deep.RegionHeld
import Derived.BigRegion
import Derived.Laws.NewBlocks
namespace Go.Proofs.Ytabdlbmdbceemaa.threadFields
open Go.Sept Go.RowKit Go.ChangeShapes Go.WideShapes Go.ChangeAt Go.Joins Go.Deep

theorem own : ownKnob Try.prog.godebug = none := by kernel_rfl
theorem laidOut : laidOutB Try.prog = true := by kernel_rfl
end Go.Proofs.Ytabdlbmdbceemaa.threadFields
namespace Go.Proofs.Ytabdlbmdbceemaa.threadFields
open Go.Sept Go.RowKit

structure Two13f (w wc : World) (A B : Nat) (oa ob : Obj) : Prop where
  a : wc.heap[A]? = some oa
  b : wc.heap[B]? = some ob
  ab : A ≠ B
  la : w.heap.size ≤ A
  lb : w.heap.size ≤ B
  only : Only (fun _ => False) w wc
theorem two_new (w : World) (oa ob : Obj) : Two13f w ((w.alloc oa).alloc ob).drew w.heap.size (w.heap.size + 1) oa ob :=
  ⟨newKeep12 (newAt12 _ _ rfl), newAt12 _ _ (by simp), by omega, by omega, by omega, (((Only.refl _ _).alloc _).alloc _).drew⟩
theorem two_old (w : World) (oa ob : Obj) : Two13f w ((w.drew.alloc oa).alloc ob) w.heap.size (w.heap.size + 1) oa ob :=
  ⟨newKeep12 (newAt12 _ _ rfl), newAt12 _ _ (by simp), by omega, by omega, by omega, ((((Only.refl _ _).drew).alloc _).alloc _)⟩
theorem Two13f.swap {w wc : World} {A B : Nat} {oa ob : Obj} (h : Two13f w wc A B oa ob) : Two13f w wc B A ob oa := ⟨h.b, h.a, fun e => h.ab e.symm, h.lb, h.la, h.only⟩

set_option maxRecDepth 100000 in
set_option maxHeartbeats 4000000 in
theorem walk {P0 : Nat → Prop} (w : World) (v0 v1 : Value) (p : Pt) (h0 : PtIs P0 w v0 v1 p) (t f s k v u : Int) (bt : 0 ≤ t ∧ t ≤ 255) (bf : 0 ≤ f ∧ f ≤ 255) (bs : 0 ≤ s ∧ s ≤ 255) (bk : 0 ≤ k ∧ k ≤ 255) :
    Calls Try.prog 4 #[.agg #[v0, v1], .int .u8 t, .int .u8 f, .int .u8 s, .int .u8 k, .int .i64 v, .int .i64 u] w fun e w' => e = .returned (.bool true) ∧ Below w.heap.size w w' := by
  have h : PtIs (fun k => k < w.heap.size) w v0 v1 p := ⟨h0.1.low (fun _ _ _ h => low_th _ h), h0.2.low (fun _ _ _ h => ⟨Cel.lt h.1.1, h⟩)⟩
  clear h0
  obtain ⟨xa, xc, rfl, xm⟩ := h.1.shape
  obtain ⟨ya, yc, rfl, ym⟩ := h.2.shape
  obtain ⟨n, hn⟩ : ∃ n, p.ths.length = n := ⟨_, rfl⟩
  obtain ⟨m, hm⟩ : ∃ m, p.obs.length = m := ⟨_, rfl⟩
  have HN := hid hn
  have HM := hid hm
  rw [hn] at h xm ⊢
  rw [hm] at h ym ⊢
  clear hn hm
  have hW : ∃ W z, W = w.alloc (ptO (.slice xa n xc) (.slice ya m yc)) ∧ z = w.heap.size ∧ Only (fun _ => False) w W ∧ W.heap[z]? = some (ptO (.slice xa n xc) (.slice ya m yc)) := ⟨_, _, rfl, rfl, (Only.refl _ _).alloc _, heap_new _ _⟩
  obtain ⟨W, z, hWe, hze, hoW, hbz⟩ := hW
  have HC := hid (h.only hoW (fun _ _ h => h))
  have HO := hid hoW
  have HB := hid hbz
  have HCELL : Hid (∀ w', Only (fun _ => False) W w' → w'.cell? ⟨z, 0, none⟩ = some (.slice xa n xc) ∧ w'.cell? ⟨z, 1, none⟩ = some (.slice ya m yc)) := fun w' ho => by
    have h9 := (ho.block z (lt_of_block hbz) (fun h => h)).trans hbz
    exact ⟨cell_of_block h9 0, cell_of_block h9 1⟩
  clear hoW hbz h
  simp only [ptO] at hWe
  go_enter Try.func4, Try.ntmps4
  go_upto_region 1 with fail
  rw [← hWe, ← hze]
  clear hWe hze
  go_wp2_with fail
  refine (awake13_any _).mono ?_
  rintro e w1 ⟨rfl, ho1⟩
  obtain ⟨c0, c1⟩ := HCELL.out w1 ho1
  have HO1 := hid ho1
  clear ho1
  go_wp2_with fail
  refine (fewPart2_any _ _ _ p (HC.out.only HO1.out (fun _ _ h => h))).mono ?_
  rintro e w2 ⟨⟨b, rfl, hb⟩, ho2⟩
  have HO2 := hid (HO1.out.chain ho2 (fun _ _ h => h))
  clear ho2 c0 c1
  cases b
  · clear hb
    go_wp2_with fail
    refine (awake13_any _).mono ?_
    rintro e w3 ⟨rfl, ho3⟩
    have HO3 := hid (HO.out.chain (HO2.out.chain ho3 (fun _ _ h => h)) (fun _ _ h => h))
    clear ho3
    go_wp2_with fail
    go_ret
    exact ⟨rfl, HO3.out.below (Nat.le_refl _) (fun _ _ h => h)⟩
  have HS := hid (hb rfl)
  have HC2 := hid (HC.out.only HO2.out (fun _ _ h => h))
  obtain ⟨c0, c1⟩ := HCELL.out w2 HO2.out
  clear hb HO1
  go_wp2_with fail
  refine (of13_rel _ _ _ p HC2.out HS.out).mono ?_
  rintro e w3 ⟨hof, ho3⟩
  have HO3 := hid (HO2.out.chain ho3 (fun _ _ h => h))
  clear ho3 c0 c1 HO2 HC2
  rcases hof with ⟨hne, rfl⟩ | ⟨heq, cs, rfl, hpl⟩
  · clear hne
    go_wp2_with fail
    go_ret
    exact ⟨rfl, (HO.out.chain (HO3.out.alloc _) (fun _ _ h => h)).below (Nat.le_refl _) (fun _ _ h => h)⟩
  have hth := ThIs.of hpl heq
  have hplL := hpl
  obtain ⟨ta, oa, za, zc, zb, zd, rfl⟩ := hpl.shape
  clear hpl
  rw [HN.out, HM.out] at hplL hth ⊢
  have HPL := hid hplL
  have HEQ := hid heq
  have HV : ∃ V y, V = w3.alloc (plO (planCs n m ta oa (.slice za n zc) (.slice zb m zd))) ∧ y = w3.heap.size ∧ Only (fun _ => False) w3 V ∧ V.heap[y]? = some (plO (planCs n m ta oa (.slice za n zc) (.slice zb m zd))) := ⟨_, _, rfl, rfl, (Only.refl _ _).alloc _, heap_new _ _⟩
  obtain ⟨V, y, hVe, hye, hoV, hby⟩ := HV
  have HOV := hid (HO3.out.chain hoV (fun _ _ h => h))
  have HBY := hid hby
  have HTH := hid (hth.only hoV (fun _ _ h => h))
  have hn6 : n ≤ 6 := hth.1
  have hm8 : m ≤ 8 := hth.2.1
  have HPLV := hid (hplL.only hoV (fun _ _ h => h))
  obtain ⟨f0, f1, f2, f3, f4, f5, f6, f7, f8, f9, f10, f11, f12, f13⟩ := plan_cells hby
  obtain ⟨c0, c1⟩ := HCELL.out V HOV.out
  clear hoV hby hplL hth heq
  go_upto_region 4 with fail
  rw [← hVe, ← hye]
  clear hVe hye
  have HPC : Hid (∀ wx, Only (fun _ => False) V wx → wx.cell? ⟨y, 0, none⟩ = some (.int .i64 0) ∧ wx.cell? ⟨y, 1, none⟩ = some (.int .i64 2) ∧ wx.cell? ⟨y, 2, none⟩ = some (.int .i64 4) ∧ wx.cell? ⟨y, 3, none⟩ = some (.int .i64 3) ∧ wx.cell? ⟨y, 4, none⟩ = some (.int .i64 5) ∧ wx.cell? ⟨y, 5, none⟩ = some (.int .i64 6) ∧ wx.cell? ⟨y, 6, none⟩ = some (.int .i64 8) ∧ wx.cell? ⟨y, 7, none⟩ = some (.int .i64 41) ∧ wx.cell? ⟨y, 8, none⟩ = some (.int .i64 43) ∧ wx.cell? ⟨y, 9, none⟩ = some (.slice ta n n) ∧ wx.cell? ⟨y, 10, none⟩ = some (.slice oa m m) ∧ wx.cell? ⟨y, 11, none⟩ = some (.int .i64 (43 + (m : Int) + (n : Int) * 24 + (m : Int) * 24)) ∧ wx.cell? ⟨y, 12, none⟩ = some (.slice za n zc) ∧ wx.cell? ⟨y, 13, none⟩ = some (.slice zb m zd)) := fun wx ho => plan_cells ((ho.block y (lt_of_block HBY.out) (fun h => h)).trans HBY.out)
  have HBT := hid (boot_rel V _ p HPLV.out HEQ.out)
  have hn1 : 1 ≤ n := by have h9 := (part_parts HEQ.out).1.1; rw [HN.out] at h9; exact h9
  have hn0 : (n : Int) ≠ 0 := by omega
  obtain ⟨a, ha⟩ : ∃ a : Nat, t % (n : Int) = (a : Int) := ⟨(t % (n : Int)).toNat, by have := Int.emod_nonneg t hn0; omega⟩
  obtain ⟨b, hb⟩ : ∃ b : Nat, s % (n : Int) = (b : Int) := ⟨(s % (n : Int)).toNat, by have := Int.emod_nonneg s hn0; omega⟩
  obtain ⟨i, hi⟩ : ∃ i : Nat, f % 19 = (i : Int) := ⟨(f % 19).toNat, by omega⟩
  obtain ⟨j, hj⟩ : ∃ j : Nat, k % 19 = (j : Int) := ⟨(k % 19).toNat, by omega⟩
  have han : a < n := by have := Int.emod_lt_of_pos t (show (0 : Int) < (n : Int) by omega); omega
  have hbn : b < n := by have := Int.emod_lt_of_pos s (show (0 : Int) < (n : Int) by omega); omega
  have hi19 : i < 19 := by omega
  have hj19 : j < 19 := by omega
  have mt : t.tmod (n : Int) = (a : Int) := by rw [Int.tmod_eq_emod_of_nonneg bt.1]; exact ha
  have ms : s.tmod (n : Int) = (b : Int) := by rw [Int.tmod_eq_emod_of_nonneg bs.1]; exact hb
  have HAB := hid (And.intro ha (And.intro hb (And.intro mt ms)))
  have HIJ := hid (And.intro hi hj)
  clear ha hb hi hj mt ms
  go_upto_region 6 with fail
  go_cut [17, 18] (fun va vb wc => va = .int .i64 (a : Int) ∧ vb = .int .i64 (b : Int) ∧ Only (fun _ => False) V wc)
  case first =>
    go_region_held (fun w' => w'.cell? ⟨z, 0, none⟩ = some (.slice xa n xc)) (go_keep) (fail)
    all_goals
      go_wp2_with fail
      go_meet
      refine ⟨congrArg (Value.int IntKind.i64) ?_, congrArg (Value.int IntKind.i64) ?_, (Only.refl _ _).drew⟩
      · first | exact HAB.out.1 | exact HAB.out.2.2.1
      · first | exact HAB.out.2.1 | exact HAB.out.2.2.2
  case rest =>
  obtain ⟨rfl, rfl, hoc⟩ := hcut
  obtain ⟨w0, hw0⟩ : ∃ x, x = wc := ⟨_, rfl⟩
  subst hw0
  have HBT2 := hid (boot_rel w0 _ p (HPLV.out.only hoc (fun _ _ h => h)) HEQ.out)
  have HOC := hid hoc
  clear hoc f0 f1 f2 f3 f4 f5 f6 f7 f8 f9 f10 f11 f12 f13 c0 c1 HBT
  obtain ⟨f0, f1, f2, f3, f4, f5, f6, f7, f8, f9, f10, f11, f12, f13⟩ := HPC.out w0 HOC.out
  go_upto_region 8 with fail
  rw [HIJ.out.1, HIJ.out.2]
  go_wp2_with fail
  refine HBT2.out.mono ?_
  rintro e w4 ⟨g, r, rfl, hmem, ⟨hg, hr⟩, ho4⟩
  rw [HN.out, HM.out] at hmem
  have hlen := length_bootX 16 [3, 5] p n m
  obtain ⟨YS, hYS⟩ : ∃ YS, bootX 16 [3, 5] p n m = YS := ⟨_, rfl⟩
  rw [hYS] at hmem hlen
  have HO4 := hid (HOC.out.chain ho4 (fun _ _ h => h))
  have HLEN := hid hlen
  have HM4 : Hid (Mid13 V w4 (planCs n m ta oa (.slice za n zc) (.slice zb m zd)) n m g r YS) := by
    have z1 := HOC.out.size
    exact ⟨HTH.out.low.only HO4.out (fun _ _ h => h), hmem, by omega, by omega, by omega, HO4.out⟩
  clear hmem hg hr ho4 hlen hYS HBT2 f0 f1 f2 f3 f4 f5 f6 f7 f8 f9 f10 f11 f12 f13
  obtain ⟨f0, f1, f2, f3, f4, f5, f6, f7, f8, f9, f10, f11, f12, f13⟩ := HPC.out w4 HO4.out
  have hmf : ∀ (fn : Fn) (first cap : Array Value) (w : World), (Instr.makeFunc fn first cap).run Try.prog w = .ok (.func fn first cap) w := fun _ _ _ _ => rfl
  go_upto_region 9 with fail
  go_cut [22, 23] (fun vx vy wx => ∃ U1 U2 : Nat, vx = ptrV U1 ∧ vy = ptrV U2 ∧ Two13f w4 wx U1 U2 (act13O n m ta oa za zb zc zd (a : Int) (i : Int) v true 0) (act13O n m ta oa za zb zc zd (b : Int) (j : Int) u true 0))
  case first =>
    go_region_held (fun w' => w'.cell? ⟨y, 0, none⟩ = some (.int .i64 0) ∧ w'.cell? ⟨y, 1, none⟩ = some (.int .i64 2) ∧ w'.cell? ⟨y, 2, none⟩ = some (.int .i64 4) ∧ w'.cell? ⟨y, 3, none⟩ = some (.int .i64 3) ∧ w'.cell? ⟨y, 4, none⟩ = some (.int .i64 5) ∧ w'.cell? ⟨y, 5, none⟩ = some (.int .i64 6) ∧ w'.cell? ⟨y, 6, none⟩ = some (.int .i64 8) ∧ w'.cell? ⟨y, 7, none⟩ = some (.int .i64 41) ∧ w'.cell? ⟨y, 8, none⟩ = some (.int .i64 43) ∧ w'.cell? ⟨y, 9, none⟩ = some (.slice ta n n) ∧ w'.cell? ⟨y, 10, none⟩ = some (.slice oa m m) ∧ w'.cell? ⟨y, 11, none⟩ = some (.int .i64 (43 + (m : Int) + (n : Int) * 24 + (m : Int) * 24)) ∧ w'.cell? ⟨y, 12, none⟩ = some (.slice za n zc) ∧ w'.cell? ⟨y, 13, none⟩ = some (.slice zb m zd)) (go_keep) (fail)
    all_goals go_wp2_with fail
    all_goals go_meet
    all_goals refine ⟨_, _, rfl, rfl, ?_⟩
    all_goals first
      | exact two_new _ _ _
      | exact (two_new _ _ _).swap
      | exact two_old _ _ _
      | exact (two_old _ _ _).swap
  case rest =>
  obtain ⟨U1, U2, rfl, rfl, hT⟩ := hcut
  obtain ⟨wx, hwx⟩ : ∃ x, x = wc := ⟨_, rfl⟩
  subst hwx
  have HM5 := hid (HM4.out.keep hT.only)
  have HT5 := hid hT
  clear f0 f1 f2 f3 f4 f5 f6 f7 f8 f9 f10 f11 f12 f13
  obtain ⟨f0, f1, f2, f3, f4, f5, f6, f7, f8, f9, f10, f11, f12, f13⟩ := HPC.out _ HM5.out.only
  clear hT
  go_upto_region 10 with fail
  go_cut [24, 25] (fun vx vy wy => ∃ U3 U4 : Nat, vx = ptrV U3 ∧ vy = ptrV U4 ∧ Two13f wx wy U3 U4 (act13O n m ta oa za zb zc zd (a : Int) (i : Int) 0 false 0) (act13O n m ta oa za zb zc zd (b : Int) (j : Int) 0 false 0))
  case first =>
    go_region_held (fun w' => w'.cell? ⟨y, 0, none⟩ = some (.int .i64 0) ∧ w'.cell? ⟨y, 1, none⟩ = some (.int .i64 2) ∧ w'.cell? ⟨y, 2, none⟩ = some (.int .i64 4) ∧ w'.cell? ⟨y, 3, none⟩ = some (.int .i64 3) ∧ w'.cell? ⟨y, 4, none⟩ = some (.int .i64 5) ∧ w'.cell? ⟨y, 5, none⟩ = some (.int .i64 6) ∧ w'.cell? ⟨y, 6, none⟩ = some (.int .i64 8) ∧ w'.cell? ⟨y, 7, none⟩ = some (.int .i64 41) ∧ w'.cell? ⟨y, 8, none⟩ = some (.int .i64 43) ∧ w'.cell? ⟨y, 9, none⟩ = some (.slice ta n n) ∧ w'.cell? ⟨y, 10, none⟩ = some (.slice oa m m) ∧ w'.cell? ⟨y, 11, none⟩ = some (.int .i64 (43 + (m : Int) + (n : Int) * 24 + (m : Int) * 24)) ∧ w'.cell? ⟨y, 12, none⟩ = some (.slice za n zc) ∧ w'.cell? ⟨y, 13, none⟩ = some (.slice zb m zd)) (go_keep) (fail)
    all_goals go_wp2_with fail
    all_goals go_meet
    all_goals refine ⟨_, _, rfl, rfl, ?_⟩
    all_goals first
      | exact two_new _ _ _
      | exact (two_new _ _ _).swap
      | exact two_old _ _ _
      | exact (two_old _ _ _).swap
  case rest =>
  obtain ⟨U3, U4, rfl, rfl, hT⟩ := hcut
  obtain ⟨wy, hwy⟩ : ∃ x, x = wc := ⟨_, rfl⟩
  subst hwy
  have HM6 := hid (HM5.out.keep hT.only)
  have HT6 := hid hT
  clear f0 f1 f2 f3 f4 f5 f6 f7 f8 f9 f10 f11 f12 f13 hT
  -- where all of it lies
  have HW6 : Hid ((U1 ≠ g ∧ U1 ≠ r ∧ U2 ≠ g ∧ U2 ≠ r) ∧ (U3 ≠ g ∧ U3 ≠ r ∧ U4 ≠ g ∧ U4 ≠ r) ∧ (V.heap.size ≤ U1 ∧ V.heap.size ≤ U2 ∧ V.heap.size ≤ U3 ∧ V.heap.size ≤ U4) ∧ (U1 < wx.heap.size ∧ U2 < wx.heap.size ∧ wx.heap.size ≤ U3 ∧ wx.heap.size ≤ U4)) := by
    have a1 := lt_of_block HM4.out.mem.head
    have a2 := HM4.out.mem.row.lt
    have a3 := HT5.out.la
    have a4 := HT5.out.lb
    have a5 := HT6.out.la
    have a6 := HT6.out.lb
    have a7 := lt_of_block HT5.out.a
    have a8 := lt_of_block HT5.out.b
    have z1 := HM4.out.only.size
    refine ⟨⟨?_, ?_, ?_, ?_⟩, ⟨?_, ?_, ?_, ?_⟩, ⟨?_, ?_, ?_, ?_⟩, ?_, ?_, ?_, ?_⟩ <;> omega
  have HX1 : Hid (wy.heap[U1]? = some (act13O n m ta oa za zb zc zd (a : Int) (i : Int) v true 0)) := (HT6.out.only.block U1 (lt_of_block HT5.out.a) (fun h => h)).trans HT5.out.a
  have HX2 : Hid (wy.heap[U2]? = some (act13O n m ta oa za zb zc zd (b : Int) (j : Int) u true 0)) := (HT6.out.only.block U2 (lt_of_block HT5.out.b) (fun h => h)).trans HT5.out.b
  have HX3 := hid HT6.out.a
  have HX4 := hid HT6.out.b
  have HU34 := hid HT6.out.ab
  have HSZ := hid (And.intro HT6.out.only.size (lt_of_block HT6.out.a))
  have HR1 := hid (run_set13 HM6.out (a : Int) (i : Int) v 0 HX1.out HW6.out.2.2.1.1 HW6.out.1.1 HW6.out.1.2.1)
  go_wp2_with fail
  refine HR1.out.mono ?_
  rintro e w7 ⟨rfl, hm7, ho7⟩
  have HM7 := hid hm7
  have HO7 := hid ho7
  have HX72 : Hid (w7.heap[U2]? = some (act13O n m ta oa za zb zc zd (b : Int) (j : Int) u true 0)) := (ho7.block U2 (lt_of_block HX2.out) HW6.out.1.2.2.2).trans HX2.out
  have HX73 : Hid (w7.heap[U3]? = some (act13O n m ta oa za zb zc zd (a : Int) (i : Int) 0 false 0)) := (ho7.block U3 (lt_of_block HX3.out) HW6.out.2.1.2.1).trans HX3.out
  have HX74 : Hid (w7.heap[U4]? = some (act13O n m ta oa za zb zc zd (b : Int) (j : Int) 0 false 0)) := (ho7.block U4 (lt_of_block HX4.out) HW6.out.2.1.2.2.2).trans HX4.out
  clear hm7 ho7 HR1
  have HR2 := hid (run_set13 HM7.out (b : Int) (j : Int) u 0 HX72.out HW6.out.2.2.1.2.1 HW6.out.1.2.2.1 HW6.out.1.2.2.2)
  go_wp2_with fail
  refine HR2.out.mono ?_
  rintro e w8 ⟨rfl, hm8', ho8⟩
  have HM8 := hid hm8'
  have HX83 : Hid (w8.heap[U3]? = some (act13O n m ta oa za zb zc zd (a : Int) (i : Int) 0 false 0)) := (ho8.block U3 (lt_of_block HX73.out) HW6.out.2.1.2.1).trans HX73.out
  have HX84 : Hid (w8.heap[U4]? = some (act13O n m ta oa za zb zc zd (b : Int) (j : Int) 0 false 0)) := (ho8.block U4 (lt_of_block HX74.out) HW6.out.2.1.2.2.2).trans HX74.out
  clear hm8' ho8 HR2
  have HR3 := hid (run_get13 HM8.out (a : Int) (i : Int) 0 0 HX83.out HW6.out.2.2.1.2.2.1 HW6.out.2.1.1 HW6.out.2.1.2.1)
  go_wp2_with fail
  refine HR3.out.mono ?_
  rintro e w9 ⟨rfl, hm9, hx9, ho9⟩
  have HM9 := hid hm9
  have HX93 := hid hx9
  have HX94 : Hid (w9.heap[U4]? = some (act13O n m ta oa za zb zc zd (b : Int) (j : Int) 0 false 0)) := (ho9.block U4 (lt_of_block HX84.out) (fun e => by
    rcases e with e | e
    · exact HW6.out.2.1.2.2.2 e
    · exact HU34.out e.symm)).trans HX84.out
  clear hm9 hx9 ho9 HR3
  have HR4 := hid (run_get13 HM9.out (b : Int) (j : Int) 0 0 HX94.out HW6.out.2.2.1.2.2.2 HW6.out.2.1.2.2.1 HW6.out.2.1.2.2.2)
  go_wp2_with fail
  refine HR4.out.mono ?_
  rintro e w10 ⟨rfl, hm10, hx10, ho10⟩
  have hx3 := (ho10.block U3 (lt_of_block HX93.out) (fun e => by
    rcases e with e | e
    · exact HW6.out.2.1.2.1 e
    · exact HU34.out e)).trans HX93.out
  have HFA := fieldV_in (n := n) (m := m) (t := (a : Int)) (f := (i : Int)) (by omega) (by omega) (by omega) (by omega)
  have HFB := fieldV_in (n := n) (m := m) (t := (b : Int)) (f := (j : Int)) (by omega) (by omega) (by omega) (by omega)
  have hl := HLEN.out
  rw [get_ans, set_aft, set_aft, HFA, HFB, if_neg (by omega), if_neg (by omega), if_neg (by omega)] at hx3
  rw [get_ans, set_aft, set_aft, HFA, HFB, if_neg (by omega), if_neg (by omega), if_neg (by omega)] at hx10
  rw [val_set (by omega) (by rw [length_setA]; omega)] at hx3 hx10
  rw [val_set (by omega) (by omega)] at hx3 hx10
  have g4 : w10.cell? ⟨U4, 18, none⟩ = some (.int .i64 u) := by
    have h9 := cell_of_block hx10 18
    rw [if_pos rfl] at h9
    exact h9
  have hself : (u == u) = true := beq_self_eq_true u
  have hself2 : (v == v) = true := beq_self_eq_true v
  have HEND : Hid (Only (fun _ => False) V w10) := hm10.only
  clear hm10 hx10 ho10 HFA HFB hl
  by_cases hab : a = b ∧ i = j
  · have b1 : ((a : Int) == (b : Int)) = true := beq_iff_eq.2 (by omega)
    have b2 : ((i : Int) == (j : Int)) = true := beq_iff_eq.2 (by omega)
    have g3 : w10.cell? ⟨U3, 18, none⟩ = some (.int .i64 u) := by
      have h9 := cell_of_block hx3 18
      rw [if_pos (by omega)] at h9
      exact h9
    clear hx3 hab
    go_wp2_with fail
    go_ret
    exact ⟨rfl, (HO.out.chain (HOV.out.chain HEND.out (fun _ _ h => h)) (fun _ _ h => h)).below (Nat.le_refl _) (fun _ _ h => h)⟩
  · have g3 : w10.cell? ⟨U3, 18, none⟩ = some (.int .i64 v) := by
      have h9 := cell_of_block hx3 18
      rw [if_neg (by omega), if_pos rfl] at h9
      exact h9
    clear hx3
    by_cases hab1 : a = b
    · have b1 : ((a : Int) == (b : Int)) = true := beq_iff_eq.2 (by omega)
      have b2 : ((i : Int) == (j : Int)) = false := beq_eq_false_iff_ne.2 (by omega)
      clear hab hab1
      go_wp2_with fail
      go_ret
      exact ⟨rfl, (HO.out.chain (HOV.out.chain HEND.out (fun _ _ h => h)) (fun _ _ h => h)).below (Nat.le_refl _) (fun _ _ h => h)⟩
    · have b1 : ((a : Int) == (b : Int)) = false := beq_eq_false_iff_ne.2 (by omega)
      clear hab hab1
      go_wp2_with fail
      go_ret
      exact ⟨rfl, (HO.out.chain (HOV.out.chain HEND.out (fun _ _ h => h)) (fun _ _ h => h)).below (Nat.le_refl _) (fun _ _ h => h)⟩
end Go.Proofs.Ytabdlbmdbceemaa.threadFields
namespace Go.Proofs.Ytabdlbmdbceemaa.threadFields
open Go.Sept Go.RowKit Go.ChangeShapes Go.WideShapes Go.ChangeAt Go.Joins Go.Deep

set_option maxRecDepth 100000 in
theorem lifted (os : Os) (started : os.Started) (H : Type) (enc : TypeId × Value → H) :
    ReturnsInHanded {} Try.checked os 4 .any (Rows.threadFieldsSpec.pre6 enc Try.prog Try.f4 Rows.threadFieldsRow.domain false) (Rows.threadFieldsSpec.post enc Try.prog Try.f4 false true false false) := by
  refine returnsInHanded_of_change (C := Try.checked) own started (by kernel_rfl) Try.func4
    (ChangeSpec.witness6 (enc := enc) (C := Try.checked) false ⟨#[], #[.agg #[.slice none 0 0, .slice none 0 0], .int .u8 0, .int .u8 0, .int .u8 0, .int .u8 0, .int .i64 0, .int .i64 0], []⟩ 8 (by kernel_rfl) (by kernel_rfl) (by kernel_rfl) (by kernel_rfl)) ?_
  intro W base args ds gs before hval0 hW hcnd _
  have hval : ∀ (j : Nat) t v, Try.f4.params[j]? = some t → args[j]? = some v → Value.okWide Try.prog W .any base t v := hval0
  have hW' := hW
  obtain ⟨p, q, hA0, hV, rfl, hfz, hnd⟩ := hW
  have hA : DataW.TrodAll enc Try.prog W 0 (fun _ => true) true Try.f4.params.toList args.toList ds p := hA0
  rw [Try.params4] at hA hval
  obtain ⟨v0, vs0, d0, ds0, p0, q0, hargs, rfl, rfl, h0, r0⟩ := trodAll_cons hA
  obtain ⟨v1, vs1, d1, ds1, p1, q1, rfl, rfl, rfl, h1, r1⟩ := trodAll_cons r0
  obtain ⟨v2, vs2, d2, ds2, p2, q2, rfl, rfl, rfl, h2, r2⟩ := trodAll_cons r1
  obtain ⟨v3, vs3, d3, ds3, p3, q3, rfl, rfl, rfl, h3, r3⟩ := trodAll_cons r2
  obtain ⟨v4, vs4, d4, ds4, p4, q4, rfl, rfl, rfl, h4, r4⟩ := trodAll_cons r3
  obtain ⟨v5, vs5, d5, ds5, p5, q5, rfl, rfl, rfl, h5, r5⟩ := trodAll_cons r4
  obtain ⟨v6, vs6, d6, ds6, p6, q6, rfl, rfl, rfl, h6, r6⟩ := trodAll_cons r5
  obtain ⟨rfl, rfl, rfl⟩ := trodAll_nil r6
  obtain rfl : args = #[v0, v1, v2, v3, v4, v5, v6] := by cases args; simp_all
  obtain ⟨x0, x1, c, rfl, hc⟩ := open_pt (hval 0 25 v0 rfl rfl) h0
  obtain ⟨a1, rfl, rfl, rfl, w1⟩ := open_int Try.underlying5 (hval 1 5 v1 rfl rfl) h1
  obtain ⟨a2, rfl, rfl, rfl, w2⟩ := open_int Try.underlying5 (hval 2 5 v2 rfl rfl) h2
  obtain ⟨a3, rfl, rfl, rfl, w3⟩ := open_int Try.underlying5 (hval 3 5 v3 rfl rfl) h3
  obtain ⟨a4, rfl, rfl, rfl, w4⟩ := open_int Try.underlying5 (hval 4 5 v4 rfl rfl) h4
  obtain ⟨a5, rfl, rfl, rfl, w5⟩ := open_int Try.underlying2 (hval 5 2 v5 rfl rfl) h5
  obtain ⟨a6, rfl, rfl, rfl, w6⟩ := open_int Try.underlying2 (hval 6 2 v6 rfl rfl) h6
  refine (walk W x0 x1 c hc a1 a2 a3 a4 a5 a6 (bounds_u8 w1) (bounds_u8 w2) (bounds_u8 w3) (bounds_u8 w4)).mono fun e W' ⟨he, hg⟩ => ?_
  subst he
  exact ⟨_, rfl, post_law 7 4 laidOut (by kernel_rfl) rfl rfl rfl Try.underlying4 (fun l hl => by match l, hl with | [_, _, _, _, _, _, _], _ => rfl) hW' hg⟩

theorem over : Rows.threadFieldsRow.holds Try.pinned (OpenSpec.ofChange Rows.threadFieldsSpec) :=
  OpenClaim.holds_of_wide 4 Try.f4 rfl rfl rfl rfl rfl rfl rfl ⟨rfl, rfl, rfl, rfl, rfl⟩ rfl rfl rfl rfl rfl (by kernel_rfl) Try.func4 (by kernel_rfl)
    (of_decide_eq_true (by kernel_rfl)) (by unfold Func.isWrapper; first | (rw [if_pos (by decide +kernel)]; kernel_rfl) | (rw [if_neg (by decide +kernel)]; exact ⟨rfl, rfl⟩))
    (fun os started H enc _ => lifted os started H enc)

theorem proved : Rows.ThreadFieldsSaid := over
#print axioms proved
end Go.Proofs.Ytabdlbmdbceemaa.threadFields

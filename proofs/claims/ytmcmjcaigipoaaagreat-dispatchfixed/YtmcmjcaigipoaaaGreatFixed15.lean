/-
  DispatchFixed: A thread that is HELD keeps its core, however urgent others become. Conditions: none.
-/
import Derived.Test.YtmcmjcaigipoaaaGreatLaw15
import Derived.Deep.RegionHeld
import Derived.BigQuiet
namespace Go.Proofs.YtmcmjcaigipoaaaGreat.dispatchFixed
open Go.Sept Go.RowKit

/-- The model has done an op; what threads have stands otherwise in memory. -/
theorem mdl_mem {R : Nat → Option Value} {V w w' : World} {L M b cap : Nat} {n m g r : Nat} {ta oa za zb : Option Addr} {zc zd : Nat} {s : Sim14} {hd0 hd : Nat → Nat} {a c : Int} {xs : List Int} (h : Mdl15 R V L w n g r M b cap s hd0) (hm : Mem15 V w (planCs n m ta oa (.slice za n zc) (.slice zb m zd)) n m g r s hd a c xs) (ho : Only (fun k => k = M ∨ k = b) w w') : Mem15 V w' (planCs n m ta oa (.slice za n zc) (.slice zb m zd)) n m g r s hd a c xs := by
  have a1 := h.gL
  have a2 := h.rL
  have a3 := h.vL
  have a4 := h.lM
  have a5 := h.mb
  exact ⟨⟨hm.mid.th.only ho (fun k hk e => by omega), hm.mid.mem.only ho (fun e => by omega) (fun e => by omega), hm.mid.hg, hm.mid.hr, hm.mid.pos, hm.mid.only.chain ho (fun i hi e => by omega)⟩, hm.ok, hm.raw, hm.ra, hm.rc, hm.ac⟩
set_option maxRecDepth 100000 in
set_option maxHeartbeats 20000000 in
theorem walk (w : World) (v0 v1 : Value) (p : Pt) (h : PtIs (fun k => k < w.heap.size) w v0 v1 p) (sa : Option Addr) (ls sc : Nat) (ops : List Op15) (hops : SlOf (fun k => k < w.heap.size) 5 opE15 w (.slice sa ls sc) ops) (core : Int) (held : Int) (hcore : 0 ≤ core ∧ core ≤ 255) (hheld : 0 ≤ held ∧ held ≤ 255) :
    Calls Tryz.prog 5 #[.agg #[v0, v1], .slice sa ls sc, .int .u8 core, .int .u8 held] w fun e w' => e = .returned (.bool true) ∧ Below w.heap.size w w' := by
  obtain ⟨xa, xc, rfl, xm⟩ := h.1.shape
  obtain ⟨ya, yc, rfl, ym⟩ := h.2.shape
  obtain ⟨hsl, hsc, hscm⟩ := hops.room
  have HSL := hid hsl
  have HOPS := hid hops
  clear hsl hops
  obtain ⟨n, hn⟩ : ∃ n, p.ths.length = n := ⟨_, rfl⟩
  obtain ⟨m, hm⟩ : ∃ m, p.obs.length = m := ⟨_, rfl⟩
  have HN := hid hn
  have HM := hid hm
  rw [hn] at h xm ⊢
  rw [hm] at h ym ⊢
  clear hn hm
  have hW : ∃ W z, W = w.alloc (ptO (.slice xa n xc) (.slice ya m yc)) ∧ z = w.heap.size ∧ Only (fun _ => False) w W ∧ W.heap[z]? = some (ptO (.slice xa n xc) (.slice ya m yc)) := ⟨_, _, rfl, rfl, (Only.refl _ _).alloc _, heap_new _ _⟩
  obtain ⟨W, z, hWe, hze, hoW, hbz⟩ := hW
  have HC := hid (h.only hoW (fun _ _ h => h))
  have HO := hid hoW
  have HB := hid hbz
  have HCELL : Hid (∀ w', Only (fun _ => False) W w' → w'.cell? ⟨z, 0, none⟩ = some (.slice xa n xc) ∧ w'.cell? ⟨z, 1, none⟩ = some (.slice ya m yc)) := fun w' ho => by
    have h9 := (ho.block z (lt_of_block hbz) (fun h => h)).trans hbz
    exact ⟨cell_of_block h9 0, cell_of_block h9 1⟩
  clear hoW hbz h
  simp only [ptO] at hWe
  go_enter Tryz.func5, Tryz.ntmps5
  go_upto_region 1 with fail
  rw [← hWe, ← hze]
  clear hWe hze
  go_wp2_with fail
  refine (awake15_any _).mono ?_
  rintro e w1 ⟨rfl, ho1⟩
  obtain ⟨c0, c1⟩ := HCELL.out w1 ho1
  have HO1 := hid ho1
  clear ho1
  go_wp2_with fail
  refine (fewPart2_any _ _ _ p (HC.out.only HO1.out (fun _ _ h => h))).mono ?_
  rintro e w2 ⟨⟨b, rfl, hb⟩, ho2⟩
  have HO2 := hid (HO1.out.chain ho2 (fun _ _ h => h))
  clear ho2 c0 c1 HO1
  cases b
  · clear hb
    go_wp2_with fail
    refine (awake15_any _).mono ?_
    rintro e w9 ⟨rfl, ho9⟩
    have HO9 := hid (HO.out.chain (HO2.out.chain ho9 (fun _ _ h => h)) (fun _ _ h => h))
    clear ho9
    go_wp2_with fail
    go_ret
    exact ⟨rfl, HO9.out.below (Nat.le_refl _) (fun _ _ h => h)⟩
  have HS := hid (hb rfl)
  clear hb
  by_cases hlmost : (40 : Int) < (ls : Int)
  · clear HS
    go_wp2_with fail
    refine (awake15_any _).mono ?_
    rintro e w9 ⟨rfl, ho9⟩
    have HO9 := hid (HO.out.chain (HO2.out.chain ho9 (fun _ _ h => h)) (fun _ _ h => h))
    clear ho9
    go_wp2_with fail
    go_ret
    exact ⟨rfl, HO9.out.below (Nat.le_refl _) (fun _ _ h => h)⟩
  have HC2 := hid (HC.out.only HO2.out (fun _ _ h => h))
  obtain ⟨c0, c1⟩ := HCELL.out w2 HO2.out
  go_wp2_with fail
  refine (of_rel _ _ _ p HC2.out HS.out).mono ?_
  rintro e w3 ⟨hof, ho3⟩
  have HO3 := hid (HO2.out.chain ho3 (fun _ _ h => h))
  clear ho3 c0 c1 HO2 HC2
  rcases hof with ⟨hne, rfl⟩ | ⟨heq, cs, rfl, hpl⟩
  · clear hne
    go_wp2_with fail
    go_ret
    exact ⟨rfl, (HO.out.chain (HO3.out.alloc _) (fun _ _ h => h)).below (Nat.le_refl _) (fun _ _ h => h)⟩
  have hth := ThIs.of hpl heq
  obtain ⟨⟨hsn1, hsn⟩, hsm, hths, hobs⟩ := part_parts heq
  have hplL := hpl
  obtain ⟨ta, oa, za, zc, zb, zd, rfl⟩ := hpl.shape
  clear hpl
  rw [HN.out, HM.out] at hplL hth ⊢
  rw [HN.out] at hsn hsn1
  rw [HM.out] at hsm
  have HPL := hid hplL
  have HEQ := hid heq
  have HSZ : Hid (∀ x ∈ p.obs, x.kind = 4 → 0 ≤ x.size ∧ x.size ≤ 1000) := fun x hx hk => by
    have h8 := of_decide_eq_true (List.all_eq_true.1 hobs x hx)
    omega
  have HPR : Hid (∀ x ∈ p.ths, 0 ≤ x.prio ∧ x.prio ≤ 15) := fun x hx => by
    have h8 := of_decide_eq_true (List.all_eq_true.1 hths x hx)
    exact ⟨h8.1, h8.2.1⟩
  have HV : ∃ V y, V = w3.alloc (plO (planCs n m ta oa (.slice za n zc) (.slice zb m zd))) ∧ y = w3.heap.size ∧ Only (fun _ => False) w3 V ∧ V.heap[y]? = some (plO (planCs n m ta oa (.slice za n zc) (.slice zb m zd))) := ⟨_, _, rfl, rfl, (Only.refl _ _).alloc _, heap_new _ _⟩
  obtain ⟨V, y, hVe, hye, hoV, hby⟩ := HV
  have HOV := hid (HO3.out.chain hoV (fun _ _ h => h))
  have HBY := hid hby
  have HTH := hid (hth.only hoV (fun _ _ h => h))
  have HN6 : Hid (n ≤ 6) := hth.1
  have HBT : Hid (∀ wx, Only (fun _ => False) V wx → Calls Tryz.prog 9 #[.agg (planCs n m ta oa (.slice za n zc) (.slice zb m zd))] wx fun e w' => ∃ g r, e = .returned (.pointer (some ⟨g, 0, none⟩)) ∧ MemIs 130 w' g r (bootX 16 [3, 5] p n m) ∧ (wx.heap.size ≤ g ∧ wx.heap.size ≤ r) ∧ Only (fun _ => False) wx w') := fun wx ho => by
    have h9 := boot_rel wx _ p (HPL.out.only (hoV.chain ho (fun _ _ h => h)) (fun _ _ h => h)) HEQ.out
    rw [HN.out, HM.out] at h9
    exact h9
  have HNW : Hid (∀ wx, Only (fun _ => False) V wx → Calls Tryz.prog 10 #[.agg #[.slice xa n xc, .slice ya m yc]] wx fun e w' => ∃ M b cap R, e = .returned (.pointer (some ⟨M, 0, none⟩)) ∧ wx.heap.size ≤ M ∧ M < b ∧ Mods R wx.heap.size w' M b n cap (sim0 p) ∧ Held15 R n (fun _ => 0) ∧ Only (fun _ => False) wx w') := fun wx ho => by
    have hoW : Only (fun _ => False) W wx := HOV.out.chain ho (fun _ _ h => h)
    refine (new13x wx _ _ p (HC.out.only hoW (fun _ _ h => h)) (fun k hk => Nat.lt_of_lt_of_le hk (Nat.le_trans HO.out.size hoW.size)) HSZ.out (fun x hx => by have := HPR.out x hx; omega) ⟨by rw [HN.out]; omega, by rw [HM.out]; omega⟩).mono ?_
    rintro e w' ⟨hnew, ho9⟩
    obtain ⟨M, b, cap, R, k1, k2, k3, k4, k5⟩ := mod14_new hnew (by rw [HN.out]; omega) (by rw [HN.out]; omega) HPR.out
    have k6 := held15_new k5
    rw [HN.out] at k4 k6
    exact ⟨M, b, cap, R, k1, k2, k3, k4, k6, ho9⟩
  obtain ⟨YS, hYS⟩ : ∃ YS, bootX 16 [3, 5] p n m = YS := ⟨_, rfl⟩
  have hlen := length_bootX 16 [3, 5] p n m
  have HYS := hid hYS
  rw [hYS] at HBT hlen
  have HLEN : Hid (0 < YS.length) := by show 0 < _; omega
  have HPC : Hid (∀ wx, Only (fun _ => False) V wx → PlC14 wx y n m ta oa (.slice za n zc) (.slice zb m zd)) := fun wx ho => plan_cells ((ho.block y (lt_of_block HBY.out) (fun h => h)).trans HBY.out)
  have HEND : Hid (∀ w9, Only (fun _ => False) V w9 → Below w.heap.size w w9) := fun w9 ho => (HO.out.chain (HOV.out.chain ho (fun _ _ h => h)) (fun _ _ h => h)).below (Nat.le_refl _) (fun _ _ h => h)
  obtain ⟨f0, f1, f2, f3, f4, f5, f6, f7, f8, f9, f10, f11, f12, f13⟩ := plan_cells hby
  obtain ⟨c0, c1⟩ := HCELL.out V HOV.out
  clear hoV hby heq hths hobs hplL hth hYS hlen HO3
  go_upto_region 4 with fail
  rw [← hVe, ← hye]
  clear hVe hye
  go_upto_region 6 with fail
  go_cut [11, 12] (fun vg vM wc => ∃ g r M b cap L R, vg = .pointer (some ⟨g, 0, none⟩) ∧ vM = .pointer (some ⟨M, 0, none⟩) ∧ Mem15 V wc (planCs n m ta oa (.slice za n zc) (.slice zb m zd)) n m g r (sim0 p) (fun _ => 0) (core0 p) (core1 p) YS ∧ Mdl15 R V L wc n g r M b cap (sim0 p) (fun _ => 0))
  case first =>
    go_region_held (fun w' => w'.cell? ⟨y, 0, none⟩ = some (.int .i64 0) ∧ w'.cell? ⟨y, 1, none⟩ = some (.int .i64 2) ∧ w'.cell? ⟨y, 2, none⟩ = some (.int .i64 4) ∧ w'.cell? ⟨y, 3, none⟩ = some (.int .i64 3) ∧ w'.cell? ⟨y, 4, none⟩ = some (.int .i64 5) ∧ w'.cell? ⟨y, 5, none⟩ = some (.int .i64 6) ∧ w'.cell? ⟨y, 6, none⟩ = some (.int .i64 8) ∧ w'.cell? ⟨y, 7, none⟩ = some (.int .i64 41) ∧ w'.cell? ⟨y, 8, none⟩ = some (.int .i64 43) ∧ w'.cell? ⟨y, 9, none⟩ = some (.slice ta n n) ∧ w'.cell? ⟨y, 10, none⟩ = some (.slice oa m m) ∧ w'.cell? ⟨y, 11, none⟩ = some (.int .i64 (43 + (m : Int) + (n : Int) * 24 + (m : Int) * 24)) ∧ w'.cell? ⟨y, 12, none⟩ = some (.slice za n zc) ∧ w'.cell? ⟨y, 13, none⟩ = some (.slice zb m zd) ∧ w'.cell? ⟨z, 0, none⟩ = some (.slice xa n xc) ∧ w'.cell? ⟨z, 1, none⟩ = some (.slice ya m yc)) (go_keep)
      (first
        | (go_at_call 9; refine (HBT.out _ ((Only.refl _ _).drew)).mono ?_; rintro e w4 ⟨g, r, rfl, hmem, ⟨hg, hr⟩, ho4⟩
           have ho4' : Only (fun _ => False) V w4 := ((Only.refl (fun _ => False) V).drew).chain ho4 (fun _ _ h => h)
           have HO4 := hid ho4'
           have hg' : V.heap.size ≤ g := hg
           have hr' : V.heap.size ≤ r := hr
           have HMID : Hid (Mid13 V w4 (planCs n m ta oa (.slice za n zc) (.slice zb m zd)) n m g r YS) := ⟨HTH.out.low.only ho4' (fun _ _ h => h), hmem, hg', hr', HLEN.out, ho4'⟩
           have HME := hid (boot_mem15 HEQ.out HN.out HM.out HPR.out HYS.out HMID.out)
           obtain ⟨f0, f1, f2, f3, f4, f5, f6, f7, f8, f9, f10, f11, f12, f13⟩ := HPC.out w4 ho4'
           obtain ⟨c0, c1⟩ := HCELL.out w4 (HOV.out.chain ho4' (fun _ _ h => h))
           clear hmem hg hr ho4 ho4' hg' hr' HBT)
        | (go_at_call 10; refine (HNW.out w4 HO4.out).mono ?_; rintro e w5 ⟨M, b, cap, R, rfl, hM, hMb, hmod, hheld, ho5⟩
           have HO5 := hid (HO4.out.chain ho5 (fun _ _ h => h))
           have HM5 := hid (HME.out.keep ho5)
           have HD5 : Hid (Mdl15 R V w4.heap.size w5 n g r M b cap (sim0 p) (fun _ => 0)) := ⟨hmod, hheld, lt_of_block HMID.out.mem.head, HMID.out.mem.row.lt, HO4.out.size, hM, hMb, ho5.size⟩
           obtain ⟨f0, f1, f2, f3, f4, f5, f6, f7, f8, f9, f10, f11, f12, f13⟩ := HPC.out w5 HO5.out
           obtain ⟨c0, c1⟩ := HCELL.out w5 (HOV.out.chain HO5.out (fun _ _ h => h))
           clear hM hMb hmod hheld ho5 HMID HME HNW))
    all_goals go_wp2_with fail
    all_goals go_meet
    all_goals exact ⟨g, r, M, b, cap, w4.heap.size, R, rfl, rfl, HM5.out, HD5.out⟩
  case rest =>
  obtain ⟨g, r, M, b, cap, L, R, rfl, rfl, hme, hmd⟩ := hcut
  have HME := hid hme
  have HMD := hid hmd
  have hmf : ∀ (fn : Fn) (first cap : Array Value) (w : World), (Instr.makeFunc fn first cap).run Tryz.prog w = .ok (.func fn first cap) w := fun _ _ _ _ => rfl
  clear f0 f1 f2 f3 f4 f5 f6 f7 f8 f9 f10 f11 f12 f13 c0 c1 hme hmd HBT HNW HPL HEQ HSZ HPR HLEN HYS HTH
  obtain ⟨w5, hw5⟩ : ∃ x, x = wc := ⟨_, rfl⟩
  subst hw5
  obtain ⟨kk, hci⟩ : ∃ kk : Nat, core % 2 = (kk : Int) := ⟨(core % 2).toNat, by omega⟩
  have HCI := hid hci
  have hkk : kk < 2 := by omega
  have HK2 := hid hkk
  clear hci hkk
  go_upto_region 7 with fail
  go_cut [13] (fun v wd => v = .int .i64 (kk : Int) ∧ wd = w5)
  case first =>
    go_wp2_with fail
    go_meet
    exact ⟨by rw [HCI.out], rfl⟩
  case rest =>
  obtain ⟨rfl, rfl⟩ := hcut
  obtain ⟨f0, f1, f2, f3, f4, f5, f6, f7, f8, f9, f10, f11, f12, f13⟩ := HPC.out wc HME.out.mid.only
  go_wp2_with fail
  refine (mem_seen15 HME.out).mono ?_
  rintro e w6 ⟨U6, q0, q1, rfl, _, hm6, hb6, ho6⟩
  have HD6 := hid (HMD.out.ran1 ho6)
  have HST6 : Hid ((sim0 p).st = fun _ => 0) := rfl
  obtain ⟨s6, hs6⟩ : ∃ s6, sim0 p = s6 := ⟨_, rfl⟩
  obtain ⟨a, ha⟩ : ∃ a, core0 p = a := ⟨_, rfl⟩
  obtain ⟨c, hc⟩ : ∃ c, core1 p = c := ⟨_, rfl⟩
  rw [hs6] at hm6 HD6 HST6
  rw [ha, hc] at hm6 hb6
  clear hs6 ha hc HME HMD ho6 f0 f1 f2 f3 f4 f5 f6 f7 f8 f9 f10 f11 f12 f13
  obtain ⟨g14, g16⟩ := look_at15 hb6 HK2.out
  have hkk : kk < 2 := HK2.out
  by_cases h0 : 0 ≤ whoK kk a c
  rotate_left
  · rw [decide_eq_false h0] at g16
    have HF := hid (HEND.out _ hm6.mid.only)
    clear hm6 hb6 h0
    go_wp2_with fail
    go_ret
    exact ⟨rfl, HF.out⟩
  obtain ⟨tn, htw⟩ : ∃ tn : Nat, whoK kk a c = (tn : Int) := ⟨(whoK kk a c).toNat, by omega⟩
  rw [decide_eq_true h0] at g16
  rw [if_pos h0, htw] at g14
  have HWK7 := hid htw
  have htn : tn < n := by
    have q1 := hm6.ra
    have q2 := hm6.rc
    unfold whoK at htw
    split at htw <;> omega
  clear h0 htw
  have hX : ∃ X U, X = w6.alloc (act15O n m ta oa za zb zc zd 4 (tn : Int) 0 false (1 + held % 3) (0, false)) ∧ U = w6.heap.size ∧ Only (fun _ => False) w6 X ∧ X.heap[U]? = some (act15O n m ta oa za zb zc zd 4 (tn : Int) 0 false (1 + held % 3) (0, false)) := ⟨_, _, rfl, rfl, (Only.refl _ _).alloc _, heap_new _ _⟩
  obtain ⟨X, U, hXe, hUe, hoX, hbU⟩ := hX
  have hUg : U ≠ g ∧ U ≠ r := by
    have e2 := lt_of_block hm6.mid.mem.head
    have e3 := hm6.mid.mem.row.lt
    exact ⟨by omega, by omega⟩
  obtain ⟨HDF, hHDF⟩ : ∃ HDF, updF (fun _ => 0) tn (((1 + held % 3) : Int) % 4).toNat = HDF := ⟨_, rfl⟩
  have hdo : doM15 n s6 (fun _ => 0) ⟨4, (tn : Int), 0, false, (1 + held % 3)⟩ = (true, s6, HDF) := by
    rw [← hHDF]
    simp [doM15]
    omega
  have hrun := mem_op15 (hm6.keep hoX) ⟨4, (tn : Int), 0, false, (1 + held % 3)⟩ (show (0 : Int) ≤ 4 by decide) (show (4 : Int) ≤ 4 by decide) (show (0 : Int) ≤ (1 + held % 3) by omega) (by rw [hdo]) (0, false) hbU hUg.1 hUg.2
  rw [hdo] at hrun
  have HRUN := hid hrun
  have HD6X := hid (HD6.out.still hoX)
  have HFXA : Hid (∀ s : Sim14, s.st tn = 0 → fxM n s HDF (tn : Int) = true) := fun s h => by
    have e9 : HDF tn = (((1 + held % 3) : Int) % 4).toNat := by rw [← hHDF]; exact if_pos rfl
    rw [fxM_in htn, h, e9, decide_eq_true rfl, Bool.true_and]
    exact decide_eq_true (by omega)
  obtain ⟨f0, f1, f2, f3, f4, f5, f6, f7, f8, f9, f10, f11, f12, f13⟩ := HPC.out w6 hm6.mid.only
  clear hm6 hb6 hoX hbU hUg hHDF hdo hrun HD6
  simp only [act15O] at hXe
  go_upto_region 13 with fail
  rw [← hXe, ← hUe]
  clear hXe hUe f0 f1 f2 f3 f4 f5 f6 f7 f8 f9 f10 f11 f12 f13 g14 g16
  go_wp2_with fail
  refine HRUN.out.mono ?_
  rintro e w7 ⟨rfl, ⟨xs7, hm7⟩, ho7⟩
  have HM7 := hid hm7
  have HD7 := hid (HD6X.out.ran1 ho7)
  have HST7 : Hid (s6.st tn = 0) := by
    show s6.st tn = 0
    rw [HST6.out]
  clear hm7 ho7 HRUN HST6 HD6X
  have hls : (ls : Int) ≤ 40 := by omega
  go_wp2_with fail
  go_loopw [84] (fun i wx => ∃ (j : Nat) (s : Sim14) (a c : Int) (xs : List Int) (R : Nat → Option Value), i = .int .i64 (j : Int) ∧ j ≤ ls ∧ Mem15 V wx (planCs n m ta oa (.slice za n zc) (.slice zb m zd)) n m g r s HDF a c xs ∧ Mdl15 R V L wx n g r M b cap s (fun _ => 0) ∧ s.st tn = 0 ∧ whoK kk a c = (tn : Int)) (fun i _ => ls - (intOf i).toNat)
  case atStart => exact ⟨0, _, _, _, _, _, rfl, Nat.zero_le _, HM7.out, HD7.out, HST7.out, HWK7.out⟩
  case round =>
  clear HM7 HD7 HST7 HWK7 R a c
  obtain ⟨j, s, a, c, xs, R, rfl, hj, hme, hmd, hst0, hwk⟩ := hrel
  have HWK := hid hwk
  have HME := hid hme
  have HMD := hid hmd
  have HST0 := hid hst0
  clear hme hmd hst0 hwk
  by_cases hlt : (j : Int) < (ls : Int)
  rotate_left
  · have HF := hid (HEND.out _ HME.out.mid.only)
    go_wp2_with fail
    go_ret
    exact ⟨rfl, HF.out⟩
  have HST : Hid (∃ o bs os, sa = some ⟨bs, os, none⟩ ∧ ∀ wx, Only (fun _ => False) V wx → opE15 wx bs (os + j * 5) o) := by
    obtain ⟨bs, os, h1, hlo, o, ho, hE⟩ := HOPS.out.get j (by rw [HSL.out]; omega)
    refine ⟨o, bs, os, h1, fun wx hx => ?_⟩
    exact stay_op15 (P := fun k => k < w.heap.size) (HO.out.chain (HOV.out.chain hx (fun _ _ h => h)) (fun _ _ h => h)) (fun _ _ h => h) _ _ _ hlo hE
  obtain ⟨o, bs, os, rfl, hst⟩ := HST.out
  obtain ⟨⟨d0, d1, d2, d3, d4⟩, hok, hon⟩ := hst wr HME.out.mid.only
  unfold Cel at d0 d1 d2 d3 d4
  have HOK := hid hok
  have HON := hid hon
  clear hst HST hon
  have hY : ∃ Y O, Y = wr.alloc (op15O o) ∧ O = wr.heap.size ∧ Only (fun _ => False) wr Y ∧ Y.heap[O]? = some (op15O o) := ⟨_, _, rfl, rfl, (Only.refl _ _).alloc _, heap_new _ _⟩
  obtain ⟨Y, O, hYe, hOe, hoY, hbO⟩ := hY
  have HMY := hid (HME.out.keep hoY)
  have HDY := hid (HMD.out.still hoY)
  have HBO := hid hbO
  have HWO : Hid (wr.heap.size ≤ O) := Nat.le_of_eq hOe.symm
  have HLO := hid HMD.out.low
  have HCO : Hid (∀ wx : World, wx.heap[O]? = some (op15O o) → wx.cell? ⟨O, 0, none⟩ = some (.int .u8 o.k) ∧ wx.cell? ⟨O, 1, none⟩ = some (.int .i64 o.t) ∧ wx.cell? ⟨O, 2, none⟩ = some (.int .i64 o.p) ∧ wx.cell? ⟨O, 3, none⟩ = some (.bool o.f) ∧ wx.cell? ⟨O, 4, none⟩ = some (.int .u8 o.n)) := fun wx h => ⟨cell_of_block h 0, cell_of_block h 1, cell_of_block h 2, cell_of_block h 3, cell_of_block h 4⟩
  obtain ⟨e0, e1, e2, e3, e4⟩ := HCO.out Y hbO
  simp only [op15O] at hYe
  clear hoY hbO
  go_upto_region 18 with fail
  rw [← hYe, ← hOe]
  clear hYe hOe d0 d1 d2 d3 d4 HME HMD
  go_cut [130] (fun v wd => (v = .bool true ∧ (∃ R', Mem15 V wd (planCs n m ta oa (.slice za n zc) (.slice zb m zd)) n m g r s HDF a c xs ∧ Mdl15 R' V L wd n g r M b cap s (fun _ => 0))) ∨ (v = .bool false ∧ (wd.heap[O]? = some (op15O o) ∧ Mem15 V wd (planCs n m ta oa (.slice za n zc) (.slice zb m zd)) n m g r s HDF a c xs ∧ ((o.k < 4 ∧ (doM15 n s HDF o).1 = true ∧ (doM15 n s HDF o).2.1.st tn = 0 ∧ (doM15 n s HDF o).2.2 = HDF ∧ ∃ R', Mdl15 R' V L wd n g r M b cap (doM15 n s HDF o).2.1 (fun _ => 0)) ∨ (4 < o.k ∧ ∃ R', Mdl15 R' V L wd n g r M b cap s (fun _ => 0))))))
  case first =>
    clear HN HM HC HB HCELL HS HO HOV HBY HPC HEND HOPS HSL HK2 HWK HCI hmf
    by_cases hk4 : o.k = 4
    · go_wp2_with fail
      go_meet
      exact .inl ⟨by first | rfl | (simp; done) | (simp; omega), _, HMY.out, HDY.out⟩
    by_cases ht : o.t = (tn : Int)
    · have bt : (o.t == (tn : Int)) = true := beq_iff_eq.2 ht
      by_cases hk2 : o.k < 2
      · clear ht
        go_wp2_with fail
        go_meet
        exact .inl ⟨by first | rfl | (simp; done) | (simp; omega), _, HMY.out, HDY.out⟩
      · by_cases hk : o.k < 4
        · have hskip : ¬ (o.t = (tn : Int) ∧ o.k < 2) := fun h => hk2 h.2
          have HSK := hid hskip
          clear ht hskip
          go_wp2_with fail
          refine (model15_any HDY.out HMY.out.ok HN6.out o HON.out.1 HON.out.2).mono ?_
          rintro e w5 ⟨rfl, ⟨R5, hd5⟩, ho5⟩
          have HM5 := hid (mdl_mem HDY.out HMY.out ho5)
          have HD5 := hid hd5
          have hne : O ≠ M ∧ O ≠ b := by
            have q1 := HLO.out
            have q2 := HWO.out
            exact ⟨by omega, by omega⟩
          have hbO5 : w5.heap[O]? = some (op15O o) := (ho5.block O (lt_of_block HBO.out) (fun h => by omega)).trans HBO.out
          have HBO5 := hid hbO5
          clear e0 e1 e2 e3 e4 hd5 ho5 hne
          obtain ⟨e0, e1, e2, e3, e4⟩ := HCO.out w5 hbO5
          clear hbO5
          obtain ⟨dd, hdd⟩ : ∃ dd, (doM15 n s (fun _ => 0) o).1 = dd := ⟨_, rfl⟩
          have HDD := hid hdd
          rw [hdd]
          clear hdd
          cases dd
          · have HR : Hid (Mdl15 R5 V L w5 n g r M b cap s (fun _ => 0)) := by
              have h9 := HD5.out
              rw [do15_no HDD.out] at h9
              exact h9
            go_wp2_with fail
            go_meet
            exact .inl ⟨by first | rfl | (simp; done) | (simp; omega), _, HM5.out, HR.out⟩
          · have hdm := do15_few n s (fun _ => 0) HDF o (by omega)
            rw [HDD.out] at hdm
            have HD6 : Hid (Mdl15 R5 V L w5 n g r M b cap (doM15 n s HDF o).2.1 (fun _ => 0)) := by
              have h9 := HD5.out
              rw [hdm.2.1, (do15_few n s (fun _ => 0) (fun _ => 0) o (by omega)).2.2] at h9
              exact h9
            have HST1 : Hid ((doM15 n s HDF o).2.1.st tn = 0) := do15_ready HST0.out (by omega) HSK.out
            have HDE : Hid ((doM15 n s HDF o).2.2 = HDF) := hdm.2.2
            have HD1 : Hid ((doM15 n s HDF o).1 = true) := hdm.1
            clear hdm
            go_wp2_with fail
            go_meet
            exact .inr ⟨by first | rfl | (simp; done) | (simp; omega), HBO5.out, HM5.out, .inl ⟨by omega, HD1.out, HST1.out, HDE.out, _, HD6.out⟩⟩
        · by_cases hot0 : o.t = 0
          · have b0 : (o.t == 0) = true := beq_iff_eq.2 hot0
            have c0 : (o.t != 0) = false := by rw [bne, b0]; rfl
            clear ht hot0
            go_wp2_with fail
            go_meet
            exact .inr ⟨by first | rfl | (simp; done) | (simp; omega), HBO.out, HMY.out, .inr ⟨by omega, _, HDY.out⟩⟩
          · by_cases hot1 : o.t = 1
            · have b0 : (o.t == 0) = false := beq_eq_false_iff_ne.2 hot0
              have c0 : (o.t != 0) = true := by rw [bne, b0]; rfl
              have b1 : (o.t == 1) = true := beq_iff_eq.2 hot1
              have c1 : (o.t != 1) = false := by rw [bne, b1]; rfl
              clear ht hot0 hot1
              go_wp2_with fail
              go_meet
              exact .inr ⟨by first | rfl | (simp; done) | (simp; omega), HBO.out, HMY.out, .inr ⟨by omega, _, HDY.out⟩⟩
            · have b0 : (o.t == 0) = false := beq_eq_false_iff_ne.2 hot0
              have c0 : (o.t != 0) = true := by rw [bne, b0]; rfl
              have b1 : (o.t == 1) = false := beq_eq_false_iff_ne.2 hot1
              have c1 : (o.t != 1) = true := by rw [bne, b1]; rfl
              clear ht hot0 hot1
              go_wp2_with fail
              go_meet
              exact .inl ⟨by first | rfl | (simp; done) | (simp; omega), _, HMY.out, HDY.out⟩
    · have bt : (o.t == (tn : Int)) = false := beq_eq_false_iff_ne.2 ht
      by_cases hk : o.k < 4
      · have hskip : ¬ (o.t = (tn : Int) ∧ o.k < 2) := fun h => ht h.1
        have HSK := hid hskip
        clear ht hskip
        go_wp2_with fail
        refine (model15_any HDY.out HMY.out.ok HN6.out o HON.out.1 HON.out.2).mono ?_
        rintro e w5 ⟨rfl, ⟨R5, hd5⟩, ho5⟩
        have HM5 := hid (mdl_mem HDY.out HMY.out ho5)
        have HD5 := hid hd5
        have hne : O ≠ M ∧ O ≠ b := by
          have q1 := HLO.out
          have q2 := HWO.out
          exact ⟨by omega, by omega⟩
        have hbO5 : w5.heap[O]? = some (op15O o) := (ho5.block O (lt_of_block HBO.out) (fun h => by omega)).trans HBO.out
        have HBO5 := hid hbO5
        clear e0 e1 e2 e3 e4 hd5 ho5 hne
        obtain ⟨e0, e1, e2, e3, e4⟩ := HCO.out w5 hbO5
        clear hbO5
        obtain ⟨dd, hdd⟩ : ∃ dd, (doM15 n s (fun _ => 0) o).1 = dd := ⟨_, rfl⟩
        have HDD := hid hdd
        rw [hdd]
        clear hdd
        cases dd
        · have HR : Hid (Mdl15 R5 V L w5 n g r M b cap s (fun _ => 0)) := by
            have h9 := HD5.out
            rw [do15_no HDD.out] at h9
            exact h9
          go_wp2_with fail
          go_meet
          exact .inl ⟨by first | rfl | (simp; done) | (simp; omega), _, HM5.out, HR.out⟩
        · have hdm := do15_few n s (fun _ => 0) HDF o (by omega)
          rw [HDD.out] at hdm
          have HD6 : Hid (Mdl15 R5 V L w5 n g r M b cap (doM15 n s HDF o).2.1 (fun _ => 0)) := by
            have h9 := HD5.out
            rw [hdm.2.1, (do15_few n s (fun _ => 0) (fun _ => 0) o (by omega)).2.2] at h9
            exact h9
          have HST1 : Hid ((doM15 n s HDF o).2.1.st tn = 0) := do15_ready HST0.out (by omega) HSK.out
          have HDE : Hid ((doM15 n s HDF o).2.2 = HDF) := hdm.2.2
          have HD1 : Hid ((doM15 n s HDF o).1 = true) := hdm.1
          clear hdm
          go_wp2_with fail
          go_meet
          exact .inr ⟨by first | rfl | (simp; done) | (simp; omega), HBO5.out, HM5.out, .inl ⟨by omega, HD1.out, HST1.out, HDE.out, _, HD6.out⟩⟩
      · by_cases hot0 : o.t = 0
        · have b0 : (o.t == 0) = true := beq_iff_eq.2 hot0
          have c0 : (o.t != 0) = false := by rw [bne, b0]; rfl
          clear ht hot0
          go_wp2_with fail
          go_meet
          exact .inr ⟨by first | rfl | (simp; done) | (simp; omega), HBO.out, HMY.out, .inr ⟨by omega, _, HDY.out⟩⟩
        · by_cases hot1 : o.t = 1
          · have b0 : (o.t == 0) = false := beq_eq_false_iff_ne.2 hot0
            have c0 : (o.t != 0) = true := by rw [bne, b0]; rfl
            have b1 : (o.t == 1) = true := beq_iff_eq.2 hot1
            have c1 : (o.t != 1) = false := by rw [bne, b1]; rfl
            clear ht hot0 hot1
            go_wp2_with fail
            go_meet
            exact .inr ⟨by first | rfl | (simp; done) | (simp; omega), HBO.out, HMY.out, .inr ⟨by omega, _, HDY.out⟩⟩
          · have b0 : (o.t == 0) = false := beq_eq_false_iff_ne.2 hot0
            have c0 : (o.t != 0) = true := by rw [bne, b0]; rfl
            have b1 : (o.t == 1) = false := beq_eq_false_iff_ne.2 hot1
            have c1 : (o.t != 1) = true := by rw [bne, b1]; rfl
            clear ht hot0 hot1
            go_wp2_with fail
            go_meet
            exact .inl ⟨by first | rfl | (simp; done) | (simp; omega), _, HMY.out, HDY.out⟩
  case rest =>
  clear e0 e1 e2 e3 e4 HMY HDY
  rcases hcut with ⟨rfl, R5, hmc, hdc⟩ | ⟨rfl, hbo, hmc, hdc⟩
  · have HMC := hid hmc
    have HDC := hid hdc
    clear hmc hdc
    go_wp2_with fail
    go_roundw
    case rel => exact ⟨j + 1, _, _, _, _, _, by go_num, by omega, HMC.out, HDC.out, HST0.out, HWK.out⟩
    case measure => simp [intOf]; omega
  obtain ⟨w5, hw5⟩ : ∃ x, x = wc := ⟨_, rfl⟩
  subst hw5
  have HMC := hid hmc
  have HDC := hid hdc
  obtain ⟨e0, e1, e2, e3, e4⟩ := HCO.out w5 hbo
  have hX : ∃ X U, X = w5.alloc (act15O n m ta oa za zb zc zd o.k o.t o.p o.f o.n (0, false)) ∧ U = w5.heap.size ∧ Only (fun _ => False) w5 X ∧ X.heap[U]? = some (act15O n m ta oa za zb zc zd o.k o.t o.p o.f o.n (0, false)) := ⟨_, _, rfl, rfl, (Only.refl _ _).alloc _, heap_new _ _⟩
  obtain ⟨X, U, hXe, hUe, hoX, hbU⟩ := hX
  have hUg : V.heap.size ≤ U ∧ U ≠ g ∧ U ≠ r := by
    have e1 := HMC.out.mid.only.size
    have e2 := lt_of_block HMC.out.mid.mem.head
    have e3 := HMC.out.mid.mem.row.lt
    exact ⟨by omega, by omega, by omega⟩
  have HRUN : Hid (Calls Tryz.prog 12 #[.pointer (some ⟨g, 0, none⟩), bodyV 13 (ptrV U), .int .i64 5000] X fun e w' => e = .returned (.bool true) ∧ ∃ s' a' c' xs' R', Mem15 V w' (planCs n m ta oa (.slice za n zc) (.slice zb m zd)) n m g r s' HDF a' c' xs' ∧ Mdl15 R' V L w' n g r M b cap s' (fun _ => 0) ∧ s'.st tn = 0 ∧ whoK kk a' c' = (tn : Int)) := by
    rcases HDC.out with ⟨hk, hd1, hs1, hde, R6, hd6⟩ | ⟨hk, R6, hd6⟩
    · refine (mem_op15 (HMC.out.keep hoX) o HOK.out.1 (by omega) HON.out.1 hd1 (0, false) hbU hUg.2.1 hUg.2.2).mono ?_
      rintro e w6 ⟨rfl, ⟨xs', hm6⟩, ho6⟩
      rw [hde] at hm6
      exact ⟨rfl, _, _, _, _, _, hm6, (hd6.still hoX).ran1 ho6, hs1, HWK.out⟩
    · refine (mem_disp15 (HMC.out.keep hoX) o hk (0, false) hbU hUg.1 hUg.2.1 hUg.2.2).mono ?_
      rintro e w6 ⟨rfl, ⟨xs', hm6⟩, _, ho6⟩
      have hw := who_disp (L := tailL s.qs 16) (fx := fxM n s HDF) HK2.out o.t (a := a) (c := c) (by rw [HWK.out]; exact HFXA.out s HST0.out)
      rw [HWK.out] at hw
      exact ⟨rfl, _, _, _, _, _, hm6, hd6.ran1 ((hoX.mono (T := fun k => k = r) (fun _ _ h => h.elim)).chain ho6 (fun i hi e => by rcases e with e | e; exact e; omega)), HST0.out, hw⟩
  obtain ⟨f0, f1, f2, f3, f4, f5, f6, f7, f8, f9, f10, f11, f12, f13⟩ := HPC.out w5 HMC.out.mid.only
  clear hoX hbU hUg hmc hdc hbo HDC
  simp only [act15O] at hXe
  go_upto_region 20 with fail
  rw [← hXe, ← hUe]
  clear hXe hUe f0 f1 f2 f3 f4 f5 f6 f7 f8 f9 f10 f11 f12 f13 e0 e1 e2 e3 e4 HMC
  go_wp2_with fail
  refine HRUN.out.mono ?_
  rintro e w6 ⟨rfl, s', a', c', xs', R6, hm6, hd6, hs6, hw6⟩
  have HW6 := hid hw6
  have HM6 := hid hm6
  have HD6 := hid hd6
  have HS6 := hid hs6
  clear hm6 hd6 hs6 hw6 HRUN
  obtain ⟨f0, f1, f2, f3, f4, f5, f6, f7, f8, f9, f10, f11, f12, f13⟩ := HPC.out w6 HM6.out.mid.only
  go_wp2_with fail
  refine (mem_seen15 HM6.out).mono ?_
  rintro e w8 ⟨U8, q0, q1, rfl, _, hm8, hb8, ho8⟩
  obtain ⟨g14, g16⟩ := look_at15 hb8 HK2.out
  rw [HW6.out, if_pos (show (0 : Int) ≤ (tn : Int) by omega)] at g14
  rw [HW6.out, decide_eq_true (show (0 : Int) ≤ (tn : Int) by omega)] at g16
  have HM8 := hid hm8
  have HD8 := hid (HD6.out.ran1 ho8)
  clear hm8 hb8 ho8 f0 f1 f2 f3 f4 f5 f6 f7 f8 f9 f10 f11 f12 f13
  go_wp2_with fail
  go_roundw
  case rel => exact ⟨j + 1, _, _, _, _, _, by go_num, by omega, HM8.out, HD8.out, HS6.out, HW6.out⟩
  case measure => simp [intOf]; omega
end Go.Proofs.YtmcmjcaigipoaaaGreat.dispatchFixed
namespace Go.Proofs.YtmcmjcaigipoaaaGreat.dispatchFixed
open Go.Sept Go.RowKit Go.ChangeShapes Go.WideShapes Go.ChangeAt Go.Joins Go.Deep

set_option maxRecDepth 100000 in
theorem lifted (os : Os) (started : os.Started) (H : Type) (enc : TypeId × Value → H) :
    ReturnsInHanded {} Tryz.checked os 5 .any (Rows.dispatchFixedSpec.pre6 enc Tryz.prog Tryz.f5 Rows.dispatchFixedRow.domain false) (Rows.dispatchFixedSpec.post enc Tryz.prog Tryz.f5 false true false false) := by
  refine returnsInHanded_of_change (C := Tryz.checked) ownKnob15 started (by kernel_rfl) Tryz.func5
    (ChangeSpec.witness6 (enc := enc) (C := Tryz.checked) false ⟨#[], #[.agg #[.slice none 0 0, .slice none 0 0], .slice none 0 0, .int .u8 0, .int .u8 0], []⟩ 8 (by kernel_rfl) (by kernel_rfl) (by kernel_rfl) (by kernel_rfl)) ?_
  intro W base args ds gs before hval0 hW hcnd _
  have hval : ∀ (j : Nat) t v, Tryz.f5.params[j]? = some t → args[j]? = some v → Value.okWide Tryz.prog W .any base t v := hval0
  have hW' := hW
  obtain ⟨p, q, hA0, hV, rfl, hfz, hnd⟩ := hW
  have hA : DataW.TrodAll enc Tryz.prog W 0 (fun _ => true) true Tryz.f5.params.toList args.toList ds p := hA0
  rw [Tryz.params5] at hA hval
  obtain ⟨v0, vs0, d0, ds0, p0, q0, hargs, rfl, rfl, h0, r0⟩ := trodAll_cons hA
  obtain ⟨v1, vs1, d1, ds1, p1, q1, rfl, rfl, rfl, h1, r1⟩ := trodAll_cons r0
  obtain ⟨v2, vs2, d2, ds2, p2, q2, rfl, rfl, rfl, h2, r2⟩ := trodAll_cons r1
  obtain ⟨v3, vs3, d3, ds3, p3, q3, rfl, rfl, rfl, h3, r3⟩ := trodAll_cons r2
  obtain ⟨rfl, rfl, rfl⟩ := trodAll_nil r3
  obtain rfl : args = #[v0, v1, v2, v3] := by cases args; simp_all
  obtain ⟨x0, x1, c, rfl, hc⟩ := open_pt (hval 0 25 v0 rfl rfl) h0
  obtain ⟨sa, ls, sc, rfl⟩ := okWide_slice Tryz.underlying26 (hval 1 26 v1 rfl rfl)
  obtain ⟨ops, hops⟩ := open_arg15 Tryz.underlying26 (show Tryz.prog.cellsOf 41 = 5 by kernel_rfl) (by decide) el_op15 h1
  obtain ⟨a2, rfl, rfl, rfl, w2⟩ := open_int Tryz.underlying5 (hval 2 5 v2 rfl rfl) h2
  obtain ⟨a3, rfl, rfl, rfl, w3⟩ := open_int Tryz.underlying5 (hval 3 5 v3 rfl rfl) h3
  refine (walk W x0 x1 c hc sa ls sc ops hops a2 a3 (bounds_u8 w2) (bounds_u8 w3)).mono fun e W' ⟨he, hg⟩ => ?_
  subst he
  exact ⟨_, rfl, post_law 4 4 laidOut15 (by kernel_rfl) rfl rfl rfl Tryz.underlying4 (fun l hl => by match l, hl with | [_, _, _, _], _ => rfl) hW' hg⟩

theorem over : Rows.dispatchFixedRow.holds Tryz.pinned (OpenSpec.ofChange Rows.dispatchFixedSpec) :=
  OpenClaim.holds_of_wide 5 Tryz.f5 rfl rfl rfl rfl rfl rfl rfl ⟨rfl, rfl, rfl, rfl, rfl⟩ rfl rfl rfl rfl rfl (by kernel_rfl) Tryz.func5 (by kernel_rfl)
    (of_decide_eq_true (by kernel_rfl)) (by unfold Func.isWrapper; first | (rw [if_pos (by decide +kernel)]; kernel_rfl) | (rw [if_neg (by decide +kernel)]; exact ⟨rfl, rfl⟩))
    (fun os started H enc _ => lifted os started H enc)

theorem proved : Rows.DispatchFixedSaid := over
#print axioms proved
end Go.Proofs.YtmcmjcaigipoaaaGreat.dispatchFixed

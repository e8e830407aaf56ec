/-
  DispatchSettles: Behind a dispatch on each core, and one more on the first of them, the threads that should run do, and none runs twice. Conditions: none.
-/
import Derived.Test.YtmcmjcaigipoaaaGreatLaw15
import Derived.Deep.RegionHeld
import Derived.BigQuiet
namespace Go.Proofs.YtmcmjcaigipoaaaGreat.dispatchSettles
open Go.Sept Go.RowKit

set_option maxRecDepth 100000 in
set_option maxHeartbeats 20000000 in
theorem walk (w : World) (v0 v1 : Value) (p : Pt) (h : PtIs (fun k => k < w.heap.size) w v0 v1 p) (sa : Option Addr) (ls sc : Nat) (ops : List Op15) (hops : SlOf (fun k => k < w.heap.size) 5 opE15 w (.slice sa ls sc) ops) (core : Int) (hcore : 0 ≤ core ∧ core ≤ 255) :
    Calls Tryz.prog 3 #[.agg #[v0, v1], .slice sa ls sc, .int .u8 core] w fun e w' => e = .returned (.bool true) ∧ Below w.heap.size w w' := by
  obtain ⟨xa, xc, rfl, xm⟩ := h.1.shape
  obtain ⟨ya, yc, rfl, ym⟩ := h.2.shape
  obtain ⟨hsl, hsc, hscm⟩ := hops.room
  have HSL := hid hsl
  have HOPS := hid hops
  clear hsl hops
  obtain ⟨n, hn⟩ : ∃ n, p.ths.length = n := ⟨_, rfl⟩
  obtain ⟨m, hm⟩ : ∃ m, p.obs.length = m := ⟨_, rfl⟩
  have HN := hid hn
  have HM := hid hm
  rw [hn] at h xm ⊢
  rw [hm] at h ym ⊢
  clear hn hm
  have hW : ∃ W z, W = w.alloc (ptO (.slice xa n xc) (.slice ya m yc)) ∧ z = w.heap.size ∧ Only (fun _ => False) w W ∧ W.heap[z]? = some (ptO (.slice xa n xc) (.slice ya m yc)) := ⟨_, _, rfl, rfl, (Only.refl _ _).alloc _, heap_new _ _⟩
  obtain ⟨W, z, hWe, hze, hoW, hbz⟩ := hW
  have HC := hid (h.only hoW (fun _ _ h => h))
  have HO := hid hoW
  have HB := hid hbz
  have HCELL : Hid (∀ w', Only (fun _ => False) W w' → w'.cell? ⟨z, 0, none⟩ = some (.slice xa n xc) ∧ w'.cell? ⟨z, 1, none⟩ = some (.slice ya m yc)) := fun w' ho => by
    have h9 := (ho.block z (lt_of_block hbz) (fun h => h)).trans hbz
    exact ⟨cell_of_block h9 0, cell_of_block h9 1⟩
  clear hoW hbz h
  simp only [ptO] at hWe
  go_enter Tryz.func3, Tryz.ntmps3
  go_upto_region 1 with fail
  rw [← hWe, ← hze]
  clear hWe hze
  go_wp2_with fail
  refine (awake15_any _).mono ?_
  rintro e w1 ⟨rfl, ho1⟩
  obtain ⟨c0, c1⟩ := HCELL.out w1 ho1
  have HO1 := hid ho1
  clear ho1
  go_wp2_with fail
  refine (fewPart2_any _ _ _ p (HC.out.only HO1.out (fun _ _ h => h))).mono ?_
  rintro e w2 ⟨⟨b, rfl, hb⟩, ho2⟩
  have HO2 := hid (HO1.out.chain ho2 (fun _ _ h => h))
  clear ho2 c0 c1 HO1
  cases b
  · clear hb
    go_wp2_with fail
    refine (awake15_any _).mono ?_
    rintro e w9 ⟨rfl, ho9⟩
    have HO9 := hid (HO.out.chain (HO2.out.chain ho9 (fun _ _ h => h)) (fun _ _ h => h))
    clear ho9
    go_wp2_with fail
    go_ret
    exact ⟨rfl, HO9.out.below (Nat.le_refl _) (fun _ _ h => h)⟩
  have HS := hid (hb rfl)
  clear hb
  by_cases hlmost : (60 : Int) < (ls : Int)
  · clear HS
    go_wp2_with fail
    refine (awake15_any _).mono ?_
    rintro e w9 ⟨rfl, ho9⟩
    have HO9 := hid (HO.out.chain (HO2.out.chain ho9 (fun _ _ h => h)) (fun _ _ h => h))
    clear ho9
    go_wp2_with fail
    go_ret
    exact ⟨rfl, HO9.out.below (Nat.le_refl _) (fun _ _ h => h)⟩
  have HC2 := hid (HC.out.only HO2.out (fun _ _ h => h))
  obtain ⟨c0, c1⟩ := HCELL.out w2 HO2.out
  go_wp2_with fail
  refine (of_rel _ _ _ p HC2.out HS.out).mono ?_
  rintro e w3 ⟨hof, ho3⟩
  have HO3 := hid (HO2.out.chain ho3 (fun _ _ h => h))
  clear ho3 c0 c1 HO2 HC2
  rcases hof with ⟨hne, rfl⟩ | ⟨heq, cs, rfl, hpl⟩
  · clear hne
    go_wp2_with fail
    go_ret
    exact ⟨rfl, (HO.out.chain (HO3.out.alloc _) (fun _ _ h => h)).below (Nat.le_refl _) (fun _ _ h => h)⟩
  have hth := ThIs.of hpl heq
  obtain ⟨⟨hsn1, hsn⟩, hsm, hths, hobs⟩ := part_parts heq
  have hplL := hpl
  obtain ⟨ta, oa, za, zc, zb, zd, rfl⟩ := hpl.shape
  clear hpl
  rw [HN.out, HM.out] at hplL hth ⊢
  rw [HN.out] at hsn hsn1
  rw [HM.out] at hsm
  have HPL := hid hplL
  have HEQ := hid heq
  have HSZ : Hid (∀ x ∈ p.obs, x.kind = 4 → 0 ≤ x.size ∧ x.size ≤ 1000) := fun x hx hk => by
    have h8 := of_decide_eq_true (List.all_eq_true.1 hobs x hx)
    omega
  have HPR : Hid (∀ x ∈ p.ths, 0 ≤ x.prio ∧ x.prio ≤ 15) := fun x hx => by
    have h8 := of_decide_eq_true (List.all_eq_true.1 hths x hx)
    exact ⟨h8.1, h8.2.1⟩
  have HV : ∃ V y, V = w3.alloc (plO (planCs n m ta oa (.slice za n zc) (.slice zb m zd))) ∧ y = w3.heap.size ∧ Only (fun _ => False) w3 V ∧ V.heap[y]? = some (plO (planCs n m ta oa (.slice za n zc) (.slice zb m zd))) := ⟨_, _, rfl, rfl, (Only.refl _ _).alloc _, heap_new _ _⟩
  obtain ⟨V, y, hVe, hye, hoV, hby⟩ := HV
  have HOV := hid (HO3.out.chain hoV (fun _ _ h => h))
  have HBY := hid hby
  have HTH := hid (hth.only hoV (fun _ _ h => h))
  have HN6 : Hid (n ≤ 6) := hth.1
  have HBT : Hid (∀ wx, Only (fun _ => False) V wx → Calls Tryz.prog 9 #[.agg (planCs n m ta oa (.slice za n zc) (.slice zb m zd))] wx fun e w' => ∃ g r, e = .returned (.pointer (some ⟨g, 0, none⟩)) ∧ MemIs 130 w' g r (bootX 16 [3, 5] p n m) ∧ (wx.heap.size ≤ g ∧ wx.heap.size ≤ r) ∧ Only (fun _ => False) wx w') := fun wx ho => by
    have h9 := boot_rel wx _ p (HPL.out.only (hoV.chain ho (fun _ _ h => h)) (fun _ _ h => h)) HEQ.out
    rw [HN.out, HM.out] at h9
    exact h9
  have HNW : Hid (∀ wx, Only (fun _ => False) V wx → Calls Tryz.prog 10 #[.agg #[.slice xa n xc, .slice ya m yc]] wx fun e w' => ∃ M b cap R, e = .returned (.pointer (some ⟨M, 0, none⟩)) ∧ wx.heap.size ≤ M ∧ M < b ∧ Mods R wx.heap.size w' M b n cap (sim0 p) ∧ Held15 R n (fun _ => 0) ∧ Only (fun _ => False) wx w') := fun wx ho => by
    have hoW : Only (fun _ => False) W wx := HOV.out.chain ho (fun _ _ h => h)
    refine (new13x wx _ _ p (HC.out.only hoW (fun _ _ h => h)) (fun k hk => Nat.lt_of_lt_of_le hk (Nat.le_trans HO.out.size hoW.size)) HSZ.out (fun x hx => by have := HPR.out x hx; omega) ⟨by rw [HN.out]; omega, by rw [HM.out]; omega⟩).mono ?_
    rintro e w' ⟨hnew, ho9⟩
    obtain ⟨M, b, cap, R, k1, k2, k3, k4, k5⟩ := mod14_new hnew (by rw [HN.out]; omega) (by rw [HN.out]; omega) HPR.out
    have k6 := held15_new k5
    rw [HN.out] at k4 k6
    exact ⟨M, b, cap, R, k1, k2, k3, k4, k6, ho9⟩
  obtain ⟨YS, hYS⟩ : ∃ YS, bootX 16 [3, 5] p n m = YS := ⟨_, rfl⟩
  have hlen := length_bootX 16 [3, 5] p n m
  have HYS := hid hYS
  rw [hYS] at HBT hlen
  have HLEN : Hid (0 < YS.length) := by show 0 < _; omega
  have HPC : Hid (∀ wx, Only (fun _ => False) V wx → PlC14 wx y n m ta oa (.slice za n zc) (.slice zb m zd)) := fun wx ho => plan_cells ((ho.block y (lt_of_block HBY.out) (fun h => h)).trans HBY.out)
  have HEND : Hid (∀ w9, Only (fun _ => False) V w9 → Below w.heap.size w w9) := fun w9 ho => (HO.out.chain (HOV.out.chain ho (fun _ _ h => h)) (fun _ _ h => h)).below (Nat.le_refl _) (fun _ _ h => h)
  obtain ⟨f0, f1, f2, f3, f4, f5, f6, f7, f8, f9, f10, f11, f12, f13⟩ := plan_cells hby
  obtain ⟨c0, c1⟩ := HCELL.out V HOV.out
  clear hoV hby heq hths hobs hplL hth hYS hlen HO3
  go_upto_region 4 with fail
  rw [← hVe, ← hye]
  clear hVe hye
  go_upto_region 6 with fail
  go_cut [9, 10] (fun vg vM wc => ∃ g r M b cap L R, vg = .pointer (some ⟨g, 0, none⟩) ∧ vM = .pointer (some ⟨M, 0, none⟩) ∧ Mem15 V wc (planCs n m ta oa (.slice za n zc) (.slice zb m zd)) n m g r (sim0 p) (fun _ => 0) (core0 p) (core1 p) YS ∧ Mdl15 R V L wc n g r M b cap (sim0 p) (fun _ => 0))
  case first =>
    go_region_held (fun w' => w'.cell? ⟨y, 0, none⟩ = some (.int .i64 0) ∧ w'.cell? ⟨y, 1, none⟩ = some (.int .i64 2) ∧ w'.cell? ⟨y, 2, none⟩ = some (.int .i64 4) ∧ w'.cell? ⟨y, 3, none⟩ = some (.int .i64 3) ∧ w'.cell? ⟨y, 4, none⟩ = some (.int .i64 5) ∧ w'.cell? ⟨y, 5, none⟩ = some (.int .i64 6) ∧ w'.cell? ⟨y, 6, none⟩ = some (.int .i64 8) ∧ w'.cell? ⟨y, 7, none⟩ = some (.int .i64 41) ∧ w'.cell? ⟨y, 8, none⟩ = some (.int .i64 43) ∧ w'.cell? ⟨y, 9, none⟩ = some (.slice ta n n) ∧ w'.cell? ⟨y, 10, none⟩ = some (.slice oa m m) ∧ w'.cell? ⟨y, 11, none⟩ = some (.int .i64 (43 + (m : Int) + (n : Int) * 24 + (m : Int) * 24)) ∧ w'.cell? ⟨y, 12, none⟩ = some (.slice za n zc) ∧ w'.cell? ⟨y, 13, none⟩ = some (.slice zb m zd) ∧ w'.cell? ⟨z, 0, none⟩ = some (.slice xa n xc) ∧ w'.cell? ⟨z, 1, none⟩ = some (.slice ya m yc)) (go_keep)
      (first
        | (go_at_call 9; refine (HBT.out _ ((Only.refl _ _).drew)).mono ?_; rintro e w4 ⟨g, r, rfl, hmem, ⟨hg, hr⟩, ho4⟩
           have ho4' : Only (fun _ => False) V w4 := ((Only.refl (fun _ => False) V).drew).chain ho4 (fun _ _ h => h)
           have HO4 := hid ho4'
           have hg' : V.heap.size ≤ g := hg
           have hr' : V.heap.size ≤ r := hr
           have HMID : Hid (Mid13 V w4 (planCs n m ta oa (.slice za n zc) (.slice zb m zd)) n m g r YS) := ⟨HTH.out.low.only ho4' (fun _ _ h => h), hmem, hg', hr', HLEN.out, ho4'⟩
           have HME := hid (boot_mem15 HEQ.out HN.out HM.out HPR.out HYS.out HMID.out)
           obtain ⟨f0, f1, f2, f3, f4, f5, f6, f7, f8, f9, f10, f11, f12, f13⟩ := HPC.out w4 ho4'
           obtain ⟨c0, c1⟩ := HCELL.out w4 (HOV.out.chain ho4' (fun _ _ h => h))
           clear hmem hg hr ho4 ho4' hg' hr' HBT)
        | (go_at_call 10; refine (HNW.out w4 HO4.out).mono ?_; rintro e w5 ⟨M, b, cap, R, rfl, hM, hMb, hmod, hheld, ho5⟩
           have HO5 := hid (HO4.out.chain ho5 (fun _ _ h => h))
           have HM5 := hid (HME.out.keep ho5)
           have HD5 : Hid (Mdl15 R V w4.heap.size w5 n g r M b cap (sim0 p) (fun _ => 0)) := ⟨hmod, hheld, lt_of_block HMID.out.mem.head, HMID.out.mem.row.lt, HO4.out.size, hM, hMb, ho5.size⟩
           obtain ⟨f0, f1, f2, f3, f4, f5, f6, f7, f8, f9, f10, f11, f12, f13⟩ := HPC.out w5 HO5.out
           obtain ⟨c0, c1⟩ := HCELL.out w5 (HOV.out.chain HO5.out (fun _ _ h => h))
           clear hM hMb hmod hheld ho5 HMID HME HNW))
    all_goals go_wp2_with fail
    all_goals go_meet
    all_goals exact ⟨g, r, M, b, cap, w4.heap.size, R, rfl, rfl, HM5.out, HD5.out⟩
  case rest =>
  obtain ⟨g, r, M, b, cap, L, R, rfl, rfl, hme, hmd⟩ := hcut
  have HME := hid hme
  have HMD := hid hmd
  have hmf : ∀ (fn : Fn) (first cap : Array Value) (w : World), (Instr.makeFunc fn first cap).run Tryz.prog w = .ok (.func fn first cap) w := fun _ _ _ _ => rfl
  clear f0 f1 f2 f3 f4 f5 f6 f7 f8 f9 f10 f11 f12 f13 c0 c1 hme hmd HBT HNW HPL HEQ HSZ HPR HLEN HYS HTH
  have hls : (ls : Int) ≤ 60 := by omega
  go_wp2_with fail
  go_loopw [44] (fun i wx => ∃ (j : Nat) (s : Sim14) (hd : Nat → Nat) (a c : Int) (xs : List Int) (R : Nat → Option Value), i = .int .i64 (j : Int) ∧ j ≤ ls ∧ Mem15 V wx (planCs n m ta oa (.slice za n zc) (.slice zb m zd)) n m g r s hd a c xs ∧ Mdl15 R V L wx n g r M b cap s hd) (fun i _ => ls - (intOf i).toNat)
  case atStart => exact ⟨0, _, _, _, _, _, _, rfl, Nat.zero_le _, HME.out, HMD.out⟩
  case round =>
  clear HME HMD R
  obtain ⟨j, s, hd, a, c, xs, R, rfl, hj, hme, hmd⟩ := hrel
  have HME := hid hme
  have HMD := hid hmd
  clear hme hmd
  by_cases hlt : (j : Int) < (ls : Int)
  · have HST : Hid (∃ o bs os, sa = some ⟨bs, os, none⟩ ∧ ∀ wx, Only (fun _ => False) V wx → opE15 wx bs (os + j * 5) o) := by
      obtain ⟨bs, os, h1, hlo, o, ho, hE⟩ := HOPS.out.get j (by rw [HSL.out]; omega)
      refine ⟨o, bs, os, h1, fun wx hx => ?_⟩
      exact stay_op15 (P := fun k => k < w.heap.size) (HO.out.chain (HOV.out.chain hx (fun _ _ h => h)) (fun _ _ h => h)) (fun _ _ h => h) _ _ _ hlo hE
    obtain ⟨o, bs, os, rfl, hst⟩ := HST.out
    obtain ⟨⟨d0, d1, d2, d3, d4⟩, hok, hon⟩ := hst wr HME.out.mid.only
    unfold Cel at d0 d1 d2 d3 d4
    have HOK := hid hok
    have HON := hid hon
    clear hst HST hok hon
    have hY : ∃ Y O, Y = wr.alloc (op15O o) ∧ O = wr.heap.size ∧ Only (fun _ => False) wr Y ∧ Y.heap[O]? = some (op15O o) := ⟨_, _, rfl, rfl, (Only.refl _ _).alloc _, heap_new _ _⟩
    obtain ⟨Y, O, hYe, hOe, hoY, hbO⟩ := hY
    have hX : ∃ X U, X = Y.alloc (act15O n m ta oa za zb zc zd o.k o.t o.p o.f o.n (0, false)) ∧ U = Y.heap.size ∧ Only (fun _ => False) Y X ∧ X.heap[U]? = some (act15O n m ta oa za zb zc zd o.k o.t o.p o.f o.n (0, false)) := ⟨_, _, rfl, rfl, (Only.refl _ _).alloc _, heap_new _ _⟩
    obtain ⟨X, U, hXe, hUe, hoX, hbU⟩ := hX
    have HOX := hid (hoY.chain hoX (fun _ _ h => h))
    have HMX := hid (HME.out.keep HOX.out)
    have HDX := hid (HMD.out.still HOX.out)
    have HBU := hid hbU
    have hbO2 : X.heap[O]? = some (op15O o) := (hoX.block O (lt_of_block hbO) (fun h => h)).trans hbO
    have HBO := hid hbO2
    have HWO : Hid (wr.heap.size ≤ O ∧ wr.heap.size ≤ U) := ⟨Nat.le_of_eq hOe.symm, by have := hoY.size; omega⟩
    have HUN : Hid (V.heap.size ≤ U ∧ U ≠ g ∧ U ≠ r) := by
      have e1 := HME.out.mid.only.size
      have e2 := lt_of_block HME.out.mid.mem.head
      have e3 := HME.out.mid.mem.row.lt
      have e4 := HWO.out.2
      exact ⟨by omega, by omega, by omega⟩
    have HLO := hid HMD.out.low
    have HCO : Hid (∀ wx : World, wx.heap[O]? = some (op15O o) → wx.cell? ⟨O, 0, none⟩ = some (.int .u8 o.k) ∧ wx.cell? ⟨O, 1, none⟩ = some (.int .i64 o.t) ∧ wx.cell? ⟨O, 2, none⟩ = some (.int .i64 o.p) ∧ wx.cell? ⟨O, 3, none⟩ = some (.bool o.f) ∧ wx.cell? ⟨O, 4, none⟩ = some (.int .u8 o.n)) := fun wx h => ⟨cell_of_block h 0, cell_of_block h 1, cell_of_block h 2, cell_of_block h 3, cell_of_block h 4⟩
    obtain ⟨f0, f1, f2, f3, f4, f5, f6, f7, f8, f9, f10, f11, f12, f13⟩ := HPC.out Y (HME.out.mid.only.chain hoY (fun _ _ h => h))
    obtain ⟨e0, e1, e2, e3, e4⟩ := HCO.out Y hbO
    simp only [op15O] at hYe
    simp only [act15O] at hXe
    clear hoY hbO hoX hbU hbO2
    go_upto_region 11 with fail
    rw [← hYe, ← hOe]
    clear hYe hOe d0 d1 d2 d3 d4
    go_upto_region 12 with fail
    rw [← hXe, ← hUe]
    clear hXe hUe f0 f1 f2 f3 f4 f5 f6 f7 f8 f9 f10 f11 f12 f13 e0 e1 e2 e3 e4
    obtain ⟨e0, e1, e2, e3, e4⟩ := HCO.out X HBO.out
    by_cases hk4 : o.k ≤ 4
    · go_wp2_with fail
      refine (model15_any HDX.out HMX.out.ok HN6.out o HON.out.1 HON.out.2).mono ?_
      rintro e w5 ⟨rfl, ⟨R5, hd5⟩, ho5⟩
      have HM5 := hid (HDX.out.mem HMX.out ho5)
      have HD5 := hid hd5
      have hne : O ≠ M ∧ O ≠ b ∧ U ≠ M ∧ U ≠ b := by
        have q1 := HLO.out
        have q2 := HWO.out
        exact ⟨by omega, by omega, by omega, by omega⟩
      have hbO5 : w5.heap[O]? = some (op15O o) := (ho5.block O (lt_of_block HBO.out) (fun h => by omega)).trans HBO.out
      have HBU5 : Hid (w5.heap[U]? = some (act15O n m ta oa za zb zc zd o.k o.t o.p o.f o.n (0, false))) := (ho5.block U (lt_of_block HBU.out) (fun h => by omega)).trans HBU.out
      clear e0 e1 e2 e3 e4 hd5 ho5 hne
      obtain ⟨e0, e1, e2, e3, e4⟩ := HCO.out w5 hbO5
      clear hbO5
      obtain ⟨dd, hdd⟩ : ∃ dd, (doM15 n s hd o).1 = dd := ⟨_, rfl⟩
      have HDD := hid hdd
      rw [hdd]
      clear hdd
      cases dd
      · have HR : Hid (Mem15 V w5 (planCs n m ta oa (.slice za n zc) (.slice zb m zd)) n m g r s hd a c xs ∧ Mdl15 R5 V L w5 n g r M b cap s hd) := by
          have h9 := HD5.out
          rw [do15_no HDD.out] at h9
          exact ⟨HM5.out, h9⟩
        go_wp2_with fail
        go_roundw
        case rel => exact ⟨j + 1, _, _, _, _, _, _, by go_num, by omega, HR.out.1, HR.out.2⟩
        case measure => simp [intOf]; omega
      · have HRUN := hid (mem_op15 HM5.out o HOK.out.1 hk4 HON.out.1 HDD.out (0, false) HBU5.out HUN.out.2.1 HUN.out.2.2)
        go_wp2_with fail
        refine HRUN.out.mono ?_
        rintro e w6 ⟨rfl, ⟨xs', hm6⟩, ho6⟩
        have HM6 := hid hm6
        have HD6 := hid (HD5.out.ran1 ho6)
        clear hm6 ho6 HRUN e0 e1 e2 e3 e4
        go_wp2_with fail
        go_roundw
        case rel => exact ⟨j + 1, _, _, _, _, _, _, by go_num, by omega, HM6.out, HD6.out⟩
        case measure => simp [intOf]; omega
    · have HRUN := hid (mem_disp15 HMX.out o (show 4 < o.k by omega) (0, false) HBU.out HUN.out.1 HUN.out.2.1 HUN.out.2.2)
      go_wp2_with fail
      refine HRUN.out.mono ?_
      rintro e w6 ⟨rfl, ⟨xs', hm6⟩, _, ho6⟩
      have HM6 := hid hm6
      have HD6 := hid (HMD.out.ran1 ((HOX.out.mono (T := fun k => k = r) (fun _ _ h => h.elim)).chain ho6 (fun i hi e => by have := HWO.out.2; rcases e with e | e; exact e; omega)))
      clear hm6 ho6 HRUN e0 e1 e2 e3 e4
      go_wp2_with fail
      go_roundw
      case rel => exact ⟨j + 1, _, _, _, _, _, _, by go_num, by omega, HM6.out, HD6.out⟩
      case measure => simp [intOf]; omega
  · go_upto_region 17 with fail
    clear hlt hj
    go_loopw [76] (fun i wx => ∃ (j : Nat) (xs : List Int), i = .int .i64 (j : Int) ∧ j ≤ 3 ∧ Mem15 V wx (planCs n m ta oa (.slice za n zc) (.slice zb m zd)) n m g r s hd (playD (tailL s.qs 16) (fxM n s hd) core j a c).1 (playD (tailL s.qs 16) (fxM n s hd) core j a c).2 xs ∧ Mdl15 R V L wx n g r M b cap s hd) (fun i _ => 3 - (intOf i).toNat)
    case atStart => exact ⟨0, _, rfl, by decide, HME.out, HMD.out⟩
    case round =>
    have HAC := hid HME.out.ac
    clear HME HMD
    obtain ⟨j, xs, rfl, hj, hme, hmd⟩ := hrel
    obtain ⟨a', ha'⟩ : ∃ a', (playD (tailL s.qs 16) (fxM n s hd) core j a c).1 = a' := ⟨_, rfl⟩
    obtain ⟨c', hc'⟩ : ∃ c', (playD (tailL s.qs 16) (fxM n s hd) core j a c).2 = c' := ⟨_, rfl⟩
    rw [ha', hc'] at hme
    have HA := hid ha'
    have HCC := hid hc'
    have HME := hid hme
    have HMD := hid hmd
    clear hme hmd ha' hc'
    obtain ⟨f0, f1, f2, f3, f4, f5, f6, f7, f8, f9, f10, f11, f12, f13⟩ := HPC.out wr HME.out.mid.only
    by_cases hlt : (j : Int) < 3
    · have hX : ∃ X U, X = wr.alloc (act15O n m ta oa za zb zc zd 5 ((core + (j : Int)) % 2) 0 false 0 (0, false)) ∧ U = wr.heap.size ∧ Only (fun _ => False) wr X ∧ X.heap[U]? = some (act15O n m ta oa za zb zc zd 5 ((core + (j : Int)) % 2) 0 false 0 (0, false)) := ⟨_, _, rfl, rfl, (Only.refl _ _).alloc _, heap_new _ _⟩
      obtain ⟨X, U, hXe, hUe, hoX, hbU⟩ := hX
      have hUg : V.heap.size ≤ U ∧ U ≠ g ∧ U ≠ r := by
        have e1 := HME.out.mid.only.size
        have e2 := lt_of_block HME.out.mid.mem.head
        have e3 := HME.out.mid.mem.row.lt
        exact ⟨by omega, by omega, by omega⟩
      have HRUN := hid (mem_disp15 (HME.out.keep hoX) ⟨5, (core + (j : Int)) % 2, 0, false, 0⟩ (show (4 : Int) < 5 by decide) (0, false) hbU hUg.1 hUg.2.1 hUg.2.2)
      have HWU : Hid (wr.heap.size ≤ U) := Nat.le_of_eq hUe.symm
      have HOX := hid hoX
      clear hoX hbU hUg
      simp only [act15O] at hXe
      go_upto_region 20 with fail
      rw [← hXe, ← hUe]
      clear hXe hUe f0 f1 f2 f3 f4 f5 f6 f7 f8 f9 f10 f11 f12 f13
      go_wp2_with fail
      refine HRUN.out.mono ?_
      rintro e w6 ⟨rfl, ⟨xs', hm6⟩, _, ho6⟩
      have HM6 : Hid (Mem15 V w6 (planCs n m ta oa (.slice za n zc) (.slice zb m zd)) n m g r s hd (playD (tailL s.qs 16) (fxM n s hd) core (j + 1) a c).1 (playD (tailL s.qs 16) (fxM n s hd) core (j + 1) a c).2 xs') := by
        show Mem15 _ _ _ _ _ _ _ _ _ (disp2 _ _ _ _ _).1 (disp2 _ _ _ _ _).2 _
        rw [HA.out, HCC.out]
        exact hm6
      have HD6 := hid (HMD.out.ran1 ((HOX.out.mono (T := fun k => k = r) (fun _ _ h => h.elim)).chain ho6 (fun i hi e => by have := HWU.out; rcases e with e | e; exact e; omega)))
      clear hm6 ho6 HRUN
      go_wp2_with fail
      go_roundw
      case rel => exact ⟨j + 1, _, by go_num, by omega, HM6.out, HD6.out⟩
      case measure => simp [intOf]; omega
    · obtain rfl : j = 3 := by omega
      have HSH : Hid (ShouldM (ordN s.qs 16) (fxM n s hd) a' c') := by
        have h9 := settle_play HME.out.ok.nodup15 (fx_in15 HME.out.ok hd) HME.out.ok.pos15 core HAC.out
        rw [HA.out, HCC.out] at h9
        show ShouldM _ _ _ _
        rw [ordN_all]
        exact h9
      clear HA HCC HAC hlt hj
      go_wp2_with fail
      refine (mem_seen15 HME.out).mono ?_
      rintro e w5 ⟨U, q0, q1, rfl, hU, hm5, hb5, ho5⟩
      have HD5 := hid (HMD.out.ran1 ho5)
      have HM5 := hid hm5
      have HNO := hid (now15 w5 U n m ta oa za zb zc zd _ hb5)
      simp only [now_at _ HM5.out.ra.1, now_at _ HM5.out.rc.1] at HNO
      clear hU hm5 hb5 ho5 f0 f1 f2 f3 f4 f5 f6 f7 f8 f9 f10 f11 f12 f13
      go_wp2_with fail
      refine HNO.out.mono ?_
      rintro e w6 ⟨rfl, ho6⟩
      have HF6 := hid (HM5.out.mid.only.chain ho6 (fun _ _ h => h))
      have hbd : (-9223372036854775808 ≤ a' ∧ a' ≤ 9223372036854775807) ∧ (-9223372036854775808 ≤ c' ∧ c' ≤ 9223372036854775807) := by
        have q1 := HM5.out.ra
        have q2 := HM5.out.rc
        have q3 := HN6.out
        exact ⟨⟨by omega, by omega⟩, ⟨by omega, by omega⟩⟩
      have HSC := hid (should15 w6 M b n cap s hd (HD5.out.still ho6).mod HD5.out.hld (HM5.out.ok.lists15 HN6.out).2.1 (HM5.out.ok.lists15 HN6.out).2.2 a' c' hbd.1 hbd.2 HSH.out)
      clear ho6 hbd HNO
      go_wp2_with fail
      refine HSC.out.mono ?_
      rintro e w7 ⟨rfl, ho7⟩
      have HF := hid (HEND.out _ (HF6.out.chain ho7 (fun _ _ h => h)))
      clear ho7 HSC
      go_wp2_with fail
      go_ret
      exact ⟨rfl, HF.out⟩
end Go.Proofs.YtmcmjcaigipoaaaGreat.dispatchSettles
namespace Go.Proofs.YtmcmjcaigipoaaaGreat.dispatchSettles
open Go.Sept Go.RowKit Go.ChangeShapes Go.WideShapes Go.ChangeAt Go.Joins Go.Deep

set_option maxRecDepth 100000 in
theorem lifted (os : Os) (started : os.Started) (H : Type) (enc : TypeId × Value → H) :
    ReturnsInHanded {} Tryz.checked os 3 .any (Rows.dispatchSettlesSpec.pre6 enc Tryz.prog Tryz.f3 Rows.dispatchSettlesRow.domain false) (Rows.dispatchSettlesSpec.post enc Tryz.prog Tryz.f3 false true false false) := by
  refine returnsInHanded_of_change (C := Tryz.checked) ownKnob15 started (by kernel_rfl) Tryz.func3
    (ChangeSpec.witness6 (enc := enc) (C := Tryz.checked) false ⟨#[], #[.agg #[.slice none 0 0, .slice none 0 0], .slice none 0 0, .int .u8 0], []⟩ 8 (by kernel_rfl) (by kernel_rfl) (by kernel_rfl) (by kernel_rfl)) ?_
  intro W base args ds gs before hval0 hW hcnd _
  have hval : ∀ (j : Nat) t v, Tryz.f3.params[j]? = some t → args[j]? = some v → Value.okWide Tryz.prog W .any base t v := hval0
  have hW' := hW
  obtain ⟨p, q, hA0, hV, rfl, hfz, hnd⟩ := hW
  have hA : DataW.TrodAll enc Tryz.prog W 0 (fun _ => true) true Tryz.f3.params.toList args.toList ds p := hA0
  rw [Tryz.params3] at hA hval
  obtain ⟨v0, vs0, d0, ds0, p0, q0, hargs, rfl, rfl, h0, r0⟩ := trodAll_cons hA
  obtain ⟨v1, vs1, d1, ds1, p1, q1, rfl, rfl, rfl, h1, r1⟩ := trodAll_cons r0
  obtain ⟨v2, vs2, d2, ds2, p2, q2, rfl, rfl, rfl, h2, r2⟩ := trodAll_cons r1
  obtain ⟨rfl, rfl, rfl⟩ := trodAll_nil r2
  obtain rfl : args = #[v0, v1, v2] := by cases args; simp_all
  obtain ⟨x0, x1, c, rfl, hc⟩ := open_pt (hval 0 25 v0 rfl rfl) h0
  obtain ⟨sa, ls, sc, rfl⟩ := okWide_slice Tryz.underlying26 (hval 1 26 v1 rfl rfl)
  obtain ⟨ops, hops⟩ := open_arg15 Tryz.underlying26 (show Tryz.prog.cellsOf 41 = 5 by kernel_rfl) (by decide) el_op15 h1
  obtain ⟨a2, rfl, rfl, rfl, w2⟩ := open_int Tryz.underlying5 (hval 2 5 v2 rfl rfl) h2
  refine (walk W x0 x1 c hc sa ls sc ops hops a2 (bounds_u8 w2)).mono fun e W' ⟨he, hg⟩ => ?_
  subst he
  exact ⟨_, rfl, post_law 3 4 laidOut15 (by kernel_rfl) rfl rfl rfl Tryz.underlying4 (fun l hl => by match l, hl with | [_, _, _], _ => rfl) hW' hg⟩

theorem over : Rows.dispatchSettlesRow.holds Tryz.pinned (OpenSpec.ofChange Rows.dispatchSettlesSpec) :=
  OpenClaim.holds_of_wide 3 Tryz.f3 rfl rfl rfl rfl rfl rfl rfl ⟨rfl, rfl, rfl, rfl, rfl⟩ rfl rfl rfl rfl rfl (by kernel_rfl) Tryz.func3 (by kernel_rfl)
    (of_decide_eq_true (by kernel_rfl)) (by unfold Func.isWrapper; first | (rw [if_pos (by decide +kernel)]; kernel_rfl) | (rw [if_neg (by decide +kernel)]; exact ⟨rfl, rfl⟩))
    (fun os started H enc _ => lifted os started H enc)

theorem proved : Rows.DispatchSettlesSaid := over
#print axioms proved
end Go.Proofs.YtmcmjcaigipoaaaGreat.dispatchSettles

/-
  ThreadBoots: at the beginning each thread is ready, with its priority, waits for nothing, has nothing. Conditions: none.
-/
import Derived.Test.YtabdlbmdbceemaaAwake13
import Derived.Test.YtabdlbmdbceemaaMath13
import Derived.Test.YtabdlbmdbceemaaOpenCf11
namespace Go.Proofs.Ytabdlbmdbceemaa.threadBoots
open Go.Sept Go.RowKit Go.ChangeShapes Go.WideShapes Go.ChangeAt Go.Joins Go.Deep

theorem own : ownKnob Try.prog.godebug = none := by kernel_rfl
theorem laidOut : laidOutB Try.prog = true := by kernel_rfl
end Go.Proofs.Ytabdlbmdbceemaa.threadBoots
namespace Go.Proofs.Ytabdlbmdbceemaa.threadBoots
open Go.Sept Go.RowKit

set_option maxRecDepth 100000 in
set_option maxHeartbeats 4000000 in
theorem walk {P0 : Nat → Prop} (w : World) (v0 v1 : Value) (p : Pt) (h0 : PtIs P0 w v0 v1 p) :
    Calls Try.prog 6 #[.agg #[v0, v1]] w fun e w' => e = .returned (.bool true) ∧ Below w.heap.size w w' := by
  have h : PtIs (fun k => k < w.heap.size) w v0 v1 p := ⟨h0.1.low (fun _ _ _ h => low_th _ h), h0.2.low (fun _ _ _ h => ⟨Cel.lt h.1.1, h⟩)⟩
  clear h0
  obtain ⟨xa, xc, rfl, xm⟩ := h.1.shape
  obtain ⟨ya, yc, rfl, ym⟩ := h.2.shape
  obtain ⟨n, hn⟩ : ∃ n, p.ths.length = n := ⟨_, rfl⟩
  obtain ⟨m, hm⟩ : ∃ m, p.obs.length = m := ⟨_, rfl⟩
  have HN := hid hn
  have HM := hid hm
  rw [hn] at h xm ⊢
  rw [hm] at h ym ⊢
  clear hn hm
  have hW : ∃ W z, W = w.alloc (ptO (.slice xa n xc) (.slice ya m yc)) ∧ z = w.heap.size ∧ Only (fun _ => False) w W ∧ W.heap[z]? = some (ptO (.slice xa n xc) (.slice ya m yc)) := ⟨_, _, rfl, rfl, (Only.refl _ _).alloc _, heap_new _ _⟩
  obtain ⟨W, z, hWe, hze, hoW, hbz⟩ := hW
  have HC := hid (h.only hoW (fun _ _ h => h))
  have HO := hid hoW
  have HB := hid hbz
  have HCELL : Hid (∀ w', Only (fun _ => False) W w' → w'.cell? ⟨z, 0, none⟩ = some (.slice xa n xc) ∧ w'.cell? ⟨z, 1, none⟩ = some (.slice ya m yc)) := fun w' ho => by
    have h9 := (ho.block z (lt_of_block hbz) (fun h => h)).trans hbz
    exact ⟨cell_of_block h9 0, cell_of_block h9 1⟩
  clear hoW hbz h
  simp only [ptO] at hWe
  go_enter Try.func6, Try.ntmps6
  go_upto_region 1 with fail
  rw [← hWe, ← hze]
  clear hWe hze
  go_wp2_with fail
  refine (awake13_any _).mono ?_
  rintro e w1 ⟨rfl, ho1⟩
  obtain ⟨c0, c1⟩ := HCELL.out w1 ho1
  have HO1 := hid ho1
  clear ho1
  go_wp2_with fail
  refine (fewPart2_any _ _ _ p (HC.out.only HO1.out (fun _ _ h => h))).mono ?_
  rintro e w2 ⟨⟨b, rfl, hb⟩, ho2⟩
  have HO2 := hid (HO1.out.chain ho2 (fun _ _ h => h))
  clear ho2 c0 c1
  cases b
  · clear hb
    go_wp2_with fail
    refine (awake13_any _).mono ?_
    rintro e w3 ⟨rfl, ho3⟩
    have HO3 := hid (HO.out.chain (HO2.out.chain ho3 (fun _ _ h => h)) (fun _ _ h => h))
    clear ho3
    go_wp2_with fail
    go_ret
    exact ⟨rfl, HO3.out.below (Nat.le_refl _) (fun _ _ h => h)⟩
  have HS := hid (hb rfl)
  have HC2 := hid (HC.out.only HO2.out (fun _ _ h => h))
  obtain ⟨c0, c1⟩ := HCELL.out w2 HO2.out
  clear hb HO1
  go_wp2_with fail
  refine (of13_rel _ _ _ p HC2.out HS.out).mono ?_
  rintro e w3 ⟨hof, ho3⟩
  have HO3 := hid (HO2.out.chain ho3 (fun _ _ h => h))
  clear ho3 c0 c1 HO2 HC2
  rcases hof with ⟨hne, rfl⟩ | ⟨heq, cs, rfl, hpl⟩
  · clear hne
    go_wp2_with fail
    go_ret
    exact ⟨rfl, (HO.out.chain (HO3.out.alloc _) (fun _ _ h => h)).below (Nat.le_refl _) (fun _ _ h => h)⟩
  have hth := ThIs.of hpl heq
  have hplL := hpl
  obtain ⟨ta, oa, za, zc, zb, zd, rfl⟩ := hpl.shape
  clear hpl
  rw [HN.out, HM.out] at hplL hth ⊢
  have HPL := hid hplL
  have HEQ := hid heq
  have HV : ∃ V y, V = w3.alloc (plO (planCs n m ta oa (.slice za n zc) (.slice zb m zd))) ∧ y = w3.heap.size ∧ Only (fun _ => False) w3 V ∧ V.heap[y]? = some (plO (planCs n m ta oa (.slice za n zc) (.slice zb m zd))) := ⟨_, _, rfl, rfl, (Only.refl _ _).alloc _, heap_new _ _⟩
  obtain ⟨V, y, hVe, hye, hoV, hby⟩ := HV
  have HOV := hid (HO3.out.chain hoV (fun _ _ h => h))
  have HBY := hid hby
  have HTH := hid (hth.only hoV (fun _ _ h => h))
  have hn6 : n ≤ 6 := hth.1
  have hm8 : m ≤ 8 := hth.2.1
  have HPLV := hid (hplL.only hoV (fun _ _ h => h))
  obtain ⟨f0, f1, f2, f3, f4, f5, f6, f7, f8, f9, f10, f11, f12, f13⟩ := plan_cells hby
  obtain ⟨c0, c1⟩ := HCELL.out V HOV.out
  clear hoV hby hplL hth heq
  go_upto_region 4 with fail
  rw [← hVe, ← hye]
  clear hVe hye
  have HPC : Hid (∀ wx, Only (fun _ => False) V wx → wx.cell? ⟨y, 0, none⟩ = some (.int .i64 0) ∧ wx.cell? ⟨y, 1, none⟩ = some (.int .i64 2) ∧ wx.cell? ⟨y, 2, none⟩ = some (.int .i64 4) ∧ wx.cell? ⟨y, 3, none⟩ = some (.int .i64 3) ∧ wx.cell? ⟨y, 4, none⟩ = some (.int .i64 5) ∧ wx.cell? ⟨y, 5, none⟩ = some (.int .i64 6) ∧ wx.cell? ⟨y, 6, none⟩ = some (.int .i64 8) ∧ wx.cell? ⟨y, 7, none⟩ = some (.int .i64 41) ∧ wx.cell? ⟨y, 8, none⟩ = some (.int .i64 43) ∧ wx.cell? ⟨y, 9, none⟩ = some (.slice ta n n) ∧ wx.cell? ⟨y, 10, none⟩ = some (.slice oa m m) ∧ wx.cell? ⟨y, 11, none⟩ = some (.int .i64 (43 + (m : Int) + (n : Int) * 24 + (m : Int) * 24)) ∧ wx.cell? ⟨y, 12, none⟩ = some (.slice za n zc) ∧ wx.cell? ⟨y, 13, none⟩ = some (.slice zb m zd)) := fun wx ho => plan_cells ((ho.block y (lt_of_block HBY.out) (fun h => h)).trans HBY.out)
  have HBT := hid (boot_rel V _ p HPLV.out HEQ.out)
  go_wp2_with fail
  refine HBT.out.mono ?_
  rintro e w4 ⟨g, r, rfl, hmem, ⟨hg, hr⟩, ho4⟩
  have hfl := boot_field HEQ.out
  rw [HN.out, HM.out] at hmem hfl
  have hlen := length_bootX 16 [3, 5] p n m
  obtain ⟨YS, hYS⟩ : ∃ YS, bootX 16 [3, 5] p n m = YS := ⟨_, rfl⟩
  rw [hYS] at hmem hfl hlen
  have HFL := hid hfl
  have HMID : Hid (Mid13 V w4 (planCs n m ta oa (.slice za n zc) (.slice zb m zd)) n m g r YS) := ⟨HTH.out.low.only ho4 (fun _ _ h => h), hmem, hg, hr, by omega, ho4⟩
  have HYV : Hid (y < V.heap.size ∧ z < V.heap.size ∧ W.heap.size ≤ V.heap.size) := ⟨lt_of_block HBY.out, Nat.lt_of_lt_of_le (lt_of_block HB.out) HOV.out.size, HOV.out.size⟩
  clear f0 f1 f2 f3 f4 f5 f6 f7 f8 f9 f10 f11 f12 f13 c0 c1 hfl hlen hYS
  obtain ⟨c0, c1⟩ := HCELL.out w4 (HOV.out.chain ho4 (fun _ _ h => h))
  clear ho4 hmem HBT
  have HRUN : Hid (∀ (wx : World) (U t q : Nat) (x : Th), Mid13 V wx (planCs n m ta oa (.slice za n zc) (.slice zb m zd)) n m g r YS → wx.heap[U]? = some (act13O n m ta oa za zb zc zd (t : Int) (q : Int) 0 false 0) → V.heap.size ≤ U → U ≠ g → U ≠ r → p.ths[t]? = some x → q < 12 →
      Calls Try.prog 15 #[.pointer (some ⟨g, 0, none⟩), bodyV 16 (ptrV U), .int .i64 5000] wx fun e w' => e = .returned (.bool true) ∧ Mid13 V w' (planCs n m ta oa (.slice za n zc) (.slice zb m zd)) n m g r YS ∧ w'.cell? ⟨U, 18, none⟩ = some (.int .i64 (if q = 1 ∨ q = 2 then x.prio else 0))) := by
    intro wx U t q x hM hU h1 h2 h3 hx hq
    refine (run_get13 hM (t : Int) (q : Int) 0 0 hU h1 h2 h3).mono ?_
    rintro e w' ⟨rfl, k1, k2, _⟩
    refine ⟨rfl, k1, ?_⟩
    have htn : t < n := by have := (List.getElem?_eq_some_iff.1 hx).1; rw [HN.out] at this; exact this
    have e1 := fieldV_in (n := n) (m := m) (t := (t : Int)) (f := (q : Int)) (by omega) (by omega) (by omega) (by omega)
    have e2 := HFL.out t x hx (5 + (q : Int)) (by omega) (by omega)
    rw [get_ans, e1, if_neg (by omega), e2] at k2
    have k3 := cell_of_block k2 18
    have e3 : (if q = 1 ∨ q = 2 then x.prio else 0) = (if 5 + (q : Int) = 6 ∨ 5 + (q : Int) = 7 then x.prio else 0) := by
      by_cases hc : q = 1 ∨ q = 2
      · rw [if_pos hc, if_pos (by omega)]
      · rw [if_neg hc, if_neg (by omega)]
    rw [e3]
    exact k3
  have hmf : ∀ (fn : Fn) (first cap : Array Value) (w : World), (Instr.makeFunc fn first cap).run Try.prog w = .ok (.func fn first cap) w := fun _ _ _ _ => rfl
  go_wp2_with fail
  clear c0 c1
  go_loopw [30] (fun i wx => ∃ j : Nat, i = .int .i64 (j : Int) ∧ j ≤ n ∧ Mid13 V wx (planCs n m ta oa (.slice za n zc) (.slice zb m zd)) n m g r YS) (fun i _ => n - (intOf i).toNat)
  case atStart => exact ⟨0, rfl, Nat.zero_le _, HMID.out⟩
  case round =>
  clear HMID
  obtain ⟨j, rfl, hj, hmid⟩ := hrel
  have HMID := hid hmid
  clear hmid
  by_cases hlt : (j : Int) < (n : Int)
  · have HX : Hid (∃ x bt ot, p.ths[j]? = some x ∧ xa = some ⟨bt, ot, none⟩ ∧ ∀ wx, Only (fun _ => False) V wx → wx.cell? ⟨bt, ot + j * 4, none⟩ = some (.int .i64 x.prio)) := by
      obtain ⟨bt, ot, h1, hlo, x, hx, hc1, _⟩ := HC.out.1.get j (by rw [HN.out]; omega)
      refine ⟨x, bt, ot, hx, h1, fun wx ho => ?_⟩
      have h9 := HC.out.only (HOV.out.chain ho (fun _ _ h => h)) (fun _ _ h => h)
      obtain ⟨bt2, ot2, h2, _, x2, hx2, hc2, _⟩ := h9.1.get j (by rw [HN.out]; omega)
      rw [h1] at h2
      injection h2 with h2
      injection h2 with h3 h4 _
      subst h3 h4
      rw [hx] at hx2
      injection hx2 with hx2
      subst hx2
      exact hc2.1
    obtain ⟨x, bt, ot, hx, hxa, htc⟩ := HX.out
    subst hxa
    have HPX := hid hx
    have HTC := hid htc
    clear hx htc HX
    go_wp2_with fail
    go_loopw [33] (fun i wx => ∃ q : Nat, i = .int .i64 (q : Int) ∧ q ≤ 19 ∧ Mid13 V wx (planCs n m ta oa (.slice za n zc) (.slice zb m zd)) n m g r YS) (fun i _ => 19 - (intOf i).toNat)
    case atStart => exact ⟨0, rfl, Nat.zero_le _, HMID.out⟩
    case round =>
    clear HMID
    obtain ⟨q, rfl, hq, hmid⟩ := hrel
    have HMID := hid hmid
    by_cases hq19 : (q : Int) < 19
    · have hX : ∃ X U, X = wr.alloc (act13O n m ta oa za zb zc zd (j : Int) (q : Int) 0 false 0) ∧ U = wr.heap.size ∧ Mid13 V X (planCs n m ta oa (.slice za n zc) (.slice zb m zd)) n m g r YS ∧ X.heap[U]? = some (act13O n m ta oa za zb zc zd (j : Int) (q : Int) 0 false 0) ∧ V.heap.size ≤ U ∧ U ≠ g ∧ U ≠ r := by
        have a1 := hmid.mem.head
        have a2 := lt_of_block a1
        have a3 := hmid.mem.row.lt
        exact ⟨_, _, rfl, rfl, hmid.keep ((Only.refl _ _).alloc _), heap_new _ _, hmid.only.size, by omega, by omega⟩
      obtain ⟨X, U, hXe, hUe, hmX, hbU, u1, u2, u3⟩ := hX
      obtain ⟨f0, f1, f2, f3, f4, f5, f6, f7, f8, f9, f10, f11, f12, f13⟩ := HPC.out wr hmid.only
      have HMX := hid hmX
      have HBU := hid hbU
      have HU := hid (And.intro u1 (And.intro u2 u3))
      clear hmid hmX hbU u1 u2 u3
      go_upto_region 14 with fail
      rw [← hXe, ← hUe]
      clear hXe hUe f0 f1 f2 f3 f4 f5 f6 f7 f8 f9 f10 f11 f12 f13 HMID
      by_cases hq12 : (q : Int) < 12
      · have HR := hid (HRUN.out X U j q x HMX.out HBU.out HU.out.1 HU.out.2.1 HU.out.2.2 HPX.out (by omega))
        obtain ⟨c0, c1⟩ := HCELL.out X (HOV.out.chain HMX.out.only (fun _ _ h => h))
        have e1 := HTC.out X HMX.out.only
        by_cases hq1 : q = 1
        · have hb1 : ((q : Int) == 1) = true := by rw [hq1]; rfl
          have hi : (if q = 1 ∨ q = 2 then x.prio else 0) = x.prio := if_pos (.inl hq1)
          have hs : (x.prio != x.prio) = false := by simp
          rw [hi] at HR
          clear hq1 hi
          go_wp2_with fail
          refine HR.out.mono ?_
          rintro e w5 ⟨rfl, hm5, hc5⟩
          have HM5 := hid hm5
          clear hm5 HR c0 c1 e1
          go_wp2_with fail
          go_roundw
          case rel => exact ⟨q + 1, by go_num, by omega, HM5.out⟩
          case measure => simp [intOf]; omega
        · by_cases hq2 : q = 2
          · have hb1 : ((q : Int) == 1) = false := by rw [hq2]; rfl
            have hb2 : ((q : Int) == 2) = true := by rw [hq2]; rfl
            have hi : (if q = 1 ∨ q = 2 then x.prio else 0) = x.prio := if_pos (.inr hq2)
            have hs : (x.prio != x.prio) = false := by simp
            rw [hi] at HR
            clear hq1 hq2 hi
            go_wp2_with fail
            refine HR.out.mono ?_
            rintro e w5 ⟨rfl, hm5, hc5⟩
            have HM5 := hid hm5
            clear hm5 HR c0 c1 e1
            go_wp2_with fail
            go_roundw
            case rel => exact ⟨q + 1, by go_num, by omega, HM5.out⟩
            case measure => simp [intOf]; omega
          · have hb1 : ((q : Int) == 1) = false := beq_eq_false_iff_ne.2 (by omega)
            have hb2 : ((q : Int) == 2) = false := beq_eq_false_iff_ne.2 (by omega)
            have hi : (if q = 1 ∨ q = 2 then x.prio else 0) = 0 := if_neg (by omega)
            rw [hi] at HR
            clear hq1 hq2 hi c0 c1 e1
            go_wp2_with fail
            refine HR.out.mono ?_
            rintro e w5 ⟨rfl, hm5, hc5⟩
            have HM5 := hid hm5
            clear hm5 HR
            go_wp2_with fail
            go_roundw
            case rel => exact ⟨q + 1, by go_num, by omega, HM5.out⟩
            case measure => simp [intOf]; omega
      · have hb1 : ((q : Int) == 1) = false := beq_eq_false_iff_ne.2 (by omega)
        have hb2 : ((q : Int) == 2) = false := beq_eq_false_iff_ne.2 (by omega)
        go_wp2_with fail
        go_roundw
        case rel => exact ⟨q + 1, by go_num, by omega, HMX.out⟩
        case measure => simp [intOf]; omega
    · clear hmid
      go_wp2_with fail
      go_roundw
      case rel => exact ⟨j + 1, by go_num, by omega, HMID.out⟩
      case measure => simp [intOf]; omega
  · go_wp2_with fail
    go_ret
    exact ⟨rfl, (HO.out.chain (HOV.out.chain HMID.out.only (fun _ _ h => h)) (fun _ _ h => h)).below (Nat.le_refl _) (fun _ _ h => h)⟩
end Go.Proofs.Ytabdlbmdbceemaa.threadBoots
namespace Go.Proofs.Ytabdlbmdbceemaa.threadBoots
open Go.Sept Go.RowKit Go.ChangeShapes Go.WideShapes Go.ChangeAt Go.Joins Go.Deep

set_option maxRecDepth 100000 in
theorem lifted (os : Os) (started : os.Started) (H : Type) (enc : TypeId × Value → H) :
    ReturnsInHanded {} Try.checked os 6 .any (Rows.threadBootsSpec.pre6 enc Try.prog Try.f6 Rows.threadBootsRow.domain false) (Rows.threadBootsSpec.post enc Try.prog Try.f6 false true false false) := by
  refine returnsInHanded_of_change (C := Try.checked) own started (by kernel_rfl) Try.func6
    (ChangeSpec.witness6 (enc := enc) (C := Try.checked) false ⟨#[], #[.agg #[.slice none 0 0, .slice none 0 0]], []⟩ 8 (by kernel_rfl) (by kernel_rfl) (by kernel_rfl) (by kernel_rfl)) ?_
  intro W base args ds gs before hval0 hW hcnd _
  have hval : ∀ (j : Nat) t v, Try.f6.params[j]? = some t → args[j]? = some v → Value.okWide Try.prog W .any base t v := hval0
  have hW' := hW
  obtain ⟨p, q, hA0, hV, rfl, hfz, hnd⟩ := hW
  have hA : DataW.TrodAll enc Try.prog W 0 (fun _ => true) true Try.f6.params.toList args.toList ds p := hA0
  rw [Try.params6] at hA hval
  obtain ⟨v0, vs0, d0, ds0, p0, q0, hargs, rfl, rfl, h0, r0⟩ := trodAll_cons hA
  obtain ⟨rfl, rfl, rfl⟩ := trodAll_nil r0
  obtain rfl : args = #[v0] := by cases args; simp_all
  obtain ⟨x0, x1, c, rfl, hc⟩ := open_pt (hval 0 25 v0 rfl rfl) h0
  refine (walk W x0 x1 c hc  ).mono fun e W' ⟨he, hg⟩ => ?_
  subst he
  exact ⟨_, rfl, post_law 1 4 laidOut (by kernel_rfl) rfl rfl rfl Try.underlying4 (fun l hl => by match l, hl with | [_], _ => rfl) hW' hg⟩

theorem over : Rows.threadBootsRow.holds Try.pinned (OpenSpec.ofChange Rows.threadBootsSpec) :=
  OpenClaim.holds_of_wide 6 Try.f6 rfl rfl rfl rfl rfl rfl rfl ⟨rfl, rfl, rfl, rfl, rfl⟩ rfl rfl rfl rfl rfl (by kernel_rfl) Try.func6 (by kernel_rfl)
    (of_decide_eq_true (by kernel_rfl)) (by unfold Func.isWrapper; first | (rw [if_pos (by decide +kernel)]; kernel_rfl) | (rw [if_neg (by decide +kernel)]; exact ⟨rfl, rfl⟩))
    (fun os started H enc _ => lifted os started H enc)

theorem proved : Rows.ThreadBootsSaid := over
#print axioms proved
end Go.Proofs.Ytabdlbmdbceemaa.threadBoots

/-
  Package config: an end, a channel, ends that are shared. Conditions: none.
-/
import Derived.Test.YtapmakdklpbjkaaConf11a
namespace Go.Proofs.Ytapmakdklpbjkaa
open Go.RowKit Go.Sept

set_option maxRecDepth 100000 in
set_option maxHeartbeats 1000000 in
theorem cEnd {P : Nat → Prop} (w : World) (v : Value) (ps : List Pt) (h : SlOf P 2 (ptE P) w v ps) (p o k : Int) :
    Calls Try.prog 92 #[v, .int .i64 p, .int .i64 o, .int .i64 k] w fun e w' => e = .returned (.bool (endOk ps p o k)) ∧ w' = w := by
  obtain ⟨pa, pc, rfl, pm⟩ := h.shape
  have HP := hid h
  obtain ⟨n, hn⟩ : ∃ n, ps.length = n := ⟨_, rfl⟩
  have HN := hid hn
  obtain ⟨r, hr⟩ : ∃ r, endOk ps p o k = r := ⟨_, rfl⟩
  have HR := hid hr
  rw [hr]
  rw [hn] at pm ⊢
  clear h hn hr
  go_enter Try.func92, Try.ntmps92
  go_wp2_with fail
  refine (cNumber _ _ _).mono ?_
  rintro e w2 ⟨rfl, rfl⟩
  by_cases h12 : 0 ≤ p ∧ p < n
  · rw [decide_eq_true h12]
    obtain ⟨h1, h2⟩ := h12
    obtain ⟨pn, rfl⟩ : ∃ x : Nat, p = x := ⟨p.toNat, by omega⟩
    obtain ⟨b, off, rfl, _, x, hx, ⟨u0, k0, k1⟩, ⟨u1, k2, k3⟩⟩ := HP.out.get pn (by rw [HN.out]; omega)
    obtain ⟨oa, oc, rfl, om⟩ := k3.shape
    have e1 : w2.cell? ⟨b, off + pn * 2 + 1, none⟩ = some (.slice oa x.obs.length oc) := k2
    obtain ⟨m, hm⟩ : ∃ m, x.obs.length = m := ⟨_, rfl⟩
    have HQ := hid k3
    have HX := hid hx
    have HM := hid hm
    rw [hm] at e1 om
    clear k0 k1 k2 k3 hx hm
    go_wp2_with fail
    refine (cNumber _ _ _).mono ?_
    rintro e w3 ⟨rfl, rfl⟩
    by_cases h34 : 0 ≤ o ∧ o < m
    · rw [decide_eq_true h34]
      obtain ⟨h3, h4⟩ := h34
      obtain ⟨on, rfl⟩ : ∃ x : Nat, o = x := ⟨o.toNat, by omega⟩
      obtain ⟨b2, off2, rfl, _, y, hy, j1, _, _⟩ := HQ.out.get on (by rw [HM.out]; omega)
      have f0 : w3.cell? ⟨b2, off2 + on * 3, none⟩ = some (.int .i64 y.kind) := j1.1
      have hb := endOk_some (k := k) (o := on) HX.out
      rw [hy, Option.any_some, HR.out] at hb
      obtain ⟨yk, hyk⟩ : ∃ x, y.kind = x := ⟨_, rfl⟩
      rw [hyk] at f0 hb
      have HRE := hid hb
      clear j1 hy hyk hb
      go_wp2_with fail
      go_ret
      exact ⟨by rw [HRE.out]; exact congrArg (fun b => Ending.returned (.bool b)) (by by_cases e : yk = k <;> simp [e]), rfl⟩
    · rw [decide_eq_false h34]
      have HRE : Hid (r = false) := by
        show _ = _
        rw [← HR.out]
        by_cases h3 : 0 ≤ o
        · obtain ⟨on, rfl⟩ : ∃ x : Nat, o = x := ⟨o.toNat, by omega⟩
          rw [endOk_some HX.out, List.getElem?_eq_none (by rw [HM.out]; omega), Option.any_none]
        · rw [endOk_neg (by omega)]
      clear h34
      go_wp2_with fail
      go_ret
      exact ⟨by rw [HRE.out]; rfl, rfl⟩
  · rw [decide_eq_false h12]
    have HRE : Hid (r = false) := by
      show _ = _
      rw [← HR.out]
      by_cases h3 : 0 ≤ p
      · rw [endOk_part (by rw [HN.out]; omega)]
      · rw [endOk_neg (by omega)]
    clear h12
    go_wp2_with fail
    go_ret
    exact ⟨by rw [HRE.out]; rfl, rfl⟩

/-- A channel's cells. -/
abbrev chO (xf xo xt xi : Int) : Obj := .cells #[.int .i64 xf, .int .i64 xo, .int .i64 xt, .int .i64 xi] 108
theorem ch_cells {V wr : World} {y : Nat} {xf xo xt xi : Int} (hB : V.heap[y]? = some (chO xf xo xt xi)) (ho : Only (fun _ => False) V wr) : wr.cell? ⟨y, 0, none⟩ = some (.int .i64 xf) ∧ wr.cell? ⟨y, 1, none⟩ = some (.int .i64 xo) ∧ wr.cell? ⟨y, 2, none⟩ = some (.int .i64 xt) ∧ wr.cell? ⟨y, 3, none⟩ = some (.int .i64 xi) := by
  have hb := (ho.block y (lt_of_block hB) (fun h => h)).trans hB
  exact ⟨cell_of_block hb 0, cell_of_block hb 1, cell_of_block hb 2, cell_of_block hb 3⟩

set_option maxRecDepth 100000 in
set_option maxHeartbeats 1000000 in
theorem cChannel {P : Nat → Prop} (w : World) (v : Value) (ps : List Pt) (h : SlOf P 2 (ptE P) w v ps) (xf xo xt xi : Int) :
    Calls Try.prog 76 #[.agg #[.int .i64 xf, .int .i64 xo, .int .i64 xt, .int .i64 xi], v] w fun e w' => e = .returned (.bool (chOk ps ⟨xf, xo, xt, xi⟩)) ∧ Only (fun _ => False) w w' := by
  obtain ⟨pa, pc, rfl, pm⟩ := h.shape
  have hW : ∃ W z, W = w.alloc (chO xf xo xt xi) ∧ z = w.heap.size ∧ Only (fun _ => False) w W ∧ W.heap[z]? = some (chO xf xo xt xi) := ⟨_, _, rfl, rfl, (Only.refl _ _).alloc _, heap_new _ _⟩
  obtain ⟨W, z, hWe, hze, hoW, hbz⟩ := hW
  obtain ⟨c0, c1, c2, c3⟩ := ch_cells hbz (Only.refl _ _)
  obtain ⟨n, hn⟩ : ∃ n, ps.length = n := ⟨_, rfl⟩
  have HP := hid (h.only (stay_pt hoW (fun _ _ h => h)))
  have HO := hid hoW
  rw [hn] at pm HP ⊢
  clear h hn hoW hbz
  obtain ⟨a1, ha1⟩ : ∃ y, endOk ps xf xo 6 = y := ⟨_, rfl⟩
  obtain ⟨a2, ha2⟩ : ∃ y, endOk ps xt xi 7 = y := ⟨_, rfl⟩
  obtain ⟨r, hr⟩ : ∃ r, chOk ps ⟨xf, xo, xt, xi⟩ = r := ⟨_, rfl⟩
  have HR : Hid (r = (a1 && a2 && decide (xf ≠ xt))) := by show _ = _; rw [← hr, chOk, ha1, ha2]
  have HA1 := hid ha1
  have HA2 := hid ha2
  rw [hr]
  clear ha1 ha2 hr
  simp only [chO] at hWe
  go_enter Try.func76, Try.ntmps76
  go_upto_region 1 with fail
  rw [← hWe, ← hze]
  clear hWe hze
  by_cases hft : xf = xt
  · have HE : Hid (r = false) := by show _ = _; rw [HR.out, decide_eq_false (fun e => e hft), Bool.and_false]
    subst hft
    go_wp2_with fail
    go_ret
    exact ⟨by rw [HE.out]; rfl, HO.out⟩
  · have HF : Hid (r = (a1 && a2)) := by show _ = _; rw [HR.out, decide_eq_true hft, Bool.and_true]
    go_wp2_with fail
    refine (cEnd _ _ _ HP.out _ _ _).mono ?_
    rintro e w2 ⟨rfl, rfl⟩
    rw [HA1.out]
    cases a1
    · go_wp2_with fail
      go_ret
      exact ⟨by rw [HF.out]; rfl, HO.out⟩
    go_wp2_with fail
    refine (cEnd _ _ _ HP.out _ _ _).mono ?_
    rintro e w3 ⟨rfl, rfl⟩
    rw [HA2.out]
    go_wp2_with fail
    go_ret
    exact ⟨congrArg (fun b => Ending.returned (.bool b)) (a₁ := (xf != xt && a2)) (by rw [HF.out]; simp [hft]), HO.out⟩

set_option maxRecDepth 100000 in
set_option maxHeartbeats 1000000 in
theorem cShares {P : Nat → Prop} (w : World) (v : Value) (l : List Chn) (h : SlOf P 4 chnE w v l) (xf xo xt xi : Int) :
    Calls Try.prog 77 #[.agg #[.int .i64 xf, .int .i64 xo, .int .i64 xt, .int .i64 xi], v] w fun e w' => e = .returned (.bool (l.any (clash ⟨xf, xo, xt, xi⟩))) ∧ Only (fun _ => False) w w' := by
  obtain ⟨la, lc, rfl, lm⟩ := h.shape
  have hW : ∃ W z, W = w.alloc (chO xf xo xt xi) ∧ z = w.heap.size ∧ Only (fun _ => False) w W ∧ W.heap[z]? = some (chO xf xo xt xi) := ⟨_, _, rfl, rfl, (Only.refl _ _).alloc _, heap_new _ _⟩
  obtain ⟨W, z, hWe, hze, hoW, hbz⟩ := hW
  obtain ⟨n, hn⟩ : ∃ n, l.length = n := ⟨_, rfl⟩
  have HN := hid hn
  have HL := hid (h.only (stay_chn hoW (fun _ _ h => h)))
  have HO := hid hoW
  have HB := hid hbz
  obtain ⟨r, hr⟩ : ∃ r, l.any (clash ⟨xf, xo, xt, xi⟩) = r := ⟨_, rfl⟩
  have HR := hid hr
  rw [hn] at lm HL ⊢
  rw [hr]
  clear h hn hoW hbz hr
  simp only [chO] at hWe
  go_enter Try.func77, Try.ntmps77
  go_upto_region 1 with fail
  rw [← hWe, ← hze]
  clear hWe hze
  go_wp2_with fail
  go_loopw [9] (fun i wx => ∃ q : Nat, i = .int .i64 (q : Int) ∧ q ≤ n ∧ (∀ a x', a < q → l[a]? = some x' → clash ⟨xf, xo, xt, xi⟩ x' = false) ∧ Only (fun _ => False) W wx) (fun i _ => n - (intOf i).toNat)
  case atStart => exact ⟨0, rfl, Nat.zero_le _, (fun a x ha => absurd ha (Nat.not_lt_zero _)), Only.refl _ _⟩
  case round =>
  obtain ⟨q, rfl, hq, hcl, hox⟩ := hrel
  have HCL := hid hcl
  have HX := hid hox
  clear hcl hox
  by_cases hlt : (q : Int) < (n : Int)
  · obtain ⟨b, off, rfl, _, x2, hx2, k1, k2, k3, k4⟩ := (HL.out.only (stay_chn HX.out (fun _ _ h => h))).get q (by rw [HN.out]; omega)
    obtain ⟨zf, hzf⟩ : ∃ y, x2.src = y := ⟨_, rfl⟩
    obtain ⟨zo, hzo⟩ : ∃ y, x2.out = y := ⟨_, rfl⟩
    obtain ⟨zt, hzt⟩ : ∃ y, x2.dst = y := ⟨_, rfl⟩
    obtain ⟨zi, hzi⟩ : ∃ y, x2.inn = y := ⟨_, rfl⟩
    have e0 : wr.cell? ⟨b, off + q * 4, none⟩ = some (.int .i64 x2.src) := k1.1
    have e1 : wr.cell? ⟨b, off + q * 4 + 1, none⟩ = some (.int .i64 x2.out) := k2.1
    have e2 : wr.cell? ⟨b, off + q * 4 + 2, none⟩ = some (.int .i64 x2.dst) := k3.1
    have e3 : wr.cell? ⟨b, off + q * 4 + 3, none⟩ = some (.int .i64 x2.inn) := k4.1
    have HG2 := hid hx2
    have HCE : Hid (clash ⟨xf, xo, xt, xi⟩ x2 = decide ((xf = zf ∧ xo = zo) ∨ (xt = zt ∧ xi = zi))) := by show _ = _; rw [clash, hzf, hzo, hzt, hzi]
    rw [hzf] at e0
    rw [hzo] at e1
    rw [hzt] at e2
    rw [hzi] at e3
    have hV : ∃ V y2, V = wr.alloc (chO zf zo zt zi) ∧ y2 = wr.heap.size ∧ Only (fun _ => False) W V ∧ V.heap[y2]? = some (chO zf zo zt zi) :=
      ⟨_, _, rfl, rfl, HX.out.alloc _, heap_new _ _⟩
    obtain ⟨V, y2, hVe, hye, hoV, hby2⟩ := hV
    obtain ⟨f0, f1, f2, f3⟩ := ch_cells HB.out hoV
    obtain ⟨g0, g1, g2, g3⟩ := ch_cells hby2 (Only.refl _ _)
    have HV := hid hoV
    have HYES : Hid ((xf = zf ∧ xo = zo) ∨ (xt = zt ∧ xi = zi) → r = true) := fun e => by
      rw [← HR.out]
      exact any_yes HG2.out (by rw [HCE.out]; exact decide_eq_true e)
    have HNO : Hid (¬ ((xf = zf ∧ xo = zo) ∨ (xt = zt ∧ xi = zi)) → ∀ a x', a < q + 1 → l[a]? = some x' → clash ⟨xf, xo, xt, xi⟩ x' = false) := fun e a y ha hy => by
      by_cases ea : a = q
      · subst ea
        rw [HG2.out] at hy
        injection hy with hy
        subst hy
        rw [HCE.out]
        exact decide_eq_false e
      · exact HCL.out a y (by omega) hy
    clear hoV hby2 k1 k2 k3 k4 hx2 hzf hzo hzt hzi
    simp only [chO] at hVe
    go_upto_region 4 with fail
    rw [← hVe, ← hye]
    clear hVe hye e0 e1 e2 e3
    have HEND := hid (HO.out.chain HV.out (fun _ _ h => h))
    by_cases a1 : xf = zf
    · have b1 : (zf == xf) = true := beq_iff_eq.2 a1.symm
      by_cases a2 : xo = zo
      · have b2 : (zo == xo) = true := beq_iff_eq.2 a2.symm
        have HE := hid (HYES.out (.inl ⟨a1, a2⟩))
        clear a1 a2
        go_wp2_with fail
        go_ret
        exact ⟨by rw [HE.out]; rfl, HEND.out⟩
      · have b2 : (zo == xo) = false := beq_eq_false_iff_ne.2 (fun e => a2 e.symm)
        by_cases a3 : xt = zt
        · have b3 : (zt == xt) = true := beq_iff_eq.2 a3.symm
          by_cases a4 : xi = zi
          · have b4 : (zi == xi) = true := beq_iff_eq.2 a4.symm
            have HE := hid (HYES.out (.inr ⟨a3, a4⟩))
            clear a1 a2 a3 a4
            go_wp2_with fail
            go_ret
            exact ⟨by rw [HE.out]; rfl, HEND.out⟩
          · have b4 : (zi == xi) = false := beq_eq_false_iff_ne.2 (fun e => a4 e.symm)
            have HE := hid (HNO.out (by omega))
            clear a1 a2 a3 a4
            go_wp2_with fail
            go_roundw
            case rel => exact ⟨q + 1, by go_num, by omega, HE.out, HV.out⟩
            case measure => simp [intOf]; omega
        · have b3 : (zt == xt) = false := beq_eq_false_iff_ne.2 (fun e => a3 e.symm)
          have HE := hid (HNO.out (by omega))
          clear a1 a2 a3
          go_wp2_with fail
          go_roundw
          case rel => exact ⟨q + 1, by go_num, by omega, HE.out, HV.out⟩
          case measure => simp [intOf]; omega
    · have b1 : (zf == xf) = false := beq_eq_false_iff_ne.2 (fun e => a1 e.symm)
      by_cases a3 : xt = zt
      · have b3 : (zt == xt) = true := beq_iff_eq.2 a3.symm
        by_cases a4 : xi = zi
        · have b4 : (zi == xi) = true := beq_iff_eq.2 a4.symm
          have HE := hid (HYES.out (.inr ⟨a3, a4⟩))
          clear a1 a3 a4
          go_wp2_with fail
          go_ret
          exact ⟨by rw [HE.out]; rfl, HEND.out⟩
        · have b4 : (zi == xi) = false := beq_eq_false_iff_ne.2 (fun e => a4 e.symm)
          have HE := hid (HNO.out (by omega))
          clear a1 a3 a4
          go_wp2_with fail
          go_roundw
          case rel => exact ⟨q + 1, by go_num, by omega, HE.out, HV.out⟩
          case measure => simp [intOf]; omega
      · have b3 : (zt == xt) = false := beq_eq_false_iff_ne.2 (fun e => a3 e.symm)
        have HE := hid (HNO.out (by omega))
        clear a1 a3
        go_wp2_with fail
        go_roundw
        case rel => exact ⟨q + 1, by go_num, by omega, HE.out, HV.out⟩
        case measure => simp [intOf]; omega
  · have HE : Hid (r = false) := by
      show _ = _
      rw [← HR.out]
      exact any_no (fun a x' ha hx' => HCL.out a x' (by rw [HN.out] at ha; omega) hx')
    go_wp2_with fail
    go_ret
    exact ⟨by rw [HE.out]; rfl, HO.out.chain HX.out (fun _ _ h => h)⟩
end Go.Proofs.Ytapmakdklpbjkaa

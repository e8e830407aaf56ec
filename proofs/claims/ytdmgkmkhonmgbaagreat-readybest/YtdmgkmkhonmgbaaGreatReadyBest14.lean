/-
  ReadyBest: the first so many that are ready, but some, are told as the document says. Conditions: none.
-/
import Derived.Test.YtdmgkmkhonmgbaaGreatRun14
import Derived.Test.YtdmgkmkhonmgbaaGreatOpenCf11
import Derived.Test.YtdmgkmkhonmgbaaGreatOf12

namespace Go.Proofs.YtdmgkmkhonmgbaaGreat.readyBest
open Go.Sept Go.RowKit Go.ChangeShapes Go.WideShapes Go.ChangeAt Go.Joins Go.Deep

theorem own : ownKnob Tryz.prog.godebug = none := by kernel_rfl
theorem laidOut : laidOutB Tryz.prog = true := by kernel_rfl
def opE (w : World) (b o : Nat) (x : Op14) : Prop := Cel w b o (.int .u8 x.k) ∧ Cel w b (o + 1) (.int .i64 x.t) ∧ Cel w b (o + 2) (.int .i64 x.s) ∧ Cel w b (o + 3) (.int .i64 x.p) ∧ Cel w b (o + 4) (.bool x.f)
section
variable {H : Type} {enc : TypeId × Value → H} {W : World} {held : Bool}
theorem c5 : Tryz.prog.cellsOf 5 = 1 := by kernel_rfl
theorem el_int (fuel : Nat) (cs : List Value) (x : DataW H × List MemPlace) (h : DataW.trod enc Tryz.prog W 0 (fun _ => true) held fuel 3 cs = some x) : ∃ y : Int, ∀ b o, (∀ j, j < 1 → W.cell? ⟨b, o + j, none⟩ = cs[j]?) → intE W b o y := by
  obtain ⟨n, rfl, _, wf⟩ := DataW.trod_int Tryz.underlying3 h
  exact ⟨n, fun b o hc => ⟨hc 0 (by omega), bounds_i64 wf⟩⟩
set_option maxRecDepth 100000 in
theorem el_op (fuel : Nat) (cs : List Value) (x : DataW H × List MemPlace) (h : DataW.trod enc Tryz.prog W 0 (fun _ => true) held fuel 42 cs = some x) : ∃ y : Op14, ∀ b o, (∀ j, j < 5 → W.cell? ⟨b, o + j, none⟩ = cs[j]?) → opE W b o y := by
  obtain ⟨xs, n, _, _, hl, hlen, hf⟩ := DataW.trod_struct Tryz.underlying42 h
  rw [show Tryz.prog.cellsOf 42 = 5 by kernel_rfl] at hl
  match cs, hl, xs, hlen with
  | [e0, e1, e2, e3, e4], _, [y0, y1, y2, y3, y4], _ =>
    have t0 : _ = some y0 := hf 0 _ rfl
    have t1 : _ = some y1 := hf 1 _ rfl
    have t2 : _ = some y2 := hf 2 _ rfl
    have t3 : _ = some y3 := hf 3 _ rfl
    have t4 : _ = some y4 := hf 4 _ rfl
    obtain ⟨a0, u0, _, _⟩ := DataW.trod_int Tryz.underlying5 t0
    obtain ⟨a1, u1, _, _⟩ := DataW.trod_int Tryz.underlying3 t1
    obtain ⟨a2, u2, _, _⟩ := DataW.trod_int Tryz.underlying3 t2
    obtain ⟨a3, u3, _, _⟩ := DataW.trod_int Tryz.underlying3 t3
    obtain ⟨a4, u4, _⟩ := DataW.trod_bool Tryz.underlying4 t4
    simp [c3, c4, c5] at u0 u1 u2 u3 u4
    subst u0 u1 u2 u3 u4
    exact ⟨⟨a0, a1, a2, a3, a4⟩, fun b o hc => ⟨hc 0 (by omega), hc 1 (by omega), hc 2 (by omega), hc 3 (by omega), hc 4 (by omega)⟩⟩
theorem open_arg {P : Program} {α : Type} {sz : Nat} {E : World → Nat → Nat → α → Prop} {t te : TypeId} {ao : Option Addr} {len cap : Nat} {d : DataW H} {p : List MemPlace} (ht : P.underlying t = some (.slice te)) (hC : P.cellsOf te = sz) (hsz : 0 < sz)
    (hel : ∀ fuel cs x, DataW.trod enc P W 0 (fun _ => true) held fuel te cs = some x → ∃ y : α, ∀ b o, (∀ j, j < sz → W.cell? ⟨b, o + j, none⟩ = cs[j]?) → E W b o y)
    (h : DataW.Trod enc P W 0 (fun _ => true) held t (.slice ao len cap) d p) : ∃ xs, SlOf (fun k => k < W.heap.size) sz E W (.slice ao len cap) xs := by
  obtain ⟨fuel, hf⟩ := h
  obtain ⟨v, xs, e, hS⟩ := open_sl ht hC hsz hel hf
  simp [Value.cells] at e
  subst e
  exact ⟨xs, hS⟩
end
end Go.Proofs.YtdmgkmkhonmgbaaGreat.readyBest
namespace Go.Proofs.YtdmgkmkhonmgbaaGreat.readyBest
open Go.Sept Go.RowKit

theorem stay_op {P S : Nat → Prop} {w w' : World} (ho : Only S w w') (hS : ∀ k, P k → ¬ S k) : Stay P w w' opE := fun b _ _ hb ⟨h1, h2, h3, h4, h5⟩ => ⟨h1.only ho (hS b hb), h2.only ho (hS b hb), h3.only ho (hS b hb), h4.only ho (hS b hb), h5.only ho (hS b hb)⟩
theorem tail_mem (qs : Nat → List Int) : ∀ (l : Nat) {x : Int}, x ∈ tailL qs l → ∃ q, q < l ∧ x ∈ qs q := by
  intro l
  induction l with
  | zero => exact fun hx => absurd hx (by simp [tailL])
  | succ l ih =>
    intro x hx
    rw [tailL] at hx
    rcases List.mem_append.1 hx with hx | hx
    · exact ⟨l, Nat.lt_succ_self l, hx⟩
    · obtain ⟨q, hq, hx⟩ := ih hx
      exact ⟨q, by omega, hx⟩
theorem best_mem {N : Int} {but : List Int} {Q : Int → Prop} : ∀ (L l : List Int), (∀ x ∈ l, Q x) → (∀ x ∈ L, Q x) → ∀ x ∈ bestF N but l L, Q x := by
  intro L
  induction L with
  | nil => exact fun l h _ => h
  | cons a r ih =>
    intro l h hL
    rw [bestF]
    refine ih _ ?_ (fun x hx => hL x (List.mem_cons_of_mem _ hx))
    split
    · intro x hx
      rcases List.mem_append.1 hx with hx | hx
      · exact h x hx
      · rw [List.mem_singleton] at hx
        exact hx ▸ hL a (List.mem_cons_self ..)
    · exact h
theorem do_no {n : Nat} {s : Sim14} {o : Op14} (h : (doM n s o).1 = false) : (doM n s o).2 = s := by
  unfold doM at h ⊢
  by_cases h1 : o.t < 0 ∨ (n : Int) ≤ o.t
  · rw [if_pos h1] at h
    cases h
  · rw [if_neg h1] at h ⊢
    by_cases k0 : o.k = 0
    · rw [if_pos k0] at h ⊢
      by_cases s0 : s.st o.t.toNat = 0
      · rw [if_pos s0]
      · rw [if_neg s0] at h
        cases h
    · rw [if_neg k0] at h ⊢
      by_cases k1 : o.k = 1
      · rw [if_pos k1] at h ⊢
        by_cases s0 : s.st o.t.toNat = 0
        · rw [if_pos s0] at h
          cases h
        · rw [if_neg s0]
      · rw [if_neg k1] at h ⊢
        by_cases k2 : o.k = 2
        · rw [if_pos k2] at h
          cases h
        · rw [if_neg k2] at h
          cases h
theorem do14_any {L : Nat} (w : World) (M b n cap : Nat) (s : Sim14) (h : Mods L w M b n cap s) (hL : L ≤ w.heap.size) (o : Op14) (hpr : ∀ t, t < n → s.pr t < 16) (hln : ∀ p, (s.qs p).length + 1 ≤ 1000) :
    Calls Tryz.prog 9 #[.pointer (some ⟨M, 0, none⟩), op14V o] w fun e w' => e = .returned (.bool (doM n s o).1) ∧ Mods L w' M b n cap (doM n s o).2 ∧ Only (fun k => k = M ∨ k = b) w w' := by
  by_cases ho : o.t < 0 ∨ (n : Int) ≤ o.t
  · have e : doM n s o = (true, s) := by rw [doM, if_pos ho]
    rw [e]
    exact do14_out w M b n cap s h o ho
  · obtain ⟨k, t', st, p, f⟩ := o
    simp only at ho
    obtain ⟨t, rfl⟩ : ∃ t : Nat, t' = (t : Int) := ⟨t'.toNat, by omega⟩
    exact do14_in w M b n cap s h hL k st p t f (by omega) hpr hln

set_option maxRecDepth 100000 in
set_option maxHeartbeats 4000000 in
theorem walk (w : World) (v0 v1 : Value) (p : Pt) (h : PtIs (fun k => k < w.heap.size) w v0 v1 p) (sa : Option Addr) (ls sc : Nat) (ops : List Op14) (hops : SlOf (fun k => k < w.heap.size) 5 opE w (.slice sa ls sc) ops) (N : Int) (ba : Option Addr) (bn bc : Nat) (but : List Int) (hbut : SlOf (fun k => k < w.heap.size) 1 intE w (.slice ba bn bc) but) :
    Calls Tryz.prog 3 #[.agg #[v0, v1], .slice sa ls sc, .int .i64 N, .slice ba bn bc] w fun e w' => e = .returned (.bool true) ∧ Below w.heap.size w w' := by
  obtain ⟨xa, xc, rfl, xm⟩ := h.1.shape
  obtain ⟨ya, yc, rfl, ym⟩ := h.2.shape
  obtain ⟨hsl, hsc, hscm⟩ := hops.room
  obtain ⟨hbl, hbc, hbcm⟩ := hbut.room
  obtain ⟨n, hn⟩ : ∃ n, p.ths.length = n := ⟨_, rfl⟩
  obtain ⟨m, hm⟩ : ∃ m, p.obs.length = m := ⟨_, rfl⟩
  have HN := hid hn
  have HM := hid hm
  have HSL := hid hsl
  have HOPS := hid hops
  have HBUT := hid hbut
  rw [hn] at h xm ⊢
  rw [hm] at h ym ⊢
  clear hn hm hsl hbl hops hbut
  have hW : ∃ W z, W = w.alloc (ptO (.slice xa n xc) (.slice ya m yc)) ∧ z = w.heap.size ∧ Only (fun _ => False) w W ∧ W.heap[z]? = some (ptO (.slice xa n xc) (.slice ya m yc)) := ⟨_, _, rfl, rfl, (Only.refl _ _).alloc _, heap_new _ _⟩
  obtain ⟨W, z, hWe, hze, hoW, hbz⟩ := hW
  have HC := hid (h.only hoW (fun _ _ h => h))
  have HO := hid hoW
  have HB := hid hbz
  have HCELL : Hid (∀ w', Only (fun _ => False) W w' → w'.cell? ⟨z, 0, none⟩ = some (.slice xa n xc) ∧ w'.cell? ⟨z, 1, none⟩ = some (.slice ya m yc)) := fun w' ho => by
    have h9 := (ho.block z (lt_of_block hbz) (fun h => h)).trans hbz
    exact ⟨cell_of_block h9 0, cell_of_block h9 1⟩
  clear hoW hbz h
  simp only [ptO] at hWe
  go_enter Tryz.func3, Tryz.ntmps3
  go_upto_region 1 with fail
  rw [← hWe, ← hze]
  clear hWe hze
  go_wp2_with fail
  refine (awake14_any _).mono ?_
  rintro e w1 ⟨rfl, ho1⟩
  obtain ⟨c0, c1⟩ := HCELL.out w1 ho1
  have HO1 := hid ho1
  clear ho1
  go_wp2_with fail
  refine (fewPart2_any _ _ _ p (HC.out.only HO1.out (fun _ _ h => h))).mono ?_
  rintro e w2 ⟨⟨b, rfl, hb⟩, ho2⟩
  have HO2 := hid (HO1.out.chain ho2 (fun _ _ h => h))
  clear ho2 c0 c1 HO1
  cases b
  · clear hb
    go_wp2_with fail
    refine (awake14_any _).mono ?_
    rintro e w9 ⟨rfl, ho9⟩
    have HO9 := hid (HO.out.chain (HO2.out.chain ho9 (fun _ _ h => h)) (fun _ _ h => h))
    clear ho9
    go_wp2_with fail
    go_ret
    exact ⟨rfl, HO9.out.below (Nat.le_refl _) (fun _ _ h => h)⟩
  have HS := hid (hb rfl)
  clear hb
  by_cases hl40 : (40 : Int) < (ls : Int)
  · clear HS
    go_wp2_with fail
    refine (awake14_any _).mono ?_
    rintro e w9 ⟨rfl, ho9⟩
    have HO9 := hid (HO.out.chain (HO2.out.chain ho9 (fun _ _ h => h)) (fun _ _ h => h))
    clear ho9
    go_wp2_with fail
    go_ret
    exact ⟨rfl, HO9.out.below (Nat.le_refl _) (fun _ _ h => h)⟩
  by_cases hb20 : (20 : Int) < (bn : Int)
  · clear HS
    go_wp2_with fail
    refine (awake14_any _).mono ?_
    rintro e w9 ⟨rfl, ho9⟩
    have HO9 := hid (HO.out.chain (HO2.out.chain ho9 (fun _ _ h => h)) (fun _ _ h => h))
    clear ho9
    go_wp2_with fail
    go_ret
    exact ⟨rfl, HO9.out.below (Nat.le_refl _) (fun _ _ h => h)⟩
  have HC2 := hid (HC.out.only HO2.out (fun _ _ h => h))
  obtain ⟨c0, c1⟩ := HCELL.out w2 HO2.out
  go_wp2_with fail
  refine (of_rel _ _ _ p HC2.out HS.out).mono ?_
  rintro e w3 ⟨hof, ho3⟩
  have HO3 := hid (HO2.out.chain ho3 (fun _ _ h => h))
  clear ho3 c0 c1 HO2 HC2
  rcases hof with ⟨hne, rfl⟩ | ⟨heq, cs, rfl, hpl⟩
  · clear hne
    go_wp2_with fail
    go_ret
    exact ⟨rfl, (HO.out.chain (HO3.out.alloc _) (fun _ _ h => h)).below (Nat.le_refl _) (fun _ _ h => h)⟩
  have hth := ThIs.of hpl heq
  obtain ⟨⟨hsn1, hsn⟩, hsm, hths, hobs⟩ := part_parts heq
  have hplL := hpl
  obtain ⟨ta, oa, za, zc, zb, zd, rfl⟩ := hpl.shape
  clear hpl
  rw [HN.out, HM.out] at hplL hth ⊢
  rw [HN.out] at hsn hsn1
  rw [HM.out] at hsm
  have HPL := hid hplL
  have HEQ := hid heq
  have HSZ : Hid (∀ x ∈ p.obs, x.kind = 4 → 0 ≤ x.size ∧ x.size ≤ 1000) := fun x hx hk => by
    have h8 := of_decide_eq_true (List.all_eq_true.1 hobs x hx)
    omega
  have HPR : Hid (∀ x ∈ p.ths, 0 ≤ x.prio ∧ x.prio ≤ 15) := fun x hx => by
    have h8 := of_decide_eq_true (List.all_eq_true.1 hths x hx)
    exact ⟨h8.1, h8.2.1⟩
  have HV : ∃ V y, V = w3.alloc (plO (planCs n m ta oa (.slice za n zc) (.slice zb m zd))) ∧ y = w3.heap.size ∧ Only (fun _ => False) w3 V ∧ V.heap[y]? = some (plO (planCs n m ta oa (.slice za n zc) (.slice zb m zd))) := ⟨_, _, rfl, rfl, (Only.refl _ _).alloc _, heap_new _ _⟩
  obtain ⟨V, y, hVe, hye, hoV, hby⟩ := HV
  have HOV := hid (HO3.out.chain hoV (fun _ _ h => h))
  have HBY := hid hby
  have HTH := hid (hth.only hoV (fun _ _ h => h))
  have HBT : Hid (∀ wx, Only (fun _ => False) V wx → Calls Tryz.prog 7 #[.agg (planCs n m ta oa (.slice za n zc) (.slice zb m zd))] wx fun e w' => ∃ g r, e = .returned (.pointer (some ⟨g, 0, none⟩)) ∧ MemIs 122 w' g r (bootX 16 [3, 5] p n m) ∧ (wx.heap.size ≤ g ∧ wx.heap.size ≤ r) ∧ Only (fun _ => False) wx w') := fun wx ho => by
    have h9 := boot_rel wx _ p (HPL.out.only (hoV.chain ho (fun _ _ h => h)) (fun _ _ h => h)) HEQ.out
    rw [HN.out, HM.out] at h9
    exact h9
  have HNW : Hid (∀ wx, Only (fun _ => False) V wx → Calls Tryz.prog 8 #[.agg #[.slice xa n xc, .slice ya m yc]] wx fun e w' => ∃ M b cap, e = .returned (.pointer (some ⟨M, 0, none⟩)) ∧ wx.heap.size ≤ M ∧ M < b ∧ Mods wx.heap.size w' M b n cap (sim0 p) ∧ Only (fun _ => False) wx w') := fun wx ho => by
    have hoW : Only (fun _ => False) W wx := HOV.out.chain ho (fun _ _ h => h)
    refine (new13x wx _ _ p (HC.out.only hoW (fun _ _ h => h)) (fun k hk => Nat.lt_of_lt_of_le hk (Nat.le_trans HO.out.size hoW.size)) HSZ.out (fun x hx => by have := HPR.out x hx; omega) ⟨by rw [HN.out]; omega, by rw [HM.out]; omega⟩).mono ?_
    rintro e w' ⟨hnew, ho9⟩
    obtain ⟨M, b, cap, k1, k2, k3, k4⟩ := mod14_new hnew (by rw [HN.out]; omega) (by rw [HN.out]; omega) HPR.out
    rw [HN.out] at k4
    exact ⟨M, b, cap, k1, k2, k3, k4, ho9⟩
  have hraw := boot_raw heq
  have hok := sim0_ok (pt := p) HPR.out
  rw [HN.out, HM.out] at hraw
  rw [HN.out] at hok
  obtain ⟨YS, hYS⟩ : ∃ YS, bootX 16 [3, 5] p n m = YS := ⟨_, rfl⟩
  have hlen := length_bootX 16 [3, 5] p n m
  rw [hYS] at hraw HBT hlen
  have HRAW := hid hraw
  have HOK := hid hok
  have HLEN : Hid (0 < YS.length) := by show 0 < _; omega
  have HPC : Hid (∀ wx, Only (fun _ => False) V wx → PlC14 wx y n m ta oa (.slice za n zc) (.slice zb m zd)) := fun wx ho => plan_cells ((ho.block y (lt_of_block HBY.out) (fun h => h)).trans HBY.out)
  obtain ⟨f0, f1, f2, f3, f4, f5, f6, f7, f8, f9, f10, f11, f12, f13⟩ := plan_cells hby
  obtain ⟨c0, c1⟩ := HCELL.out V HOV.out
  have HYV : Hid (y < V.heap.size ∧ w.heap.size ≤ V.heap.size) := ⟨lt_of_block HBY.out, Nat.le_trans HO.out.size HOV.out.size⟩
  clear hoV hby heq hths hobs hplL hth hraw hok hYS hlen HO3
  go_upto_region 4 with fail
  rw [← hVe, ← hye]
  clear hVe hye
  go_upto_region 6 with fail
  go_cut [11, 12] (fun vg vM wc => ∃ g r M b cap L, vg = .pointer (some ⟨g, 0, none⟩) ∧ vM = .pointer (some ⟨M, 0, none⟩) ∧ Play14 V L wc (planCs n m ta oa (.slice za n zc) (.slice zb m zd)) n m g r M b cap (sim0 p) YS)
  case first =>
    go_region_held (fun w' => w'.cell? ⟨y, 0, none⟩ = some (.int .i64 0) ∧ w'.cell? ⟨y, 1, none⟩ = some (.int .i64 2) ∧ w'.cell? ⟨y, 2, none⟩ = some (.int .i64 4) ∧ w'.cell? ⟨y, 3, none⟩ = some (.int .i64 3) ∧ w'.cell? ⟨y, 4, none⟩ = some (.int .i64 5) ∧ w'.cell? ⟨y, 5, none⟩ = some (.int .i64 6) ∧ w'.cell? ⟨y, 6, none⟩ = some (.int .i64 8) ∧ w'.cell? ⟨y, 7, none⟩ = some (.int .i64 41) ∧ w'.cell? ⟨y, 8, none⟩ = some (.int .i64 43) ∧ w'.cell? ⟨y, 9, none⟩ = some (.slice ta n n) ∧ w'.cell? ⟨y, 10, none⟩ = some (.slice oa m m) ∧ w'.cell? ⟨y, 11, none⟩ = some (.int .i64 (43 + (m : Int) + (n : Int) * 24 + (m : Int) * 24)) ∧ w'.cell? ⟨y, 12, none⟩ = some (.slice za n zc) ∧ w'.cell? ⟨y, 13, none⟩ = some (.slice zb m zd) ∧ w'.cell? ⟨z, 0, none⟩ = some (.slice xa n xc) ∧ w'.cell? ⟨z, 1, none⟩ = some (.slice ya m yc)) (go_keep)
      (first
        | (go_at_call 7; refine (HBT.out _ ((Only.refl _ _).drew)).mono ?_; rintro e w4 ⟨g, r, rfl, hmem, ⟨hg, hr⟩, ho4⟩
           have ho4' : Only (fun _ => False) V w4 := ((Only.refl (fun _ => False) V).drew).chain ho4 (fun _ _ h => h)
           have HO4 := hid ho4'
           have hg' : V.heap.size ≤ g := hg
           have hr' : V.heap.size ≤ r := hr
           have HMID : Hid (Mid13 V w4 (planCs n m ta oa (.slice za n zc) (.slice zb m zd)) n m g r YS) := ⟨HTH.out.low.only ho4' (fun _ _ h => h), hmem, hg', hr', HLEN.out, ho4'⟩
           obtain ⟨f0, f1, f2, f3, f4, f5, f6, f7, f8, f9, f10, f11, f12, f13⟩ := HPC.out w4 ho4'
           obtain ⟨c0, c1⟩ := HCELL.out w4 (HOV.out.chain ho4' (fun _ _ h => h))
           clear hmem hg hr ho4 ho4' hg' hr' HBT)
        | (go_at_call 8; refine (HNW.out w4 HO4.out).mono ?_; rintro e w5 ⟨M, b, cap, rfl, hM, hMb, hmod, ho5⟩
           have HO5 := hid (HO4.out.chain ho5 (fun _ _ h => h))
           have HP : Hid (Play14 V w4.heap.size w5 (planCs n m ta oa (.slice za n zc) (.slice zb m zd)) n m g r M b cap (sim0 p) YS) := ⟨HMID.out.keep ho5, HOK.out, HRAW.out, hmod, lt_of_block HMID.out.mem.head, HMID.out.mem.row.lt, HO4.out.size, hM, hMb, ho5.size⟩
           obtain ⟨f0, f1, f2, f3, f4, f5, f6, f7, f8, f9, f10, f11, f12, f13⟩ := HPC.out w5 HO5.out
           obtain ⟨c0, c1⟩ := HCELL.out w5 (HOV.out.chain HO5.out (fun _ _ h => h))
           clear hM hMb hmod ho5 HMID HNW))
    all_goals go_wp2_with fail
    all_goals go_meet
    all_goals exact ⟨g, r, M, b, cap, w4.heap.size, rfl, rfl, HP.out⟩
  case rest =>
  obtain ⟨g, r, M, b, cap, L, rfl, rfl, hP⟩ := hcut
  have HP := hid hP
  have hls : (ls : Int) ≤ 40 := by omega
  have hmf : ∀ (fn : Fn) (first cap : Array Value) (w : World), (Instr.makeFunc fn first cap).run Tryz.prog w = .ok (.func fn first cap) w := fun _ _ _ _ => rfl
  clear f0 f1 f2 f3 f4 f5 f6 f7 f8 f9 f10 f11 f12 f13 c0 c1 hP HBT HNW HPL HRAW HOK HTH
  go_wp2_with fail
  go_loopw [47] (fun i wx => ∃ (j : Nat) (s : Sim14) (xs : List Int), i = .int .i64 (j : Int) ∧ j ≤ ls ∧ Play14 V L wx (planCs n m ta oa (.slice za n zc) (.slice zb m zd)) n m g r M b cap s xs) (fun i _ => ls - (intOf i).toNat)
  case atStart => exact ⟨0, _, _, rfl, Nat.zero_le _, HP.out⟩
  case round =>
  clear HP
  obtain ⟨j, s, xs, rfl, hj, hP⟩ := hrel
  have HP := hid hP
  clear hP
  by_cases hlt : (j : Int) < (ls : Int)
  · have HST : Hid (∃ o bs os, sa = some ⟨bs, os, none⟩ ∧ ∀ wx, Only (fun _ => False) V wx → opE wx bs (os + j * 5) o) := by
      obtain ⟨bs, os, h1, hlo, o, ho, hE⟩ := HOPS.out.get j (by rw [HSL.out]; omega)
      refine ⟨o, bs, os, h1, fun wx hx => ?_⟩
      exact stay_op (P := fun k => k < w.heap.size) (HO.out.chain (HOV.out.chain hx (fun _ _ h => h)) (fun _ _ h => h)) (fun _ _ h => h) _ _ _ hlo hE
    obtain ⟨o, bs, os, rfl, hst⟩ := HST.out
    have HOP := hid hst
    obtain ⟨d0, d1, d2, d3, d4⟩ := hst wr HP.out.mid.only
    unfold Cel at d0 d1 d2 d3 d4
    clear hst HST
    go_wp2_with fail
    refine (do14_any wr M b n cap s HP.out.mod HP.out.lw o HP.out.ok.pr HP.out.lists.1).mono ?_
    rintro e w5 ⟨rfl, hmod, ho5⟩
    have HMID := hid (HP.out.did ho5)
    have HMOD := hid hmod
    have HLW : Hid (L ≤ w5.heap.size) := Nat.le_trans HP.out.lw ho5.size
    obtain ⟨dd, hdd⟩ : ∃ dd, (doM n s o).1 = dd := ⟨_, rfl⟩
    have HDD := hid hdd
    rw [hdd]
    clear hmod ho5 hdd d0 d1 d2 d3 d4
    cases dd
    · go_wp2_with fail
      go_roundw
      case rel =>
        have h9 := HMOD.out
        rw [do_no HDD.out] at h9
        exact ⟨j + 1, s, xs, by go_num, by omega, ⟨HMID.out, HP.out.ok, HP.out.raw, h9, HP.out.gL, HP.out.rL, HP.out.vL, HP.out.lM, HP.out.mb, HLW.out⟩⟩
      case measure => simp [intOf]; omega
    · obtain ⟨f0, f1, f2, f3, f4, f5, f6, f7, f8, f9, f10, f11, f12, f13⟩ := HPC.out w5 HMID.out.only
      obtain ⟨d0, d1, d2, d3, d4⟩ := HOP.out w5 HMID.out.only
      unfold Cel at d0 d1 d2 d3 d4
      have hX : ∃ X U, X = w5.drew.alloc (act14O n m ta oa za zb zc zd o.k o.t o.s o.p o.f) ∧ U = w5.heap.size ∧ Only (fun _ => False) w5 X ∧ X.heap[U]? = some (act14O n m ta oa za zb zc zd o.k o.t o.s o.p o.f) := ⟨_, _, rfl, rfl, ((Only.refl _ _).drew).alloc _, heap_new _ _⟩
      obtain ⟨X, U, hXe, hUe, hoX, hbU⟩ := hX
      have hUg : U ≠ g ∧ U ≠ r := by
        have e2 := lt_of_block HMID.out.mem.head
        have e3 := HMID.out.mem.row.lt
        exact ⟨by omega, by omega⟩
      have HRUN := hid (run_act14 (HMID.out.keep hoX) o hbU hUg.1 hUg.2)
      have HMODX := hid (HMOD.out.only hoX (fun h => h) (fun h => h) (fun _ _ h => h))
      have HLWX : Hid (L ≤ X.heap.size) := Nat.le_trans HLW.out hoX.size
      clear hoX hbU hUg
      simp only [act14O] at hXe
      go_upto_region 11 with fail
      go_region_held (fun w' => w'.cell? ⟨y, 0, none⟩ = some (.int .i64 0) ∧ w'.cell? ⟨y, 1, none⟩ = some (.int .i64 2) ∧ w'.cell? ⟨y, 2, none⟩ = some (.int .i64 4) ∧ w'.cell? ⟨y, 3, none⟩ = some (.int .i64 3) ∧ w'.cell? ⟨y, 4, none⟩ = some (.int .i64 5) ∧ w'.cell? ⟨y, 5, none⟩ = some (.int .i64 6) ∧ w'.cell? ⟨y, 6, none⟩ = some (.int .i64 8) ∧ w'.cell? ⟨y, 7, none⟩ = some (.int .i64 41) ∧ w'.cell? ⟨y, 8, none⟩ = some (.int .i64 43) ∧ w'.cell? ⟨y, 9, none⟩ = some (.slice ta n n) ∧ w'.cell? ⟨y, 10, none⟩ = some (.slice oa m m) ∧ w'.cell? ⟨y, 11, none⟩ = some (.int .i64 (43 + (m : Int) + (n : Int) * 24 + (m : Int) * 24)) ∧ w'.cell? ⟨y, 12, none⟩ = some (.slice za n zc) ∧ w'.cell? ⟨y, 13, none⟩ = some (.slice zb m zd) ∧ w'.cell? ⟨bs, os + j * 5, none⟩ = some (.int .u8 o.k) ∧ w'.cell? ⟨bs, os + j * 5 + 1, none⟩ = some (.int .i64 o.t) ∧ w'.cell? ⟨bs, os + j * 5 + 2, none⟩ = some (.int .i64 o.s) ∧ w'.cell? ⟨bs, os + j * 5 + 3, none⟩ = some (.int .i64 o.p) ∧ w'.cell? ⟨bs, os + j * 5 + 4, none⟩ = some (.bool o.f)) (go_keep) (fail)
      clear f0 f1 f2 f3 f4 f5 f6 f7 f8 f9 f10 f11 f12 f13 d0 d1 d2 d3 d4
      go_upto_region 12 with fail
      first
        | rw [← hXe, ← hUe]
        | (change _ at hXe
           rw [show (w5.alloc _).drew = X from hXe.symm, ← hUe])
      clear hXe hUe
      go_wp2_with fail
      refine HRUN.out.mono ?_
      rintro e w6 ⟨rfl, hm6, ho6⟩
      have HP6 : Hid (Play14 V L w6 (planCs n m ta oa (.slice za n zc) (.slice zb m zd)) n m g r M b cap (doM n s o).2 (aftOp n m o xs)) := by
        have a2 := HP.out.rL
        have a4 := HP.out.lM
        have a5 := HP.out.mb
        refine ⟨hm6, HP.out.ok.op o, op_raw ?_ HP.out.ok HP.out.raw o HDD.out, HMODX.out.only ho6 (fun e => by omega) (fun e => by omega) (fun k hk e => by omega), HP.out.gL, HP.out.rL, HP.out.vL, HP.out.lM, HP.out.mb, Nat.le_trans HLWX.out ho6.size⟩
        have z1 := HP.out.mid.th.1
        have z2 := HP.out.mid.th.2.1
        omega
      clear hm6 ho6 HRUN
      go_wp2_with fail
      go_roundw
      case rel => exact ⟨j + 1, _, _, by go_num, by omega, HP6.out⟩
      case measure => simp [intOf]; omega
  · obtain ⟨f0, f1, f2, f3, f4, f5, f6, f7, f8, f9, f10, f11, f12, f13⟩ := HPC.out wr HP.out.mid.only
    have hX : ∃ X U, X = wr.alloc (lookO n m ta oa za zb zc zd N (.slice ba bn bc) (.slice none 0 0) (.slice none 0 0) (.slice none 0 0)) ∧ U = wr.heap.size ∧ Only (fun _ => False) wr X ∧ X.heap[U]? = some (lookO n m ta oa za zb zc zd N (.slice ba bn bc) (.slice none 0 0) (.slice none 0 0) (.slice none 0 0)) := ⟨_, _, rfl, rfl, (Only.refl _ _).alloc _, heap_new _ _⟩
    obtain ⟨X, U, hXe, hUe, hoX, hbU⟩ := hX
    have HPX := hid (HP.out.still hoX)
    have HUU : Hid ((U ≠ g ∧ U ≠ r) ∧ L ≤ U ∧ U < X.heap.size) := by
      have e2 := lt_of_block HP.out.mid.mem.head
      have e3 := HP.out.mid.mem.row.lt
      have e4 := HP.out.lw
      have e5 := lt_of_block hbU
      exact ⟨⟨by omega, by omega⟩, by omega, e5⟩
    have HBU := hid hbU
    have HBX : Hid (SlOf (fun k => k < V.heap.size) 1 intE X (.slice ba bn bc) but) := (HBUT.out.only (stay_int (HO.out.chain (HOV.out.chain HPX.out.mid.only (fun _ _ h => h)) (fun _ _ h => h)) (fun _ _ h => h))).mono (fun k hk => Nat.lt_of_lt_of_le hk HYV.out.2) (fun _ _ _ h => h)
    have HQ : Hid (M < U ∧ QIs (fun k => L ≤ k ∧ k < U) X M 4 s.qs) := by
      obtain ⟨mo, q1, _⟩ := HP.out.mod.blk
      have q2 := lt_of_block q1
      exact ⟨by omega, (HP.out.mod.lst.mono (Q := fun k => L ≤ k ∧ k < U) (fun k hk h => ⟨h.1, by omega⟩)).only hoX (fun h => h) (fun _ _ h => h)⟩
    clear hoX hbU HP
    simp only [lookO] at hXe
    go_upto_region 15 with fail
    rw [← hXe, ← hUe]
    clear hXe hUe f0 f1 f2 f3 f4 f5 f6 f7 f8 f9 f10 f11 f12 f13
    obtain ⟨RL, hRL⟩ : ∃ RL, bestF N but [] (tailL s.qs 16) = RL := ⟨_, rfl⟩
    have hodr : Only (fun _ => False) X X.drew := (Only.refl _ _).drew
    have HRUN : Hid (Calls Tryz.prog 10 #[.pointer (some ⟨g, 0, none⟩), bodyV 12 (ptrV U), .int .i64 5000] X.drew fun e w' => e = .returned (.bool true) ∧ (∃ v s1 s2 b, w'.heap[U]? = some (lookO n m ta oa za zb zc zd N (.slice ba bn bc) v s1 s2) ∧ Own13 w' v b RL ∧ ∀ k, v.ownBlock = some k → L ≤ k) ∧ Only (fun k => k = r ∨ k = U) X w') := by
      refine (run_look14 (HPX.out.still hodr).mid N ba bn bc but (HBX.out.only (stay_int hodr (fun _ _ h => h))) _ _ _ HBU.out (Nat.le_trans HPX.out.vL HUU.out.2.1) HUU.out.1.1 HUU.out.1.2 6 rfl).mono ?_
      rintro e w' ⟨rfl, ⟨v, s1, s2, b1, k1, k2, k3⟩, k4⟩
      rw [(best_alone HPX.out.raw.ring.read HPX.out.lists.2.2.2 6 (Nat.le_trans HPX.out.ok.all HPX.out.mid.th.1)).1, hRL] at k2
      exact ⟨rfl, ⟨v, s1, s2, b1, k1, k2, fun k hk => Nat.le_trans HPX.out.lw (k3 k hk)⟩, (hodr.mono (fun _ _ h => h.elim)).chain k4 (fun i hi e => e)⟩
    have HBE : Hid (∀ wx, Only (fun k => k = r ∨ k = U) X wx → Calls Tryz.prog 14 #[.pointer (some ⟨M, 0, none⟩), .int .i64 N, .slice ba bn bc] wx fun e w' => ∃ v b, e = .returned v ∧ Own13 w' v b RL ∧ Only (fun _ => False) wx w') := fun wx ho => by
      have a2 := HPX.out.rL
      have a3 := HPX.out.vL
      have a4 := HPX.out.lM
      have a6 := HUU.out.2.1
      have a7 := HQ.out.1
      have a8 := HPX.out.mid.hr
      have hq := HQ.out.2.only ho (fun e => by omega) (fun k hk e => by omega)
      have hbx := HBX.out.only (stay_int ho (fun k hk e => by have hk' : k < V.heap.size := hk; omega))
      refine (best13 wx M s.qs N (.slice ba bn bc) but hq HPX.out.lists.2.1 HPX.out.lists.2.2.1 hbx).mono ?_
      rintro e w' ⟨v, b9, rfl, hown, _, ho9⟩
      rw [ordN_all, hRL] at hown
      exact ⟨v, b9, rfl, hown, ho9⟩
    have HBD : Hid (∀ x ∈ RL, -9223372036854775808 ≤ x ∧ x ≤ 9223372036854775807) := by
      have h9 := HPX.out.lists.2.2.1
      rw [← hRL]
      refine best_mem _ _ (fun x hx => by cases hx) (fun x hx => ?_)
      obtain ⟨q, hq, hx⟩ := tail_mem _ _ hx
      exact h9 q hq x hx
    have HEND : Hid (∀ w9, Only (fun k => k = r ∨ k = U) X w9 → Below w.heap.size w w9) := fun w9 ho => by
      have a3 := HPX.out.vL
      have a6 := HUU.out.2.1
      have a8 := HYV.out.2
      have h9 := HPX.out.mid.only
      have a9 := HPX.out.mid.hr
      exact (HO.out.chain (HOV.out.chain (h9.chain (T := fun k => k = r ∨ k = U) ho (fun i hi e => by omega)) (fun _ _ h => h)) (fun _ _ h => h)).below (Nat.le_refl _) (fun _ _ h => h)
    have HUR : Hid (U ≠ r) := HUU.out.1.2
    have HLL : Hid (∀ k, L ≤ k → k ≠ r) := fun k hk e => by have := HPX.out.rL; omega
    clear hRL hodr HQ HBX HPX HBU
    go_region_with (first
      | (go_at_call 10; refine HRUN.out.mono ?_; rintro e w5 ⟨rfl, ⟨v, s1, s2, b1, hb5, hown, hlow⟩, ho5⟩
         obtain ⟨va, vc, rfl, _⟩ := Grow.shape hown
         have HB5 := hid hb5
         have HO5 := hid ho5
         have HSL1 := hid (Own13.sl hown HBD.out)
         have f16 : w5.cell? ⟨U, 16, none⟩ = some (.slice va RL.length vc) := cell_of_block hb5 16
         clear hb5 hown hlow ho5 HRUN)
      | (go_at_call 14; refine (HBE.out w5 HO5.out).mono ?_; rintro e w6 ⟨v2, b2, rfl, hown2, ho6⟩
         have HO6 := hid (HO5.out.chain ho6 (fun _ _ h => h.elim))
         have HSL2 := hid (Own13.sl hown2 HBD.out)
         have HSL3 := hid (HSL1.out.only (stay_int ho6 (fun _ _ h => h)))
         have g16 : w6.cell? ⟨U, 16, none⟩ = some (.slice va RL.length vc) := cell_of_block ((ho6.block U (lt_of_block HB5.out) (fun h => h)).trans HB5.out) 16
         clear hown2 ho6 HBE)
      | (go_at_call 13; refine (ints14 w6 _ _ RL HSL3.out HSL2.out).mono ?_; rintro e w7 ⟨rfl, nn, rfl⟩
         have HF := hid (HEND.out _ (only_drewN HO6.out nn))))
    all_goals
      go_wp2_with fail
      go_ret
      exact ⟨rfl, HF.out⟩
end Go.Proofs.YtdmgkmkhonmgbaaGreat.readyBest
namespace Go.Proofs.YtdmgkmkhonmgbaaGreat.readyBest
open Go.Sept Go.RowKit Go.ChangeShapes Go.WideShapes Go.ChangeAt Go.Joins Go.Deep

set_option maxRecDepth 100000 in
theorem lifted (os : Os) (started : os.Started) (H : Type) (enc : TypeId × Value → H) :
    ReturnsInHanded {} Tryz.checked os 3 .any (Rows.readyBestSpec.pre6 enc Tryz.prog Tryz.f3 Rows.readyBestRow.domain false) (Rows.readyBestSpec.post enc Tryz.prog Tryz.f3 false true false false) := by
  refine returnsInHanded_of_change (C := Tryz.checked) own started (by kernel_rfl) Tryz.func3
    (ChangeSpec.witness6 (enc := enc) (C := Tryz.checked) false ⟨#[], #[.agg #[.slice none 0 0, .slice none 0 0], .slice none 0 0, .int .i64 0, .slice none 0 0], []⟩ 8 (by kernel_rfl) (by kernel_rfl) (by kernel_rfl) (by kernel_rfl)) ?_
  intro W base args ds gs before hval0 hW hcnd _
  have hval : ∀ (j : Nat) t v, Tryz.f3.params[j]? = some t → args[j]? = some v → Value.okWide Tryz.prog W .any base t v := hval0
  have hW' := hW
  obtain ⟨p, q, hA0, hV, rfl, hfz, hnd⟩ := hW
  have hA : DataW.TrodAll enc Tryz.prog W 0 (fun _ => true) true Tryz.f3.params.toList args.toList ds p := hA0
  rw [Tryz.params3] at hA hval
  obtain ⟨v0, vs0, d0, ds0, p0, q0, hargs, rfl, rfl, h0, r0⟩ := trodAll_cons hA
  obtain ⟨v1, vs1, d1, ds1, p1, q1, rfl, rfl, rfl, h1, r1⟩ := trodAll_cons r0
  obtain ⟨v2, vs2, d2, ds2, p2, q2, rfl, rfl, rfl, h2, r2⟩ := trodAll_cons r1
  obtain ⟨v3, vs3, d3, ds3, p3, q3, rfl, rfl, rfl, h3, r3⟩ := trodAll_cons r2
  obtain ⟨rfl, rfl, rfl⟩ := trodAll_nil r3
  obtain rfl : args = #[v0, v1, v2, v3] := by cases args; simp_all
  obtain ⟨x0, x1, c, rfl, hc⟩ := open_pt (hval 0 25 v0 rfl rfl) h0
  obtain ⟨sa, ls, sc, rfl⟩ := okWide_slice Tryz.underlying26 (hval 1 26 v1 rfl rfl)
  obtain ⟨ops, hops⟩ := open_arg Tryz.underlying26 (show Tryz.prog.cellsOf 42 = 5 by kernel_rfl) (by decide) el_op h1
  obtain ⟨N, rfl, rfl, rfl, w2⟩ := open_int Tryz.underlying3 (hval 2 3 v2 rfl rfl) h2
  obtain ⟨ba, bn, bc, rfl⟩ := okWide_slice Tryz.underlying27 (hval 3 27 v3 rfl rfl)
  obtain ⟨but, hbut⟩ := open_arg Tryz.underlying27 c3 (by decide) el_int h3
  refine (walk W x0 x1 c hc sa ls sc ops hops N ba bn bc but hbut).mono fun e W' ⟨he, hg⟩ => ?_
  subst he
  exact ⟨_, rfl, post_law 4 4 laidOut (by kernel_rfl) rfl rfl rfl Tryz.underlying4 (fun l hl => by match l, hl with | [_, _, _, _], _ => rfl) hW' hg⟩

theorem over : Rows.readyBestRow.holds Tryz.pinned (OpenSpec.ofChange Rows.readyBestSpec) :=
  OpenClaim.holds_of_wide 3 Tryz.f3 rfl rfl rfl rfl rfl rfl rfl ⟨rfl, rfl, rfl, rfl, rfl⟩ rfl rfl rfl rfl rfl (by kernel_rfl) Tryz.func3 (by kernel_rfl)
    (of_decide_eq_true (by kernel_rfl)) (by unfold Func.isWrapper; first | (rw [if_pos (by decide +kernel)]; kernel_rfl) | (rw [if_neg (by decide +kernel)]; exact ⟨rfl, rfl⟩))
    (fun os started H enc _ => lifted os started H enc)

theorem proved : Rows.ReadyBestSaid := over
#print axioms proved
end Go.Proofs.YtdmgkmkhonmgbaaGreat.readyBest

/-
  What the laws of septumlaw15 share: a partition's memory between ops and dispatches; the model beside it; awake. Conditions: as each says.
-/
import Derived.Test.YtmcmjcaigipoaaaGreatRun15
import Derived.Test.YtmcmjcaigipoaaaGreatDisp15b
import Derived.Test.YtmcmjcaigipoaaaGreatBody15
import Derived.Test.YtmcmjcaigipoaaaGreatOpenCf11
import Derived.Test.YtmcmjcaigipoaaaGreatOf12
namespace Go.Sept
open Go.RowKit
theorem look15_alone {d e : Nat} {cur : Int → Tree (Int × Bool) d} {cal : Int → Tree Bool e} (hc : ∀ k xs, aft (cur k) xs = xs) (ha : ∀ k xs, aft (cal k) xs = xs) (xs : List Int) :
    ((look15T cur cal).alone xs).1 = ((ans (cur 0) xs, ans (cal 0) xs), (ans (cur 1) xs, ans (cal 1) xs)) ∧ ((look15T cur cal).alone xs).2.1 = xs := by
  have e1 : ans (look15T cur cal) xs = ((ans (cur 0) xs, ans (cal 0) xs), (ans (cur 1) xs, ans (cal 1) xs)) := by
    unfold look15T
    rw [ans_bind, hc, ans_bind, ha, ans_bind, hc, ans_bind, ans_ret]
  have e2 : aft (look15T cur cal) xs = xs := by
    unfold look15T
    rw [aft_bind, hc, aft_bind, ha, aft_bind, hc, aft_bind, ha, aft_ret]
  exact ⟨e1, e2⟩
theorem first_ne (o : Int) : ∀ l : List Int, firstNot o l = o → o = -1 := by
  intro l
  induction l with
  | nil => exact fun h => h.symm
  | cons x r ih =>
    intro h
    rw [firstNot] at h
    split at h
    · exact ih h
    · exact absurd h (by assumption)
/-- Nobody runs twice. -/
theorem disp_apart (L : List Int) (fx : Int → Bool) {a c : Int} (hac : a = c → a = -1) : dispM L fx a c = c → c = -1 := by
  intro h
  unfold dispM at h
  split at h
  · rename_i h9
    rcases h9 with h9 | h9
    · have := hac h
      omega
    · have := hac h
      omega
  · exact first_ne c _ h
theorem SimOk.lists15 {n : Nat} {s : Sim14} (h : SimOk n s) (hn : n ≤ 6) : (∀ p, (s.qs p).length + 1 ≤ 1000) ∧ (ordN s.qs 16).length ≤ 1000 ∧ (∀ p, p < 16 → ∀ x ∈ s.qs p, -9223372036854775808 ≤ x ∧ x ≤ 9223372036854775807) := by
  refine ⟨fun p => ?_, ?_, fun p _ x hx => ?_⟩
  · have := h.len p
    omega
  · rw [ordN_all]
    have := h.all
    omega
  · obtain ⟨t, rfl, h1, _⟩ := h.mem p x hx
    omega
/-- Who runs behind a dispatch on a core. -/
def disp2 (L : List Int) (fx : Int → Bool) (k a c : Int) : Int × Int := if k = 0 then (dispM L fx a c, c) else if k = 1 then (a, dispM L fx c a) else (a, c)
end Go.Sept

namespace Go.Proofs.YtmcmjcaigipoaaaGreat
open Go.RowKit Go.Sept

/-- A partition's memory between ops and dispatches: a runs on core 0, c on core 1 (-1: nobody). -/
structure Mem15 (V w : World) (cs : Array Value) (n m g r : Nat) (s : Sim14) (hd : Nat → Nat) (a c : Int) (xs : List Int) : Prop where
  mid : Mid13 V w cs n m g r xs
  ok : SimOk n s
  raw : Raw15 (43 + m + n * 24 + m * 24) n m s hd a c xs
  ra : -1 ≤ a ∧ a < n
  rc : -1 ≤ c ∧ c < n
  ac : a = c → a = -1
/-- The model beside it. -/
structure Mdl15 (R : Nat → Option Value) (V : World) (L : Nat) (w : World) (n g r M b cap : Nat) (s : Sim14) (hd : Nat → Nat) : Prop where
  mod : Mods R L w M b n cap s
  hld : Held15 R n hd
  gL : g < L
  rL : r < L
  vL : V.heap.size ≤ L
  lM : L ≤ M
  mb : M < b
  lw : L ≤ w.heap.size
section
variable {R : Nat → Option Value} {V w w' : World} {L M b cap : Nat} {n m g r : Nat} {ta oa za zb : Option Addr} {zc zd : Nat} {s s' : Sim14} {hd hd' : Nat → Nat} {a c : Int} {xs : List Int}
theorem Mem15.keep (h : Mem15 V w (planCs n m ta oa (.slice za n zc) (.slice zb m zd)) n m g r s hd a c xs) (ho : Only (fun _ => False) w w') : Mem15 V w' (planCs n m ta oa (.slice za n zc) (.slice zb m zd)) n m g r s hd a c xs := ⟨h.mid.keep ho, h.ok, h.raw, h.ra, h.rc, h.ac⟩
theorem Mdl15.still (h : Mdl15 R V L w n g r M b cap s hd) (ho : Only (fun _ => False) w w') : Mdl15 R V L w' n g r M b cap s hd :=
  ⟨h.mod.only ho (fun h => h) (fun h => h) (fun _ _ h => h), h.hld, h.gL, h.rL, h.vL, h.lM, h.mb, Nat.le_trans h.lw ho.size⟩
theorem Mdl15.ran1 (h : Mdl15 R V L w n g r M b cap s hd) (ho : Only (fun k => k = r) w w') : Mdl15 R V L w' n g r M b cap s hd := by
  have a2 := h.rL
  have a4 := h.lM
  have a5 := h.mb
  exact ⟨h.mod.only ho (fun e => by omega) (fun e => by omega) (fun k hk e => by omega), h.hld, h.gL, h.rL, h.vL, h.lM, h.mb, Nat.le_trans h.lw ho.size⟩
/-- The model has done an op. -/
theorem Mdl15.mem (h : Mdl15 R V L w n g r M b cap s hd) (hm : Mem15 V w (planCs n m ta oa (.slice za n zc) (.slice zb m zd)) n m g r s hd a c xs) (ho : Only (fun k => k = M ∨ k = b) w w') : Mem15 V w' (planCs n m ta oa (.slice za n zc) (.slice zb m zd)) n m g r s hd a c xs := by
  have a1 := h.gL
  have a2 := h.rL
  have a3 := h.vL
  have a4 := h.lM
  have a5 := h.mb
  exact ⟨⟨hm.mid.th.only ho (fun k hk e => by omega), hm.mid.mem.only ho (fun e => by omega) (fun e => by omega), hm.mid.hg, hm.mid.hr, hm.mid.pos, hm.mid.only.chain ho (fun i hi e => by omega)⟩, hm.ok, hm.raw, hm.ra, hm.rc, hm.ac⟩
theorem model15_any (h : Mdl15 R V L w n g r M b cap s hd) (ok : SimOk n s) (hn : n ≤ 6) (o : Op15) (hn0 : 0 ≤ o.n) (hn1 : o.n ≤ 255) :
    Calls Tryz.prog 11 #[.pointer (some ⟨M, 0, none⟩), op15V o] w fun e w' => e = .returned (.bool (doM15 n s hd o).1) ∧ (∃ R', Mdl15 R' V L w' n g r M b cap (doM15 n s hd o).2.1 (doM15 n s hd o).2.2) ∧ Only (fun k => k = M ∨ k = b) w w' := by
  by_cases ho : o.t < 0 ∨ (n : Int) ≤ o.t
  · have e : doM15 n s hd o = (false, s, hd) := by rw [doM15, if_pos ho]
    rw [e]
    refine (model15_out w M b n cap s h.mod o ho).mono ?_
    rintro e w' ⟨rfl, h1, h2⟩
    exact ⟨rfl, ⟨R, h1, h.hld, h.gL, h.rL, h.vL, h.lM, h.mb, Nat.le_trans h.lw h2.size⟩, h2⟩
  · obtain ⟨k, t', p, f, nn⟩ := o
    simp only at ho hn0 hn1
    obtain ⟨t, rfl⟩ : ∃ t : Nat, t' = (t : Int) := ⟨t'.toNat, by omega⟩
    refine (model15_in w M b n cap s hd h.mod h.hld h.lw k p nn t f (by omega) ok.pr (ok.lists15 hn).1 hn0 hn1).mono ?_
    rintro e w' ⟨rfl, ⟨R', h1, h2⟩, h3⟩
    exact ⟨rfl, ⟨R', h1, h2, h.gL, h.rL, h.vL, h.lM, h.mb, Nat.le_trans h.lw h3.size⟩, h3⟩
/-- An op that is no dispatch. -/
theorem mem_op15 (h : Mem15 V w (planCs n m ta oa (.slice za n zc) (.slice zb m zd)) n m g r s hd a c xs) (o : Op15) (hk0 : 0 ≤ o.k) (hk : o.k ≤ 4) (hn : 0 ≤ o.n) (hd1 : (doM15 n s hd o).1 = true) {U : Nat} (x : Int × Bool) (hU : w.heap[U]? = some (act15O n m ta oa za zb zc zd o.k o.t o.p o.f o.n x)) (h2 : U ≠ g) (h3 : U ≠ r) :
    Calls Tryz.prog 12 #[.pointer (some ⟨g, 0, none⟩), bodyV 13 (ptrV U), .int .i64 5000] w fun e w' => e = .returned (.bool true) ∧ (∃ xs', Mem15 V w' (planCs n m ta oa (.slice za n zc) (.slice zb m zd)) n m g r (doM15 n s hd o).2.1 (doM15 n s hd o).2.2 a c xs') ∧ Only (fun k => k = r) w w' := by
  refine (run_act15 h.mid o hk0 hk hn x hU h2 h3).mono ?_
  rintro e w' ⟨rfl, h4, h5⟩
  have hN : 43 + m + n * 24 + m * 24 ≤ 4000 := by
    have z1 := h.mid.th.1
    have z2 := h.mid.th.2.1
    omega
  obtain ⟨h6, h7⟩ := op_raw15 hN h.ok h.raw o hk hk0 hn hd1
  exact ⟨rfl, ⟨_, h4, h6, h7, h.ra, h.rc, h.ac⟩, h5⟩
/-- A dispatch. -/
theorem mem_disp15 (h : Mem15 V w (planCs n m ta oa (.slice za n zc) (.slice zb m zd)) n m g r s hd a c xs) (o : Op15) (hk : 4 < o.k) {U : Nat} (x : Int × Bool) (hU : w.heap[U]? = some (act15O n m ta oa za zb zc zd o.k o.t o.p o.f o.n x)) (h1 : V.heap.size ≤ U) (h2 : U ≠ g) (h3 : U ≠ r) :
    Calls Tryz.prog 12 #[.pointer (some ⟨g, 0, none⟩), bodyV 13 (ptrV U), .int .i64 5000] w fun e w' => e = .returned (.bool true) ∧ (∃ xs', Mem15 V w' (planCs n m ta oa (.slice za n zc) (.slice zb m zd)) n m g r s hd (disp2 (tailL s.qs 16) (fxM n s hd) o.t a c).1 (disp2 (tailL s.qs 16) (fxM n s hd) o.t a c).2 xs') ∧
      (∃ y, w'.heap[U]? = some (act15O n m ta oa za zb zc zd o.k o.t o.p o.f o.n y) ∧ (o.t = 0 → y = (if 0 ≤ dispM (tailL s.qs 16) (fxM n s hd) a c then (dispM (tailL s.qs 16) (fxM n s hd) a c, true) else (0, false))) ∧ (o.t = 1 → y = (if 0 ≤ dispM (tailL s.qs 16) (fxM n s hd) c a then (dispM (tailL s.qs 16) (fxM n s hd) c a, true) else (0, false)))) ∧ Only (fun k => k = r ∨ k = U) w w' := by
  obtain ⟨k6, hk6⟩ : ∃ k6 : Nat, k6 = 6 := ⟨6, rfl⟩
  have hI := disp_is (43 + m + n * 24 + m * 24) n m h.mid.th.1 k6 hk6
  refine (run_disp15 h.mid (dispT n m k6) (by subst hk6; decide) (fun k => disp15 _ (planCs n m ta oa (.slice za n zc) (.slice zb m zd)) n m k6 hk6 k) o hk x hU h1 h2 h3).mono ?_
  rintro e w' ⟨rfl, h4, h5, h6⟩
  have hr : ∀ (u v : Int), -1 ≤ u ∧ u < n → -1 ≤ dispM (tailL s.qs 16) (fxM n s hd) u v ∧ dispM (tailL s.qs 16) (fxM n s hd) u v < n := fun u v hu => by
    unfold dispM
    split
    · exact hu
    · exact first_rng (best2_in h.ok _) v
  obtain ⟨k1, k2, k3, k4⟩ : Raw15 (43 + m + n * 24 + m * 24) n m s hd (disp2 (tailL s.qs 16) (fxM n s hd) o.t a c).1 (disp2 (tailL s.qs 16) (fxM n s hd) o.t a c).2 (aft (dispT n m k6 o.t) xs) ∧ (-1 ≤ (disp2 (tailL s.qs 16) (fxM n s hd) o.t a c).1 ∧ (disp2 (tailL s.qs 16) (fxM n s hd) o.t a c).1 < n) ∧ (-1 ≤ (disp2 (tailL s.qs 16) (fxM n s hd) o.t a c).2 ∧ (disp2 (tailL s.qs 16) (fxM n s hd) o.t a c).2 < n) ∧ ((disp2 (tailL s.qs 16) (fxM n s hd) o.t a c).1 = (disp2 (tailL s.qs 16) (fxM n s hd) o.t a c).2 → (disp2 (tailL s.qs 16) (fxM n s hd) o.t a c).1 = -1) := by
    unfold disp2
    by_cases e0 : o.t = 0
    · rw [if_pos e0, e0]
      exact ⟨(hI.d0 s hd a c xs h.ok h.raw h.ra.1 h.ra.2 h.rc.1 h.rc.2).1, hr a c h.ra, h.rc, fun e => e.trans (disp_apart _ _ h.ac e)⟩
    · rw [if_neg e0]
      by_cases e1 : o.t = 1
      · rw [if_pos e1, e1]
        exact ⟨(hI.d1 s hd a c xs h.ok h.raw h.ra.1 h.ra.2 h.rc.1 h.rc.2).1, h.ra, hr c a h.rc, fun e => disp_apart _ _ (fun e => by have := h.ac e.symm; omega) e.symm⟩
      · rw [if_neg e1, (hI.dk o.t xs e0 e1).1]
        exact ⟨h.raw, h.ra, h.rc, h.ac⟩
  refine ⟨rfl, ⟨_, ⟨h4, h.ok, k1, k2, k3, k4⟩⟩, ⟨_, h5, fun e => ?_, fun e => ?_⟩, h6⟩
  · rw [e]
    exact (hI.d0 s hd a c xs h.ok h.raw h.ra.1 h.ra.2 h.rc.1 h.rc.2).2
  · rw [e]
    exact (hI.d1 s hd a c xs h.ok h.raw h.ra.1 h.ra.2 h.rc.1 h.rc.2).2
/-- What is seen. -/
theorem mem_seen15 (h : Mem15 V w (planCs n m ta oa (.slice za n zc) (.slice zb m zd)) n m g r s hd a c xs) :
    Calls Tryz.prog 14 #[.agg (planCs n m ta oa (.slice za n zc) (.slice zb m zd)), .pointer (some ⟨g, 0, none⟩)] w fun e w' => ∃ U q0 q1, e = .returned (.pointer (some ⟨U, 0, none⟩)) ∧ w.heap.size ≤ U ∧ Mem15 V w' (planCs n m ta oa (.slice za n zc) (.slice zb m zd)) n m g r s hd a c xs ∧ w'.heap[U]? = some (look15O n m ta oa za zb zc zd (((if 0 ≤ a then (a, true) else (0, false)), q0), ((if 0 ≤ c then (c, true) else (0, false)), q1))) ∧ Only (fun k => k = r) w w' := by
  obtain ⟨k6, hk6⟩ : ∃ k6 : Nat, k6 = 6 := ⟨6, rfl⟩
  have hI := disp_is (43 + m + n * 24 + m * 24) n m h.mid.th.1 k6 hk6
  refine (seen15 h.mid (curT n) calT (by decide) (fun k => cur15 _ (planCs n m ta oa (.slice za n zc) (.slice zb m zd)) n m k) (fun k => cal15 _ (planCs n m ta oa (.slice za n zc) (.slice zb m zd)) n m k)).mono ?_
  rintro e w' ⟨U, rfl, h1, h2, h3, h4⟩
  have hL := look15_alone (cur := curT n) (cal := calT) (fun k xs => cur_aft n k xs) (fun k xs => cal_aft k xs) xs
  rw [hL.2] at h2
  rw [hL.1, hI.c0 s hd a c xs h.raw h.ra.1 h.ra.2, hI.c1 s hd a c xs h.raw h.rc.1 h.rc.2] at h3
  exact ⟨U, _, _, rfl, h1, ⟨h2, h.ok, h.raw, h.ra, h.rc, h.ac⟩, h3, h4⟩
end

def two14 : Pt := ⟨[⟨1, 0, false, []⟩, ⟨5, 0, false, []⟩], []⟩
theorem two14_ok : partW two14 = 0 := by decide
theorem two14_who : coreV (tailL (sim0 two14).qs 16) 0 - 1 = 1 ∧ coreV (tailL (sim0 two14).qs 16) 1 - 1 = 0 := by decide

set_option maxRecDepth 100000 in
set_option maxHeartbeats 2000000 in
theorem awake15_any (w : World) : Calls Tryz.prog 6 #[] w fun e w' => e = .returned (.bool true) ∧ Only (fun _ => False) w w' := by
  have hW : ∃ W z, W = w.alloc (.cells #[.int .i64 1, .int .u32 0, .bool false, .slice none 0 0, .int .i64 5, .int .u32 0, .bool false, .slice none 0 0] 61) ∧ z = w.heap.size ∧ Only (fun _ => False) w W ∧ W.heap[z]? = some (.cells #[.int .i64 1, .int .u32 0, .bool false, .slice none 0 0, .int .i64 5, .int .u32 0, .bool false, .slice none 0 0] 61) := ⟨_, _, rfl, rfl, (Only.refl _ _).alloc _, heap_new _ _⟩
  obtain ⟨W, z, hWe, hze, hoW, hbz⟩ := hW
  have hP : PtIs (fun _ => True) W (.slice (some ⟨z, 0, none⟩) 2 2) (.slice none 0 0) two14 := by
    refine ⟨⟨_, 2, rfl, ⟨Nat.le_refl _, by decide⟩, z, 0, fun i x hx => ?_⟩, SlOf.nil⟩
    match i with
    | 0 =>
      simp [two14] at hx
      subst hx
      exact ⟨rfl, trivial, ⟨cell_of_block hbz 0, by decide, by decide⟩, cell_of_block hbz 1, ⟨by decide, by decide⟩, cell_of_block hbz 2, _, cell_of_block hbz 3, SlOf.nil⟩
    | 1 =>
      simp [two14] at hx
      subst hx
      exact ⟨rfl, trivial, ⟨cell_of_block hbz 4, by decide, by decide⟩, cell_of_block hbz 5, ⟨by decide, by decide⟩, cell_of_block hbz 6, _, cell_of_block hbz 7, SlOf.nil⟩
    | i + 2 => simp [two14] at hx
  have HO := hid hoW
  have HC := hid (of_rel W _ _ two14 hP ⟨by decide, by decide, fun t ht => by
    simp [two14] at ht
    rcases ht with rfl | rfl
    · exact ⟨by decide, fun c hc => by simp at hc⟩
    · exact ⟨by decide, fun c hc => by simp at hc⟩⟩)
  clear hP hbz hoW
  go_enter Tryz.func6, Tryz.ntmps6
  go_wp2_with fail
  rw [← hWe, ← hze]
  clear hWe hze
  refine HC.out.mono ?_
  rintro e w1 ⟨h, ho⟩
  have HO1 := hid (HO.out.chain ho (fun _ _ h => h))
  rcases h with ⟨h, _⟩ | ⟨_, cs, rfl, hpl⟩
  · exact absurd two14_ok h
  have hth := ThIs.of hpl two14_ok
  have hpl0 := hpl
  obtain ⟨n, hn⟩ : ∃ n, two14.ths.length = n := ⟨_, rfl⟩
  obtain ⟨m, hm⟩ : ∃ m, two14.obs.length = m := ⟨_, rfl⟩
  have hraw := boot_raw15 two14_ok
  rw [two14_who.1, two14_who.2] at hraw
  have hn2 : (2 : Int) ≤ (two14.ths.length : Int) := by decide
  have hok := sim0_ok (pt := two14) (by decide)
  rw [hn, hm] at hth hraw
  rw [hn] at hn2
  have HN2 := hid hn2
  rw [hn] at hok
  obtain ⟨_, _, ta, oa, za, zb, zc, zd, rfl, _⟩ := hth
  have hth1 := ThIs.of hpl two14_ok
  have HV : ∃ V y, V = w1.alloc (plO (planCs n m ta oa (.slice za n zc) (.slice zb m zd))) ∧ y = w1.heap.size ∧ Only (fun _ => False) w1 V ∧ V.heap[y]? = some (plO (planCs n m ta oa (.slice za n zc) (.slice zb m zd))) := ⟨_, _, rfl, rfl, (Only.refl _ _).alloc _, heap_new _ _⟩
  obtain ⟨V, y, hVe, hye, hoV, hby⟩ := HV
  have HOV := hid (HO1.out.chain hoV (fun _ _ h => h))
  rw [hn, hm] at hth1
  have HTH := hid (hth1.only hoV (fun _ _ h => h))
  have HBY := hid hby
  have HBT : Hid (Calls Tryz.prog 9 #[.agg (planCs n m ta oa (.slice za n zc) (.slice zb m zd))] V fun e w' => ∃ g r, e = .returned (.pointer (some ⟨g, 0, none⟩)) ∧ MemIs 130 w' g r (bootX 16 [3, 5] two14 n m) ∧ (V.heap.size ≤ g ∧ V.heap.size ≤ r) ∧ Only (fun _ => False) V w') := by
    have h9 := boot_rel V _ two14 (hpl0.only hoV (fun _ _ h => h)) two14_ok
    rw [hn, hm] at h9
    exact h9
  have HRAW := hid hraw
  have HOK := hid hok
  have HLN : Hid (0 < (bootX 16 [3, 5] two14 n m).length) := by
    have h9 := length_bootX 16 [3, 5] two14 n m
    show 0 < _
    omega
  obtain ⟨c0, c1, c2, c3, c4, c5, c6, c7, c8, c9, c10, c11, c12, c13⟩ := plan_cells hby
  clear hpl ho hth1 hoV hby HO HO1 HC hraw hok hpl0 hn hm hn2
  go_upto_region 2 with fail
  rw [← hVe, ← hye]
  clear hVe hye
  go_wp2_with fail
  refine HBT.out.mono ?_
  rintro e w2 ⟨g, r, rfl, hmem, ⟨hg, hr⟩, ho2⟩
  have HMID : Hid (Mid13 V w2 (planCs n m ta oa (.slice za n zc) (.slice zb m zd)) n m g r (bootX 16 [3, 5] two14 n m)) := ⟨HTH.out.low.only ho2 (fun _ _ h => h), hmem, hg, hr, HLN.out, ho2⟩
  have HO2 := hid ho2
  clear c0 c1 c2 c3 c4 c5 c6 c7 c8 c9 c10 c11 c12 c13 hmem HBT
  obtain ⟨c0, c1, c2, c3, c4, c5, c6, c7, c8, c9, c10, c11, c12, c13⟩ := plan_cells ((ho2.block y (lt_of_block HBY.out) (fun h => h)).trans HBY.out)
  have hX : ∃ X U, X = w2.alloc (look15O n m ta oa za zb zc zd (((0, false), false), ((0, false), false))) ∧ U = w2.heap.size ∧ Only (fun _ => False) w2 X ∧ X.heap[U]? = some (look15O n m ta oa za zb zc zd (((0, false), false), ((0, false), false))) := ⟨_, _, rfl, rfl, (Only.refl _ _).alloc _, heap_new _ _⟩
  obtain ⟨X, U, hXe, hUe, hoX, hbU⟩ := hX
  have zU : V.heap.size ≤ U ∧ U ≠ g ∧ U ≠ r := by
    have e1 := ho2.size
    have e2 := lt_of_block HMID.out.mem.head
    have e3 := HMID.out.mem.row.lt
    exact ⟨by omega, by omega, by omega⟩
  have HRUN := hid (run_look15 (HMID.out.keep hoX) (curT n) calT (by decide) (fun k => cur15 _ (planCs n m ta oa (.slice za n zc) (.slice zb m zd)) n m k) (fun k => cal15 _ (planCs n m ta oa (.slice za n zc) (.slice zb m zd)) n m k) _ hbU zU.1 zU.2.1 zU.2.2)
  have HOX := hid (HO2.out.chain hoX (fun _ _ h => h))
  have HUV : Hid (V.heap.size ≤ U) := zU.1
  have HRV : Hid (V.heap.size ≤ r) := hr
  have HANS : Hid (∃ q0 q1, ((look15T (curT n) calT).alone (bootX 16 [3, 5] two14 n m)).1 = (((1, true), q0), ((0, true), q1))) := by
    have hL := look15_alone (cur := curT n) (cal := calT) (fun k xs => cur_aft n k xs) (fun k xs => cal_aft k xs) (bootX 16 [3, 5] two14 n m)
    have hn2 : (2 : Int) ≤ n := HN2.out
    refine ⟨ans (calT 0) (bootX 16 [3, 5] two14 n m), ans (calT 1) (bootX 16 [3, 5] two14 n m), ?_⟩
    rw [hL.1, cur_ans HTH.out.1 ⟨by decide, by decide⟩ (a := 1) HRAW.out.c0 (by decide) (by omega), cur_ans HTH.out.1 ⟨by decide, by decide⟩ (a := 0) HRAW.out.c1 (by decide) (by omega)]
    rfl
  clear ho2 hoX hbU zU hg hr HTH
  simp only [look15O] at hXe
  go_upto_region 4 with fail
  rw [← hXe, ← hUe]
  clear hXe hUe c0 c1 c2 c3 c4 c5 c6 c7 c8 c9 c10 c11 c12 c13
  have hmf : ∀ (fn : Fn) (first cap : Array Value) (w : World), (Instr.makeFunc fn first cap).run Tryz.prog w = .ok (.func fn first cap) w := fun _ _ _ _ => rfl
  go_wp2_with fail
  refine HRUN.out.mono ?_
  rintro e w3 ⟨rfl, hm3, hb3, ho3⟩
  obtain ⟨q0, q1, hq⟩ := HANS.out
  rw [hq] at hb3
  have HO3 : Hid (Only (fun _ => False) V w3) := HOX.out.chain ho3 (fun i hi e => by have := HUV.out; have := HRV.out; omega)
  obtain ⟨_, _, _, _, _, _, _, _, _, _, _, _, _, _, f14, f15, f16, f17, _, _⟩ := look15_cells hb3
  simp only at f14 f15 f16 f17
  clear hm3 hb3 ho3 HRUN HANS hq
  go_wp2_with fail
  go_ret
  exact ⟨rfl, HOV.out.chain HO3.out (fun _ _ h => h)⟩
end Go.Proofs.YtmcmjcaigipoaaaGreat

/-
  What the laws of septumlaw15 begin with: a partition's memory as Boot leaves it; a slice of ops as an argument. Conditions: as each says.
-/
namespace Go.Sept
open Go.RowKit
theorem SimOk.nodup15 {n : Nat} {m : Sim14} (h : SimOk n m) : (tailL m.qs 16).Nodup := by
  have hn : ∀ l, (tailL m.qs l).Nodup := by
    intro l
    induction l with
    | zero => exact List.nodup_nil
    | succ l ih =>
      rw [tailL]
      refine List.nodup_append.2 ⟨h.nod l, ih, fun a ha c hc e => ?_⟩
      subst e
      obtain ⟨p, hp, hj⟩ := tail_mem15 m.qs l hc
      obtain ⟨i, hi, _, _, h3⟩ := h.mem _ _ ha
      obtain ⟨i', hi', _, _, h3'⟩ := h.mem _ _ hj
      have : i = i' := by omega
      subst this
      omega
  exact hn 16
theorem mem_tail15 (qs : Nat → List Int) {x : Int} : ∀ (l q : Nat), q < l → x ∈ qs q → x ∈ tailL qs l := by
  intro l
  induction l with
  | zero => exact fun q h => absurd h (Nat.not_lt_zero _)
  | succ l ih =>
    intro q hq hx
    rw [tailL]
    by_cases e : q = l
    · exact List.mem_append.2 (.inl (e ▸ hx))
    · exact List.mem_append.2 (.inr (ih q (by omega) hx))
theorem SimOk.pos15 {n : Nat} {m : Sim14} (h : SimOk n m) : ∀ t ∈ tailL m.qs 16, 0 ≤ t := fun t ht => by
  obtain ⟨q, _, hq⟩ := tail_mem15 m.qs 16 ht
  obtain ⟨i, rfl, _⟩ := h.mem q _ hq
  omega
theorem fx_in15 {n : Nat} {m : Sim14} (h : SimOk n m) (hd : Nat → Nat) (t : Int) (hf : fxM n m hd t = true) : t ∈ tailL m.qs 16 := by
  by_cases ht : 0 ≤ t ∧ t < (n : Int)
  · obtain ⟨i, rfl⟩ : ∃ i : Nat, t = (i : Int) := ⟨t.toNat, by omega⟩
    have hi : i < n := by omega
    rw [fxM_in hi] at hf
    simp only [Bool.and_eq_true, decide_eq_true_eq] at hf
    exact mem_tail15 _ 16 _ (h.pr i hi) (h.has i hi hf.1)
  · rw [fxM_out ht] at hf
    cases hf
theorem core_apart {L : List Int} (hn : L.Nodup) (h0 : ∀ t ∈ L, 0 ≤ t) (h : coreV L 0 - 1 = coreV L 1 - 1) : coreV L 0 - 1 = -1 := by
  match L, hn, h0, h with
  | [], _, _, _ => rfl
  | [x], _, h0, h =>
    have h9 := h0 x (by simp)
    have e1 : coreV [x] 0 = x + 1 := rfl
    have e2 : coreV [x] 1 = 0 := rfl
    omega
  | x :: y :: r, hn, h0, h =>
    have e1 : coreV (x :: y :: r) 0 = x + 1 := rfl
    have e2 : coreV (x :: y :: r) 1 = y + 1 := rfl
    have hxy : x ≠ y := by simp at hn; exact hn.1.1
    omega
/-- Who runs behind j dispatches in turns, the first one on core 'core % 2'. -/
def playD (L : List Int) (fx : Int → Bool) (core : Int) : Nat → Int → Int → Int × Int
  | 0, a, c => (a, c)
  | j + 1, a, c => disp2 L fx ((core + (j : Int)) % 2) (playD L fx core j a c).1 (playD L fx core j a c).2
theorem settle_play {L : List Int} {fx : Int → Bool} (hn : L.Nodup) (hf : ∀ t, fx t = true → t ∈ L) (h0 : ∀ t ∈ L, 0 ≤ t) (core : Int) {a c : Int} (hac : a = c → a = -1) : ShouldM L fx (playD L fx core 3 a c).1 (playD L fx core 3 a c).2 := by
  rcases (show core % 2 = 0 ∨ core % 2 = 1 by omega) with e | e
  · have e0 : (core + ((0 : Nat) : Int)) % 2 = 0 := by omega
    have e1 : (core + ((1 : Nat) : Int)) % 2 = 1 := by omega
    have e2 : (core + ((2 : Nat) : Int)) % 2 = 0 := by omega
    simp only [playD, e0, e1, e2, disp2, if_pos, reduceIte, Int.reduceEq]
    exact settle hn hf h0 hac
  · have e0 : (core + ((0 : Nat) : Int)) % 2 = 1 := by omega
    have e1 : (core + ((1 : Nat) : Int)) % 2 = 0 := by omega
    have e2 : (core + ((2 : Nat) : Int)) % 2 = 1 := by omega
    simp only [playD, e0, e1, e2, disp2, if_pos, reduceIte, Int.reduceEq]
    exact should_swap (settle hn hf h0 (fun e => by have := hac e.symm; omega))
def core0 (p : Pt) : Int := coreV (tailL (sim0 p).qs 16) 0 - 1
def core1 (p : Pt) : Int := coreV (tailL (sim0 p).qs 16) 1 - 1
/-- An op that may not be done does nothing. -/
theorem do15_no {n : Nat} {s : Sim14} {hd : Nat → Nat} {o : Op15} (h : (doM15 n s hd o).1 = false) : (doM15 n s hd o).2 = (s, hd) := by
  unfold doM15 at h ⊢
  by_cases h1 : o.t < 0 ∨ (n : Int) ≤ o.t
  · rw [if_pos h1]
  · rw [if_neg h1] at h ⊢
    by_cases k0 : o.k = 0
    · rw [if_pos k0] at h ⊢
      by_cases s0 : s.st o.t.toNat = 0
      · rw [if_pos s0]
      · rw [if_neg s0] at h
        cases h
    · rw [if_neg k0] at h ⊢
      by_cases k1 : o.k = 1
      · rw [if_pos k1] at h ⊢
        by_cases s0 : s.st o.t.toNat = 0
        · rw [if_pos s0] at h
          cases h
        · rw [if_neg s0]
      · rw [if_neg k1] at h ⊢
        by_cases k2 : o.k = 2
        · rw [if_pos k2] at h ⊢
          by_cases hp : 0 ≤ o.p ∧ o.p ≤ 15
          · rw [if_pos hp] at h
            cases h
          · rw [if_neg hp]
        · rw [if_neg k2] at h ⊢
          by_cases k3 : o.k = 3
          · rw [if_pos k3] at h
            cases h
          · rw [if_neg k3] at h ⊢
            by_cases k4 : o.k = 4
            · rw [if_pos k4] at h
              cases h
            · rw [if_neg k4] at h
              cases h
/-- How many resources threads have: four kinds of ops don't ask, nor change it. -/
theorem do15_few (n : Nat) (s : Sim14) (hd hd' : Nat → Nat) (o : Op15) (hk : o.k < 4) : (doM15 n s hd' o).1 = (doM15 n s hd o).1 ∧ (doM15 n s hd o).2.1 = (doM15 n s hd' o).2.1 ∧ (doM15 n s hd' o).2.2 = hd' := by
  unfold doM15
  by_cases h1 : o.t < 0 ∨ (n : Int) ≤ o.t
  · rw [if_pos h1, if_pos h1]; exact ⟨rfl, rfl, rfl⟩
  · rw [if_neg h1, if_neg h1]
    by_cases k0 : o.k = 0
    · rw [if_pos k0, if_pos k0]
      split <;> exact ⟨rfl, rfl, rfl⟩
    · rw [if_neg k0, if_neg k0]
      by_cases k1 : o.k = 1
      · rw [if_pos k1, if_pos k1]
        split <;> exact ⟨rfl, rfl, rfl⟩
      · rw [if_neg k1, if_neg k1]
        by_cases k2 : o.k = 2
        · rw [if_pos k2, if_pos k2]
          split <;> exact ⟨rfl, rfl, rfl⟩
        · rw [if_neg k2, if_neg k2]
          by_cases k3 : o.k = 3
          · rw [if_pos k3, if_pos k3]; exact ⟨rfl, rfl, rfl⟩
          · rw [if_neg k3, if_neg k3, if_neg (by omega), if_neg (by omega)]; exact ⟨rfl, rfl, rfl⟩
/-- A thread that is ready stays so, unless an op speaks of it. -/
theorem do15_ready {n : Nat} {s : Sim14} {hd : Nat → Nat} {o : Op15} {t : Nat} (h : s.st t = 0) (hk : o.k < 4) (hs : ¬ (o.t = (t : Int) ∧ o.k < 2)) : (doM15 n s hd o).2.1.st t = 0 := by
  unfold doM15
  by_cases h1 : o.t < 0 ∨ (n : Int) ≤ o.t
  · rw [if_pos h1]; exact h
  · rw [if_neg h1]
    by_cases k0 : o.k = 0
    · rw [if_pos k0]
      split
      · exact h
      · show updF s.st _ _ t = 0
        unfold updF
        split
        · rfl
        · exact h
    · rw [if_neg k0]
      by_cases k1 : o.k = 1
      · rw [if_pos k1]
        split
        · show updF s.st _ _ t = 0
          unfold updF
          rw [if_neg (fun e => hs ⟨by omega, by omega⟩)]
          exact h
        · exact h
      · rw [if_neg k1]
        by_cases k2 : o.k = 2
        · rw [if_pos k2]
          split
          · exact h
          · exact h
        · rw [if_neg k2]
          by_cases k3 : o.k = 3
          · rw [if_pos k3]; exact h
          · rw [if_neg k3, if_neg (by omega)]; exact h
/-- Who runs on core kk. -/
def whoK (kk : Nat) (a c : Int) : Int := if kk = 0 then a else c
theorem disp_fix {L : List Int} {fx : Int → Bool} {a c : Int} (h : fx a = true) : dispM L fx a c = a := by
  unfold dispM
  rw [if_pos (.inl h)]
theorem who_disp {L : List Int} {fx : Int → Bool} {kk : Nat} (hk : kk < 2) (t : Int) {a c : Int} (h : fx (whoK kk a c) = true) : whoK kk (disp2 L fx t a c).1 (disp2 L fx t a c).2 = whoK kk a c := by
  match kk, hk with
  | 0, _ =>
    show (disp2 L fx t a c).1 = a
    unfold disp2
    split
    · exact disp_fix h
    · split <;> rfl
  | 1, _ =>
    show (disp2 L fx t a c).2 = c
    unfold disp2
    split
    · rfl
    · split
      · exact disp_fix h
      · rfl
end Go.Sept
namespace Go.Proofs.YtmcmjcaigipoaaaGreat
open Go.Sept Go.RowKit
theorem look_at15 {w : World} {U n m : Nat} {ta oa za zb : Option Addr} {zc zd : Nat} {a c : Int} {q0 q1 : Bool} {kk : Nat} (h : w.heap[U]? = some (look15O n m ta oa za zb zc zd (((if 0 ≤ a then (a, true) else (0, false)), q0), ((if 0 ≤ c then (c, true) else (0, false)), q1)))) (hk : kk < 2) :
    w.cell? ⟨U, 14 + kk, none⟩ = some (.int .i64 (if 0 ≤ whoK kk a c then whoK kk a c else 0)) ∧ w.cell? ⟨U, 16 + kk, none⟩ = some (.bool (decide (0 ≤ whoK kk a c))) := by
  match kk, hk with
  | 0, _ =>
    have h1 := cell_of_block h 14
    have h2 := cell_of_block h 16
    show w.cell? ⟨U, 14, none⟩ = some (.int .i64 (if 0 ≤ a then a else 0)) ∧ w.cell? ⟨U, 16, none⟩ = some (.bool (decide (0 ≤ a)))
    by_cases h0 : 0 ≤ a
    · rw [if_pos h0] at h1 h2
      rw [if_pos h0, decide_eq_true h0]
      exact ⟨h1, h2⟩
    · rw [if_neg h0] at h1 h2
      rw [if_neg h0, decide_eq_false h0]
      exact ⟨h1, h2⟩
  | 1, _ =>
    have h1 := cell_of_block h 15
    have h2 := cell_of_block h 17
    show w.cell? ⟨U, 15, none⟩ = some (.int .i64 (if 0 ≤ c then c else 0)) ∧ w.cell? ⟨U, 17, none⟩ = some (.bool (decide (0 ≤ c)))
    by_cases h0 : 0 ≤ c
    · have h3 := h1
      simp only [if_pos h0] at h1 h2
      rw [if_pos h0, decide_eq_true h0]
      exact ⟨h1, h2⟩
    · simp only [if_neg h0] at h1 h2
      rw [if_neg h0, decide_eq_false h0]
      exact ⟨h1, h2⟩
theorem now_at {a : Int} (q : Bool) (h : -1 ≤ a) : nowV ((if 0 ≤ a then (a, true) else (0, false)), q) = a := by
  unfold nowV
  by_cases h0 : 0 ≤ a
  · rw [if_pos h0]; rfl
  · rw [if_neg h0]
    show (-1 : Int) = a
    omega
theorem Mdl15.low {R : Nat → Option Value} {V w : World} {L n g r M b cap : Nat} {s : Sim14} {hd : Nat → Nat} (h : Mdl15 R V L w n g r M b cap s hd) : M < w.heap.size ∧ b < w.heap.size := by
  obtain ⟨mo, q1, _⟩ := h.mod.blk
  obtain ⟨cs, q2, _⟩ := h.mod.thr
  exact ⟨lt_of_block q1, lt_of_block q2⟩
theorem boot_mem15 {V w : World} {n m g r : Nat} {ta oa za zb : Option Addr} {zc zd : Nat} {p : Pt} {YS : List Int} (heq : partW p = 0) (hn : p.ths.length = n) (hm : p.obs.length = m) (hpr : ∀ x ∈ p.ths, 0 ≤ x.prio ∧ x.prio ≤ 15) (hY : bootX 16 [3, 5] p n m = YS) (h : Mid13 V w (planCs n m ta oa (.slice za n zc) (.slice zb m zd)) n m g r YS) : Mem15 V w (planCs n m ta oa (.slice za n zc) (.slice zb m zd)) n m g r (sim0 p) (fun _ => 0) (core0 p) (core1 p) YS := by
  subst hn hm hY
  have hok := sim0_ok hpr
  exact ⟨h, hok, boot_raw15 heq, core_two hok 0, core_two hok 1, core_apart hok.nodup15 hok.pos15⟩
end Go.Proofs.YtmcmjcaigipoaaaGreat
namespace Go.Proofs.YtmcmjcaigipoaaaGreat
open Go.Sept Go.RowKit Go.ChangeShapes Go.WideShapes Go.ChangeAt Go.Joins Go.Deep

theorem ownKnob15 : ownKnob Tryz.prog.godebug = none := by kernel_rfl
theorem laidOut15 : laidOutB Tryz.prog = true := by kernel_rfl
def opE15 (w : World) (b o : Nat) (x : Op15) : Prop := (Cel w b o (.int .u8 x.k) ∧ Cel w b (o + 1) (.int .i64 x.t) ∧ Cel w b (o + 2) (.int .i64 x.p) ∧ Cel w b (o + 3) (.bool x.f) ∧ Cel w b (o + 4) (.int .u8 x.n)) ∧ (0 ≤ x.k ∧ x.k ≤ 255) ∧ (0 ≤ x.n ∧ x.n ≤ 255)
theorem stay_op15 {P S : Nat → Prop} {w w' : World} (ho : Only S w w') (hS : ∀ k, P k → ¬ S k) : Stay P w w' opE15 := fun b _ _ hb ⟨⟨h1, h2, h3, h4, h5⟩, h6⟩ => ⟨⟨h1.only ho (hS b hb), h2.only ho (hS b hb), h3.only ho (hS b hb), h4.only ho (hS b hb), h5.only ho (hS b hb)⟩, h6⟩
section
variable {H : Type} {enc : TypeId × Value → H} {W : World} {held : Bool}
theorem cells5 : Tryz.prog.cellsOf 5 = 1 := by kernel_rfl
set_option maxRecDepth 100000 in
theorem el_op15 (fuel : Nat) (cs : List Value) (x : DataW H × List MemPlace) (h : DataW.trod enc Tryz.prog W 0 (fun _ => true) held fuel 41 cs = some x) : ∃ y : Op15, ∀ b o, (∀ j, j < 5 → W.cell? ⟨b, o + j, none⟩ = cs[j]?) → opE15 W b o y := by
  obtain ⟨xs, n, _, _, hl, hlen, hf⟩ := DataW.trod_struct Tryz.underlying41 h
  rw [show Tryz.prog.cellsOf 41 = 5 by kernel_rfl] at hl
  match cs, hl, xs, hlen with
  | [e0, e1, e2, e3, e4], _, [y0, y1, y2, y3, y4], _ =>
    have t0 : _ = some y0 := hf 0 _ rfl
    have t1 : _ = some y1 := hf 1 _ rfl
    have t2 : _ = some y2 := hf 2 _ rfl
    have t3 : _ = some y3 := hf 3 _ rfl
    have t4 : _ = some y4 := hf 4 _ rfl
    obtain ⟨a0, u0, _, b0⟩ := DataW.trod_int Tryz.underlying5 t0
    obtain ⟨a1, u1, _, _⟩ := DataW.trod_int Tryz.underlying3 t1
    obtain ⟨a2, u2, _, _⟩ := DataW.trod_int Tryz.underlying3 t2
    obtain ⟨a3, u3, _⟩ := DataW.trod_bool Tryz.underlying4 t3
    obtain ⟨a4, u4, _, b4⟩ := DataW.trod_int Tryz.underlying5 t4
    simp [c3, c4, cells5] at u0 u1 u2 u3 u4
    subst u0 u1 u2 u3 u4
    exact ⟨⟨a0, a1, a2, a3, a4⟩, fun b o hc => ⟨⟨hc 0 (by omega), hc 1 (by omega), hc 2 (by omega), hc 3 (by omega), hc 4 (by omega)⟩, bounds_u8 b0, bounds_u8 b4⟩⟩
theorem open_arg15 {P : Program} {α : Type} {sz : Nat} {E : World → Nat → Nat → α → Prop} {t te : TypeId} {ao : Option Addr} {len cap : Nat} {d : DataW H} {p : List MemPlace} (ht : P.underlying t = some (.slice te)) (hC : P.cellsOf te = sz) (hsz : 0 < sz)
    (hel : ∀ fuel cs x, DataW.trod enc P W 0 (fun _ => true) held fuel te cs = some x → ∃ y : α, ∀ b o, (∀ j, j < sz → W.cell? ⟨b, o + j, none⟩ = cs[j]?) → E W b o y)
    (h : DataW.Trod enc P W 0 (fun _ => true) held t (.slice ao len cap) d p) : ∃ xs, SlOf (fun k => k < W.heap.size) sz E W (.slice ao len cap) xs := by
  obtain ⟨fuel, hf⟩ := h
  obtain ⟨v, xs, e, hS⟩ := open_sl ht hC hsz hel hf
  simp [Value.cells] at e
  subst e
  exact ⟨xs, hS⟩
end
end Go.Proofs.YtmcmjcaigipoaaaGreat

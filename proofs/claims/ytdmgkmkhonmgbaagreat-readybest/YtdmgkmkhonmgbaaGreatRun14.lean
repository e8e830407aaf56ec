/-
  frame.Run of the law's act, and of its look, beside a plan; what stands between the rounds of a play; the law's awake. Conditions: all of it lies in blocks that are not the same.
-/
import Derived.Test.YtdmgkmkhonmgbaaGreatBest14
import Derived.Test.YtdmgkmkhonmgbaaGreatLook14
import Derived.Test.YtdmgkmkhonmgbaaGreatBody14
import Derived.Test.YtdmgkmkhonmgbaaGreatBegin14
namespace Go.Sept
open Go.RowKit
theorem aft_gets (n m : Nat) (l xs : List Int) : ∀ (r : Nat) (t : Int), ans (getsT n m l r t) xs = l ∧ aft (getsT n m l r t) xs = xs := by
  intro r
  induction r with
  | zero => exact fun t => ⟨ans_ret _ _, aft_ret _ _⟩
  | succ r ih =>
    intro t
    constructor
    · refine (ans_bind _ _ _).trans ?_
      rw [aft_get]
      refine (ans_bind _ _ _).trans ?_
      rw [aft_get]
      exact (ih (t + 1)).1
    · refine (aft_bind _ _ _).trans ?_
      rw [aft_get]
      refine (aft_bind _ _ _).trans ?_
      rw [aft_get]
      exact (ih (t + 1)).2
theorem look_ans (n m : Nat) (N : Int) (but : List Int) (k r : Nat) (xs : List Int) : ((lookT n m N but k r).alone xs).1 = ans (bestT n m N but k) xs := by
  refine (ans_bind _ _ _).trans ?_
  exact (aft_gets n m _ _ r 0).1
theorem dB6 {k : Nat} (h : k = 6) : dB k = 31 := by rw [h]; rfl
end Go.Sept

namespace Go.Proofs.YtdmgkmkhonmgbaaGreat
open Go.RowKit Go.Sept

theorem run_body14 {V w : World} {n m g r U : Nat} {ta oa za zb : Option Addr} {zc zd : Nat} {xs : List Int} (h : Mid13 V w (planCs n m ta oa (.slice za n zc) (.slice zb m zd)) n m g r xs) {j fn : Nat} {T : Tree Unit j} {o : Obj} (hj : j ≤ 5000) (hB : BodyIn T fn (ptrV U) (besideK (readK U o) (thBag (planCs n m ta oa (.slice za n zc) (.slice zb m zd)) n m (fun k => k < V.heap.size))) 6000) (hU : w.heap[U]? = some o) (h2 : U ≠ g) (h3 : U ≠ r) :
    Calls Tryz.prog 10 #[.pointer (some ⟨g, 0, none⟩), bodyV fn (ptrV U), .int .i64 5000] w fun e w' => e = .returned (.bool true) ∧ Mid13 V w' (planCs n m ta oa (.slice za n zc) (.slice zb m zd)) n m g r (aft T xs) ∧ Only (fun k => k = r) w w' := by
  have hle := T.alone_le xs
  have hz := h.only.size
  refine (hB.run_all w g r xs 5000 (.inl ⟨rfl, h.mem⟩) (lt_of_block h.mem.head) h.mem.row.lt ⟨hU, h.th, fun k hk => by omega⟩ ?_ (by omega) (by decide) (by decide) (by omega)).mono ?_
  · have a1 := h.hg
    have a2 := h.hr
    rintro k (rfl | hk)
    · exact ⟨h2, h3⟩
    · have hk' : k < V.heap.size := hk
      omega
  · rintro e w' ⟨rfl, k1, k2, k3, k4⟩
    have k5 : Only (fun k => k = r) w w' := k4.mono (fun k _ e => e.elim (fun h => h) (fun h => h.elim))
    have a2 := h.hr
    have hp : 0 < (aft T xs).length := by rw [aft_length]; exact h.pos
    exact ⟨rfl, ⟨k2.2.1, holds_mem k1 hp, h.hg, h.hr, hp, h.only.chain k5 (fun i hi e => by omega)⟩, k5⟩

theorem run_act14 {V w : World} {n m g r U : Nat} {ta oa za zb : Option Addr} {zc zd : Nat} {xs : List Int} (h : Mid13 V w (planCs n m ta oa (.slice za n zc) (.slice zb m zd)) n m g r xs) (o : Op14) (hU : w.heap[U]? = some (act14O n m ta oa za zb zc zd o.k o.t o.s o.p o.f)) (h2 : U ≠ g) (h3 : U ≠ r) :
    Calls Tryz.prog 10 #[.pointer (some ⟨g, 0, none⟩), bodyV 11 (ptrV U), .int .i64 5000] w fun e w' => e = .returned (.bool true) ∧ Mid13 V w' (planCs n m ta oa (.slice za n zc) (.slice zb m zd)) n m g r (aftOp n m o xs) ∧ Only (fun k => k = r) w w' := by
  unfold aftOp
  by_cases k0 : o.k = 0
  · rw [if_pos k0]
    exact run_body14 h (by decide) (act14_ready (by decide) _ U n m ta oa za zb zc zd o.k o.t o.s o.p o.f k0 (ready14 _ (planCs n m ta oa (.slice za n zc) (.slice zb m zd)) n m o.t)) hU h2 h3
  · rw [if_neg k0]
    by_cases k1 : o.k = 1
    · rw [if_pos k1]
      exact run_body14 h (by decide) (act14_unready (by decide) _ U n m ta oa za zb zc zd o.k o.t o.s o.p o.f k1 (unready14F _ (planCs n m ta oa (.slice za n zc) (.slice zb m zd)) n m o.t o.s)) hU h2 h3
    · rw [if_neg k1]
      by_cases k2 : o.k = 2
      · rw [if_pos k2]
        exact run_body14 h (by decide) (act14_change (by decide) _ U n m ta oa za zb zc zd o.k o.t o.s o.p o.f k2 (change14F _ (planCs n m ta oa (.slice za n zc) (.slice zb m zd)) n m o.t o.p o.f)) hU h2 h3
      · rw [if_neg k2]
        exact run_body14 h (by decide) (act14_yield (by decide) _ U n m ta oa za zb zc zd o.k o.t o.s o.p o.f k0 k1 k2 (yield14F _ (planCs n m ta oa (.slice za n zc) (.slice zb m zd)) n m o.t)) hU h2 h3

theorem run_look14 {V w : World} {n m g r U : Nat} {ta oa za zb : Option Addr} {zc zd : Nat} {xs : List Int} (h : Mid13 V w (planCs n m ta oa (.slice za n zc) (.slice zb m zd)) n m g r xs) (N : Int) (ba : Option Addr) (bn bc : Nat) (but : List Int) (hbut : SlOf (fun k => k < V.heap.size) 1 intE w (.slice ba bn bc) but) (x s1 s2 : Value) (hU : w.heap[U]? = some (lookO n m ta oa za zb zc zd N (.slice ba bn bc) x s1 s2)) (h1 : V.heap.size ≤ U) (h2 : U ≠ g) (h3 : U ≠ r) (k6 : Nat) (hk6 : k6 = 6) :
    Calls Tryz.prog 10 #[.pointer (some ⟨g, 0, none⟩), bodyV 12 (ptrV U), .int .i64 5000] w fun e w' => e = .returned (.bool true) ∧
      (∃ v s1 s2 b, w'.heap[U]? = some (lookO n m ta oa za zb zc zd N (.slice ba bn bc) v s1 s2) ∧ Own13 w' v b (ans (bestT n m N but k6) xs) ∧ ∀ k, v.ownBlock = some k → w.heap.size ≤ k) ∧ Only (fun k => k = r ∨ k = U) w w' := by
  have hdb := dB6 hk6
  have hn6 : n ≤ 6 := h.th.1
  have hle := (lookT n m N but k6 n).alone_le xs
  have hz := h.only.size
  refine ((look14 (fun k => k < V.heap.size) (fun k => k < V.heap.size) U (by omega) (by omega) n m ta oa za zb zc zd N ba bn bc but k6 hk6 (by omega)).run_all w g r xs 5000 (.inl ⟨rfl, h.mem⟩) (lt_of_block h.mem.head) h.mem.row.lt ⟨⟨x, s1, s2, hU⟩, ⟨h.th, fun k hk => by omega⟩, hbut, fun k hk => by omega⟩ ?_ (by omega) (by decide) (by decide) (by omega)).mono ?_
  · have a1 := h.hg
    have a2 := h.hr
    rintro k (rfl | hk | hk)
    · exact ⟨h2, h3⟩
    · have hk' : k < V.heap.size := hk
      omega
    · have hk' : k < V.heap.size := hk
      omega
  · rintro e w' ⟨rfl, k1, k2, ⟨v, t1, t2, c1, ⟨b, c2⟩, c3⟩, k4⟩
    rw [look_ans] at c2
    exact ⟨rfl, ⟨v, t1, t2, b, c1, c2, c3⟩, k4⟩

/-- What stands between the rounds of a play: the memory beside the model. -/
structure Play14 (V : World) (L : Nat) (w : World) (cs : Array Value) (n m g r M b cap : Nat) (s : Sim14) (xs : List Int) : Prop where
  mid : Mid13 V w cs n m g r xs
  ok : SimOk n s
  raw : Raw14 (43 + m + n * 24 + m * 24) n m s.st s.pr s.qs xs
  mod : Mods L w M b n cap s
  gL : g < L
  rL : r < L
  vL : V.heap.size ≤ L
  lM : L ≤ M
  mb : M < b
  lw : L ≤ w.heap.size
section
variable {V : World} {L : Nat} {w w' : World} {cs : Array Value} {n m g r M b cap : Nat} {s s' : Sim14} {xs xs' : List Int}
theorem Play14.still (h : Play14 V L w cs n m g r M b cap s xs) (ho : Only (fun _ => False) w w') : Play14 V L w' cs n m g r M b cap s xs :=
  ⟨h.mid.keep ho, h.ok, h.raw, h.mod.only ho (fun h => h) (fun h => h) (fun _ _ h => h), h.gL, h.rL, h.vL, h.lM, h.mb, Nat.le_trans h.lw ho.size⟩
/-- The model has done an op, and the memory too. -/
theorem Play14.did (h : Play14 V L w cs n m g r M b cap s xs) (ho : Only (fun k => k = M ∨ k = b) w w') : Mid13 V w' cs n m g r xs := by
  have a1 := h.gL
  have a2 := h.rL
  have a3 := h.vL
  have a4 := h.lM
  have a5 := h.mb
  exact ⟨h.mid.th.only ho (fun k hk e => by omega), h.mid.mem.only ho (fun e => by omega) (fun e => by omega), h.mid.hg, h.mid.hr, h.mid.pos, h.mid.only.chain ho (fun i hi e => by omega)⟩
theorem Play14.ran (h : Play14 V L w cs n m g r M b cap s xs) (ho : Only (fun k => k = r) w w') (hm : Mods L w M b n cap s') : Mods L w' M b n cap s' := by
  have a2 := h.rL
  have a4 := h.lM
  have a5 := h.mb
  exact hm.only ho (fun e => by omega) (fun e => by omega) (fun k hk e => by omega)
theorem Play14.lists (h : Play14 V L w cs n m g r M b cap s xs) : (∀ p, (s.qs p).length + 1 ≤ 1000) ∧ (ordN s.qs 16).length ≤ 1000 ∧ (∀ p, p < 16 → ∀ x ∈ s.qs p, -9223372036854775808 ≤ x ∧ x ≤ 9223372036854775807) ∧ (∀ p, p < 16 → ∀ x ∈ s.qs p, 0 ≤ x ∧ x < n) := by
  have hn6 : n ≤ 6 := h.mid.th.1
  have hm : ∀ p, ∀ x ∈ s.qs p, 0 ≤ x ∧ x < n := fun p x hx => by
    obtain ⟨t, rfl, h1, _⟩ := h.ok.mem p x hx
    omega
  refine ⟨fun p => ?_, ?_, fun p _ x hx => ?_, fun p _ x hx => hm p x hx⟩
  · have := h.ok.len p
    omega
  · rw [ordN_all]
    have := h.ok.all
    omega
  · have := hm p x hx
    omega
end

def two14 : Pt := ⟨[⟨1, 0, false, []⟩, ⟨5, 0, false, []⟩], []⟩
theorem two14_ok : partW two14 = 0 := by decide
theorem two14_best : bestF 2 [] [] (tailL (sim0 two14).qs 16) = [1, 0] := by decide

set_option maxRecDepth 100000 in
set_option maxHeartbeats 4000000 in
theorem awake14_any (w : World) : Calls Tryz.prog 4 #[] w fun e w' => e = .returned (.bool true) ∧ Only (fun _ => False) w w' := by
  have hW : ∃ W z, W = w.alloc (.cells #[.int .i64 1, .int .u32 0, .bool false, .slice none 0 0, .int .i64 5, .int .u32 0, .bool false, .slice none 0 0] 58) ∧ z = w.heap.size ∧ Only (fun _ => False) w W ∧ W.heap[z]? = some (.cells #[.int .i64 1, .int .u32 0, .bool false, .slice none 0 0, .int .i64 5, .int .u32 0, .bool false, .slice none 0 0] 58) := ⟨_, _, rfl, rfl, (Only.refl _ _).alloc _, heap_new _ _⟩
  obtain ⟨W, z, hWe, hze, hoW, hbz⟩ := hW
  have hP : PtIs (fun _ => True) W (.slice (some ⟨z, 0, none⟩) 2 2) (.slice none 0 0) two14 := by
    refine ⟨⟨_, 2, rfl, ⟨Nat.le_refl _, by decide⟩, z, 0, fun i x hx => ?_⟩, SlOf.nil⟩
    match i with
    | 0 =>
      simp [two14] at hx
      subst hx
      exact ⟨rfl, trivial, ⟨cell_of_block hbz 0, by decide, by decide⟩, cell_of_block hbz 1, ⟨by decide, by decide⟩, cell_of_block hbz 2, _, cell_of_block hbz 3, SlOf.nil⟩
    | 1 =>
      simp [two14] at hx
      subst hx
      exact ⟨rfl, trivial, ⟨cell_of_block hbz 4, by decide, by decide⟩, cell_of_block hbz 5, ⟨by decide, by decide⟩, cell_of_block hbz 6, _, cell_of_block hbz 7, SlOf.nil⟩
    | i + 2 => simp [two14] at hx
  have HO := hid hoW
  have HC := hid (of_rel W _ _ two14 hP ⟨by decide, by decide, fun t ht => by
    simp [two14] at ht
    rcases ht with rfl | rfl
    · exact ⟨by decide, fun c hc => by simp at hc⟩
    · exact ⟨by decide, fun c hc => by simp at hc⟩⟩)
  clear hP hbz hoW
  go_enter Tryz.func4, Tryz.ntmps4
  go_wp2_with fail
  rw [← hWe, ← hze]
  clear hWe hze
  refine HC.out.mono ?_
  rintro e w1 ⟨h, ho⟩
  have HO1 := hid (HO.out.chain ho (fun _ _ h => h))
  rcases h with ⟨h, _⟩ | ⟨_, cs, rfl, hpl⟩
  · exact absurd two14_ok h
  have hth := ThIs.of hpl two14_ok
  have hpl0 := hpl
  obtain ⟨n, hn⟩ : ∃ n, two14.ths.length = n := ⟨_, rfl⟩
  obtain ⟨m, hm⟩ : ∃ m, two14.obs.length = m := ⟨_, rfl⟩
  have hraw := boot_raw two14_ok
  have hok := sim0_ok (pt := two14) (by decide)
  rw [hn, hm] at hth hraw
  rw [hn] at hok
  obtain ⟨_, _, ta, oa, za, zb, zc, zd, rfl, _⟩ := hth
  have hth1 := ThIs.of hpl two14_ok
  have HV : ∃ V y, V = w1.alloc (plO (planCs n m ta oa (.slice za n zc) (.slice zb m zd))) ∧ y = w1.heap.size ∧ Only (fun _ => False) w1 V ∧ V.heap[y]? = some (plO (planCs n m ta oa (.slice za n zc) (.slice zb m zd))) := ⟨_, _, rfl, rfl, (Only.refl _ _).alloc _, heap_new _ _⟩
  obtain ⟨V, y, hVe, hye, hoV, hby⟩ := HV
  have HOV := hid (HO1.out.chain hoV (fun _ _ h => h))
  rw [hn, hm] at hth1
  have HTH := hid (hth1.only hoV (fun _ _ h => h))
  have HBY := hid hby
  have HBT : Hid (Calls Tryz.prog 7 #[.agg (planCs n m ta oa (.slice za n zc) (.slice zb m zd))] V fun e w' => ∃ g r, e = .returned (.pointer (some ⟨g, 0, none⟩)) ∧ MemIs 122 w' g r (bootX 16 [3, 5] two14 n m) ∧ (V.heap.size ≤ g ∧ V.heap.size ≤ r) ∧ Only (fun _ => False) V w') := by
    have h9 := boot_rel V _ two14 (hpl0.only hoV (fun _ _ h => h)) two14_ok
    rw [hn, hm] at h9
    exact h9
  have HRAW := hid hraw
  have HOK := hid hok
  have HLN : Hid (0 < (bootX 16 [3, 5] two14 n m).length) := by
    have h9 := length_bootX 16 [3, 5] two14 n m
    show 0 < _
    omega
  obtain ⟨c0, c1, c2, c3, c4, c5, c6, c7, c8, c9, c10, c11, c12, c13⟩ := plan_cells hby
  clear hpl ho hth1 hoV hby HO HO1 HC hraw hok hpl0 hn hm
  go_upto_region 2 with fail
  rw [← hVe, ← hye]
  clear hVe hye
  go_wp2_with fail
  refine HBT.out.mono ?_
  rintro e w2 ⟨g, r, rfl, hmem, ⟨hg, hr⟩, ho2⟩
  have HMID : Hid (Mid13 V w2 (planCs n m ta oa (.slice za n zc) (.slice zb m zd)) n m g r (bootX 16 [3, 5] two14 n m)) := ⟨HTH.out.low.only ho2 (fun _ _ h => h), hmem, hg, hr, HLN.out, ho2⟩
  have HO2 := hid ho2
  clear c0 c1 c2 c3 c4 c5 c6 c7 c8 c9 c10 c11 c12 c13 hmem HBT
  obtain ⟨c0, c1, c2, c3, c4, c5, c6, c7, c8, c9, c10, c11, c12, c13⟩ := plan_cells ((ho2.block y (lt_of_block HBY.out) (fun h => h)).trans HBY.out)
  have hX : ∃ X U, X = w2.alloc (lookO n m ta oa za zb zc zd 2 (.slice none 0 0) (.slice none 0 0) (.slice none 0 0) (.slice none 0 0)) ∧ U = w2.heap.size ∧ Only (fun _ => False) w2 X ∧ X.heap[U]? = some (lookO n m ta oa za zb zc zd 2 (.slice none 0 0) (.slice none 0 0) (.slice none 0 0) (.slice none 0 0)) := ⟨_, _, rfl, rfl, (Only.refl _ _).alloc _, heap_new _ _⟩
  obtain ⟨X, U, hXe, hUe, hoX, hbU⟩ := hX
  have zU : V.heap.size ≤ U ∧ U ≠ g ∧ U ≠ r := by
    have e1 := ho2.size
    have e2 := lt_of_block HMID.out.mem.head
    have e3 := HMID.out.mem.row.lt
    exact ⟨by omega, by omega, by omega⟩
  have HRUN := hid (run_look14 (HMID.out.keep hoX) 2 none 0 0 [] SlOf.nil _ _ _ hbU zU.1 zU.2.1 zU.2.2 6 rfl)
  have HOX := hid (HO2.out.chain hoX (fun _ _ h => h))
  have HUV : Hid (V.heap.size ≤ U) := zU.1
  have HRV : Hid (V.heap.size ≤ r) := hr
  have HANS : Hid (ans (bestT n m 2 [] 6) (bootX 16 [3, 5] two14 n m) = [1, 0]) := by
    show _ = _
    rw [(best_alone HRAW.out.ring.read (fun p hp j hj => (HRAW.out.ring.mem p hp).2 j hj) 6 (Nat.le_trans HOK.out.all HTH.out.1)).1]
    exact two14_best
  clear ho2 hoX hbU zU hg hr HTH
  simp only [lookO] at hXe
  go_upto_region 4 with fail
  rw [← hXe, ← hUe]
  clear hXe hUe c0 c1 c2 c3 c4 c5 c6 c7 c8 c9 c10 c11 c12 c13
  have hmf : ∀ (fn : Fn) (first cap : Array Value) (w : World), (Instr.makeFunc fn first cap).run Tryz.prog w = .ok (.func fn first cap) w := fun _ _ _ _ => rfl
  go_wp2_with fail
  refine HRUN.out.mono ?_
  rintro e w3 ⟨rfl, ⟨v, t1, t2, b, hb3, hown, hlow⟩, ho3⟩
  rw [HANS.out] at hown
  obtain ⟨va, vc, rfl, _⟩ := Grow.shape hown
  have HO3 : Hid (Only (fun _ => False) V w3) := HOX.out.chain ho3 (fun i hi e => by have := HUV.out; have := HRV.out; omega)
  have HSL := hid (Own13.sl hown (by decide))
  have f16 : w3.cell? ⟨U, 16, none⟩ = some (.slice va 2 vc) := cell_of_block hb3 16
  have hY : ∃ Y q, Y = w3.alloc (.cells #[.int .i64 1, .int .i64 0] 3) ∧ q = w3.heap.size ∧ Only (fun _ => False) w3 Y ∧ Y.heap[q]? = some (.cells #[.int .i64 1, .int .i64 0] 3) := ⟨_, _, rfl, rfl, (Only.refl _ _).alloc _, heap_new _ _⟩
  obtain ⟨Y, q, hYe, hqe, hoY, hbq⟩ := hY
  have HSL2 : Hid (SlOf (fun _ => True) 1 intE Y (.slice (some ⟨q, 0, none⟩) 2 2) [1, 0]) := by
    refine ⟨_, 2, rfl, ⟨Nat.le_refl _, by decide⟩, q, 0, fun i x hx => ?_⟩
    match i with
    | 0 =>
      simp at hx
      subst hx
      exact ⟨rfl, trivial, cell_of_block hbq 0, by decide, by decide⟩
    | 1 =>
      simp at hx
      subst hx
      exact ⟨rfl, trivial, cell_of_block hbq 1, by decide, by decide⟩
    | i + 2 => simp at hx
  have HSL1 := hid (HSL.out.only (stay_int hoY (fun _ _ h => h)))
  have HOY := hid (HO3.out.chain hoY (fun _ _ h => h))
  clear hown hlow ho3 hb3 HRUN hoY hbq HSL
  go_wp2_with fail
  rw [← hYe, ← hqe]
  clear hYe hqe
  refine (ints14 Y _ _ [1, 0] HSL1.out HSL2.out).mono ?_
  rintro e w4 ⟨rfl, nn, rfl⟩
  go_wp2_with fail
  go_ret
  exact ⟨rfl, HOV.out.chain (only_drewN HOY.out nn) (fun _ _ h => h)⟩
end Go.Proofs.YtdmgkmkhonmgbaaGreat

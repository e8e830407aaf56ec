/-
  Package plan: Of. Conditions: a partition of a size that is looked at.
-/
import Derived.Test.YtmcmjcaigipoaaaGreatLay12
import Derived.Test.YtmcmjcaigipoaaaGreatConf11e
import Derived.Test.YtmcmjcaigipoaaaGreatFew11
namespace Go.Sept
open Go.RowKit
/-- The configuration of one partition alone. -/
def aloneC (p : Pt) : Cf := ⟨[p], [⟨0, 1⟩], []⟩
theorem wrong_alone (p : Pt) : wrongW (aloneC p) = partW p := by
  unfold wrongW aloneC
  simp only [List.length_cons, List.length_nil, firstW]
  by_cases h : partW p = 0
  · rw [if_neg (by omega), if_neg (by simp [h]), if_neg (by omega), if_neg (by simp [winOk]), if_neg (by simp [hasWin, List.range_succ]), if_neg (by omega), h]
    rfl
  · rw [if_neg (by omega), if_pos (by simp [h]), if_pos h]
/-- Where a partition's threads and objects stand. -/
def thAts (n m : Nat) : List Int := stepsL (43 + (m : Int)) 24 n
def obAts (n m : Nat) : List Int := stepsL (43 + (m : Int) + (n : Int) * 24) 24 m
end Go.Sept
namespace Go.Proofs.YtmcmjcaigipoaaaGreat
open Go.RowKit Go.Sept

theorem small_alone {p : Pt} (h : FewP p) : Small2 (aloneC p) := ⟨by simp [aloneC], by simp [aloneC], by simp [aloneC], fun q hq => by simp [aloneC] at hq; subst hq; exact h⟩
theorem results_row_tmp {P : Program} {fn : Func} {p u : Tmp} {ty : TypeId} (h : fn.results = #[.cell p ty, .tmp u]) (tmps : Array Value) (w : World) (g : Nat) (t : TypeId) (cs : Array Value) (d : TypeDesc)
    (hp : tmps.getD p undef = .pointer (some ⟨g, 0, none⟩)) (hg : w.heap[g]? = some (.cells cs t))
    (hu : P.underlying ty = some d) (hd : (match d with | .struct _ | .array _ _ => true | _ => false) = true) (hi : (P.info? ty).map (·.size) = some cs.size) :
    (results fn tmps).run P w = .ok (.tuple #[.agg cs, tmps.getD u undef]) w := by
  have hp' : tmps[p]?.getD undef = .pointer (some ⟨g, 0, none⟩) := by simpa using hp
  simp [results, h, hp', asAddr, run_loadVar_row w g t ty cs (0, 0) d hg hu hd hi]

/-- The plan (its cells) of the partition, whose lists lie in blocks of P. -/
def PlIs (P : Nat → Prop) (w : World) (cs : Array Value) (p : Pt) : Prop :=
  ∃ ta oa u0 u1, cs = planCs p.ths.length p.obs.length ta oa u0 u1 ∧ PtIs P w u0 u1 p ∧ SlOf P 1 intE w (.slice ta p.ths.length p.ths.length) (thAts p.ths.length p.obs.length) ∧ SlOf P 1 intE w (.slice oa p.obs.length p.obs.length) (obAts p.ths.length p.obs.length)
theorem PlIs.only {P S : Nat → Prop} {w w' : World} {cs : Array Value} {p : Pt} (h : PlIs P w cs p) (ho : Only S w w') (hS : ∀ k, P k → ¬ S k) : PlIs P w' cs p := by
  obtain ⟨ta, oa, u0, u1, h1, h2, h3, h4⟩ := h
  exact ⟨ta, oa, u0, u1, h1, h2.only ho hS, h3.only (stay_int ho hS), h4.only (stay_int ho hS)⟩
/-- What Of answers. -/
def OfIs (w w' : World) (e : Ending) (p : Pt) : Prop :=
  (partW p ≠ 0 ∧ e = .returned (.tuple #[.agg (plCs 0 0 0 0 0 0 0 0 0 nilS nilS 0 nilS nilS), .int .i64 15])) ∨ (partW p = 0 ∧ ∃ cs, e = .returned (.tuple #[.agg cs, .int .i64 0]) ∧ PlIs (fun k => w.heap.size ≤ k) w' cs p)

set_option maxRecDepth 100000 in
set_option maxHeartbeats 4000000 in
theorem of_rel {P : Nat → Prop} (w : World) (v0 v1 : Value) (p : Pt) (h : PtIs P w v0 v1 p) (hf : FewP p) :
    Calls Tryz.prog 8 #[.agg #[v0, v1]] w fun e w' => OfIs w w' e p ∧ Only (fun _ => False) w w' := by
  have hpt := h
  obtain ⟨ta, tc, rfl, tm⟩ := h.1.shape
  obtain ⟨oa, oc, rfl, om⟩ := h.2.shape
  obtain ⟨n, hn⟩ : ∃ n, p.ths.length = n := ⟨_, rfl⟩
  obtain ⟨m, hm⟩ : ∃ m, p.obs.length = m := ⟨_, rfl⟩
  have HN := hid hn
  have HM := hid hm
  have HF := hid hf
  obtain ⟨r, hr⟩ : ∃ r, partW p = r := ⟨_, rfl⟩
  have HR := hid hr
  rw [hn] at hpt tm
  rw [hm] at hpt om
  rw [hn, hm]
  have hW : ∃ W z, W = ((((w.alloc (ptO (.slice ta n tc) (.slice oa m oc))).alloc (plO (plCs 0 0 0 0 0 0 0 0 0 nilS nilS 0 nilS nilS))).alloc (ptO (.slice ta n tc) (.slice oa m oc))).alloc (.cells #[.int .i64 0, .int .i64 1] 67)).alloc (cfO (.slice (some ⟨w.heap.size + 1 + 1, 0, none⟩) 1 1) (.slice (some ⟨w.heap.size + 1 + 1 + 1, 0, none⟩) 1 1) nilS) ∧ z = w.heap.size ∧ Only (fun _ => False) w W ∧
      W.heap[z + 1]? = some (plO (plCs 0 0 0 0 0 0 0 0 0 nilS nilS 0 nilS nilS)) ∧ W.heap[z + 1 + 1]? = some (ptO (.slice ta n tc) (.slice oa m oc)) ∧ W.heap[z + 1 + 1 + 1]? = some (.cells #[.int .i64 0, .int .i64 1] 67) ∧ W.heap[z + 1 + 1 + 1 + 1]? = some (cfO (.slice (some ⟨z + 1 + 1, 0, none⟩) 1 1) (.slice (some ⟨z + 1 + 1 + 1, 0, none⟩) 1 1) nilS) := by
    refine ⟨_, _, rfl, rfl, (((((Only.refl _ _).alloc _).alloc _).alloc _).alloc _).alloc _, ?_, ?_, ?_, ?_⟩
    · exact newKeep12 (newKeep12 (newKeep12 (newAt12 _ _ (by simp))))
    · exact newKeep12 (newKeep12 (newAt12 _ _ (by simp)))
    · exact newKeep12 (newAt12 _ _ (by simp))
    · exact newAt12 _ _ (by simp)
  obtain ⟨W, z, hWe, hze, hoW, hb1, hb2, hb3, hb4⟩ := hW
  have HZZ : Hid (w.heap.size = z ∧ z + 1 + 1 + 1 + 1 < W.heap.size) := ⟨hze.symm, lt_of_block hb4⟩
  have HO := hid hoW
  have HC : Hid (CfIs (fun k => P k ∨ k = z + 1 + 1 ∨ k = z + 1 + 1 + 1) W (.slice (some ⟨z + 1 + 1, 0, none⟩) 1 1) (.slice (some ⟨z + 1 + 1 + 1, 0, none⟩) 1 1) nilS (aloneC p)) := by
    have h1 := hpt.only hoW (fun _ _ h => h)
    refine ⟨⟨_, 1, rfl, ⟨Nat.le_refl _, by decide⟩, z + 1 + 1, 0, fun i x hx => ?_⟩, ⟨_, 1, rfl, ⟨Nat.le_refl _, by decide⟩, z + 1 + 1 + 1, 0, fun i x hx => ?_⟩, SlOf.nil⟩
    · cases i with
      | zero =>
        simp [aloneC] at hx
        subst hx
        exact ⟨rfl, .inr (.inl rfl), ⟨_, cell_of_block hb2 0, h1.1.mono (fun _ h => .inl h) (fun _ _ _ h => mono_th (fun _ h => .inl h) _ h)⟩, ⟨_, cell_of_block hb2 1, h1.2.mono (fun _ h => .inl h) (fun _ _ _ h => h)⟩⟩
      | succ i => simp [aloneC] at hx
    · cases i with
      | zero =>
        simp [aloneC] at hx
        subst hx
        exact ⟨rfl, .inr (.inr rfl), ⟨cell_of_block hb3 0, by decide, by decide⟩, ⟨cell_of_block hb3 1, by decide, by decide⟩⟩
      | succ i => simp [aloneC] at hx
  obtain ⟨c0, c1, c2⟩ := cf_cells hb4 (Only.refl _ _)
  have HB1 := hid hb1
  have HB4 := hid hb4
  have HV : Hid (validV (wrongW (aloneC p)) = .tuple #[.int .i64 r, .int .i64 (if r = 0 then 0 else 15)]) := by show _ = _; rw [wrong_alone, hr, validV, errW]
  clear hoW hb1 hb2 hb3 hb4 hpt h hf hn hm hr
  rw [← hze] at hWe
  go_enter Tryz.func8, Tryz.ntmps8
  go_upto_region 2 with fail
  rw [← hze, ← hWe]
  clear hWe hze
  go_wp2_with fail
  refine (cValid _ _ _ _ (aloneC p) HC.out).mono ?_
  rintro e w2 ⟨rfl, ho2⟩
  rw [HV.out]
  have HO2 := hid ho2
  clear ho2 c0 c1 c2
  by_cases hz : r = 0
  · rw [if_pos hz]
    obtain ⟨c0, c1, c2⟩ := cf_cells HB4.out HO2.out
    go_wp2_with fail
    refine (cClone_any _ _ _ _ _ (aloneC p) (HC.out.only HO2.out (fun _ _ h => h)) (small_alone HF.out)).mono ?_
    rintro e w3 ⟨o0, o1, o2, rfl, hc3, ho3⟩
    obtain ⟨pa, pc, rfl, pm⟩ := hc3.parts.shape
    obtain ⟨b, off, hpa, hPb, x, hx, ⟨k0, e0, h0⟩, ⟨k1, e1, h1⟩⟩ := hc3.parts.get 0 (by simp [aloneC])
    subst hpa
    have hxp : x = p := by simpa [aloneC] using hx.symm
    subst hxp
    obtain ⟨ba, bc, rfl, bm⟩ := h0.shape
    obtain ⟨ca, cc, rfl, cm⟩ := h1.shape
    rw [HN.out] at e0 h0 bm
    rw [HM.out] at e1 h1 cm
    have f0 : w3.cell? ⟨b, off, none⟩ = some (.slice ba n bc) := e0
    have f1 : w3.cell? ⟨b, off + 1, none⟩ = some (.slice ca m cc) := e1
    have HP3 : Hid (PtIs (fun k => w2.heap.size ≤ k) w3 (.slice ba n bc) (.slice ca m cc) x) := ⟨h0, h1⟩
    have HO3 := hid ho3
    have HL : Hid (Calls Tryz.prog 19 #[.agg #[.slice ba n bc, .slice ca m cc]] w3 fun e w' => ∃ ta oa, e = .returned (.agg (planCs n m ta oa (.slice ba n bc) (.slice ca m cc))) ∧
      SlOf (fun k => w3.heap.size ≤ k) 1 intE w' (.slice ta n n) (stepsL (43 + (m : Int)) 24 n) ∧ SlOf (fun k => w3.heap.size ≤ k) 1 intE w' (.slice oa m m) (stepsL (43 + (m : Int) + (n : Int) * 24) 24 m) ∧ Only (fun _ => False) w3 w') := lay_rel w3 ba ca n m bc cc (by have := HF.out.1; have := HN.out; omega) (by have := HF.out.2.1; have := HM.out; omega)
    have pone : (aloneC x).parts.length = 1 := rfl
    rw [pone]
    have hfld : ∀ w, (Instr.field 71 (.agg #[.slice (some ⟨b, off, none⟩) 1 pc, o1, o2]) 0).run Tryz.prog w = .ok (.slice (some ⟨b, off, none⟩) 1 pc) w := fun _ => by kernel_rfl
    clear c0 c1 c2 hc3 ho3 h0 h1 e0 e1 hPb hx pm pone HV
    go_wp2_with fail
    refine HL.out.mono ?_
    rintro e w4 ⟨xa, ya, rfl, hs1, hs2, ho4⟩
    have HO4 := hid ho4
    have HS1 := hid hs1
    have HS2 := hid hs2
    have HB9 : Hid (w4.heap[z + 1]? = some (plO (plCs 0 0 0 0 0 0 0 0 0 nilS nilS 0 nilS nilS))) := (ho4.block (z + 1) (Nat.lt_of_lt_of_le (lt_of_block HB1.out) (Nat.le_trans HO2.out.size HO3.out.size)) (fun h => h)).trans ((HO3.out.block (z + 1) (Nat.lt_of_lt_of_le (lt_of_block HB1.out) HO2.out.size) (fun h => h)).trans ((HO2.out.block (z + 1) (lt_of_block HB1.out) (fun h => h)).trans HB1.out))
    clear hs1 hs2 ho4 f0 f1
    have q0 : w4.cell? ⟨z + 1, 0, none⟩ = some (.int .i64 0) := cell_of_block HB9.out 0
    have g0 : w4.frozen? ⟨z + 1, 0, none⟩ = false := frozen_of_block HB9.out 0
    have q1 : w4.cell? ⟨z + 1, 1, none⟩ = some (.int .i64 0) := cell_of_block HB9.out 1
    have g1 : w4.frozen? ⟨z + 1, 1, none⟩ = false := frozen_of_block HB9.out 1
    have q2 : w4.cell? ⟨z + 1, 2, none⟩ = some (.int .i64 0) := cell_of_block HB9.out 2
    have g2 : w4.frozen? ⟨z + 1, 2, none⟩ = false := frozen_of_block HB9.out 2
    have q3 : w4.cell? ⟨z + 1, 3, none⟩ = some (.int .i64 0) := cell_of_block HB9.out 3
    have g3 : w4.frozen? ⟨z + 1, 3, none⟩ = false := frozen_of_block HB9.out 3
    have q4 : w4.cell? ⟨z + 1, 4, none⟩ = some (.int .i64 0) := cell_of_block HB9.out 4
    have g4 : w4.frozen? ⟨z + 1, 4, none⟩ = false := frozen_of_block HB9.out 4
    have q5 : w4.cell? ⟨z + 1, 5, none⟩ = some (.int .i64 0) := cell_of_block HB9.out 5
    have g5 : w4.frozen? ⟨z + 1, 5, none⟩ = false := frozen_of_block HB9.out 5
    have q6 : w4.cell? ⟨z + 1, 6, none⟩ = some (.int .i64 0) := cell_of_block HB9.out 6
    have g6 : w4.frozen? ⟨z + 1, 6, none⟩ = false := frozen_of_block HB9.out 6
    have q7 : w4.cell? ⟨z + 1, 7, none⟩ = some (.int .i64 0) := cell_of_block HB9.out 7
    have g7 : w4.frozen? ⟨z + 1, 7, none⟩ = false := frozen_of_block HB9.out 7
    have q8 : w4.cell? ⟨z + 1, 8, none⟩ = some (.int .i64 0) := cell_of_block HB9.out 8
    have g8 : w4.frozen? ⟨z + 1, 8, none⟩ = false := frozen_of_block HB9.out 8
    have q9 : w4.cell? ⟨z + 1, 9, none⟩ = some nilS := cell_of_block HB9.out 9
    have g9 : w4.frozen? ⟨z + 1, 9, none⟩ = false := frozen_of_block HB9.out 9
    have q10 : w4.cell? ⟨z + 1, 10, none⟩ = some nilS := cell_of_block HB9.out 10
    have g10 : w4.frozen? ⟨z + 1, 10, none⟩ = false := frozen_of_block HB9.out 10
    have q11 : w4.cell? ⟨z + 1, 11, none⟩ = some (.int .i64 0) := cell_of_block HB9.out 11
    have g11 : w4.frozen? ⟨z + 1, 11, none⟩ = false := frozen_of_block HB9.out 11
    have q12 : w4.cell? ⟨z + 1, 12, none⟩ = some nilS := cell_of_block HB9.out 12
    have g12 : w4.frozen? ⟨z + 1, 12, none⟩ = false := frozen_of_block HB9.out 12
    have q13 : w4.cell? ⟨z + 1, 13, none⟩ = some nilS := cell_of_block HB9.out 13
    have g13 : w4.frozen? ⟨z + 1, 13, none⟩ = false := frozen_of_block HB9.out 13
    go_wp2_with fail
    have hfin : ((((((((((((((w4.setCell ⟨z + 1, 0, none⟩ (.int .i64 0)).setCell ⟨z + 1, 1, none⟩ (.int .i64 2)).setCell ⟨z + 1, 2, none⟩ (.int .i64 4)).setCell ⟨z + 1, 3, none⟩ (.int .i64 3)).setCell ⟨z + 1, 4, none⟩ (.int .i64 5)).setCell ⟨z + 1, 5, none⟩ (.int .i64 6)).setCell ⟨z + 1, 6, none⟩ (.int .i64 8)).setCell ⟨z + 1, 7, none⟩ (.int .i64 41)).setCell ⟨z + 1, 8, none⟩ (.int .i64 43)).setCell ⟨z + 1, 9, none⟩ (.slice xa n n)).setCell ⟨z + 1, 10, none⟩ (.slice ya m m)).setCell ⟨z + 1, 11, none⟩ (.int .i64 (43 + (m : Int) + (n : Int) * 24 + (m : Int) * 24))).setCell ⟨z + 1, 12, none⟩ (.slice ba n bc)).setCell ⟨z + 1, 13, none⟩ (.slice ca m cc)).heap[z + 1]? = some (plO (planCs n m xa ya (.slice ba n bc) (.slice ca m cc))) := (block_setCell (block_setCell (block_setCell (block_setCell (block_setCell (block_setCell (block_setCell (block_setCell (block_setCell (block_setCell (block_setCell (block_setCell (block_setCell (block_setCell HB9.out 0 (.int .i64 0)) 1 (.int .i64 2)) 2 (.int .i64 4)) 3 (.int .i64 3)) 4 (.int .i64 5)) 5 (.int .i64 6)) 6 (.int .i64 8)) 7 (.int .i64 41)) 8 (.int .i64 43)) 9 (.slice xa n n)) 10 (.slice ya m m)) 11 (.int .i64 (43 + (m : Int) + (n : Int) * 24 + (m : Int) * 24))) 12 (.slice ba n bc)) 13 (.slice ca m cc))
    have hall : Only (fun k => k = z + 1) w4 ((((((((((((((w4.setCell ⟨z + 1, 0, none⟩ (.int .i64 0)).setCell ⟨z + 1, 1, none⟩ (.int .i64 2)).setCell ⟨z + 1, 2, none⟩ (.int .i64 4)).setCell ⟨z + 1, 3, none⟩ (.int .i64 3)).setCell ⟨z + 1, 4, none⟩ (.int .i64 5)).setCell ⟨z + 1, 5, none⟩ (.int .i64 6)).setCell ⟨z + 1, 6, none⟩ (.int .i64 8)).setCell ⟨z + 1, 7, none⟩ (.int .i64 41)).setCell ⟨z + 1, 8, none⟩ (.int .i64 43)).setCell ⟨z + 1, 9, none⟩ (.slice xa n n)).setCell ⟨z + 1, 10, none⟩ (.slice ya m m)).setCell ⟨z + 1, 11, none⟩ (.int .i64 (43 + (m : Int) + (n : Int) * 24 + (m : Int) * 24))).setCell ⟨z + 1, 12, none⟩ (.slice ba n bc)).setCell ⟨z + 1, 13, none⟩ (.slice ca m cc)) := (((((((((((((((Only.refl (fun k => k = z + 1) w4).setCell (p := ⟨z + 1, 0, none⟩) (.inr rfl) _).setCell (p := ⟨z + 1, 1, none⟩) (.inr rfl) _).setCell (p := ⟨z + 1, 2, none⟩) (.inr rfl) _).setCell (p := ⟨z + 1, 3, none⟩) (.inr rfl) _).setCell (p := ⟨z + 1, 4, none⟩) (.inr rfl) _).setCell (p := ⟨z + 1, 5, none⟩) (.inr rfl) _).setCell (p := ⟨z + 1, 6, none⟩) (.inr rfl) _).setCell (p := ⟨z + 1, 7, none⟩) (.inr rfl) _).setCell (p := ⟨z + 1, 8, none⟩) (.inr rfl) _).setCell (p := ⟨z + 1, 9, none⟩) (.inr rfl) _).setCell (p := ⟨z + 1, 10, none⟩) (.inr rfl) _).setCell (p := ⟨z + 1, 11, none⟩) (.inr rfl) _).setCell (p := ⟨z + 1, 12, none⟩) (.inr rfl) _).setCell (p := ⟨z + 1, 13, none⟩) (.inr rfl) _)
    have hz1 := HZZ.out
    have hz2 := HO2.out.size
    have hz3 := HO3.out.size
    refine bodyPost_ret (results_row_tmp rfl _ _ (z + 1) 32 (planCs n m xa ya (.slice ba n bc) (.slice ca m cc)) _ rfl hfin Tryz.underlying32 rfl (by kernel_rfl)) rfl ⟨.inr ⟨HR.out.trans hz, _, rfl, xa, ya, .slice ba n bc, .slice ca m cc, ?_, ?_, ?_, ?_⟩, ?_⟩
    · rw [HN.out, HM.out]
    · have h9 := (HP3.out.only HO4.out (fun _ _ h => h)).only hall (fun k hk e => by have : w2.heap.size ≤ k := hk; omega)
      exact ⟨h9.1.mono (fun k hk => by have : w2.heap.size ≤ k := hk; show w.heap.size ≤ k; omega) (fun _ _ _ h => mono_th (fun k hk => by have : w2.heap.size ≤ k := hk; show w.heap.size ≤ k; omega) _ h), h9.2.mono (fun k hk => by have : w2.heap.size ≤ k := hk; show w.heap.size ≤ k; omega) (fun _ _ _ h => h)⟩
    · rw [HN.out, HM.out]
      exact (HS1.out.only (stay_int hall (fun k hk e => by have : w3.heap.size ≤ k := hk; omega))).mono (fun k hk => by have : w3.heap.size ≤ k := hk; show w.heap.size ≤ k; omega) (fun _ _ _ h => h)
    · rw [HN.out, HM.out]
      exact (HS2.out.only (stay_int hall (fun k hk e => by have : w3.heap.size ≤ k := hk; omega))).mono (fun k hk => by have : w3.heap.size ≤ k := hk; show w.heap.size ≤ k; omega) (fun _ _ _ h => h)
    · exact (HO.out.chain (HO2.out.chain (HO3.out.chain HO4.out (fun _ _ h => h)) (fun _ _ h => h)) (fun _ _ h => h)).chain hall (fun i hi e => by omega)
  · rw [if_neg hz]
    have HB9 : Hid (w2.heap[z + 1]? = some (plO (plCs 0 0 0 0 0 0 0 0 0 nilS nilS 0 nilS nilS))) := (HO2.out.block (z + 1) (lt_of_block HB1.out) (fun h => h)).trans HB1.out
    have q0 : w2.cell? ⟨z + 1, 0, none⟩ = some (.int .i64 0) := cell_of_block HB9.out 0
    have g0 : w2.frozen? ⟨z + 1, 0, none⟩ = false := frozen_of_block HB9.out 0
    have q1 : w2.cell? ⟨z + 1, 1, none⟩ = some (.int .i64 0) := cell_of_block HB9.out 1
    have g1 : w2.frozen? ⟨z + 1, 1, none⟩ = false := frozen_of_block HB9.out 1
    have q2 : w2.cell? ⟨z + 1, 2, none⟩ = some (.int .i64 0) := cell_of_block HB9.out 2
    have g2 : w2.frozen? ⟨z + 1, 2, none⟩ = false := frozen_of_block HB9.out 2
    have q3 : w2.cell? ⟨z + 1, 3, none⟩ = some (.int .i64 0) := cell_of_block HB9.out 3
    have g3 : w2.frozen? ⟨z + 1, 3, none⟩ = false := frozen_of_block HB9.out 3
    have q4 : w2.cell? ⟨z + 1, 4, none⟩ = some (.int .i64 0) := cell_of_block HB9.out 4
    have g4 : w2.frozen? ⟨z + 1, 4, none⟩ = false := frozen_of_block HB9.out 4
    have q5 : w2.cell? ⟨z + 1, 5, none⟩ = some (.int .i64 0) := cell_of_block HB9.out 5
    have g5 : w2.frozen? ⟨z + 1, 5, none⟩ = false := frozen_of_block HB9.out 5
    have q6 : w2.cell? ⟨z + 1, 6, none⟩ = some (.int .i64 0) := cell_of_block HB9.out 6
    have g6 : w2.frozen? ⟨z + 1, 6, none⟩ = false := frozen_of_block HB9.out 6
    have q7 : w2.cell? ⟨z + 1, 7, none⟩ = some (.int .i64 0) := cell_of_block HB9.out 7
    have g7 : w2.frozen? ⟨z + 1, 7, none⟩ = false := frozen_of_block HB9.out 7
    have q8 : w2.cell? ⟨z + 1, 8, none⟩ = some (.int .i64 0) := cell_of_block HB9.out 8
    have g8 : w2.frozen? ⟨z + 1, 8, none⟩ = false := frozen_of_block HB9.out 8
    have q9 : w2.cell? ⟨z + 1, 9, none⟩ = some nilS := cell_of_block HB9.out 9
    have g9 : w2.frozen? ⟨z + 1, 9, none⟩ = false := frozen_of_block HB9.out 9
    have q10 : w2.cell? ⟨z + 1, 10, none⟩ = some nilS := cell_of_block HB9.out 10
    have g10 : w2.frozen? ⟨z + 1, 10, none⟩ = false := frozen_of_block HB9.out 10
    have q11 : w2.cell? ⟨z + 1, 11, none⟩ = some (.int .i64 0) := cell_of_block HB9.out 11
    have g11 : w2.frozen? ⟨z + 1, 11, none⟩ = false := frozen_of_block HB9.out 11
    have q12 : w2.cell? ⟨z + 1, 12, none⟩ = some nilS := cell_of_block HB9.out 12
    have g12 : w2.frozen? ⟨z + 1, 12, none⟩ = false := frozen_of_block HB9.out 12
    have q13 : w2.cell? ⟨z + 1, 13, none⟩ = some nilS := cell_of_block HB9.out 13
    have g13 : w2.frozen? ⟨z + 1, 13, none⟩ = false := frozen_of_block HB9.out 13
    go_wp2_with fail
    have hfin : ((((((((((((((w2.setCell ⟨z + 1, 0, none⟩ (.int .i64 0)).setCell ⟨z + 1, 1, none⟩ (.int .i64 0)).setCell ⟨z + 1, 2, none⟩ (.int .i64 0)).setCell ⟨z + 1, 3, none⟩ (.int .i64 0)).setCell ⟨z + 1, 4, none⟩ (.int .i64 0)).setCell ⟨z + 1, 5, none⟩ (.int .i64 0)).setCell ⟨z + 1, 6, none⟩ (.int .i64 0)).setCell ⟨z + 1, 7, none⟩ (.int .i64 0)).setCell ⟨z + 1, 8, none⟩ (.int .i64 0)).setCell ⟨z + 1, 9, none⟩ nilS).setCell ⟨z + 1, 10, none⟩ nilS).setCell ⟨z + 1, 11, none⟩ (.int .i64 0)).setCell ⟨z + 1, 12, none⟩ nilS).setCell ⟨z + 1, 13, none⟩ nilS).heap[z + 1]? = some (plO (plCs 0 0 0 0 0 0 0 0 0 nilS nilS 0 nilS nilS)) := (block_setCell (block_setCell (block_setCell (block_setCell (block_setCell (block_setCell (block_setCell (block_setCell (block_setCell (block_setCell (block_setCell (block_setCell (block_setCell (block_setCell HB9.out 0 (.int .i64 0)) 1 (.int .i64 0)) 2 (.int .i64 0)) 3 (.int .i64 0)) 4 (.int .i64 0)) 5 (.int .i64 0)) 6 (.int .i64 0)) 7 (.int .i64 0)) 8 (.int .i64 0)) 9 nilS) 10 nilS) 11 (.int .i64 0)) 12 nilS) 13 nilS)
    have hall : Only (fun k => k = z + 1) w2 ((((((((((((((w2.setCell ⟨z + 1, 0, none⟩ (.int .i64 0)).setCell ⟨z + 1, 1, none⟩ (.int .i64 0)).setCell ⟨z + 1, 2, none⟩ (.int .i64 0)).setCell ⟨z + 1, 3, none⟩ (.int .i64 0)).setCell ⟨z + 1, 4, none⟩ (.int .i64 0)).setCell ⟨z + 1, 5, none⟩ (.int .i64 0)).setCell ⟨z + 1, 6, none⟩ (.int .i64 0)).setCell ⟨z + 1, 7, none⟩ (.int .i64 0)).setCell ⟨z + 1, 8, none⟩ (.int .i64 0)).setCell ⟨z + 1, 9, none⟩ nilS).setCell ⟨z + 1, 10, none⟩ nilS).setCell ⟨z + 1, 11, none⟩ (.int .i64 0)).setCell ⟨z + 1, 12, none⟩ nilS).setCell ⟨z + 1, 13, none⟩ nilS) := (((((((((((((((Only.refl (fun k => k = z + 1) w2).setCell (p := ⟨z + 1, 0, none⟩) (.inr rfl) _).setCell (p := ⟨z + 1, 1, none⟩) (.inr rfl) _).setCell (p := ⟨z + 1, 2, none⟩) (.inr rfl) _).setCell (p := ⟨z + 1, 3, none⟩) (.inr rfl) _).setCell (p := ⟨z + 1, 4, none⟩) (.inr rfl) _).setCell (p := ⟨z + 1, 5, none⟩) (.inr rfl) _).setCell (p := ⟨z + 1, 6, none⟩) (.inr rfl) _).setCell (p := ⟨z + 1, 7, none⟩) (.inr rfl) _).setCell (p := ⟨z + 1, 8, none⟩) (.inr rfl) _).setCell (p := ⟨z + 1, 9, none⟩) (.inr rfl) _).setCell (p := ⟨z + 1, 10, none⟩) (.inr rfl) _).setCell (p := ⟨z + 1, 11, none⟩) (.inr rfl) _).setCell (p := ⟨z + 1, 12, none⟩) (.inr rfl) _).setCell (p := ⟨z + 1, 13, none⟩) (.inr rfl) _)
    have hz1 := HZZ.out
    refine bodyPost_ret (results_row_tmp rfl _ _ (z + 1) 32 (plCs 0 0 0 0 0 0 0 0 0 nilS nilS 0 nilS nilS) _ rfl hfin Tryz.underlying32 rfl (by kernel_rfl)) rfl ⟨.inl ⟨fun e => hz (HR.out.symm.trans e), rfl⟩, ?_⟩
    exact (HO.out.chain HO2.out (fun _ _ h => h)).chain hall (fun i hi e => by omega)
end Go.Proofs.YtmcmjcaigipoaaaGreat

/-
  septumlaw12's awake: it answers true. Conditions: none.
-/
namespace Go.Sept
def onePt : Pt := ⟨[⟨1, 0, false, []⟩], []⟩
theorem onePt_ok : partW onePt = 0 := by decide
end Go.Sept
namespace Go.Proofs.YtmcmjcaigipoaaaGreat
open Go.RowKit Go.Sept

/-- What can be read of a block that holds a plan. -/
theorem PlIs.shape {P : Nat → Prop} {w : World} {cs : Array Value} {p : Pt} (h : PlIs P w cs p) : ∃ ta oa xa xc ya yc, cs = planCs p.ths.length p.obs.length ta oa (.slice xa p.ths.length xc) (.slice ya p.obs.length yc) := by
  obtain ⟨ta, oa, u0, u1, h1, ⟨h2, h3⟩, _⟩ := h
  obtain ⟨xa, xc, rfl, _⟩ := h2.shape
  obtain ⟨ya, yc, rfl, _⟩ := h3.shape
  exact ⟨ta, oa, xa, xc, ya, yc, h1⟩

end Go.Proofs.YtmcmjcaigipoaaaGreat

/-
  septumlaw13's of and awake. Conditions: a partition of a size that is looked at.
-/
import Derived.Test.YtabdlbmdbceemaaBody13
namespace Go.Sept
def twoPt : Pt := ⟨[⟨0, 0, false, []⟩, ⟨3, 0, false, []⟩], []⟩
theorem twoPt_ok : partW twoPt = 0 := by decide
end Go.Sept
namespace Go.Proofs.Ytabdlbmdbceemaa
open Go.RowKit Go.Sept

theorem PlIs.mono {P Q : Nat → Prop} {w : World} {cs : Array Value} {p : Pt} (h : PlIs P w cs p) (hPQ : ∀ k, P k → Q k) : PlIs Q w cs p := by
  obtain ⟨ta, oa, u0, u1, h1, ⟨h2, h3⟩, h4, h5⟩ := h
  exact ⟨ta, oa, u0, u1, h1, ⟨h2.mono hPQ (fun _ _ _ h => mono_th hPQ _ h), h3.mono hPQ (fun _ _ _ h => h)⟩, h4.mono hPQ (fun _ _ _ h => h), h5.mono hPQ (fun _ _ _ h => h)⟩
/-- What of answers. -/
def Of13 (w w' : World) (e : Ending) (p : Pt) : Prop :=
  (partW p ≠ 0 ∧ e = .returned (.tuple #[.agg (plCs 0 0 0 0 0 0 0 0 0 nilS nilS 0 nilS nilS), .bool false])) ∨ (partW p = 0 ∧ ∃ cs, e = .returned (.tuple #[.agg cs, .bool true]) ∧ PlIs (fun k => w.heap.size ≤ k) w' cs p)

set_option maxRecDepth 100000 in
set_option maxHeartbeats 4000000 in
theorem of13_rel {P : Nat → Prop} (w : World) (v0 v1 : Value) (p : Pt) (h : PtIs P w v0 v1 p) (hf : FewP p) :
    Calls Try.prog 9 #[.agg #[v0, v1]] w fun e w' => Of13 w w' e p ∧ Only (fun _ => False) w w' := by
  obtain ⟨xa, xc, rfl, xm⟩ := h.1.shape
  obtain ⟨ya, yc, rfl, ym⟩ := h.2.shape
  obtain ⟨n, hn⟩ : ∃ n, p.ths.length = n := ⟨_, rfl⟩
  obtain ⟨m, hm⟩ : ∃ m, p.obs.length = m := ⟨_, rfl⟩
  have HN := hid hn
  have HM := hid hm
  rw [hn] at h xm ⊢
  rw [hm] at h ym ⊢
  clear hn hm
  have hW : ∃ W z, W = (w.alloc (ptO (.slice xa n xc) (.slice ya m yc))).alloc (plO (plCs 0 0 0 0 0 0 0 0 0 nilS nilS 0 nilS nilS)) ∧ z = w.heap.size ∧ Only (fun _ => False) w W ∧ W.heap[z]? = some (ptO (.slice xa n xc) (.slice ya m yc)) ∧ W.heap[z + 1]? = some (plO (plCs 0 0 0 0 0 0 0 0 0 nilS nilS 0 nilS nilS)) := by
    refine ⟨_, _, rfl, rfl, ((Only.refl _ _).alloc _).alloc _, ?_, ?_⟩
    · exact newKeep12 (newAt12 _ _ (by simp))
    · exact newAt12 _ _ (by simp)
  obtain ⟨W, z, hWe, hze, hoW, hb0, hb1⟩ := hW
  have HZZ : Hid (w.heap.size = z ∧ z + 1 < W.heap.size) := ⟨hze.symm, lt_of_block hb1⟩
  have HO := hid hoW
  have HB1 := hid hb1
  have HOF := hid (of_rel W _ _ p (h.only hoW (fun _ _ h => h)) hf)
  have c0 : W.cell? ⟨z, 0, none⟩ = some (.slice xa n xc) := cell_of_block hb0 0
  have c1 : W.cell? ⟨z, 1, none⟩ = some (.slice ya m yc) := cell_of_block hb0 1
  clear hoW hb0 hb1 h hf
  go_enter Try.func9, Try.ntmps9
  go_upto_region 1 with fail
  rw [← hWe, ← hze]
  clear hWe hze
  go_wp2_with fail
  refine HOF.out.mono ?_
  rintro e w2 ⟨hof, ho2⟩
  have HO2 := hid ho2
  clear ho2 c0 c1 HOF
  rcases hof with ⟨hne, rfl⟩ | ⟨heq, cs, rfl, hpl⟩
  · have HNE := hid hne
    clear hne
    have HV : ∃ V y, V = w2.alloc (plO (plCs 0 0 0 0 0 0 0 0 0 nilS nilS 0 nilS nilS)) ∧ y = w2.heap.size ∧ Only (fun _ => False) w2 V ∧ V.heap[y]? = some (plO (plCs 0 0 0 0 0 0 0 0 0 nilS nilS 0 nilS nilS)) := ⟨_, _, rfl, rfl, (Only.refl _ _).alloc _, heap_new _ _⟩
    obtain ⟨V, y, hVe, hye, hoV, hby⟩ := HV
    have HOV := hid hoV
    have HB9 : Hid (V.heap[z + 1]? = some (plO (plCs 0 0 0 0 0 0 0 0 0 nilS nilS 0 nilS nilS))) := (hoV.block (z + 1) (Nat.lt_of_lt_of_le (lt_of_block HB1.out) HO2.out.size) (fun h => h)).trans ((HO2.out.block (z + 1) (lt_of_block HB1.out) (fun h => h)).trans HB1.out)
    have f0 : V.cell? ⟨y, 0, none⟩ = some (.int .i64 0) := cell_of_block hby 0
    have f1 : V.cell? ⟨y, 1, none⟩ = some (.int .i64 0) := cell_of_block hby 1
    have f2 : V.cell? ⟨y, 2, none⟩ = some (.int .i64 0) := cell_of_block hby 2
    have f3 : V.cell? ⟨y, 3, none⟩ = some (.int .i64 0) := cell_of_block hby 3
    have f4 : V.cell? ⟨y, 4, none⟩ = some (.int .i64 0) := cell_of_block hby 4
    have f5 : V.cell? ⟨y, 5, none⟩ = some (.int .i64 0) := cell_of_block hby 5
    have f6 : V.cell? ⟨y, 6, none⟩ = some (.int .i64 0) := cell_of_block hby 6
    have f7 : V.cell? ⟨y, 7, none⟩ = some (.int .i64 0) := cell_of_block hby 7
    have f8 : V.cell? ⟨y, 8, none⟩ = some (.int .i64 0) := cell_of_block hby 8
    have f9 : V.cell? ⟨y, 9, none⟩ = some nilS := cell_of_block hby 9
    have f10 : V.cell? ⟨y, 10, none⟩ = some nilS := cell_of_block hby 10
    have f11 : V.cell? ⟨y, 11, none⟩ = some (.int .i64 0) := cell_of_block hby 11
    have f12 : V.cell? ⟨y, 12, none⟩ = some nilS := cell_of_block hby 12
    have f13 : V.cell? ⟨y, 13, none⟩ = some nilS := cell_of_block hby 13
    have q0 : V.cell? ⟨z + 1, 0, none⟩ = some (.int .i64 0) := cell_of_block HB9.out 0
    have g0 : V.frozen? ⟨z + 1, 0, none⟩ = false := frozen_of_block HB9.out 0
    have q1 : V.cell? ⟨z + 1, 1, none⟩ = some (.int .i64 0) := cell_of_block HB9.out 1
    have g1 : V.frozen? ⟨z + 1, 1, none⟩ = false := frozen_of_block HB9.out 1
    have q2 : V.cell? ⟨z + 1, 2, none⟩ = some (.int .i64 0) := cell_of_block HB9.out 2
    have g2 : V.frozen? ⟨z + 1, 2, none⟩ = false := frozen_of_block HB9.out 2
    have q3 : V.cell? ⟨z + 1, 3, none⟩ = some (.int .i64 0) := cell_of_block HB9.out 3
    have g3 : V.frozen? ⟨z + 1, 3, none⟩ = false := frozen_of_block HB9.out 3
    have q4 : V.cell? ⟨z + 1, 4, none⟩ = some (.int .i64 0) := cell_of_block HB9.out 4
    have g4 : V.frozen? ⟨z + 1, 4, none⟩ = false := frozen_of_block HB9.out 4
    have q5 : V.cell? ⟨z + 1, 5, none⟩ = some (.int .i64 0) := cell_of_block HB9.out 5
    have g5 : V.frozen? ⟨z + 1, 5, none⟩ = false := frozen_of_block HB9.out 5
    have q6 : V.cell? ⟨z + 1, 6, none⟩ = some (.int .i64 0) := cell_of_block HB9.out 6
    have g6 : V.frozen? ⟨z + 1, 6, none⟩ = false := frozen_of_block HB9.out 6
    have q7 : V.cell? ⟨z + 1, 7, none⟩ = some (.int .i64 0) := cell_of_block HB9.out 7
    have g7 : V.frozen? ⟨z + 1, 7, none⟩ = false := frozen_of_block HB9.out 7
    have q8 : V.cell? ⟨z + 1, 8, none⟩ = some (.int .i64 0) := cell_of_block HB9.out 8
    have g8 : V.frozen? ⟨z + 1, 8, none⟩ = false := frozen_of_block HB9.out 8
    have q9 : V.cell? ⟨z + 1, 9, none⟩ = some nilS := cell_of_block HB9.out 9
    have g9 : V.frozen? ⟨z + 1, 9, none⟩ = false := frozen_of_block HB9.out 9
    have q10 : V.cell? ⟨z + 1, 10, none⟩ = some nilS := cell_of_block HB9.out 10
    have g10 : V.frozen? ⟨z + 1, 10, none⟩ = false := frozen_of_block HB9.out 10
    have q11 : V.cell? ⟨z + 1, 11, none⟩ = some (.int .i64 0) := cell_of_block HB9.out 11
    have g11 : V.frozen? ⟨z + 1, 11, none⟩ = false := frozen_of_block HB9.out 11
    have q12 : V.cell? ⟨z + 1, 12, none⟩ = some nilS := cell_of_block HB9.out 12
    have g12 : V.frozen? ⟨z + 1, 12, none⟩ = false := frozen_of_block HB9.out 12
    have q13 : V.cell? ⟨z + 1, 13, none⟩ = some nilS := cell_of_block HB9.out 13
    have g13 : V.frozen? ⟨z + 1, 13, none⟩ = false := frozen_of_block HB9.out 13
    clear hoV hby
    go_upto_region 2 with fail
    rw [← hVe, ← hye]
    clear hVe hye
    go_wp2_with fail
    have hfin : ((((((((((((((V.setCell ⟨z + 1, 0, none⟩ (.int .i64 0)).setCell ⟨z + 1, 1, none⟩ (.int .i64 0)).setCell ⟨z + 1, 2, none⟩ (.int .i64 0)).setCell ⟨z + 1, 3, none⟩ (.int .i64 0)).setCell ⟨z + 1, 4, none⟩ (.int .i64 0)).setCell ⟨z + 1, 5, none⟩ (.int .i64 0)).setCell ⟨z + 1, 6, none⟩ (.int .i64 0)).setCell ⟨z + 1, 7, none⟩ (.int .i64 0)).setCell ⟨z + 1, 8, none⟩ (.int .i64 0)).setCell ⟨z + 1, 9, none⟩ nilS).setCell ⟨z + 1, 10, none⟩ nilS).setCell ⟨z + 1, 11, none⟩ (.int .i64 0)).setCell ⟨z + 1, 12, none⟩ nilS).setCell ⟨z + 1, 13, none⟩ nilS).heap[z + 1]? = some (plO (plCs 0 0 0 0 0 0 0 0 0 nilS nilS 0 nilS nilS)) := (block_setCell (block_setCell (block_setCell (block_setCell (block_setCell (block_setCell (block_setCell (block_setCell (block_setCell (block_setCell (block_setCell (block_setCell (block_setCell (block_setCell HB9.out 0 (.int .i64 0)) 1 (.int .i64 0)) 2 (.int .i64 0)) 3 (.int .i64 0)) 4 (.int .i64 0)) 5 (.int .i64 0)) 6 (.int .i64 0)) 7 (.int .i64 0)) 8 (.int .i64 0)) 9 nilS) 10 nilS) 11 (.int .i64 0)) 12 nilS) 13 nilS)
    have hall : Only (fun k => k = z + 1) V ((((((((((((((V.setCell ⟨z + 1, 0, none⟩ (.int .i64 0)).setCell ⟨z + 1, 1, none⟩ (.int .i64 0)).setCell ⟨z + 1, 2, none⟩ (.int .i64 0)).setCell ⟨z + 1, 3, none⟩ (.int .i64 0)).setCell ⟨z + 1, 4, none⟩ (.int .i64 0)).setCell ⟨z + 1, 5, none⟩ (.int .i64 0)).setCell ⟨z + 1, 6, none⟩ (.int .i64 0)).setCell ⟨z + 1, 7, none⟩ (.int .i64 0)).setCell ⟨z + 1, 8, none⟩ (.int .i64 0)).setCell ⟨z + 1, 9, none⟩ nilS).setCell ⟨z + 1, 10, none⟩ nilS).setCell ⟨z + 1, 11, none⟩ (.int .i64 0)).setCell ⟨z + 1, 12, none⟩ nilS).setCell ⟨z + 1, 13, none⟩ nilS) := (((((((((((((((Only.refl (fun k => k = z + 1) V).setCell (p := ⟨z + 1, 0, none⟩) (.inr rfl) _).setCell (p := ⟨z + 1, 1, none⟩) (.inr rfl) _).setCell (p := ⟨z + 1, 2, none⟩) (.inr rfl) _).setCell (p := ⟨z + 1, 3, none⟩) (.inr rfl) _).setCell (p := ⟨z + 1, 4, none⟩) (.inr rfl) _).setCell (p := ⟨z + 1, 5, none⟩) (.inr rfl) _).setCell (p := ⟨z + 1, 6, none⟩) (.inr rfl) _).setCell (p := ⟨z + 1, 7, none⟩) (.inr rfl) _).setCell (p := ⟨z + 1, 8, none⟩) (.inr rfl) _).setCell (p := ⟨z + 1, 9, none⟩) (.inr rfl) _).setCell (p := ⟨z + 1, 10, none⟩) (.inr rfl) _).setCell (p := ⟨z + 1, 11, none⟩) (.inr rfl) _).setCell (p := ⟨z + 1, 12, none⟩) (.inr rfl) _).setCell (p := ⟨z + 1, 13, none⟩) (.inr rfl) _)
    have hz1 := HZZ.out
    have hz2 := HO2.out.size
    refine bodyPost_ret (results_row_tmp rfl _ _ (z + 1) 31 (plCs 0 0 0 0 0 0 0 0 0 nilS nilS 0 nilS nilS) _ rfl hfin Try.underlying31 rfl (by kernel_rfl)) rfl ⟨.inl ⟨HNE.out, rfl⟩, ?_⟩
    exact (HO.out.chain (HO2.out.chain HOV.out (fun _ _ h => h)) (fun _ _ h => h)).chain hall (fun i hi e => by omega)
  · have hplL := hpl
    obtain ⟨ta, oa, za, zc, zb, zd, rfl⟩ := hpl.shape
    rw [HN.out, HM.out] at hplL ⊢
    have HPL := hid hplL
    have HEQ := hid heq
    clear hpl hplL heq
    have HV : ∃ V y, V = w2.alloc (plO (planCs n m ta oa (.slice za n zc) (.slice zb m zd))) ∧ y = w2.heap.size ∧ Only (fun _ => False) w2 V ∧ V.heap[y]? = some (plO (planCs n m ta oa (.slice za n zc) (.slice zb m zd))) := ⟨_, _, rfl, rfl, (Only.refl _ _).alloc _, heap_new _ _⟩
    obtain ⟨V, y, hVe, hye, hoV, hby⟩ := HV
    have HOV := hid hoV
    have HB9 : Hid (V.heap[z + 1]? = some (plO (plCs 0 0 0 0 0 0 0 0 0 nilS nilS 0 nilS nilS))) := (hoV.block (z + 1) (Nat.lt_of_lt_of_le (lt_of_block HB1.out) HO2.out.size) (fun h => h)).trans ((HO2.out.block (z + 1) (lt_of_block HB1.out) (fun h => h)).trans HB1.out)
    have f0 : V.cell? ⟨y, 0, none⟩ = some (.int .i64 0) := cell_of_block hby 0
    have f1 : V.cell? ⟨y, 1, none⟩ = some (.int .i64 2) := cell_of_block hby 1
    have f2 : V.cell? ⟨y, 2, none⟩ = some (.int .i64 4) := cell_of_block hby 2
    have f3 : V.cell? ⟨y, 3, none⟩ = some (.int .i64 3) := cell_of_block hby 3
    have f4 : V.cell? ⟨y, 4, none⟩ = some (.int .i64 5) := cell_of_block hby 4
    have f5 : V.cell? ⟨y, 5, none⟩ = some (.int .i64 6) := cell_of_block hby 5
    have f6 : V.cell? ⟨y, 6, none⟩ = some (.int .i64 8) := cell_of_block hby 6
    have f7 : V.cell? ⟨y, 7, none⟩ = some (.int .i64 41) := cell_of_block hby 7
    have f8 : V.cell? ⟨y, 8, none⟩ = some (.int .i64 43) := cell_of_block hby 8
    have f9 : V.cell? ⟨y, 9, none⟩ = some (.slice ta n n) := cell_of_block hby 9
    have f10 : V.cell? ⟨y, 10, none⟩ = some (.slice oa m m) := cell_of_block hby 10
    have f11 : V.cell? ⟨y, 11, none⟩ = some (.int .i64 (43 + (m : Int) + (n : Int) * 24 + (m : Int) * 24)) := cell_of_block hby 11
    have f12 : V.cell? ⟨y, 12, none⟩ = some (.slice za n zc) := cell_of_block hby 12
    have f13 : V.cell? ⟨y, 13, none⟩ = some (.slice zb m zd) := cell_of_block hby 13
    have q0 : V.cell? ⟨z + 1, 0, none⟩ = some (.int .i64 0) := cell_of_block HB9.out 0
    have g0 : V.frozen? ⟨z + 1, 0, none⟩ = false := frozen_of_block HB9.out 0
    have q1 : V.cell? ⟨z + 1, 1, none⟩ = some (.int .i64 0) := cell_of_block HB9.out 1
    have g1 : V.frozen? ⟨z + 1, 1, none⟩ = false := frozen_of_block HB9.out 1
    have q2 : V.cell? ⟨z + 1, 2, none⟩ = some (.int .i64 0) := cell_of_block HB9.out 2
    have g2 : V.frozen? ⟨z + 1, 2, none⟩ = false := frozen_of_block HB9.out 2
    have q3 : V.cell? ⟨z + 1, 3, none⟩ = some (.int .i64 0) := cell_of_block HB9.out 3
    have g3 : V.frozen? ⟨z + 1, 3, none⟩ = false := frozen_of_block HB9.out 3
    have q4 : V.cell? ⟨z + 1, 4, none⟩ = some (.int .i64 0) := cell_of_block HB9.out 4
    have g4 : V.frozen? ⟨z + 1, 4, none⟩ = false := frozen_of_block HB9.out 4
    have q5 : V.cell? ⟨z + 1, 5, none⟩ = some (.int .i64 0) := cell_of_block HB9.out 5
    have g5 : V.frozen? ⟨z + 1, 5, none⟩ = false := frozen_of_block HB9.out 5
    have q6 : V.cell? ⟨z + 1, 6, none⟩ = some (.int .i64 0) := cell_of_block HB9.out 6
    have g6 : V.frozen? ⟨z + 1, 6, none⟩ = false := frozen_of_block HB9.out 6
    have q7 : V.cell? ⟨z + 1, 7, none⟩ = some (.int .i64 0) := cell_of_block HB9.out 7
    have g7 : V.frozen? ⟨z + 1, 7, none⟩ = false := frozen_of_block HB9.out 7
    have q8 : V.cell? ⟨z + 1, 8, none⟩ = some (.int .i64 0) := cell_of_block HB9.out 8
    have g8 : V.frozen? ⟨z + 1, 8, none⟩ = false := frozen_of_block HB9.out 8
    have q9 : V.cell? ⟨z + 1, 9, none⟩ = some nilS := cell_of_block HB9.out 9
    have g9 : V.frozen? ⟨z + 1, 9, none⟩ = false := frozen_of_block HB9.out 9
    have q10 : V.cell? ⟨z + 1, 10, none⟩ = some nilS := cell_of_block HB9.out 10
    have g10 : V.frozen? ⟨z + 1, 10, none⟩ = false := frozen_of_block HB9.out 10
    have q11 : V.cell? ⟨z + 1, 11, none⟩ = some (.int .i64 0) := cell_of_block HB9.out 11
    have g11 : V.frozen? ⟨z + 1, 11, none⟩ = false := frozen_of_block HB9.out 11
    have q12 : V.cell? ⟨z + 1, 12, none⟩ = some nilS := cell_of_block HB9.out 12
    have g12 : V.frozen? ⟨z + 1, 12, none⟩ = false := frozen_of_block HB9.out 12
    have q13 : V.cell? ⟨z + 1, 13, none⟩ = some nilS := cell_of_block HB9.out 13
    have g13 : V.frozen? ⟨z + 1, 13, none⟩ = false := frozen_of_block HB9.out 13
    clear hoV hby
    go_upto_region 2 with fail
    rw [← hVe, ← hye]
    clear hVe hye
    go_wp2_with fail
    have hfin : ((((((((((((((V.setCell ⟨z + 1, 0, none⟩ (.int .i64 0)).setCell ⟨z + 1, 1, none⟩ (.int .i64 2)).setCell ⟨z + 1, 2, none⟩ (.int .i64 4)).setCell ⟨z + 1, 3, none⟩ (.int .i64 3)).setCell ⟨z + 1, 4, none⟩ (.int .i64 5)).setCell ⟨z + 1, 5, none⟩ (.int .i64 6)).setCell ⟨z + 1, 6, none⟩ (.int .i64 8)).setCell ⟨z + 1, 7, none⟩ (.int .i64 41)).setCell ⟨z + 1, 8, none⟩ (.int .i64 43)).setCell ⟨z + 1, 9, none⟩ (.slice ta n n)).setCell ⟨z + 1, 10, none⟩ (.slice oa m m)).setCell ⟨z + 1, 11, none⟩ (.int .i64 (43 + (m : Int) + (n : Int) * 24 + (m : Int) * 24))).setCell ⟨z + 1, 12, none⟩ (.slice za n zc)).setCell ⟨z + 1, 13, none⟩ (.slice zb m zd)).heap[z + 1]? = some (plO (planCs n m ta oa (.slice za n zc) (.slice zb m zd))) := (block_setCell (block_setCell (block_setCell (block_setCell (block_setCell (block_setCell (block_setCell (block_setCell (block_setCell (block_setCell (block_setCell (block_setCell (block_setCell (block_setCell HB9.out 0 (.int .i64 0)) 1 (.int .i64 2)) 2 (.int .i64 4)) 3 (.int .i64 3)) 4 (.int .i64 5)) 5 (.int .i64 6)) 6 (.int .i64 8)) 7 (.int .i64 41)) 8 (.int .i64 43)) 9 (.slice ta n n)) 10 (.slice oa m m)) 11 (.int .i64 (43 + (m : Int) + (n : Int) * 24 + (m : Int) * 24))) 12 (.slice za n zc)) 13 (.slice zb m zd))
    have hall : Only (fun k => k = z + 1) V ((((((((((((((V.setCell ⟨z + 1, 0, none⟩ (.int .i64 0)).setCell ⟨z + 1, 1, none⟩ (.int .i64 2)).setCell ⟨z + 1, 2, none⟩ (.int .i64 4)).setCell ⟨z + 1, 3, none⟩ (.int .i64 3)).setCell ⟨z + 1, 4, none⟩ (.int .i64 5)).setCell ⟨z + 1, 5, none⟩ (.int .i64 6)).setCell ⟨z + 1, 6, none⟩ (.int .i64 8)).setCell ⟨z + 1, 7, none⟩ (.int .i64 41)).setCell ⟨z + 1, 8, none⟩ (.int .i64 43)).setCell ⟨z + 1, 9, none⟩ (.slice ta n n)).setCell ⟨z + 1, 10, none⟩ (.slice oa m m)).setCell ⟨z + 1, 11, none⟩ (.int .i64 (43 + (m : Int) + (n : Int) * 24 + (m : Int) * 24))).setCell ⟨z + 1, 12, none⟩ (.slice za n zc)).setCell ⟨z + 1, 13, none⟩ (.slice zb m zd)) := (((((((((((((((Only.refl (fun k => k = z + 1) V).setCell (p := ⟨z + 1, 0, none⟩) (.inr rfl) _).setCell (p := ⟨z + 1, 1, none⟩) (.inr rfl) _).setCell (p := ⟨z + 1, 2, none⟩) (.inr rfl) _).setCell (p := ⟨z + 1, 3, none⟩) (.inr rfl) _).setCell (p := ⟨z + 1, 4, none⟩) (.inr rfl) _).setCell (p := ⟨z + 1, 5, none⟩) (.inr rfl) _).setCell (p := ⟨z + 1, 6, none⟩) (.inr rfl) _).setCell (p := ⟨z + 1, 7, none⟩) (.inr rfl) _).setCell (p := ⟨z + 1, 8, none⟩) (.inr rfl) _).setCell (p := ⟨z + 1, 9, none⟩) (.inr rfl) _).setCell (p := ⟨z + 1, 10, none⟩) (.inr rfl) _).setCell (p := ⟨z + 1, 11, none⟩) (.inr rfl) _).setCell (p := ⟨z + 1, 12, none⟩) (.inr rfl) _).setCell (p := ⟨z + 1, 13, none⟩) (.inr rfl) _)
    have hz1 := HZZ.out
    have hz2 := HO2.out.size
    refine bodyPost_ret (results_row_tmp rfl _ _ (z + 1) 31 (planCs n m ta oa (.slice za n zc) (.slice zb m zd)) _ rfl hfin Try.underlying31 rfl (by kernel_rfl)) rfl ⟨.inr ⟨HEQ.out, _, rfl, ?_⟩, ?_⟩
    · exact PlIs.mono ((HPL.out.only HOV.out (fun _ _ h => h)).only hall (fun k hk e => by have : W.heap.size ≤ k := hk; omega)) (fun k hk => by have : W.heap.size ≤ k := hk; show w.heap.size ≤ k; omega)
    · exact (HO.out.chain (HO2.out.chain HOV.out (fun _ _ h => h)) (fun _ _ h => h)).chain hall (fun i hi e => by omega)

set_option maxRecDepth 100000 in
set_option maxHeartbeats 2000000 in
theorem awake13_any (w : World) : Calls Try.prog 7 #[] w fun e w' => e = .returned (.bool true) ∧ Only (fun _ => False) w w' := by
  have hW : ∃ W z, W = w.alloc (.cells #[.int .i64 0, .int .u32 0, .bool false, .slice none 0 0, .int .i64 3, .int .u32 0, .bool false, .slice none 0 0] 58) ∧ z = w.heap.size ∧ Only (fun _ => False) w W ∧ W.heap[z]? = some (.cells #[.int .i64 0, .int .u32 0, .bool false, .slice none 0 0, .int .i64 3, .int .u32 0, .bool false, .slice none 0 0] 58) := ⟨_, _, rfl, rfl, (Only.refl _ _).alloc _, heap_new _ _⟩
  obtain ⟨W, z, hWe, hze, hoW, hbz⟩ := hW
  have hP : PtIs (fun _ => True) W (.slice (some ⟨z, 0, none⟩) 2 2) (.slice none 0 0) twoPt := by
    refine ⟨⟨_, 2, rfl, ⟨Nat.le_refl _, by decide⟩, z, 0, fun i x hx => ?_⟩, SlOf.nil⟩
    match i with
    | 0 =>
      simp [twoPt] at hx
      subst hx
      exact ⟨rfl, trivial, ⟨cell_of_block hbz 0, by decide, by decide⟩, cell_of_block hbz 1, ⟨by decide, by decide⟩, cell_of_block hbz 2, _, cell_of_block hbz 3, SlOf.nil⟩
    | 1 =>
      simp [twoPt] at hx
      subst hx
      exact ⟨rfl, trivial, ⟨cell_of_block hbz 4, by decide, by decide⟩, cell_of_block hbz 5, ⟨by decide, by decide⟩, cell_of_block hbz 6, _, cell_of_block hbz 7, SlOf.nil⟩
    | i + 2 => simp [twoPt] at hx
  have HO := hid hoW
  have HC := hid (of_rel W _ _ twoPt hP ⟨by decide, by decide, fun t ht => by
    simp [twoPt] at ht
    rcases ht with rfl | rfl
    · exact ⟨by decide, fun c hc => by simp at hc⟩
    · exact ⟨by decide, fun c hc => by simp at hc⟩⟩)
  clear hP hbz hoW
  go_enter Try.func7, Try.ntmps7
  go_wp2_with fail
  rw [← hWe, ← hze]
  clear hWe hze
  refine HC.out.mono ?_
  rintro e w1 ⟨h, ho⟩
  have HO1 := hid (HO.out.chain ho (fun _ _ h => h))
  rcases h with ⟨h, _⟩ | ⟨_, cs, rfl, hpl⟩
  · exact absurd twoPt_ok h
  have hth := ThIs.of hpl twoPt_ok
  obtain ⟨n, hn⟩ : ∃ n, twoPt.ths.length = n := ⟨_, rfl⟩
  obtain ⟨m, hm⟩ : ∃ m, twoPt.obs.length = m := ⟨_, rfl⟩
  have HN : Hid (n = 2 ∧ m = 0) := ⟨hn.symm, hm.symm⟩
  have HV1 : Hid (tplaceV n m 1 0 = 67) := by show _ = _; rw [HN.out.1, HN.out.2]; decide
  have HV2 : Hid (tplaceV n m 2 0 = -1) := by show _ = _; rw [HN.out.1, HN.out.2]; decide
  have HV3 : Hid (ownerV n m 67 0 = (1, true)) := by show _ = _; rw [HN.out.1, HN.out.2]; decide
  rw [hn, hm] at hth
  clear hn hm
  have hth0 := hth
  obtain ⟨_, _, ta, oa, za, zb, zc, zd, rfl, _⟩ := hth
  have HV : ∃ V y, V = w1.alloc (plO (planCs n m ta oa (.slice za n zc) (.slice zb m zd))) ∧ y = w1.heap.size ∧ Only (fun _ => False) w1 V ∧ V.heap[y]? = some (plO (planCs n m ta oa (.slice za n zc) (.slice zb m zd))) := ⟨_, _, rfl, rfl, (Only.refl _ _).alloc _, heap_new _ _⟩
  obtain ⟨V, y, hVe, hye, hoV, hby⟩ := HV
  have HOV := hid (HO1.out.chain hoV (fun _ _ h => h))
  have HTH := hid (hth0.only hoV (fun _ _ h => h))
  have HBY := hid hby
  obtain ⟨c0, c1, c2, c3, c4, c5, c6, c7, c8, c9, c10, c11, c12, c13⟩ := plan_cells hby
  clear hpl ho hth0 hoV hby HO HO1 HC
  go_upto_region 2 with fail
  rw [← hVe, ← hye]
  clear hVe hye
  go_wp2_with fail
  refine (tNode_rel _ _ n m HTH.out 1).mono ?_
  rintro e w2 ⟨rfl, ho2⟩
  rw [HV1.out]
  have HO2 := hid ho2
  clear c0 c1 c2 c3 c4 c5 c6 c7 c8 c9 c10 c11 c12 c13
  obtain ⟨c0, c1, c2, c3, c4, c5, c6, c7, c8, c9, c10, c11, c12, c13⟩ := plan_cells ((ho2.block y (lt_of_block HBY.out) (fun h => h)).trans HBY.out)
  clear ho2
  go_wp2_with fail
  refine (tOf_rel _ _ n m (HTH.out.only HO2.out (fun _ _ h => h)) 67).mono ?_
  rintro e w3 ⟨rfl, ho3⟩
  rw [HV3.out]
  have HO3 := hid (HO2.out.chain ho3 (fun _ _ h => h))
  clear c0 c1 c2 c3 c4 c5 c6 c7 c8 c9 c10 c11 c12 c13 ho3 HO2
  obtain ⟨c0, c1, c2, c3, c4, c5, c6, c7, c8, c9, c10, c11, c12, c13⟩ := plan_cells ((HO3.out.block y (lt_of_block HBY.out) (fun h => h)).trans HBY.out)
  go_wp2_with fail
  refine (tNode_rel _ _ n m (HTH.out.only HO3.out (fun _ _ h => h)) 2).mono ?_
  rintro e w4 ⟨rfl, ho4⟩
  rw [HV2.out]
  have HO4 := hid (HO3.out.chain ho4 (fun _ _ h => h))
  clear c0 c1 c2 c3 c4 c5 c6 c7 c8 c9 c10 c11 c12 c13 ho4 HO3
  go_wp2_with fail
  go_ret
  exact ⟨rfl, HOV.out.chain HO4.out (fun _ _ h => h)⟩
end Go.Proofs.Ytabdlbmdbceemaa

/-
  Package plan: take, takeEach. Conditions: small numbers.
-/
import Derived.Test.YtapmakdklpbjkaaConf11i
import Derived.Test.YtapmakdklpbjkaaFrame1
namespace Go.Sept
open Go.RowKit
/-- The addresses of n things of k words each, from u on. -/
def stepsL (u k : Int) (n : Nat) : List Int := (List.range n).map fun i : Nat => u + (i : Int) * k
theorem length_stepsL (u k : Int) (n : Nat) : (stepsL u k n).length = n := by simp [stepsL]
theorem stepsL_at (u k : Int) (n i : Nat) (h : i < n) : (stepsL u k n)[i]? = some (u + (i : Int) * k) := by simp [stepsL, h]
end Go.Sept
namespace Go.Proofs.Ytapmakdklpbjkaa
open Go.RowKit Go.Sept

abbrev roomO (u : Int) : Obj := .cells #[.int .i64 u] 100

set_option maxRecDepth 100000 in
set_option maxHeartbeats 1000000 in
theorem take_rel (w : World) (r : Nat) (u k : Int) (hu : 0 ≤ u ∧ u ≤ 2000) (hk : 0 ≤ k ∧ k ≤ 2000) (h : w.heap[r]? = some (roomO u)) :
    Calls Try.prog 37 #[.pointer (some ⟨r, 0, none⟩), .int .i64 k] w fun e w' => e = .returned (.int .i64 u) ∧ w' = w.setCell ⟨r, 0, none⟩ (.int .i64 (u + k)) := by
  have c0 : w.cell? ⟨r, 0, none⟩ = some (.int .i64 u) := cell_of_block h 0
  have f0 : w.frozen? ⟨r, 0, none⟩ = false := frozen_of_block h 0
  clear h
  go_enter Try.func37, Try.ntmps37
  go_wp2
  go_ret
  exact ⟨rfl, rfl⟩

theorem info3 : (Try.prog.info? 3).map (fun i => (i.zero, i.size, i.bytes)) = some (some (.int .i64 0), 1, 8) := by kernel_rfl

theorem madeCells_cell (n i : Nat) (h : i < n) : (madeCells #[Value.int .i64 0] n)[i]? = some (.int .i64 0) := by
  rw [madeCells_zero]
  simp [h]
theorem make_ints (n : Nat) (hn : n ≤ 1000) (w : World) : (Instr.makeSlice 29 (.int .i64 (n : Int)) (.int .i64 (n : Int))).run Try.prog w = .ok (.slice (some ⟨w.heap.size, 0, none⟩) n n) (w.alloc (.cells (madeCells #[.int .i64 0] n) 3)) := by
  have h := run_make_all (P := Try.prog) 29 3 (.int .i64 0) 1 8 Try.underlying29 info3 n (by omega) (by omega) w
  rw [Nat.mul_one] at h
  exact h

set_option maxRecDepth 100000 in
set_option maxHeartbeats 1000000 in
theorem takeEach_rel (w : World) (r : Nat) (u : Int) (n : Nat) (hu : 0 ≤ u ∧ u ≤ 1000) (hn : n ≤ 20) (h : w.heap[r]? = some (roomO u)) :
    Calls Try.prog 39 #[.pointer (some ⟨r, 0, none⟩), .int .i64 (n : Int), .int .i64 24] w fun e w' => ∃ ao, e = .returned (.slice ao n n) ∧ SlOf (fun k => w.heap.size ≤ k) 1 intE w' (.slice ao n n) (stepsL u 24 n) ∧ w'.heap[r]? = some (roomO (u + (n : Int) * 24)) ∧ Only (fun k => k = r) w w' := by
  have hmk := make_ints n (by omega) w
  have hrl := lt_of_block h
  have hW : ∃ W b, W = w.alloc (.cells (madeCells #[.int .i64 0] n) 3) ∧ b = w.heap.size ∧ Only (fun _ => False) w W ∧ W.heap[b]? = some (.cells (madeCells #[.int .i64 0] n) 3) := ⟨_, _, rfl, rfl, (Only.refl _ _).alloc _, heap_new _ _⟩
  obtain ⟨W, b, hWe, hbe, hoW, hbb⟩ := hW
  have HRN : Hid (r ≠ b) := by show _ ≠ _; omega
  have HBZ := hid hbe
  have HR := hid ((hoW.block r hrl (fun h => h)).trans h)
  have HO := hid hoW
  have HM : Hid (Mid 1 (fun w b o _ => ∃ v, w.cell? ⟨b, o, none⟩ = some v) intE W b 0 (stepsL u 24 n)) := Mid.start fun i x hx => by
    have hi : i < n := by have := (List.getElem?_eq_some_iff.1 hx).1; rwa [length_stepsL] at this
    rw [Nat.mul_one]
    exact ⟨_, (cell_of_block hbb i).trans (madeCells_cell n i hi)⟩
  have HB : Hid (∃ cs, W.heap[b]? = some (.cells cs 3)) := ⟨_, hbb⟩
  clear h hbb hoW
  go_enter Try.func39, Try.ntmps39
  go_wp2_with fail
  rw [← hWe, ← hbe]
  clear hmk hWe hbe
  go_loopw [13] (fun i wx => ∃ j : Nat, i = .int .i64 (j : Int) ∧ j ≤ n ∧ wx.heap[r]? = some (roomO (u + (j : Int) * 24)) ∧ (∃ cs, wx.heap[b]? = some (.cells cs 3)) ∧ Mid 1 (fun w b o _ => ∃ v, w.cell? ⟨b, o, none⟩ = some v) intE wx b j (stepsL u 24 n) ∧ Only (fun k => k = r ∨ k = b) W wx) (fun i _ => n - (intOf i).toNat)
  case atStart => exact ⟨0, rfl, Nat.zero_le _, by have h9 := HR.out; simpa using h9, HB.out, HM.out, Only.refl _ _⟩
  case round =>
  clear HR HM HB
  obtain ⟨j, rfl, hj, hr, ⟨cs, hcs⟩, hmid, hox⟩ := hrel
  have HX := hid hox
  have HM := hid hmid
  have HR := hid hr
  have HC := hid hcs
  clear hr hcs hmid hox
  by_cases hlt : (j : Int) < (n : Int)
  · have HT : Hid (Calls Try.prog 37 #[.pointer (some ⟨r, 0, none⟩), .int .i64 24] wr fun e w' => e = .returned (.int .i64 (u + (j : Int) * 24)) ∧ w' = wr.setCell ⟨r, 0, none⟩ (.int .i64 (u + (j : Int) * 24 + 24))) := take_rel wr r (u + (j : Int) * 24) 24 (by omega) (by omega) HR.out
    go_wp2_with fail
    refine HT.out.mono ?_
    rintro e w2 ⟨rfl, hw2⟩
    have ho2 : Only (fun k => k = r) wr w2 := by rw [hw2]; exact (Only.self r wr).own 0 _
    have hr2 : w2.heap[r]? = some (roomO (u + ((j + 1 : Nat) : Int) * 24)) := by
      rw [hw2]
      have h9 := block_setCell HR.out 0 (.int .i64 (u + (j : Int) * 24 + 24))
      rw [h9]
      show some (Obj.cells #[.int .i64 (u + (j : Int) * 24 + 24)] 100) = _
      rw [show u + (j : Int) * 24 + 24 = u + ((j + 1 : Nat) : Int) * 24 by omega]
    have hb2 : w2.heap[b]? = some (.cells cs 3) := (ho2.block b (lt_of_block HC.out) (fun e => HRN.out e.symm)).trans HC.out
    have hxj := stepsL_at u 24 n j (by omega)
    obtain ⟨v0, hv0⟩ := HM.out.at hxj
    rw [Nat.mul_one] at hv0
    have e0 : w2.cell? ⟨b, j, none⟩ = some v0 := (World.cell?_of_block (ho2.block b (lt_of_block HC.out) (fun e => HRN.out e.symm))).trans hv0
    have f0 : w2.frozen? ⟨b, j, none⟩ = false := frozen_of_block hb2 j
    have HV : Hid ((w2.setCell ⟨b, j, none⟩ (.int .i64 (u + (j : Int) * 24))).heap[r]? = some (roomO (u + ((j + 1 : Nat) : Int) * 24)) ∧ (∃ cs, (w2.setCell ⟨b, j, none⟩ (.int .i64 (u + (j : Int) * 24))).heap[b]? = some (.cells cs 3)) ∧ Mid 1 (fun w b o _ => ∃ v, w.cell? ⟨b, o, none⟩ = some v) intE (w2.setCell ⟨b, j, none⟩ (.int .i64 (u + (j : Int) * 24))) b (j + 1) (stepsL u 24 n) ∧ Only (fun k => k = r ∨ k = b) W (w2.setCell ⟨b, j, none⟩ (.int .i64 (u + (j : Int) * 24)))) := by
      refine ⟨(Below.heap_setCell _ _ _ _ (fun e => HRN.out e)).trans hr2, ⟨_, block_set11 hb2 _ _⟩, ?_, (HX.out.chain ho2 (fun i _ e => .inl e)).setCell (p := ⟨b, j, none⟩) (.inr (.inr rfl)) _⟩
      have hk : ∀ i, i ≠ j → (w2.setCell ⟨b, j, none⟩ (.int .i64 (u + (j : Int) * 24))).cell? ⟨b, i * 1, none⟩ = wr.cell? ⟨b, i * 1, none⟩ := fun i hi => by
        rw [World.cell?_setCell_other _ _ _ _ (fun e => by injection e with _ e _; omega)]
        exact World.cell?_of_block (ho2.block b (lt_of_block HC.out) (fun e => HRN.out e.symm))
      refine HM.out.step (fun i x hi ⟨v, hv⟩ => ⟨v, (hk i hi).trans hv⟩) (fun i x hi hx => ⟨(hk i hi).trans hx.1, hx.2⟩) hxj ?_
      refine ⟨?_, by omega⟩
      rw [Nat.mul_one]
      exact cell_set_self hb2 e0 _
    clear hw2 ho2 hr2 hb2 hv0 hxj
    go_wp2_with fail
    go_roundw
    case rel => exact ⟨j + 1, by go_num, by omega, HV.out⟩
    case measure => simp [intOf]; omega
  · obtain rfl : j = n := by omega
    have HE : Hid (SlOf (fun k => w.heap.size ≤ k) 1 intE wr (.slice (some ⟨b, 0, none⟩) j j) (stepsL u 24 j)) := HM.out.done (length_stepsL _ _ _) (by omega) (fun _ => rfl) (by show _ ≤ _; have := HBZ.out; omega) (fun _ _ _ h => h)
    go_wp2_with fail
    go_ret
    refine ⟨_, rfl, HE.out, HR.out, ((HO.out.mono (T := fun k => k = r) (fun _ _ h => h.elim)).chain HX.out (fun i hi e => ?_))⟩
    rcases e with e | e
    · exact e
    · have := HBZ.out; omega
end Go.Proofs.Ytapmakdklpbjkaa

/-
  Package plan: take, takeEach. Conditions: small numbers.
-/
import Derived.Test.YtmcmjcaigipoaaaGreatConf11i
import Derived.Test.YtmcmjcaigipoaaaGreatFrame1
namespace Go.Sept
open Go.RowKit
/-- The addresses of n things of k words each, from u on. -/
def stepsL (u k : Int) (n : Nat) : List Int := (List.range n).map fun i : Nat => u + (i : Int) * k
theorem length_stepsL (u k : Int) (n : Nat) : (stepsL u k n).length = n := by simp [stepsL]
theorem stepsL_at (u k : Int) (n i : Nat) (h : i < n) : (stepsL u k n)[i]? = some (u + (i : Int) * k) := by simp [stepsL, h]
end Go.Sept
namespace Go.Proofs.YtmcmjcaigipoaaaGreat
open Go.RowKit Go.Sept

abbrev roomO (u : Int) : Obj := .cells #[.int .i64 u] 120

set_option maxRecDepth 100000 in
set_option maxHeartbeats 1000000 in
theorem take_rel (w : World) (r : Nat) (u k : Int) (hu : 0 ≤ u ∧ u ≤ 2000) (hk : 0 ≤ k ∧ k ≤ 2000) (h : w.heap[r]? = some (roomO u)) :
    Calls Tryz.prog 54 #[.pointer (some ⟨r, 0, none⟩), .int .i64 k] w fun e w' => e = .returned (.int .i64 u) ∧ w' = w.setCell ⟨r, 0, none⟩ (.int .i64 (u + k)) := by
  have c0 : w.cell? ⟨r, 0, none⟩ = some (.int .i64 u) := cell_of_block h 0
  have f0 : w.frozen? ⟨r, 0, none⟩ = false := frozen_of_block h 0
  clear h
  go_enter Tryz.func54, Tryz.ntmps54
  go_wp2
  go_ret
  exact ⟨rfl, rfl⟩

theorem info3 : (Tryz.prog.info? 3).map (fun i => (i.zero, i.size, i.bytes)) = some (some (.int .i64 0), 1, 8) := by kernel_rfl

theorem madeCells_cell (n i : Nat) (h : i < n) : (madeCells #[Value.int .i64 0] n)[i]? = some (.int .i64 0) := by
  rw [madeCells_zero]
  simp [h]
theorem make_ints (n : Nat) (hn : n ≤ 1000) (w : World) : (Instr.makeSlice 30 (.int .i64 (n : Int)) (.int .i64 (n : Int))).run Tryz.prog w = .ok (.slice (some ⟨w.heap.size, 0, none⟩) n n) (w.alloc (.cells (madeCells #[.int .i64 0] n) 3)) := by
  have h := run_make_all (P := Tryz.prog) 30 3 (.int .i64 0) 1 8 Tryz.underlying30 info3 n (by omega) (by omega) w
  rw [Nat.mul_one] at h
  exact h

set_option maxRecDepth 100000 in
set_option maxHeartbeats 1000000 in
theorem takeEach_rel (w : World) (r : Nat) (u : Int) (n : Nat) (hu : 0 ≤ u ∧ u ≤ 1000) (hn : n ≤ 20) (h : w.heap[r]? = some (roomO u)) :
    Calls Tryz.prog 56 #[.pointer (some ⟨r, 0, none⟩), .int .i64 (n : Int), .int .i64 24] w fun e w' => ∃ ao, e = .returned (.slice ao n n) ∧ SlOf (fun k => w.heap.size ≤ k) 1 intE w' (.slice ao n n) (stepsL u 24 n) ∧ w'.heap[r]? = some (roomO (u + (n : Int) * 24)) ∧ Only (fun k => k = r) w w' := by
  have hmk := make_ints n (by omega) w
  have hrl := lt_of_block h
  have hW : ∃ W b, W = w.alloc (.cells (madeCells #[.int .i64 0] n) 3) ∧ b = w.heap.size ∧ Only (fun _ => False) w W ∧ W.heap[b]? = some (.cells (madeCells #[.int .i64 0] n) 3) := ⟨_, _, rfl, rfl, (Only.refl _ _).alloc _, heap_new _ _⟩
  obtain ⟨W, b, hWe, hbe, hoW, hbb⟩ := hW
  have HRN : Hid (r ≠ b) := by show _ ≠ _; omega
  have HBZ := hid hbe
  have HR := hid ((hoW.block r hrl (fun h => h)).trans h)
  have HO := hid hoW
  have HM : Hid (Mid 1 (fun w b o _ => ∃ v, w.cell? ⟨b, o, none⟩ = some v) intE W b 0 (stepsL u 24 n)) := Mid.start fun i x hx => by
    have hi : i < n := by have := (List.getElem?_eq_some_iff.1 hx).1; rwa [length_stepsL] at this
    rw [Nat.mul_one]
    exact ⟨_, (cell_of_block hbb i).trans (madeCells_cell n i hi)⟩
  have HB : Hid (∃ cs, W.heap[b]? = some (.cells cs 3)) := ⟨_, hbb⟩
  clear h hbb hoW
  go_enter Tryz.func56, Tryz.ntmps56
  go_wp2_with fail
  rw [← hWe, ← hbe]
  clear hmk hWe hbe
  go_loopw [13] (fun i wx => ∃ j : Nat, i = .int .i64 (j : Int) ∧ j ≤ n ∧ wx.heap[r]? = some (roomO (u + (j : Int) * 24)) ∧ (∃ cs, wx.heap[b]? = some (.cells cs 3)) ∧ Mid 1 (fun w b o _ => ∃ v, w.cell? ⟨b, o, none⟩ = some v) intE wx b j (stepsL u 24 n) ∧ Only (fun k => k = r ∨ k = b) W wx) (fun i _ => n - (intOf i).toNat)
  case atStart => exact ⟨0, rfl, Nat.zero_le _, by have h9 := HR.out; simpa using h9, HB.out, HM.out, Only.refl _ _⟩
  case round =>
  clear HR HM HB
  obtain ⟨j, rfl, hj, hr, ⟨cs, hcs⟩, hmid, hox⟩ := hrel
  have HX := hid hox
  have HM := hid hmid
  have HR := hid hr
  have HC := hid hcs
  clear hr hcs hmid hox
  by_cases hlt : (j : Int) < (n : Int)
  · have HT : Hid (Calls Tryz.prog 54 #[.pointer (some ⟨r, 0, none⟩), .int .i64 24] wr fun e w' => e = .returned (.int .i64 (u + (j : Int) * 24)) ∧ w' = wr.setCell ⟨r, 0, none⟩ (.int .i64 (u + (j : Int) * 24 + 24))) := take_rel wr r (u + (j : Int) * 24) 24 (by omega) (by omega) HR.out
    go_wp2_with fail
    refine HT.out.mono ?_
    rintro e w2 ⟨rfl, hw2⟩
    have ho2 : Only (fun k => k = r) wr w2 := by rw [hw2]; exact (Only.self r wr).own 0 _
    have hr2 : w2.heap[r]? = some (roomO (u + ((j + 1 : Nat) : Int) * 24)) := by
      rw [hw2]
      have h9 := block_setCell HR.out 0 (.int .i64 (u + (j : Int) * 24 + 24))
      rw [h9]
      show some (Obj.cells #[.int .i64 (u + (j : Int) * 24 + 24)] 120) = _
      rw [show u + (j : Int) * 24 + 24 = u + ((j + 1 : Nat) : Int) * 24 by omega]
    have hb2 : w2.heap[b]? = some (.cells cs 3) := (ho2.block b (lt_of_block HC.out) (fun e => HRN.out e.symm)).trans HC.out
    have hxj := stepsL_at u 24 n j (by omega)
    obtain ⟨v0, hv0⟩ := HM.out.at hxj
    rw [Nat.mul_one] at hv0
    have e0 : w2.cell? ⟨b, j, none⟩ = some v0 := (World.cell?_of_block (ho2.block b (lt_of_block HC.out) (fun e => HRN.out e.symm))).trans hv0
    have f0 : w2.frozen? ⟨b, j, none⟩ = false := frozen_of_block hb2 j
    have HV : Hid ((w2.setCell ⟨b, j, none⟩ (.int .i64 (u + (j : Int) * 24))).heap[r]? = some (roomO (u + ((j + 1 : Nat) : Int) * 24)) ∧ (∃ cs, (w2.setCell ⟨b, j, none⟩ (.int .i64 (u + (j : Int) * 24))).heap[b]? = some (.cells cs 3)) ∧ Mid 1 (fun w b o _ => ∃ v, w.cell? ⟨b, o, none⟩ = some v) intE (w2.setCell ⟨b, j, none⟩ (.int .i64 (u + (j : Int) * 24))) b (j + 1) (stepsL u 24 n) ∧ Only (fun k => k = r ∨ k = b) W (w2.setCell ⟨b, j, none⟩ (.int .i64 (u + (j : Int) * 24)))) := by
      refine ⟨(Below.heap_setCell _ _ _ _ (fun e => HRN.out e)).trans hr2, ⟨_, block_set11 hb2 _ _⟩, ?_, (HX.out.chain ho2 (fun i _ e => .inl e)).setCell (p := ⟨b, j, none⟩) (.inr (.inr rfl)) _⟩
      have hk : ∀ i, i ≠ j → (w2.setCell ⟨b, j, none⟩ (.int .i64 (u + (j : Int) * 24))).cell? ⟨b, i * 1, none⟩ = wr.cell? ⟨b, i * 1, none⟩ := fun i hi => by
        rw [World.cell?_setCell_other _ _ _ _ (fun e => by injection e with _ e _; omega)]
        exact World.cell?_of_block (ho2.block b (lt_of_block HC.out) (fun e => HRN.out e.symm))
      refine HM.out.step (fun i x hi ⟨v, hv⟩ => ⟨v, (hk i hi).trans hv⟩) (fun i x hi hx => ⟨(hk i hi).trans hx.1, hx.2⟩) hxj ?_
      refine ⟨?_, by omega⟩
      rw [Nat.mul_one]
      exact cell_set_self hb2 e0 _
    clear hw2 ho2 hr2 hb2 hv0 hxj
    go_wp2_with fail
    go_roundw
    case rel => exact ⟨j + 1, by go_num, by omega, HV.out⟩
    case measure => simp [intOf]; omega
  · obtain rfl : j = n := by omega
    have HE : Hid (SlOf (fun k => w.heap.size ≤ k) 1 intE wr (.slice (some ⟨b, 0, none⟩) j j) (stepsL u 24 j)) := HM.out.done (length_stepsL _ _ _) (by omega) (fun _ => rfl) (by show _ ≤ _; have := HBZ.out; omega) (fun _ _ _ h => h)
    go_wp2_with fail
    go_ret
    refine ⟨_, rfl, HE.out, HR.out, ((HO.out.mono (T := fun k => k = r) (fun _ _ h => h.elim)).chain HX.out (fun i hi e => ?_))⟩
    rcases e with e | e
    · exact e
    · have := HBZ.out; omega
end Go.Proofs.YtmcmjcaigipoaaaGreat

/-
  Package plan: lay. Conditions: at most 20 threads and objects.
-/
namespace Go.Proofs.YtmcmjcaigipoaaaGreat
open Go.RowKit Go.Sept

abbrev plO (cs : Array Value) : Obj := .cells cs 32
/-- A plan, cell by cell. -/
abbrev plCs (a0 a1 a2 a3 a4 a5 a6 a7 a8 : Int) (v9 v10 : Value) (a11 : Int) (v12 v13 : Value) : Array Value :=
  #[.int .i64 a0, .int .i64 a1, .int .i64 a2, .int .i64 a3, .int .i64 a4, .int .i64 a5, .int .i64 a6, .int .i64 a7, .int .i64 a8, v9, v10, .int .i64 a11, v12, v13]
abbrev nilS : Value := .slice none 0 0
/-- The plan of a partition of n threads and m objects. -/
abbrev planCs (n m : Nat) (ta oa : Option Addr) (v0 v1 : Value) : Array Value :=
  plCs 0 2 4 3 5 6 8 41 43 (.slice ta n n) (.slice oa m m) (43 + (m : Int) + (n : Int) * 24 + (m : Int) * 24) v0 v1

/-- The room and the plan that is being laid. -/
structure LayIs (W w : World) (r pl : Nat) (u : Int) (cs : Array Value) : Prop where
  room : w.heap[r]? = some (roomO u)
  plan : w.heap[pl]? = some (plO cs)
  ne : r ≠ pl
  keep : Only (fun k => k = r ∨ k = pl) W w

section
variable {W w w' : World} {r pl : Nat} {u : Int} {cs : Array Value}
theorem LayIs.take (h : LayIs W w r pl u cs) (k : Int) : LayIs W (w.setCell ⟨r, 0, none⟩ (.int .i64 (u + k))) r pl (u + k) cs :=
  ⟨by rw [block_setCell h.room]; rfl, (Below.heap_setCell _ _ _ _ h.ne.symm).trans h.plan, h.ne, h.keep.setCell (p := ⟨r, 0, none⟩) (.inr (.inl rfl)) _⟩
theorem LayIs.put (h : LayIs W w r pl u cs) (i : Nat) (v : Value) : LayIs W (w.setCell ⟨pl, i, none⟩ v) r pl u (cs.setIfInBounds i v) :=
  ⟨(Below.heap_setCell _ _ _ _ h.ne).trans h.room, block_setCell h.plan i v, h.ne, h.keep.setCell (p := ⟨pl, i, none⟩) (.inr (.inr rfl)) _⟩
theorem LayIs.each (h : LayIs W w r pl u cs) {u' : Int} (ho : Only (fun k => k = r) w w') (hr : w'.heap[r]? = some (roomO u')) : LayIs W w' r pl u' cs :=
  ⟨hr, (ho.block pl (lt_of_block h.plan) h.ne.symm).trans h.plan, h.ne, h.keep.chain ho (fun _ _ e => .inl e)⟩
theorem LayIs.call (h : LayIs W w r pl u cs) (k : Int) (hu : 0 ≤ u ∧ u ≤ 2000) (hk : 0 ≤ k ∧ k ≤ 2000) :
    Calls Tryz.prog 54 #[.pointer (some ⟨r, 0, none⟩), .int .i64 k] w fun e w' => e = .returned (.int .i64 u) ∧ LayIs W w' r pl (u + k) cs := by
  refine (take_rel w r u k hu hk h.room).mono ?_
  rintro e w' ⟨rfl, rfl⟩
  exact ⟨rfl, h.take k⟩
theorem LayIs.calls (h : LayIs W w r pl u cs) (n : Nat) (hu : 0 ≤ u ∧ u ≤ 1000) (hn : n ≤ 20) :
    Calls Tryz.prog 56 #[.pointer (some ⟨r, 0, none⟩), .int .i64 (n : Int), .int .i64 24] w fun e w' => ∃ ao, e = .returned (.slice ao n n) ∧ SlOf (fun k => w.heap.size ≤ k) 1 intE w' (.slice ao n n) (stepsL u 24 n) ∧ LayIs W w' r pl (u + (n : Int) * 24) cs := by
  refine (takeEach_rel w r u n hu hn h.room).mono ?_
  rintro e w' ⟨ao, rfl, h1, h2, h3⟩
  exact ⟨ao, rfl, h1, h.each h3 h2⟩
theorem LayIs.cell (h : LayIs W w r pl u cs) (i : Nat) : w.cell? ⟨pl, i, none⟩ = cs[i]? := cell_of_block h.plan i
theorem LayIs.frozen (h : LayIs W w r pl u cs) (i : Nat) : w.frozen? ⟨pl, i, none⟩ = false := frozen_of_block h.plan i
/-- A list of addresses stays. -/
theorem LayIs.list {n : Nat} {v : Value} {xs : List Int} (hs : SlOf (fun k => n ≤ k) 1 intE w v xs) (ho : Only (fun k => k = r ∨ k = pl) w w') (hr : r < n) (hp : pl < n) : SlOf (fun k => n ≤ k) 1 intE w' v xs :=
  hs.only (stay_int ho (fun k hk e => by have : n ≤ k := hk; omega))
theorem newKeep12 {w : World} {k : Nat} {x o : Obj} (h : w.heap[k]? = some x) : (w.alloc o).heap[k]? = some x := (Below.heap_alloc _ _ _ (lt_of_block h)).trans h
theorem newAt12 (w : World) (o : Obj) {k : Nat} (h : k = w.heap.size) : (w.alloc o).heap[k]? = some o := h ▸ heap_new w o
end

theorem seqWords1 (w : World) : Calls Tryz.prog 55 #[.int .i64 1] w fun e w' => e = .returned (.int .i64 2) ∧ w' = w := by
  go_enter Tryz.func55, Tryz.ntmps55
  go_wp2
  go_ret
  exact ⟨rfl, rfl⟩

set_option maxRecDepth 100000 in
set_option maxHeartbeats 4000000 in
theorem lay_rel (w : World) (a0 a1 : Option Addr) (n m c0x c1x : Nat) (hn : n ≤ 20) (hm : m ≤ 20) :
    Calls Tryz.prog 19 #[.agg #[.slice a0 n c0x, .slice a1 m c1x]] w fun e w' => ∃ ta oa, e = .returned (.agg (planCs n m ta oa (.slice a0 n c0x) (.slice a1 m c1x))) ∧
      SlOf (fun k => w.heap.size ≤ k) 1 intE w' (.slice ta n n) (stepsL (43 + (m : Int)) 24 n) ∧ SlOf (fun k => w.heap.size ≤ k) 1 intE w' (.slice oa m m) (stepsL (43 + (m : Int) + (n : Int) * 24) 24 m) ∧ Only (fun _ => False) w w' := by
  have hW : ∃ W z, W = (((w.alloc (ptO (.slice a0 n c0x) (.slice a1 m c1x))).alloc (plO (plCs 0 0 0 0 0 0 0 0 0 nilS nilS 0 nilS nilS))).alloc (roomO 0)).alloc (plO (plCs 0 0 0 0 0 0 0 0 0 nilS nilS 0 nilS nilS)) ∧ z = w.heap.size ∧ Only (fun _ => False) w W ∧
      W.heap[z]? = some (ptO (.slice a0 n c0x) (.slice a1 m c1x)) ∧ W.heap[z + 1]? = some (plO (plCs 0 0 0 0 0 0 0 0 0 nilS nilS 0 nilS nilS)) ∧ W.heap[z + 1 + 1]? = some (roomO 0) ∧ W.heap[z + 1 + 1 + 1]? = some (plO (plCs 0 0 0 0 0 0 0 0 0 nilS nilS 0 nilS nilS)) := by
    refine ⟨_, _, rfl, rfl, ((((Only.refl _ _).alloc _).alloc _).alloc _).alloc _, ?_, ?_, ?_, ?_⟩
    · exact newKeep12 (newKeep12 (newKeep12 (heap_new _ _)))
    · exact newKeep12 (newKeep12 (newAt12 _ _ (by simp)))
    · exact newKeep12 (newAt12 _ _ (by simp))
    · exact newAt12 _ _ (by simp)
  obtain ⟨W, z, hWe, hze, hoW, hb0, hb1, hb2, hb3⟩ := hW
  have HZZ : Hid (w.heap.size = z ∧ z + 1 + 1 + 1 < W.heap.size) := ⟨hze.symm, lt_of_block hb3⟩
  have HO := hid hoW
  have HP0 : Hid (LayIs W W (z + 1 + 1) (z + 1 + 1 + 1) 0 (plCs 0 0 0 0 0 0 0 0 0 nilS nilS 0 nilS nilS)) := ⟨hb2, hb3, by omega, Only.refl _ _⟩
  have HB0 := hid hb0
  have HB1 := hid hb1
  clear hoW hb0 hb1 hb2 hb3
  go_enter Tryz.func19, Tryz.ntmps19
  go_upto_region 3 with fail
  rw [← hWe, ← hze]
  clear hWe hze
  go_wp2_with fail
  refine (HP0.out.call 2 ⟨by omega, by omega⟩ ⟨by omega, by omega⟩).mono ?_
  rintro e w1 ⟨rfl, h⟩
  have c0 : w1.cell? ⟨z + 1 + 1 + 1, 0, none⟩ = some (.int .i64 0) := h.cell 0
  have f0 := h.frozen 0
  have HP1 : Hid (LayIs W (w1.setCell ⟨z + 1 + 1 + 1, 0, none⟩ (.int .i64 (0))) (z + 1 + 1) (z + 1 + 1 + 1) (2) (plCs 0 0 0 0 0 0 0 0 0 nilS nilS 0 nilS nilS)) := h.put 0 _
  clear h HP0
  go_wp2_with fail
  go_loopw [8] (fun i wx => (i = .int .i64 0 ∧ LayIs W wx (z + 1 + 1) (z + 1 + 1 + 1) 2 (plCs 0 0 0 0 0 0 0 0 0 nilS nilS 0 nilS nilS)) ∨ (i = .int .i64 1 ∧ LayIs W wx (z + 1 + 1) (z + 1 + 1 + 1) 4 (plCs 0 2 0 3 0 0 0 0 0 nilS nilS 0 nilS nilS)) ∨ (i = .int .i64 2 ∧ LayIs W wx (z + 1 + 1) (z + 1 + 1 + 1) 6 (plCs 0 2 4 3 5 0 0 0 0 nilS nilS 0 nilS nilS))) (fun i _ => 2 - (intOf i).toNat)
  case atStart => exact .inl ⟨rfl, HP1.out⟩
  case round =>
  clear HP1
  rcases hrel with ⟨rfl, h⟩ | ⟨rfl, h⟩ | ⟨rfl, h⟩
  · have HA := hid h
    clear h
    go_wp2_with fail
    refine (HA.out.call 1 ⟨by omega, by omega⟩ ⟨by omega, by omega⟩).mono ?_
    rintro e w2 ⟨rfl, h⟩
    have c0 : w2.cell? ⟨z + 1 + 1 + 1, 1, none⟩ = some (.int .i64 0) := h.cell 1
    have f0 := h.frozen 1
    have HB : Hid (LayIs W (w2.setCell ⟨z + 1 + 1 + 1, 1, none⟩ (.int .i64 2)) (z + 1 + 1) (z + 1 + 1 + 1) 3 (plCs 0 2 0 0 0 0 0 0 0 nilS nilS 0 nilS nilS)) := h.put 1 _
    clear h HA
    go_wp2_with fail
    refine (HB.out.call 1 ⟨by omega, by omega⟩ ⟨by omega, by omega⟩).mono ?_
    rintro e w3 ⟨rfl, h⟩
    have c1 : w3.cell? ⟨z + 1 + 1 + 1, 3, none⟩ = some (.int .i64 0) := h.cell 3
    have f1 := h.frozen 3
    have HC : Hid (LayIs W (w3.setCell ⟨z + 1 + 1 + 1, 3, none⟩ (.int .i64 3)) (z + 1 + 1) (z + 1 + 1 + 1) 4 (plCs 0 2 0 3 0 0 0 0 0 nilS nilS 0 nilS nilS)) := h.put 3 _
    clear h HB
    go_wp2_with fail
    go_roundw
    case rel => exact .inr (.inl ⟨rfl, HC.out⟩)
    case measure => simp [intOf]
  · have HA := hid h
    clear h
    go_wp2_with fail
    refine (HA.out.call 1 ⟨by omega, by omega⟩ ⟨by omega, by omega⟩).mono ?_
    rintro e w2 ⟨rfl, h⟩
    have c0 : w2.cell? ⟨z + 1 + 1 + 1, 2, none⟩ = some (.int .i64 0) := h.cell 2
    have f0 := h.frozen 2
    have HB : Hid (LayIs W (w2.setCell ⟨z + 1 + 1 + 1, 2, none⟩ (.int .i64 4)) (z + 1 + 1) (z + 1 + 1 + 1) 5 (plCs 0 2 4 3 0 0 0 0 0 nilS nilS 0 nilS nilS)) := h.put 2 _
    clear h HA
    go_wp2_with fail
    refine (HB.out.call 1 ⟨by omega, by omega⟩ ⟨by omega, by omega⟩).mono ?_
    rintro e w3 ⟨rfl, h⟩
    have c1 : w3.cell? ⟨z + 1 + 1 + 1, 4, none⟩ = some (.int .i64 0) := h.cell 4
    have f1 := h.frozen 4
    have HC : Hid (LayIs W (w3.setCell ⟨z + 1 + 1 + 1, 4, none⟩ (.int .i64 5)) (z + 1 + 1) (z + 1 + 1 + 1) 6 (plCs 0 2 4 3 5 0 0 0 0 nilS nilS 0 nilS nilS)) := h.put 4 _
    clear h HB
    go_wp2_with fail
    go_roundw
    case rel => exact .inr (.inr ⟨rfl, HC.out⟩)
    case measure => simp [intOf]
  · have HA := hid h
    clear h
    go_wp2_with fail
    refine (seqWords1 _).mono ?_
    rintro e w2 ⟨rfl, rfl⟩
    go_wp2_with fail
    refine (HA.out.call 2 ⟨by omega, by omega⟩ ⟨by omega, by omega⟩).mono ?_
    rintro e w3 ⟨rfl, h⟩
    have c0 : w3.cell? ⟨z + 1 + 1 + 1, 5, none⟩ = some (.int .i64 0) := h.cell 5
    have f0 := h.frozen 5
    have HC : Hid (LayIs W (w3.setCell ⟨z + 1 + 1 + 1, 5, none⟩ (.int .i64 (6))) (z + 1 + 1) (z + 1 + 1 + 1) (8) (plCs 0 2 4 3 5 6 0 0 0 nilS nilS 0 nilS nilS)) := h.put 5 _
    clear h HA
    go_wp2_with fail
    refine (HC.out.call 33 ⟨by omega, by omega⟩ ⟨by omega, by omega⟩).mono ?_
    rintro e w4 ⟨rfl, h⟩
    have c0 : w4.cell? ⟨z + 1 + 1 + 1, 6, none⟩ = some (.int .i64 0) := h.cell 6
    have f0 := h.frozen 6
    have HD : Hid (LayIs W (w4.setCell ⟨z + 1 + 1 + 1, 6, none⟩ (.int .i64 (8))) (z + 1 + 1) (z + 1 + 1 + 1) (41) (plCs 0 2 4 3 5 6 8 0 0 nilS nilS 0 nilS nilS)) := h.put 6 _
    clear h HC
    go_wp2_with fail
    refine (HD.out.call 2 ⟨by omega, by omega⟩ ⟨by omega, by omega⟩).mono ?_
    rintro e w5 ⟨rfl, h⟩
    have c0 : w5.cell? ⟨z + 1 + 1 + 1, 7, none⟩ = some (.int .i64 0) := h.cell 7
    have f0 := h.frozen 7
    have HE : Hid (LayIs W (w5.setCell ⟨z + 1 + 1 + 1, 7, none⟩ (.int .i64 (41))) (z + 1 + 1) (z + 1 + 1 + 1) (43) (plCs 0 2 4 3 5 6 8 41 0 nilS nilS 0 nilS nilS)) := h.put 7 _
    clear h HD
    have hz1 : ∀ wx u cs, LayIs W wx (z + 1 + 1) (z + 1 + 1 + 1) u cs → wx.heap[z]? = some (ptO (.slice a0 n c0x) (.slice a1 m c1x)) := fun wx u cs h => (h.keep.block z (lt_of_block HB0.out) (by omega)).trans HB0.out
    have HZ1 := hid hz1
    clear hz1
    have d1 : (w5.setCell ⟨z + 1 + 1 + 1, 7, none⟩ (.int .i64 41)).cell? ⟨z, 1, none⟩ = some (.slice a1 m c1x) := cell_of_block (HZ1.out _ _ _ HE.out) 1
    go_wp2_with fail
    refine (HE.out.call (m : Int) ⟨by omega, by omega⟩ ⟨by omega, by omega⟩).mono ?_
    rintro e w6 ⟨rfl, h⟩
    have c0 : w6.cell? ⟨z + 1 + 1 + 1, 8, none⟩ = some (.int .i64 0) := h.cell 8
    have f0 := h.frozen 8
    have HF : Hid (LayIs W (w6.setCell ⟨z + 1 + 1 + 1, 8, none⟩ (.int .i64 (43))) (z + 1 + 1) (z + 1 + 1 + 1) (43 + (m : Int)) (plCs 0 2 4 3 5 6 8 41 43 nilS nilS 0 nilS nilS)) := h.put 8 _
    clear h HE
    have d2 : (w6.setCell ⟨z + 1 + 1 + 1, 8, none⟩ (.int .i64 43)).cell? ⟨z, 0, none⟩ = some (.slice a0 n c0x) := cell_of_block (HZ1.out _ _ _ HF.out) 0
    go_wp2_with fail
    refine (HF.out.calls n ⟨by omega, by omega⟩ hn).mono ?_
    rintro e w7 ⟨ta, rfl, hsl, h⟩
    have c0 : w7.cell? ⟨z + 1 + 1 + 1, 9, none⟩ = some nilS := h.cell 9
    have f0 := h.frozen 9
    have HG : Hid (LayIs W (w7.setCell ⟨z + 1 + 1 + 1, 9, none⟩ (.slice ta n n)) (z + 1 + 1) (z + 1 + 1 + 1) (43 + (m : Int) + (n : Int) * 24) (plCs 0 2 4 3 5 6 8 41 43 (.slice ta n n) nilS 0 nilS nilS)) := h.put 9 _
    have HW6 : Hid (W.heap.size ≤ w6.heap.size) := by have h9 := HF.out.keep.size; rw [World.size_setCell] at h9; exact h9
    have HT7 : Hid (SlOf (fun k => W.heap.size ≤ k) 1 intE (w7.setCell ⟨z + 1 + 1 + 1, 9, none⟩ (.slice ta n n)) (.slice ta n n) (stepsL (43 + (m : Int)) 24 n)) := by
      have h9 : SlOf (fun k => W.heap.size ≤ k) 1 intE w7 (.slice ta n n) (stepsL (43 + (m : Int)) 24 n) := hsl.mono (fun k hk => by have := HW6.out; simp at hk; omega) (fun _ _ _ h => h)
      have hz := HZZ.out
      exact LayIs.list (r := z + 1 + 1) (pl := z + 1 + 1 + 1) h9 ((Only.refl _ _).setCell (p := ⟨z + 1 + 1 + 1, 9, none⟩) (.inr (.inr rfl)) _) (by omega) (by omega)
    have HG2 : Hid (LayIs (w7.setCell ⟨z + 1 + 1 + 1, 9, none⟩ (.slice ta n n)) (w7.setCell ⟨z + 1 + 1 + 1, 9, none⟩ (.slice ta n n)) (z + 1 + 1) (z + 1 + 1 + 1) (43 + (m : Int) + (n : Int) * 24) (plCs 0 2 4 3 5 6 8 41 43 (.slice ta n n) nilS 0 nilS nilS)) := ⟨HG.out.room, HG.out.plan, HG.out.ne, Only.refl _ _⟩
    have HB7 := hid (HZ1.out _ _ _ HG.out)
    have HO7 := hid HG.out.keep
    have HS7 := hid HG.out.keep.size
    clear hsl h HF
    have d3 : (w7.setCell ⟨z + 1 + 1 + 1, 9, none⟩ (.slice ta n n)).cell? ⟨z, 1, none⟩ = some (.slice a1 m c1x) := cell_of_block HB7.out 1
    go_wp2_with fail
    refine (HG2.out.calls m ⟨by omega, by omega⟩ hm).mono ?_
    rintro e w8 ⟨oa, rfl, hsl, h⟩
    have c0 : w8.cell? ⟨z + 1 + 1 + 1, 10, none⟩ = some nilS := h.cell 10
    have f0 := h.frozen 10
    have HH : Hid (LayIs (w7.setCell ⟨z + 1 + 1 + 1, 9, none⟩ (.slice ta n n)) (w8.setCell ⟨z + 1 + 1 + 1, 10, none⟩ (.slice oa m m)) (z + 1 + 1) (z + 1 + 1 + 1) (43 + (m : Int) + (n : Int) * 24 + (m : Int) * 24) (plCs 0 2 4 3 5 6 8 41 43 (.slice ta n n) (.slice oa m m) 0 nilS nilS)) := h.put 10 _
    have HT8 : Hid (SlOf (fun k => W.heap.size ≤ k) 1 intE (w8.setCell ⟨z + 1 + 1 + 1, 10, none⟩ (.slice oa m m)) (.slice oa m m) (stepsL (43 + (m : Int) + (n : Int) * 24) 24 m)) := by
      have h9 : SlOf (fun k => W.heap.size ≤ k) 1 intE w8 (.slice oa m m) (stepsL (43 + (m : Int) + (n : Int) * 24) 24 m) := hsl.mono (fun k hk => Nat.le_trans HS7.out hk) (fun _ _ _ h => h)
      have hz := HZZ.out
      exact LayIs.list (r := z + 1 + 1) (pl := z + 1 + 1 + 1) h9 ((Only.refl _ _).setCell (p := ⟨z + 1 + 1 + 1, 10, none⟩) (.inr (.inr rfl)) _) (by omega) (by omega)
    clear hsl h HG2 HG
    go_upto_region 16 with fail
    have HO8 := hid (HO7.out.chain HH.out.keep (fun _ _ h => h))
    have HI : Hid (LayIs W (w8.setCell ⟨z + 1 + 1 + 1, 10, none⟩ (.slice oa m m)) (z + 1 + 1) (z + 1 + 1 + 1) (43 + (m : Int) + (n : Int) * 24 + (m : Int) * 24) (plCs 0 2 4 3 5 6 8 41 43 (.slice ta n n) (.slice oa m m) 0 nilS nilS)) := ⟨HH.out.room, HH.out.plan, HH.out.ne, HO8.out⟩
    have c1 : (w8.setCell ⟨z + 1 + 1 + 1, 10, none⟩ (.slice oa m m)).cell? ⟨z + 1 + 1, 0, none⟩ = some (.int .i64 (43 + (m : Int) + (n : Int) * 24 + (m : Int) * 24)) := cell_of_block HI.out.room 0
    have c2 : (w8.setCell ⟨z + 1 + 1 + 1, 10, none⟩ (.slice oa m m)).cell? ⟨z + 1 + 1 + 1, 11, none⟩ = some (.int .i64 0) := HI.out.cell 11
    have f2 := HI.out.frozen 11
    clear d1 d2 d3 c0 f0
    go_upto_region 17 with fail
    have HJ : Hid (LayIs W ((w8.setCell ⟨z + 1 + 1 + 1, 10, none⟩ (.slice oa m m)).setCell ⟨z + 1 + 1 + 1, 11, none⟩ (.int .i64 (43 + (m : Int) + (n : Int) * 24 + (m : Int) * 24))) (z + 1 + 1) (z + 1 + 1 + 1) (43 + (m : Int) + (n : Int) * 24 + (m : Int) * 24) (plCs 0 2 4 3 5 6 8 41 43 (.slice ta n n) (.slice oa m m) (43 + (m : Int) + (n : Int) * 24 + (m : Int) * 24) nilS nilS)) := HI.out.put 11 _
    have d1 : ((w8.setCell ⟨z + 1 + 1 + 1, 10, none⟩ (.slice oa m m)).setCell ⟨z + 1 + 1 + 1, 11, none⟩ (.int .i64 (43 + (m : Int) + (n : Int) * 24 + (m : Int) * 24))).cell? ⟨z, 0, none⟩ = some (.slice a0 n c0x) := cell_of_block (HZ1.out _ _ _ HJ.out) 0
    have d2 : ((w8.setCell ⟨z + 1 + 1 + 1, 10, none⟩ (.slice oa m m)).setCell ⟨z + 1 + 1 + 1, 11, none⟩ (.int .i64 (43 + (m : Int) + (n : Int) * 24 + (m : Int) * 24))).cell? ⟨z, 1, none⟩ = some (.slice a1 m c1x) := cell_of_block (HZ1.out _ _ _ HJ.out) 1
    have c3 : ((w8.setCell ⟨z + 1 + 1 + 1, 10, none⟩ (.slice oa m m)).setCell ⟨z + 1 + 1 + 1, 11, none⟩ (.int .i64 (43 + (m : Int) + (n : Int) * 24 + (m : Int) * 24))).cell? ⟨z + 1 + 1 + 1, 12, none⟩ = some nilS := HJ.out.cell 12
    have c4 : ((w8.setCell ⟨z + 1 + 1 + 1, 10, none⟩ (.slice oa m m)).setCell ⟨z + 1 + 1 + 1, 11, none⟩ (.int .i64 (43 + (m : Int) + (n : Int) * 24 + (m : Int) * 24))).cell? ⟨z + 1 + 1 + 1, 13, none⟩ = some nilS := HJ.out.cell 13
    have f3 := HJ.out.frozen 12
    have f4 := HJ.out.frozen 13
    clear c1 c2 f2
    go_upto_region 18 with fail
    have HK : Hid (LayIs W ((((w8.setCell ⟨z + 1 + 1 + 1, 10, none⟩ (.slice oa m m)).setCell ⟨z + 1 + 1 + 1, 11, none⟩ (.int .i64 (43 + (m : Int) + (n : Int) * 24 + (m : Int) * 24))).setCell ⟨z + 1 + 1 + 1, 12, none⟩ (.slice a0 n c0x)).setCell ⟨z + 1 + 1 + 1, 13, none⟩ (.slice a1 m c1x)) (z + 1 + 1) (z + 1 + 1 + 1) (43 + (m : Int) + (n : Int) * 24 + (m : Int) * 24) (planCs n m ta oa (.slice a0 n c0x) (.slice a1 m c1x))) := (HJ.out.put 12 _).put 13 _
    obtain ⟨w9, hw9⟩ : ∃ w9, ((((w8.setCell ⟨z + 1 + 1 + 1, 10, none⟩ (.slice oa m m)).setCell ⟨z + 1 + 1 + 1, 11, none⟩ (.int .i64 (43 + (m : Int) + (n : Int) * 24 + (m : Int) * 24))).setCell ⟨z + 1 + 1 + 1, 12, none⟩ (.slice a0 n c0x)).setCell ⟨z + 1 + 1 + 1, 13, none⟩ (.slice a1 m c1x)) = w9 := ⟨_, rfl⟩
    have HW9 := hid hw9
    have HL : Hid (LayIs W w9 (z + 1 + 1) (z + 1 + 1 + 1) (43 + (m : Int) + (n : Int) * 24 + (m : Int) * 24) (planCs n m ta oa (.slice a0 n c0x) (.slice a1 m c1x))) := by have h9 := HK.out; rwa [hw9] at h9
    rw [hw9]
    clear d1 d2 c3 c4 f3 f4 hw9
    have p0 : w9.cell? ⟨z + 1 + 1 + 1, 0, none⟩ = some (.int .i64 0) := HL.out.cell 0
    have p1 : w9.cell? ⟨z + 1 + 1 + 1, 1, none⟩ = some (.int .i64 2) := HL.out.cell 1
    have p2 : w9.cell? ⟨z + 1 + 1 + 1, 2, none⟩ = some (.int .i64 4) := HL.out.cell 2
    have p3 : w9.cell? ⟨z + 1 + 1 + 1, 3, none⟩ = some (.int .i64 3) := HL.out.cell 3
    have p4 : w9.cell? ⟨z + 1 + 1 + 1, 4, none⟩ = some (.int .i64 5) := HL.out.cell 4
    have p5 : w9.cell? ⟨z + 1 + 1 + 1, 5, none⟩ = some (.int .i64 6) := HL.out.cell 5
    have p6 : w9.cell? ⟨z + 1 + 1 + 1, 6, none⟩ = some (.int .i64 8) := HL.out.cell 6
    have p7 : w9.cell? ⟨z + 1 + 1 + 1, 7, none⟩ = some (.int .i64 41) := HL.out.cell 7
    have p8 : w9.cell? ⟨z + 1 + 1 + 1, 8, none⟩ = some (.int .i64 43) := HL.out.cell 8
    have p9 : w9.cell? ⟨z + 1 + 1 + 1, 9, none⟩ = some (.slice ta n n) := HL.out.cell 9
    have p10 : w9.cell? ⟨z + 1 + 1 + 1, 10, none⟩ = some (.slice oa m m) := HL.out.cell 10
    have p11 : w9.cell? ⟨z + 1 + 1 + 1, 11, none⟩ = some (.int .i64 (43 + (m : Int) + (n : Int) * 24 + (m : Int) * 24)) := HL.out.cell 11
    have p12 : w9.cell? ⟨z + 1 + 1 + 1, 12, none⟩ = some (.slice a0 n c0x) := HL.out.cell 12
    have p13 : w9.cell? ⟨z + 1 + 1 + 1, 13, none⟩ = some (.slice a1 m c1x) := HL.out.cell 13
    have HB9 : Hid (w9.heap[z + 1]? = some (plO (plCs 0 0 0 0 0 0 0 0 0 nilS nilS 0 nilS nilS))) := (HL.out.keep.block (z + 1) (lt_of_block HB1.out) (by omega)).trans HB1.out
    have q0 : w9.cell? ⟨z + 1, 0, none⟩ = some (.int .i64 0) := cell_of_block HB9.out 0
    have g0 : w9.frozen? ⟨z + 1, 0, none⟩ = false := frozen_of_block HB9.out 0
    have q1 : w9.cell? ⟨z + 1, 1, none⟩ = some (.int .i64 0) := cell_of_block HB9.out 1
    have g1 : w9.frozen? ⟨z + 1, 1, none⟩ = false := frozen_of_block HB9.out 1
    have q2 : w9.cell? ⟨z + 1, 2, none⟩ = some (.int .i64 0) := cell_of_block HB9.out 2
    have g2 : w9.frozen? ⟨z + 1, 2, none⟩ = false := frozen_of_block HB9.out 2
    have q3 : w9.cell? ⟨z + 1, 3, none⟩ = some (.int .i64 0) := cell_of_block HB9.out 3
    have g3 : w9.frozen? ⟨z + 1, 3, none⟩ = false := frozen_of_block HB9.out 3
    have q4 : w9.cell? ⟨z + 1, 4, none⟩ = some (.int .i64 0) := cell_of_block HB9.out 4
    have g4 : w9.frozen? ⟨z + 1, 4, none⟩ = false := frozen_of_block HB9.out 4
    have q5 : w9.cell? ⟨z + 1, 5, none⟩ = some (.int .i64 0) := cell_of_block HB9.out 5
    have g5 : w9.frozen? ⟨z + 1, 5, none⟩ = false := frozen_of_block HB9.out 5
    have q6 : w9.cell? ⟨z + 1, 6, none⟩ = some (.int .i64 0) := cell_of_block HB9.out 6
    have g6 : w9.frozen? ⟨z + 1, 6, none⟩ = false := frozen_of_block HB9.out 6
    have q7 : w9.cell? ⟨z + 1, 7, none⟩ = some (.int .i64 0) := cell_of_block HB9.out 7
    have g7 : w9.frozen? ⟨z + 1, 7, none⟩ = false := frozen_of_block HB9.out 7
    have q8 : w9.cell? ⟨z + 1, 8, none⟩ = some (.int .i64 0) := cell_of_block HB9.out 8
    have g8 : w9.frozen? ⟨z + 1, 8, none⟩ = false := frozen_of_block HB9.out 8
    have q9 : w9.cell? ⟨z + 1, 9, none⟩ = some nilS := cell_of_block HB9.out 9
    have g9 : w9.frozen? ⟨z + 1, 9, none⟩ = false := frozen_of_block HB9.out 9
    have q10 : w9.cell? ⟨z + 1, 10, none⟩ = some nilS := cell_of_block HB9.out 10
    have g10 : w9.frozen? ⟨z + 1, 10, none⟩ = false := frozen_of_block HB9.out 10
    have q11 : w9.cell? ⟨z + 1, 11, none⟩ = some (.int .i64 0) := cell_of_block HB9.out 11
    have g11 : w9.frozen? ⟨z + 1, 11, none⟩ = false := frozen_of_block HB9.out 11
    have q12 : w9.cell? ⟨z + 1, 12, none⟩ = some nilS := cell_of_block HB9.out 12
    have g12 : w9.frozen? ⟨z + 1, 12, none⟩ = false := frozen_of_block HB9.out 12
    have q13 : w9.cell? ⟨z + 1, 13, none⟩ = some nilS := cell_of_block HB9.out 13
    have g13 : w9.frozen? ⟨z + 1, 13, none⟩ = false := frozen_of_block HB9.out 13
    go_wp2_with fail
    have hfin : ((((((((((((((w9.setCell ⟨z + 1, 0, none⟩ (.int .i64 0)).setCell ⟨z + 1, 1, none⟩ (.int .i64 2)).setCell ⟨z + 1, 2, none⟩ (.int .i64 4)).setCell ⟨z + 1, 3, none⟩ (.int .i64 3)).setCell ⟨z + 1, 4, none⟩ (.int .i64 5)).setCell ⟨z + 1, 5, none⟩ (.int .i64 6)).setCell ⟨z + 1, 6, none⟩ (.int .i64 8)).setCell ⟨z + 1, 7, none⟩ (.int .i64 41)).setCell ⟨z + 1, 8, none⟩ (.int .i64 43)).setCell ⟨z + 1, 9, none⟩ (.slice ta n n)).setCell ⟨z + 1, 10, none⟩ (.slice oa m m)).setCell ⟨z + 1, 11, none⟩ (.int .i64 (43 + (m : Int) + (n : Int) * 24 + (m : Int) * 24))).setCell ⟨z + 1, 12, none⟩ (.slice a0 n c0x)).setCell ⟨z + 1, 13, none⟩ (.slice a1 m c1x)).heap[z + 1]? = some (plO (planCs n m ta oa (.slice a0 n c0x) (.slice a1 m c1x))) := (block_setCell (block_setCell (block_setCell (block_setCell (block_setCell (block_setCell (block_setCell (block_setCell (block_setCell (block_setCell (block_setCell (block_setCell (block_setCell (block_setCell HB9.out 0 (.int .i64 0)) 1 (.int .i64 2)) 2 (.int .i64 4)) 3 (.int .i64 3)) 4 (.int .i64 5)) 5 (.int .i64 6)) 6 (.int .i64 8)) 7 (.int .i64 41)) 8 (.int .i64 43)) 9 (.slice ta n n)) 10 (.slice oa m m)) 11 (.int .i64 (43 + (m : Int) + (n : Int) * 24 + (m : Int) * 24))) 12 (.slice a0 n c0x)) 13 (.slice a1 m c1x))
    have hall : Only (fun k => k = z + 1) w9 ((((((((((((((w9.setCell ⟨z + 1, 0, none⟩ (.int .i64 0)).setCell ⟨z + 1, 1, none⟩ (.int .i64 2)).setCell ⟨z + 1, 2, none⟩ (.int .i64 4)).setCell ⟨z + 1, 3, none⟩ (.int .i64 3)).setCell ⟨z + 1, 4, none⟩ (.int .i64 5)).setCell ⟨z + 1, 5, none⟩ (.int .i64 6)).setCell ⟨z + 1, 6, none⟩ (.int .i64 8)).setCell ⟨z + 1, 7, none⟩ (.int .i64 41)).setCell ⟨z + 1, 8, none⟩ (.int .i64 43)).setCell ⟨z + 1, 9, none⟩ (.slice ta n n)).setCell ⟨z + 1, 10, none⟩ (.slice oa m m)).setCell ⟨z + 1, 11, none⟩ (.int .i64 (43 + (m : Int) + (n : Int) * 24 + (m : Int) * 24))).setCell ⟨z + 1, 12, none⟩ (.slice a0 n c0x)).setCell ⟨z + 1, 13, none⟩ (.slice a1 m c1x)) := (((((((((((((((Only.refl (fun k => k = z + 1) w9).setCell (p := ⟨z + 1, 0, none⟩) (.inr rfl) _).setCell (p := ⟨z + 1, 1, none⟩) (.inr rfl) _).setCell (p := ⟨z + 1, 2, none⟩) (.inr rfl) _).setCell (p := ⟨z + 1, 3, none⟩) (.inr rfl) _).setCell (p := ⟨z + 1, 4, none⟩) (.inr rfl) _).setCell (p := ⟨z + 1, 5, none⟩) (.inr rfl) _).setCell (p := ⟨z + 1, 6, none⟩) (.inr rfl) _).setCell (p := ⟨z + 1, 7, none⟩) (.inr rfl) _).setCell (p := ⟨z + 1, 8, none⟩) (.inr rfl) _).setCell (p := ⟨z + 1, 9, none⟩) (.inr rfl) _).setCell (p := ⟨z + 1, 10, none⟩) (.inr rfl) _).setCell (p := ⟨z + 1, 11, none⟩) (.inr rfl) _).setCell (p := ⟨z + 1, 12, none⟩) (.inr rfl) _).setCell (p := ⟨z + 1, 13, none⟩) (.inr rfl) _)
    have h89 : Only (fun k => k = z + 1 + 1 ∨ k = z + 1 + 1 + 1) (w8.setCell ⟨z + 1 + 1 + 1, 10, none⟩ (.slice oa m m)) w9 := by
      rw [← HW9.out]
      exact (((Only.refl _ _).setCell (p := ⟨z + 1 + 1 + 1, 11, none⟩) (.inr (.inr rfl)) _).setCell (p := ⟨z + 1 + 1 + 1, 12, none⟩) (.inr (.inr rfl)) _).setCell (p := ⟨z + 1 + 1 + 1, 13, none⟩) (.inr (.inr rfl)) _
    have h79 := HH.out.keep.chain h89 (fun _ _ h => h)
    have hz := HZZ.out
    refine bodyPost_ret (results_cell_row rfl _ _ (z + 1) 32 (planCs n m ta oa (.slice a0 n c0x) (.slice a1 m c1x)) (0, 0) _ rfl hfin Tryz.underlying32 rfl (by kernel_rfl)) rfl ⟨ta, oa, rfl, ?_, ?_, ?_⟩
    · have h9 := LayIs.list (r := z + 1 + 1) (pl := z + 1 + 1 + 1) HT7.out h79 (by omega) (by omega)
      exact (h9.only (stay_int hall (fun k hk e => by have : W.heap.size ≤ k := hk; omega))).mono (fun k hk => by have : W.heap.size ≤ k := hk; show w.heap.size ≤ k; omega) (fun _ _ _ h => h)
    · have h9 := LayIs.list (r := z + 1 + 1) (pl := z + 1 + 1 + 1) HT8.out h89 (by omega) (by omega)
      exact (h9.only (stay_int hall (fun k hk e => by have : W.heap.size ≤ k := hk; omega))).mono (fun k hk => by have : W.heap.size ≤ k := hk; show w.heap.size ≤ k; omega) (fun _ _ _ h => h)
    · exact (HO.out.chain HL.out.keep (fun i hi e => by omega)).chain hall (fun i hi e => by omega)
end Go.Proofs.YtmcmjcaigipoaaaGreat
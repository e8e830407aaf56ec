/-
  septumlaw15's model: what an op does to the model, with how many resources each thread has. Conditions: how many there are; priorities that are some.
-/
import Derived.Test.YtmcmjcaigipoaaaGreatModel14
import Derived.BigQuiet
import Derived.Test.YtmcmjcaigipoaaaGreatBest14
namespace Go.Sept
open Go.RowKit
structure Op15 where
  k : Int
  t : Int
  p : Int
  f : Bool
  n : Int
def doM15 (n : Nat) (s : Sim14) (hd : Nat → Nat) (o : Op15) : Bool × Sim14 × (Nat → Nat) :=
  if o.t < 0 ∨ (n : Int) ≤ o.t then (false, s, hd)
  else if o.k = 0 then (if s.st o.t.toNat = 0 then (false, s, hd) else (true, s.ready o.t.toNat, hd))
  else if o.k = 1 then (if s.st o.t.toNat = 0 then (true, s.unready o.t.toNat 2, hd) else (false, s, hd))
  else if o.k = 2 then (if 0 ≤ o.p ∧ o.p ≤ 15 then (true, s.change o.t.toNat o.p.toNat o.f, hd) else (false, s, hd))
  else if o.k = 3 then (true, s.yield o.t.toNat, hd)
  else if o.k = 4 then (true, s, updF hd o.t.toNat (o.n % 4).toNat)
  else (true, s, hd)
end Go.Sept
namespace Go.Proofs.YtmcmjcaigipoaaaGreat
open Go.RowKit Go.Sept

abbrev op15O (o : Op15) : Obj := .cells #[.int .u8 o.k, .int .i64 o.t, .int .i64 o.p, .bool o.f, .int .u8 o.n] 41
abbrev op15V (o : Op15) : Value := .agg #[.int .u8 o.k, .int .i64 o.t, .int .i64 o.p, .bool o.f, .int .u8 o.n]
/-- How many resources each thread has. -/
def Held15 (R : Nat → Option Value) (n : Nat) (hd : Nat → Nat) : Prop := ∀ t, t < n → ∃ ao c, R (t * 14 + 11) = some (.slice ao (hd t) c) ∧ hd t ≤ c ∧ c ≤ 1000
def updR (R : Nat → Option Value) (i : Nat) (v : Value) : Nat → Option Value := fun j => if j = i then some v else R j
/-- Another field of a thread turns. -/
theorem Mod14.put {R : Nat → Option Value} {L : Nat} {w : World} {M b n cap : Nat} {st : Nat → Int} {pr : Nat → Nat} {qs : Nat → List Int} (h : Mod14 R L w M b n cap st pr qs) {t i : Nat} (hi : i < 14) (h0 : i ≠ 0) (h2 : i ≠ 2) {u : Value} (hu : R (t * 14 + i) = some u) (v : Value) : Mod14 (updR R (t * 14 + i) v) L (w.setCell ⟨b, t * 14 + i, none⟩ v) M b n cap st pr qs := by
  obtain ⟨mo, h1, h3⟩ := h.blk
  obtain ⟨cs, h5, h6⟩ := h.thr
  have ho : Only (fun k => k = b) w (w.setCell ⟨b, t * 14 + i, none⟩ v) := (Only.self b w).own _ _
  refine ⟨⟨mo, (ho.block M (lt_of_block h1) h.ne).trans h1, h3⟩, h.room, ⟨_, block_setCell h5 _ _, fun j hj => ⟨?_, ?_⟩⟩, h.lst.only ho h.ne (fun k hk => hk.2.2), h.ne, h.size, fun cs2 h9 j hj => ?_⟩
  · exact set_other13 (h6 j hj).1 (by omega)
  · exact set_other13 (h6 j hj).2 (by omega)
  · have e := (block_setCell h5 _ _).symm.trans h9
    injection e with e
    injection e with e _
    rw [← e]
    have h7 := h.rest cs h5
    have hin : ∀ q, t * 14 + i ≠ q * 14 ∧ t * 14 + i ≠ q * 14 + 2 := fun q => by omega
    unfold updR
    by_cases ej : j = t * 14 + i
    · subst ej
      rw [if_pos rfl]
      exact set_same13 ((h7 _ hin).trans hu)
    · rw [if_neg ej]
      exact (Array.getElem?_setIfInBounds_ne (fun e => ej e.symm)).trans (h7 j hj)
theorem Mod14.cell {R : Nat → Option Value} {L : Nat} {w : World} {M b n cap : Nat} {st : Nat → Int} {pr : Nat → Nat} {qs : Nat → List Int} (h : Mod14 R L w M b n cap st pr qs) {t i : Nat} (hi : i < 14) (h0 : i ≠ 0) (h2 : i ≠ 2) {u : Value} (hu : R (t * 14 + i) = some u) : w.cell? ⟨b, t * 14 + i, none⟩ = some u ∧ w.frozen? ⟨b, t * 14 + i, none⟩ = false := by
  obtain ⟨cs, h5, _⟩ := h.thr
  exact ⟨(cell_of_block h5 _).trans ((h.rest cs h5 _ (fun q => by omega)).trans hu), frozen_of_block h5 _⟩

set_option maxRecDepth 100000 in
set_option maxHeartbeats 2000000 in
theorem model15_out {R : Nat → Option Value} {L : Nat} (w : World) (M b n cap : Nat) (s : Sim14) (h : Mods R L w M b n cap s) (o : Op15) (ho : o.t < 0 ∨ (n : Int) ≤ o.t) :
    Calls Tryz.prog 11 #[.pointer (some ⟨M, 0, none⟩), op15V o] w fun e w' => e = .returned (.bool false) ∧ Mods R L w' M b n cap s ∧ Only (fun k => k = M ∨ k = b) w w' := by
  obtain ⟨W, hW⟩ : ∃ W, w.alloc (op15O o) = W := ⟨_, rfl⟩
  obtain ⟨z, hz⟩ : ∃ z, w.heap.size = z := ⟨_, rfl⟩
  have hoW : Only (fun _ => False) w W := by rw [← hW]; exact (Only.refl _ _).alloc _
  have hbz : W.heap[z]? = some (op15O o) := by rw [← hW, ← hz]; exact heap_new _ _
  have hS := h.only hoW (fun h => h) (fun h => h) (fun _ _ h => h)
  obtain ⟨k, t, p, f, nn⟩ := o
  have c1 : W.cell? ⟨z, 1, none⟩ = some (.int .i64 t) := cell_of_block hbz 1
  obtain ⟨hc1, hc2, e2, _⟩ := hS.cells
  have HS := hid hS
  have HO := hid hoW
  simp only [op15O] at hW
  have ho' : t < 0 ∨ (n : Int) ≤ t := ho
  clear h hoW hbz hS ho
  go_enter Tryz.func11, Tryz.ntmps11
  go_upto_region 1 with fail
  clear hW hz
  by_cases h0 : t < 0
  · have hd : decide (t < 0) = true := decide_eq_true h0
    go_quiet (fail)
    have HQ : Hid (Only (fun _ => False) W (W.drewN nq)) := only_drewN (Only.refl _ _) nq
    go_wp2_with fail
    go_ret
    exact ⟨rfl, HS.out.only HQ.out (fun h => h) (fun h => h) (fun _ _ h => h), (HO.out.chain HQ.out (fun _ _ h => h)).mono (fun _ _ h => h.elim)⟩
  · have hd : decide (t < 0) = false := decide_eq_false h0
    have h1 : (n : Int) ≤ t := by omega
    go_quiet (fail)
    have HQ : Hid (Only (fun _ => False) W (W.drewN nq)) := only_drewN (Only.refl _ _) nq
    go_wp2_with fail
    go_ret
    exact ⟨rfl, HS.out.only HQ.out (fun h => h) (fun h => h) (fun _ _ h => h), (HO.out.chain HQ.out (fun _ _ h => h)).mono (fun _ _ h => h.elim)⟩

set_option maxRecDepth 100000 in
set_option maxHeartbeats 2000000 in
theorem model15_in {R : Nat → Option Value} {L : Nat} (w : World) (M b n cap : Nat) (s : Sim14) (hd : Nat → Nat) (h : Mods R L w M b n cap s) (hH : Held15 R n hd) (hL : L ≤ w.heap.size) (k p nn : Int) (t : Nat) (f : Bool) (ht : t < n) (hpr : ∀ t, t < n → s.pr t < 16) (hln : ∀ p, (s.qs p).length + 1 ≤ 1000) (hn0 : 0 ≤ nn) (hn1 : nn ≤ 255) :
    Calls Tryz.prog 11 #[.pointer (some ⟨M, 0, none⟩), op15V ⟨k, (t : Int), p, f, nn⟩] w fun e w' => e = .returned (.bool (doM15 n s hd ⟨k, (t : Int), p, f, nn⟩).1) ∧ (∃ R', Mods R' L w' M b n cap (doM15 n s hd ⟨k, (t : Int), p, f, nn⟩).2.1 ∧ Held15 R' n (doM15 n s hd ⟨k, (t : Int), p, f, nn⟩).2.2) ∧ Only (fun k => k = M ∨ k = b) w w' := by
  obtain ⟨W, hW⟩ : ∃ W, w.alloc (op15O ⟨k, (t : Int), p, f, nn⟩) = W := ⟨_, rfl⟩
  obtain ⟨z, hz⟩ : ∃ z, w.heap.size = z := ⟨_, rfl⟩
  have hoW : Only (fun _ => False) w W := by rw [← hW]; exact (Only.refl _ _).alloc _
  have hbz : W.heap[z]? = some (op15O ⟨k, (t : Int), p, f, nn⟩) := by rw [← hW, ← hz]; exact heap_new _ _
  have hS := h.only hoW (fun h => h) (fun h => h) (fun _ _ h => h)
  have HLW : Hid (L ≤ W.heap.size) := Nat.le_trans hL hoW.size
  have HBZ : Hid (∀ wx, Only (fun _ => False) W wx → wx.cell? ⟨z, 0, none⟩ = some (.int .u8 k) ∧ wx.cell? ⟨z, 1, none⟩ = some (.int .i64 (t : Int)) ∧ wx.cell? ⟨z, 2, none⟩ = some (.int .i64 p) ∧ wx.cell? ⟨z, 3, none⟩ = some (.bool f) ∧ wx.cell? ⟨z, 4, none⟩ = some (.int .u8 nn)) := fun wx ho => by
    have h9 := (ho.block z (lt_of_block hbz) (fun h => h)).trans hbz
    exact ⟨cell_of_block h9 0, cell_of_block h9 1, cell_of_block h9 2, cell_of_block h9 3, cell_of_block h9 4⟩
  obtain ⟨c0, c1, c2, c3, c4⟩ := HBZ.out W (Only.refl _ _)
  obtain ⟨hc1, hc2, e2, hth⟩ := hS.cells
  obtain ⟨k0, k2, z0, z2⟩ := hth t ht
  have HSW := hid hS
  have HOW : Hid (Only (fun k => k = M ∨ k = b) w W) := hoW.mono (fun _ _ h => h.elim)
  have HPR := hid hpr
  have HLN := hid hln
  have HH := hid hH
  have hn := h.size
  obtain ⟨DD, hDD⟩ : ∃ DD, doM15 n s hd ⟨k, (t : Int), p, f, nn⟩ = DD := ⟨_, rfl⟩
  have HR : Hid (DD = if k = 0 then (if s.st t = 0 then (false, s, hd) else (true, s.ready t, hd)) else if k = 1 then (if s.st t = 0 then (true, s.unready t 2, hd) else (false, s, hd)) else if k = 2 then (if 0 ≤ p ∧ p ≤ 15 then (true, s.change t p.toNat f, hd) else (false, s, hd)) else if k = 3 then (true, s.yield t, hd) else if k = 4 then (true, s, updF hd t (nn % 4).toNat) else (true, s, hd)) := by
    show _ = _
    rw [← hDD, doM15, if_neg (by show ¬ ((t : Int) < 0 ∨ (n : Int) ≤ (t : Int)); omega)]
    simp only [Int.toNat_natCast]
  rw [hDD]
  simp only [op15O] at hW
  have hd1 : decide ((t : Int) < 0) = false := decide_eq_false (by omega)
  have hd2 : ¬ ((n : Int) ≤ (t : Int)) := by omega
  clear h hoW hbz hS hth hDD hpr hln hL hH
  go_enter Tryz.func11, Tryz.ntmps11
  go_upto_region 1 with fail
  clear hW hz
  go_quiet (fail)
  obtain ⟨X, hX⟩ : ∃ X, W.drewN nq = X := ⟨_, rfl⟩
  have HX : Hid (Only (fun _ => False) W X) := by rw [← hX]; exact only_drewN (Only.refl _ _) nq
  have HSX := hid (HSW.out.only HX.out (fun h => h) (fun h => h) (fun _ _ h => h))
  have HOX : Hid (Only (fun k => k = M ∨ k = b) w X) := HOW.out.chain HX.out (fun _ _ h => h.elim)
  have HLX : Hid (L ≤ X.heap.size) := Nat.le_trans HLW.out HX.out.size
  rw [hX]
  obtain ⟨d0, d1, d2, d3, d4⟩ := HBZ.out X HX.out
  obtain ⟨_, _, e3, hth3⟩ := HSX.out.cells
  obtain ⟨j0, j2, y0, y2⟩ := hth3 t ht
  clear hX hth3 c0 c1 c2 c3 c4 e2 k0 k2 z0 z2 hd1
  go_upto_region 3 with fail
  go_quiet (fail)
  obtain ⟨Y, hY⟩ : ∃ Y, X.drewN nq = Y := ⟨_, rfl⟩
  have HY : Hid (Only (fun _ => False) X Y) := by rw [← hY]; exact only_drewN (Only.refl _ _) nq
  have HSY := hid (HSX.out.only HY.out (fun h => h) (fun h => h) (fun _ _ h => h))
  have HOY : Hid (Only (fun k => k = M ∨ k = b) w Y) := HOX.out.chain HY.out (fun _ _ h => h.elim)
  have HLY : Hid (L ≤ Y.heap.size) := Nat.le_trans HLX.out HY.out.size
  rw [hY]
  have HBY := hid (HX.out.chain HY.out (fun _ _ h => h))
  obtain ⟨g0, g1, g2, g3, g4⟩ := HBZ.out Y HBY.out
  obtain ⟨_, _, e4, hth4⟩ := HSY.out.cells
  obtain ⟨u0, u2, v0, v2⟩ := hth4 t ht
  have HLN2 : Hid (∀ p, (s.qs p).length ≤ 1000) := fun p => by have := HLN.out p; omega
  clear hY hth4 d0 d1 d2 d3 d4 e3 j0 j2 y0 y2 HSW HOW HLW HSX HOX HLX HX HY hd2
  by_cases h0 : k = 0
  · have hk : (k == 0) = true := beq_iff_eq.2 h0
    by_cases hs0 : s.st t = 0
    · have HRV : Hid (DD = (false, s, hd)) := by show _ = _; rw [HR.out, if_pos h0, if_pos hs0]
      rw [hs0] at u0
      clear h0 hs0 HR
      go_wp2_with fail
      go_ret
      rw [HRV.out]
      exact ⟨rfl, ⟨R, HSY.out, HH.out⟩, HOY.out⟩
    · have HRV : Hid (DD = (true, s.ready t, hd)) := by show _ = _; rw [HR.out, if_pos h0, if_neg hs0]
      have hb : (s.st t == 0) = false := beq_eq_false_iff_ne.2 hs0
      clear h0 hs0 HR
      go_wp2_with fail
      refine (setReady14 Y M b n cap _ _ _ HSY.out HLY.out t ht (HPR.out t ht) HLN2.out).mono ?_
      rintro e w5 ⟨rfl, hm5, ho5⟩
      have HM5 := hid hm5
      have HO5 := hid (HOY.out.chain ho5 (fun _ _ h => h))
      clear hm5 ho5
      go_wp2_with fail
      go_ret
      rw [HRV.out]
      exact ⟨rfl, ⟨R, HM5.out, HH.out⟩, HO5.out⟩
  have hk0 : (k == 0) = false := beq_eq_false_iff_ne.2 h0
  by_cases h1 : k = 1
  · have hk : (k == 1) = true := beq_iff_eq.2 h1
    by_cases hs0 : s.st t = 0
    · have HRV : Hid (DD = (true, s.unready t 2, hd)) := by show _ = _; rw [HR.out, if_neg h0, if_pos h1, if_pos hs0]
      have hb : (s.st t != 0) = false := by rw [hs0]; rfl
      clear h0 h1 hs0 HR
      go_wp2_with fail
      refine (unready14 Y M b n cap _ _ _ HSY.out HLY.out t ht (HPR.out t ht) HLN2.out 2).mono ?_
      rintro e w5 ⟨rfl, hm5, ho5⟩
      have HM5 := hid hm5
      have HO5 := hid (HOY.out.chain ho5 (fun _ _ h => h))
      clear hm5 ho5
      go_wp2_with fail
      go_ret
      rw [HRV.out]
      exact ⟨rfl, ⟨R, HM5.out, HH.out⟩, HO5.out⟩
    · have HRV : Hid (DD = (false, s, hd)) := by show _ = _; rw [HR.out, if_neg h0, if_pos h1, if_neg hs0]
      have hb : (s.st t != 0) = true := bne_iff_ne.2 hs0
      clear h0 h1 hs0 HR
      go_wp2_with fail
      go_ret
      rw [HRV.out]
      exact ⟨rfl, ⟨R, HSY.out, HH.out⟩, HOY.out⟩
  have hk1 : (k == 1) = false := beq_eq_false_iff_ne.2 h1
  by_cases h2 : k = 2
  · have hk : (k == 2) = true := beq_iff_eq.2 h2
    by_cases hpp : 0 ≤ p ∧ p ≤ 15
    · have HRV : Hid (DD = (true, s.change t p.toNat f, hd)) := by show _ = _; rw [HR.out, if_neg h0, if_neg h1, if_pos h2, if_pos hpp]
      obtain ⟨q, rfl⟩ : ∃ q : Nat, p = (q : Int) := ⟨p.toNat, by omega⟩
      have hq16 : q < 16 := by omega
      have hqi : (q : Int) ≤ 15 := by omega
      have hq0 : ¬ (q : Int) < 0 := by omega
      have hq1 : ¬ (15 < (q : Int)) := by omega
      rw [Int.toNat_natCast] at HRV
      clear h0 h1 h2 HR hpp
      go_wp2_with fail
      refine (change14 Y M b n cap _ _ _ HSY.out HLY.out t ht (HPR.out t ht) HLN2.out q hq16 f (HLN.out q)).mono ?_
      rintro e w5 ⟨rfl, hm5, ho5⟩
      have HM5 := hid hm5
      have HO5 := hid (HOY.out.chain ho5 (fun _ _ h => h))
      clear hm5 ho5
      go_wp2_with fail
      go_ret
      rw [HRV.out]
      exact ⟨rfl, ⟨R, HM5.out, HH.out⟩, HO5.out⟩
    · have HRV : Hid (DD = (false, s, hd)) := by show _ = _; rw [HR.out, if_neg h0, if_neg h1, if_pos h2, if_neg hpp]
      clear h0 h1 h2 HR
      rcases (show p < 0 ∨ (0 ≤ p ∧ 15 < p) by omega) with p1 | ⟨p1, p2⟩
      all_goals
        clear hpp
        go_wp2_with fail
        go_ret
        rw [HRV.out]
        exact ⟨rfl, ⟨R, HSY.out, HH.out⟩, HOY.out⟩
  have hk2 : (k == 2) = false := beq_eq_false_iff_ne.2 h2
  by_cases h3 : k = 3
  · have hk : (k == 3) = true := beq_iff_eq.2 h3
    have HRV : Hid (DD = (true, s.yield t, hd)) := by show _ = _; rw [HR.out, if_neg h0, if_neg h1, if_neg h2, if_pos h3]
    clear h0 h1 h2 h3 HR
    go_wp2_with fail
    refine (yield14 Y M b n cap _ _ _ HSY.out HLY.out t ht (HPR.out t ht) HLN2.out).mono ?_
    rintro e w5 ⟨rfl, hm5, ho5⟩
    have HM5 := hid hm5
    have HO5 := hid (HOY.out.chain ho5 (fun _ _ h => h))
    clear hm5 ho5
    go_wp2_with fail
    go_ret
    rw [HRV.out]
    exact ⟨rfl, ⟨R, HM5.out, HH.out⟩, HO5.out⟩
  have hk3 : (k == 3) = false := beq_eq_false_iff_ne.2 h3
  by_cases h4 : k = 4
  · have hk : (k == 4) = true := beq_iff_eq.2 h4
    have HRV : Hid (DD = (true, s, updF hd t (nn % 4).toNat)) := by show _ = _; rw [HR.out, if_neg h0, if_neg h1, if_neg h2, if_neg h3, if_pos h4]
    obtain ⟨q, hq⟩ : ∃ q : Nat, nn % 4 = (q : Int) := ⟨(nn % 4).toNat, by omega⟩
    have HQ4 : Hid (q < 4) := by show _ < _; omega
    rw [hq, Int.toNat_natCast] at HRV
    obtain ⟨ao, c, hRc, hc3, hc4⟩ := HH.out t ht
    obtain ⟨q1, q2⟩ := HSY.out.cell (t := t) (i := 11) (by decide) (by decide) (by decide) hRc
    clear h0 h1 h2 h3 h4 HR
    have hmk : ∀ w : World, (Instr.makeSlice 30 (.int .u8 (q : Int)) (.int .u8 (q : Int))).run Tryz.prog w = .ok (.slice (some ⟨w.heap.size, 0, none⟩) q q) (w.alloc (.cells (madeCells #[.int .i64 0] q) 3)) := fun w => run_make_row' (P := Tryz.prog) 30 3 (.int .i64 0) 8 Tryz.underlying30 infoInt13 rfl .u8 .u8 q (by omega) (by omega) w
    have HSA := hid (HSY.out.only ((Only.refl (fun _ => False) Y).alloc (.cells (madeCells #[.int .i64 0] q) 3)) (fun h => h) (fun h => h) (fun _ _ h => h))
    obtain ⟨r1, r2⟩ := HSA.out.cell (t := t) (i := 11) (by decide) (by decide) (by decide) hRc
    have HFIN : Hid (∃ R', Mods R' L ((Y.alloc (.cells (madeCells #[.int .i64 0] q) 3)).setCell ⟨b, t * 14 + 11, none⟩ (.slice (some ⟨Y.heap.size, 0, none⟩) q q)) M b n cap s ∧ Held15 R' n (updF hd t q)) := by
      refine ⟨_, HSA.out.put (t := t) (i := 11) (by decide) (by decide) (by decide) hRc (.slice (some ⟨Y.heap.size, 0, none⟩) q q), fun i hi => ?_⟩
      unfold updR updF
      by_cases e : i = t
      · rw [if_pos (by rw [e]), if_pos e]
        exact ⟨_, _, rfl, Nat.le_refl _, by omega⟩
      · rw [if_neg (by omega), if_neg e]
        exact HH.out i hi
    have HOF : Hid (Only (fun k => k = M ∨ k = b) w ((Y.alloc (.cells (madeCells #[.int .i64 0] q) 3)).setCell ⟨b, t * 14 + 11, none⟩ (.slice (some ⟨Y.heap.size, 0, none⟩) q q))) := (HOY.out.alloc _).chain ((Only.self b _).own _ _) (fun _ _ e => .inr e)
    clear HSA HSY HOY hRc HH
    go_wp2_with fail
    go_ret
    rw [HRV.out]
    exact ⟨rfl, HFIN.out, HOF.out⟩
  · have hk : (k == 4) = false := beq_eq_false_iff_ne.2 h4
    have HRV : Hid (DD = (true, s, hd)) := by show _ = _; rw [HR.out, if_neg h0, if_neg h1, if_neg h2, if_neg h3, if_neg h4]
    clear h0 h1 h2 h3 h4 HR
    go_wp2_with fail
    go_ret
    rw [HRV.out]
    exact ⟨rfl, ⟨R, HSY.out, HH.out⟩, HOY.out⟩
end Go.Proofs.YtmcmjcaigipoaaaGreat

/-
  What package ready's calls leave alone: each word that is none of the queue's, and no state or priority; a partition's memory with how many resources each thread has, and who runs. Conditions: as each says.
-/
namespace Go.Sept
open Go.RowKit
section
variable {N n mo : Nat} {m : Sim14} {xs : List Int}
theorem val_ne {xs : List Int} {a c : Int} (v : Int) (h : c ≠ a) : valA (setA xs a v) c = valA xs c := val_other v h
theorem add_keep {st : Nat → Int} {pr : Nat → Nat} {qs : Nat → List Int} (h : Raw14 N n mo st pr qs xs) (hN : N ≤ 4000) {p t : Nat} (hp : p < 16) (ht : t < n) (hno : ∀ q, q < 16 → (t : Int) ∉ qs q) : ∀ c, QElse n mo c → valA (aft (qAddT 8 (nodeA mo (t : Int)) (p : Int)) xs) c = valA xs c :=
  (h.ring.add hp (j := (t : Int)) (by omega) (by omega) hN hno).2
theorem front_keep {st : Nat → Int} {pr : Nat → Nat} {qs : Nat → List Int} (h : Raw14 N n mo st pr qs xs) (hN : N ≤ 4000) {p t : Nat} (hp : p < 16) (ht : t < n) (hno : ∀ q, q < 16 → (t : Int) ∉ qs q) : ∀ c, QElse n mo c → valA (aft (qFrontT 8 (nodeA mo (t : Int)) (p : Int)) xs) c = valA xs c :=
  (h.ring.front hp (j := (t : Int)) (by omega) (by omega) hN hno).2
theorem drop_keep {st : Nat → Int} {pr : Nat → Nat} {qs : Nat → List Int} (h : Raw14 N n mo st pr qs xs) (hN : N ≤ 4000) {p t : Nat} (hp : p < 16) (hm : (t : Int) ∈ qs p) : ∀ c, QElse n mo c → valA (aft (qDropT 8 (nodeA mo (t : Int)) (p : Int)) xs) c = valA xs c := by
  obtain ⟨A, B, e⟩ := List.append_of_mem hm
  exact (h.ring.drop hp e hN).2

/-- A word that no call of package ready's turns. -/
def Apart15 (n mo : Nat) (t : Nat) (c : Int) : Prop := QElse n mo c ∧ c ≠ nodeA mo (t : Int) + 5 ∧ c ≠ nodeA mo (t : Int) + 7
theorem ready_keep (hN : N ≤ 4000) (hs : SimOk n m) (h : Raw14 N n mo m.st m.pr m.qs xs) {t : Nat} (ht : t < n) (h0 : m.st t ≠ 0) {c : Int} (hc : Apart15 n mo t c) : valA (aft (readyT n mo (t : Int)) xs) c = valA xs c := by
  have e : aft (readyT n mo (t : Int)) xs = aft (qAddT 8 (nodeA mo (t : Int)) (m.pr t : Int)) (setA xs (nodeA mo (t : Int) + 5) 0) := by
    unfold readyT
    rw [if_pos ⟨by omega, by omega⟩]
    refine (aft_bind _ _ _).trans ?_
    rw [aft_isReady, h.isReady ht, if_neg (fun e => h0 (beq_iff_eq.1 e))]
    refine (aft_bind _ _ _).trans ?_
    rw [aft_prio, h.prioAt ht (hs.pr t ht), if_pos rfl]
    refine (aft_bind _ _ _).trans ?_
    rw [aft_setIn (by omega) (by omega) (by decide) (by decide), node_at ⟨by omega, by omega⟩, show nodeA mo (t : Int) + (5 + 0) = nodeA mo (t : Int) + 5 by omega]
  rw [e, add_keep (h.setState ht 0) hN (hs.pr t ht) ht (fun q _ => hs.none h0 q) c hc.1]
  exact val_ne _ hc.2.1
theorem unready_keep (hN : N ≤ 4000) (hs : SimOk n m) (h : Raw14 N n mo m.st m.pr m.qs xs) {t : Nat} (ht : t < n) (h0 : m.st t = 0) {s : Int} (hss : 1 ≤ s ∧ s ≤ 3) {c : Int} (hc : Apart15 n mo t c) : valA (aft (unreadyT (qDropT 8 (tplaceV n mo (t : Int) 0)) n mo (t : Int) s) xs) c = valA xs c := by
  have e : aft (unreadyT (qDropT 8 (tplaceV n mo (t : Int) 0)) n mo (t : Int) s) xs = setA (aft (qDropT 8 (nodeA mo (t : Int)) (m.pr t : Int)) xs) (nodeA mo (t : Int) + 5) s := by
    unfold unreadyT
    rw [if_pos hss]
    refine (aft_bind _ _ _).trans ?_
    rw [aft_stand, h.stand ht (hs.pr t ht), if_pos h0, if_pos rfl]
    refine (aft_bind _ _ _).trans ?_
    rw [aft_setIn (by omega) (by omega) (by decide) (by decide), node_at ⟨by omega, by omega⟩, show nodeA mo (t : Int) + (5 + 0) = nodeA mo (t : Int) + 5 by omega]
  rw [e, val_ne _ hc.2.1]
  exact drop_keep h hN (hs.pr t ht) (hs.has t ht h0) c hc.1
theorem change_keep (hN : N ≤ 4000) (hs : SimOk n m) (h : Raw14 N n mo m.st m.pr m.qs xs) {t : Nat} (ht : t < n) {p : Nat} (hp : p < 16) (first : Bool) {c : Int} (hc : Apart15 n mo t c) : valA (aft (changeT (qDropT 8 (tplaceV n mo (t : Int) 0)) n mo (t : Int) (p : Int) first) xs) c = valA xs c := by
  by_cases h0 : m.st t = 0
  · have hd := (h.drop hN (hs.pr t ht) (hs.has t ht h0)).setPrio ht p
    have e : aft (changeT (qDropT 8 (tplaceV n mo (t : Int) 0)) n mo (t : Int) (p : Int) first) xs = aft (if first = true then qFrontT 8 (nodeA mo (t : Int)) (p : Int) else qAddT 8 (nodeA mo (t : Int)) (p : Int)) (setA (aft (qDropT 8 (nodeA mo (t : Int)) (m.pr t : Int)) xs) (nodeA mo (t : Int) + 7) (p : Int)) := by
      unfold changeT
      rw [if_pos ⟨⟨by omega, by omega⟩, by omega, by omega⟩]
      refine (aft_bind _ _ _).trans ?_
      rw [aft_isReady, h.isReady ht, if_pos (beq_iff_eq.2 h0)]
      refine (aft_bind _ _ _).trans ?_
      rw [aft_prio, h.prioAt ht (hs.pr t ht), if_pos rfl]
      refine (aft_bind _ _ _).trans ?_
      refine (aft_bind _ _ _).trans ?_
      rw [aft_setIn (by omega) (by omega) (by decide) (by decide), node_at ⟨by omega, by omega⟩, show nodeA mo (t : Int) + (5 + 2) = nodeA mo (t : Int) + 7 by omega]
    have e2 : valA (setA (aft (qDropT 8 (nodeA mo (t : Int)) (m.pr t : Int)) xs) (nodeA mo (t : Int) + 7) (p : Int)) c = valA xs c := (val_ne _ hc.2.2).trans (drop_keep h hN (hs.pr t ht) (hs.has t ht h0) c hc.1)
    rw [e, ← e2]
    cases first
    · rw [if_neg (by decide)]
      exact add_keep hd hN hp ht (fun q _ => hs.less q) c hc.1
    · rw [if_pos rfl]
      exact front_keep hd hN hp ht (fun q _ => hs.less q) c hc.1
  · have e : aft (changeT (qDropT 8 (tplaceV n mo (t : Int) 0)) n mo (t : Int) (p : Int) first) xs = setA xs (nodeA mo (t : Int) + 7) (p : Int) := by
      unfold changeT
      rw [if_pos ⟨⟨by omega, by omega⟩, by omega, by omega⟩]
      refine (aft_bind _ _ _).trans ?_
      rw [aft_isReady, h.isReady ht, if_neg (fun e => h0 (beq_iff_eq.1 e))]
      refine (aft_bind _ _ _).trans ?_
      rw [aft_setIn (by omega) (by omega) (by decide) (by decide), show nodeA mo (t : Int) + (5 + 2) = nodeA mo (t : Int) + 7 by omega]
      exact aft_ret _ _
    rw [e]
    exact val_ne _ hc.2.2
theorem yield_keep (hN : N ≤ 4000) (hs : SimOk n m) (h : Raw14 N n mo m.st m.pr m.qs xs) {t : Nat} (ht : t < n) {c : Int} (hc : Apart15 n mo t c) : valA (aft (yieldT (qDropT 8 (tplaceV n mo (t : Int) 0)) n mo (t : Int)) xs) c = valA xs c := by
  by_cases h0 : m.st t = 0
  · have hd := h.drop hN (hs.pr t ht) (hs.has t ht h0)
    have e : aft (yieldT (qDropT 8 (tplaceV n mo (t : Int) 0)) n mo (t : Int)) xs = aft (qAddT 8 (nodeA mo (t : Int)) (m.pr t : Int)) (aft (qDropT 8 (nodeA mo (t : Int)) (m.pr t : Int)) xs) := by
      unfold yieldT
      refine (aft_bind _ _ _).trans ?_
      rw [aft_stand, h.stand ht (hs.pr t ht), if_pos h0, if_pos rfl]
      refine (aft_bind _ _ _).trans ?_
      rw [node_at ⟨by omega, by omega⟩]
    rw [e, add_keep hd hN (hs.pr t ht) ht (fun q _ => hs.less q) c hc.1]
    exact drop_keep h hN (hs.pr t ht) (hs.has t ht h0) c hc.1
  · have e : aft (yieldT (qDropT 8 (tplaceV n mo (t : Int) 0)) n mo (t : Int)) xs = xs := by
      unfold yieldT
      refine (aft_bind _ _ _).trans ?_
      rw [aft_stand, h.stand ht (hs.pr t ht), if_neg h0, if_neg (fun e => Bool.noConfusion e)]
      exact aft_ret _ _
    rw [e]
end

/-- A partition's memory: its queue, states and priorities, how many resources each thread has, who runs (-1: nobody). -/
structure Raw15 (N n mo : Nat) (s : Sim14) (hd : Nat → Nat) (a b : Int) (xs : List Int) : Prop where
  raw : Raw14 N n mo s.st s.pr s.qs xs
  hld : ∀ t, t < n → valA xs (nodeA mo (t : Int) + 15) = (hd t : Int)
  c0 : valA xs 3 = a + 1
  c1 : valA xs 5 = b + 1
section
variable {N n mo : Nat} {s s' : Sim14} {hd : Nat → Nat} {a b : Int} {xs ys : List Int}
/-- Where only package ready's words have turned. -/
theorem Raw15.calls (h : Raw15 N n mo s hd a b xs) {t : Nat} (hr : Raw14 N n mo s'.st s'.pr s'.qs ys) (hk : ∀ c, Apart15 n mo t c → valA ys c = valA xs c) : Raw15 N n mo s' hd a b ys := by
  have low : ∀ c : Int, 0 ≤ c → c < 8 → Apart15 n mo t c := fun c h0 h1 => ⟨QElse.low (.inl h1), by unfold nodeA; omega, by unfold nodeA; omega⟩
  refine ⟨hr, fun i hi => ?_, (hk 3 (low 3 (by decide) (by decide))).trans h.c0, (hk 5 (low 5 (by decide) (by decide))).trans h.c1⟩
  refine (hk _ ⟨QElse.field (by omega) (by decide) (by decide), ?_, ?_⟩).trans (h.hld i hi) <;> (unfold nodeA; omega)
/-- A word of the kernel's first ones, or a thread's HELD, turns. -/
theorem Raw15.held (h : Raw15 N n mo s hd a b xs) {t : Nat} (ht : t < n) (q : Nat) : Raw15 N n mo s (updF hd t q) a b (setA xs (nodeA mo (t : Int) + 15) (q : Int)) := by
  obtain ⟨h1, h2, h3⟩ := h.raw.field_at ht (d := 15) (by decide) (by decide)
  refine ⟨⟨h.raw.ring.set h1 (q : Int), fun i hi => ?_, fun i hi => ?_⟩, fun i hi => ?_, ?_, ?_⟩
  · rw [val_ne _ (by unfold nodeA; omega)]
    exact h.raw.st i hi
  · rw [val_ne _ (by unfold nodeA; omega)]
    exact h.raw.pr i hi
  · rw [val_set h2 h3]
    unfold updF
    by_cases e : i = t
    · rw [if_pos e, if_pos (by rw [e])]
    · rw [if_neg e, if_neg (by unfold nodeA; omega)]
      exact h.hld i hi
  · rw [val_ne _ (by unfold nodeA; omega)]
    exact h.c0
  · rw [val_ne _ (by unfold nodeA; omega)]
    exact h.c1
theorem Raw15.low (h : Raw15 N n mo s hd a b xs) {c v : Int} (h0 : 0 ≤ c) (h8 : c < 8) (a' b' : Int) (ha : valA (setA xs c v) 3 = a' + 1) (hb : valA (setA xs c v) 5 = b' + 1) : Raw15 N n mo s hd a' b' (setA xs c v) := by
  have hne : ∀ i : Nat, ∀ d : Int, 0 ≤ d → nodeA mo (i : Int) + d ≠ c := fun i d hd0 => by unfold nodeA; omega
  exact ⟨⟨h.raw.ring.set (QElse.low (.inl h8)) v, fun i hi => (val_ne _ (hne i 5 (by decide))).trans (h.raw.st i hi), fun i hi => (val_ne _ (hne i 7 (by decide))).trans (h.raw.pr i hi)⟩, fun i hi => (val_ne _ (hne i 15 (by decide))).trans (h.hld i hi), ha, hb⟩
end

/-- What an op of septumlaw15's leaves in the words, but a dispatch. -/
def aftOp15 (n mo : Nat) (o : Op15) (xs : List Int) : List Int :=
  if o.k = 0 then aft (readyT n mo o.t) xs else if o.k = 1 then aft (unreadyT (qDropT 8 (tplaceV n mo o.t 0)) n mo o.t 2) xs
  else if o.k = 2 then aft (changeT (qDropT 8 (tplaceV n mo o.t 0)) n mo o.t o.p o.f) xs else if o.k = 3 then aft (yieldT (qDropT 8 (tplaceV n mo o.t 0)) n mo o.t) xs else aft (setT n mo o.t 10 (o.n % 4)) xs
theorem op_raw15 {N n mo : Nat} {s : Sim14} {hd : Nat → Nat} {a b : Int} {xs : List Int} (hN : N ≤ 4000) (hs : SimOk n s) (h : Raw15 N n mo s hd a b xs) (o : Op15) (hk : o.k ≤ 4) (hk0 : 0 ≤ o.k) (hn : 0 ≤ o.n) (hd1 : (doM15 n s hd o).1 = true) :
    SimOk n (doM15 n s hd o).2.1 ∧ Raw15 N n mo (doM15 n s hd o).2.1 (doM15 n s hd o).2.2 a b (aftOp15 n mo o xs) := by
  obtain ⟨k, t', p', f, nn⟩ := o
  unfold doM15 at hd1 ⊢
  unfold aftOp15
  simp only at hk hk0 hn hd1 ⊢
  by_cases ht : t' < 0 ∨ (n : Int) ≤ t'
  · rw [if_pos ht] at hd1
    cases hd1
  · rw [if_neg ht] at hd1 ⊢
    obtain ⟨t, rfl⟩ : ∃ t : Nat, t' = (t : Int) := ⟨t'.toNat, by omega⟩
    have htn : t < n := by omega
    simp only [Int.toNat_natCast] at hd1 ⊢
    by_cases k0 : k = 0
    · rw [if_pos k0] at hd1 ⊢
      rw [if_pos k0]
      by_cases s0 : s.st t = 0
      · rw [if_pos s0] at hd1
        cases hd1
      · rw [if_neg s0]
        exact ⟨hs.ready htn s0, h.calls (t := t) (ready_raw hN hs h.raw htn s0) (fun c hc => ready_keep hN hs h.raw htn s0 hc)⟩
    · rw [if_neg k0] at hd1 ⊢
      rw [if_neg k0]
      by_cases k1 : k = 1
      · rw [if_pos k1] at hd1 ⊢
        rw [if_pos k1]
        by_cases s0 : s.st t = 0
        · rw [if_pos s0]
          exact ⟨hs.unready (by decide), h.calls (t := t) (unready_raw hN hs h.raw htn s0 ⟨by decide, by decide⟩) (fun c hc => unready_keep hN hs h.raw htn s0 ⟨by decide, by decide⟩ hc)⟩
        · rw [if_neg s0] at hd1
          cases hd1
      · rw [if_neg k1] at hd1 ⊢
        rw [if_neg k1]
        by_cases k2 : k = 2
        · rw [if_pos k2] at hd1 ⊢
          rw [if_pos k2]
          by_cases hp : 0 ≤ p' ∧ p' ≤ 15
          · rw [if_pos hp]
            obtain ⟨p, rfl⟩ : ∃ p : Nat, p' = (p : Int) := ⟨p'.toNat, by omega⟩
            simp only [Int.toNat_natCast]
            exact ⟨hs.change htn (by omega) f, h.calls (t := t) (change_raw hN hs h.raw htn (by omega) f) (fun c hc => change_keep hN hs h.raw htn (by omega) f hc)⟩
          · rw [if_neg hp] at hd1
            cases hd1
        · rw [if_neg k2] at hd1 ⊢
          rw [if_neg k2]
          by_cases k3 : k = 3
          · rw [if_pos k3]
            rw [if_pos k3]
            exact ⟨hs.yield htn, h.calls (t := t) (yield_raw hN hs h.raw htn) (fun c hc => yield_keep hN hs h.raw htn hc)⟩
          · rw [if_neg k3]
            rw [if_neg k3]
            have k4 : k = 4 := by omega
            rw [if_pos k4]
            obtain ⟨q, hq⟩ : ∃ q : Nat, nn % 4 = (q : Int) := ⟨(nn % 4).toNat, by omega⟩
            rw [hq, Int.toNat_natCast, aft_setIn (by omega) (by omega) (by decide) (by decide), show nodeA mo (t : Int) + (5 + 10) = nodeA mo (t : Int) + 15 by omega]
            exact ⟨hs, h.held htn q⟩
end Go.Sept

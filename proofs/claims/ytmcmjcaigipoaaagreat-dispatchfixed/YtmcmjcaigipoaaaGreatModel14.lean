/-
  septumref13's Model: who is ready, and each thread's state and priority (SetReady, Unready, Change, Yield). Conditions: there is such a thread; how many there are.
-/
import Derived.Test.YtmcmjcaigipoaaaGreatAdd13
import Derived.Test.YtmcmjcaigipoaaaGreatNew13
import Derived.BigQuiet
namespace Go.Sept
open Go.RowKit
/-- The lists that a thread's turn leaves. -/
def putL (qs : Nat → List Int) (p : Nat) (L : List Int) : Nat → List Int := fun i => if i = p then L else qs i
def updF {α : Type} (f : Nat → α) (t : Nat) (x : α) : Nat → α := fun i => if i = t then x else f i
end Go.Sept
namespace Go.Proofs.YtmcmjcaigipoaaaGreat
open Go.RowKit Go.Sept

abbrev mdP (L M b : Nat) : Nat → Prop := fun k => L ≤ k ∧ k ≠ M ∧ k ≠ b
/-- A model in block M, whose threads lie in block b from its beginning: n threads with their states and priorities, and its sixteen lists, in blocks from L on. -/
structure Mod14 (R : Nat → Option Value) (L : Nat) (w : World) (M b n cap : Nat) (st : Nat → Int) (pr : Nat → Nat) (qs : Nat → List Int) : Prop where
  blk : ∃ mo, w.heap[M]? = some (.cells mo 90) ∧ mo[2]? = some (.slice (some ⟨b, 0, none⟩) n cap)
  room : n ≤ cap ∧ cap ≤ 9223372036854775807
  thr : ∃ cs, w.heap[b]? = some (.cells cs 100) ∧ ∀ t, t < n → cs[t * 14]? = some (.int .i64 (st t)) ∧ cs[t * 14 + 2]? = some (.int .i64 (pr t : Int))
  lst : QIs (mdP L M b) w M 4 qs
  ne : M ≠ b
  size : n ≤ 1000
  rest : ∀ cs, w.heap[b]? = some (.cells cs 100) → ∀ j, (∀ t, j ≠ t * 14 ∧ j ≠ t * 14 + 2) → cs[j]? = R j
section
variable {R : Nat → Option Value} {L : Nat} {w w' : World} {M b n cap : Nat} {st : Nat → Int} {pr : Nat → Nat} {qs : Nat → List Int}
theorem Mod14.only {S : Nat → Prop} (h : Mod14 R L w M b n cap st pr qs) (ho : Only S w w') (hM : ¬ S M) (hb : ¬ S b) (hP : ∀ k, L ≤ k → ¬ S k) : Mod14 R L w' M b n cap st pr qs := by
  obtain ⟨mo, h1, h2⟩ := h.blk
  obtain ⟨cs, h4, h5⟩ := h.thr
  exact ⟨⟨mo, (ho.block M (lt_of_block h1) hM).trans h1, h2⟩, h.room, ⟨cs, (ho.block b (lt_of_block h4) hb).trans h4, h5⟩, h.lst.only ho hM (fun k hk => hP k hk.1), h.ne, h.size, fun cs2 h9 => h.rest cs2 ((ho.block b (lt_of_block h4) hb).symm.trans h9)⟩
/-- What is read of it. -/
theorem Mod14.cells (h : Mod14 R L w M b n cap st pr qs) : n ≤ cap ∧ cap ≤ 9223372036854775807 ∧ w.cell? ⟨M, 2, none⟩ = some (.slice (some ⟨b, 0, none⟩) n cap) ∧ ∀ t, t < n → w.cell? ⟨b, t * 14, none⟩ = some (.int .i64 (st t)) ∧ w.cell? ⟨b, t * 14 + 2, none⟩ = some (.int .i64 (pr t : Int)) ∧ w.frozen? ⟨b, t * 14, none⟩ = false ∧ w.frozen? ⟨b, t * 14 + 2, none⟩ = false := by
  obtain ⟨mo, h1, h2⟩ := h.blk
  obtain ⟨cs, h5, h6⟩ := h.thr
  refine ⟨h.room.1, h.room.2, (cell_of_block h1 2).trans h2, fun t ht => ⟨(cell_of_block h5 _).trans (h6 t ht).1, (cell_of_block h5 _).trans (h6 t ht).2, frozen_of_block h5 _, frozen_of_block h5 _⟩⟩
theorem Mod14.state (h : Mod14 R L w M b n cap st pr qs) (t : Nat) (x : Int) : Mod14 R L (w.setCell ⟨b, t * 14, none⟩ (.int .i64 x)) M b n cap (updF st t x) pr qs := by
  obtain ⟨mo, h1, h2⟩ := h.blk
  obtain ⟨cs, h5, h6⟩ := h.thr
  have ho : Only (fun k => k = b) w (w.setCell ⟨b, t * 14, none⟩ (.int .i64 x)) := (Only.self b w).own _ _
  refine ⟨⟨mo, (ho.block M (lt_of_block h1) h.ne).trans h1, h2⟩, h.room, ⟨_, block_setCell h5 _ _, fun i hi => ⟨?_, ?_⟩⟩, h.lst.only ho h.ne (fun k hk => hk.2.2), h.ne, h.size, fun cs2 h9 j hj => ?_⟩
  · by_cases e : i = t
    · subst e
      unfold updF
      rw [if_pos rfl]
      exact set_same13 (h6 i hi).1
    · unfold updF
      rw [if_neg e]
      exact set_other13 (h6 i hi).1 (by omega)
  · exact set_other13 (h6 i hi).2 (by omega)
  · have e := (block_setCell h5 _ _).symm.trans h9
    injection e with e
    injection e with e _
    rw [← e]
    exact (Array.getElem?_setIfInBounds_ne (fun e => (hj t).1 e.symm)).trans (h.rest cs h5 j hj)
theorem Mod14.prio (h : Mod14 R L w M b n cap st pr qs) (t : Nat) (x : Nat) : Mod14 R L (w.setCell ⟨b, t * 14 + 2, none⟩ (.int .i64 (x : Int))) M b n cap st (updF pr t x) qs := by
  obtain ⟨mo, h1, h2⟩ := h.blk
  obtain ⟨cs, h5, h6⟩ := h.thr
  have ho : Only (fun k => k = b) w (w.setCell ⟨b, t * 14 + 2, none⟩ (.int .i64 (x : Int))) := (Only.self b w).own _ _
  refine ⟨⟨mo, (ho.block M (lt_of_block h1) h.ne).trans h1, h2⟩, h.room, ⟨_, block_setCell h5 _ _, fun i hi => ⟨?_, ?_⟩⟩, h.lst.only ho h.ne (fun k hk => hk.2.2), h.ne, h.size, fun cs2 h9 j hj => ?_⟩
  · exact set_other13 (h6 i hi).1 (by omega)
  · by_cases e : i = t
    · subst e
      unfold updF
      rw [if_pos rfl]
      exact set_same13 (h6 i hi).2
    · unfold updF
      rw [if_neg e]
      exact set_other13 (h6 i hi).2 (by omega)
  · have e := (block_setCell h5 _ _).symm.trans h9
    injection e with e
    injection e with e _
    rw [← e]
    exact (Array.getElem?_setIfInBounds_ne (fun e => (hj t).2 e.symm)).trans (h.rest cs h5 j hj)
/-- One of its lists is another one. -/
theorem Mod14.turn (h : Mod14 R L w M b n cap st pr qs) {qs' : Nat → List Int} {p : Nat} {mo : Array Value} {v : Value} (hm : w.heap[M]? = some (.cells mo 90)) (hq : QIs (mdP L M b) w' M 4 qs') (ho : Only (fun k => k = M) w w') (hb : w'.heap[M]? = some (.cells (mo.setIfInBounds (4 + p) v) 90)) : Mod14 R L w' M b n cap st pr qs' := by
  obtain ⟨mo2, h1, h2⟩ := h.blk
  obtain ⟨cs, h5, h6⟩ := h.thr
  rw [hm] at h1
  injection h1 with h1
  injection h1 with h1 _
  subst h1
  exact ⟨⟨_, hb, set_other13 h2 (by omega)⟩, h.room, ⟨cs, (ho.block b (lt_of_block h5) (fun e => h.ne e.symm)).trans h5, h6⟩, hq, h.ne, h.size, fun cs2 h9 => h.rest cs2 ((ho.block b (lt_of_block h5) (fun e => h.ne e.symm)).symm.trans h9)⟩
theorem Mod14.fresh (h : Mod14 R L w M b n cap st pr qs) (hL : L ≤ w.heap.size) : ∀ k, w.heap.size ≤ k → mdP L M b k := fun k hk => by
  obtain ⟨mo, h1, _⟩ := h.blk
  obtain ⟨cs, h5, _⟩ := h.thr
  have a1 := lt_of_block h1
  have a2 := lt_of_block h5
  exact ⟨by omega, by omega, by omega⟩

/-- A list that a call of a queue turns. -/
theorem Mod14.add (h : Mod14 R L w M b n cap st pr qs) (hL : L ≤ w.heap.size) {p : Nat} (hp : p < 16) (hl : (qs p).length ≤ 1000) (x : Int) (hx : -9223372036854775808 ≤ x ∧ x ≤ 9223372036854775807) :
    Calls Tryz.prog 34 #[.pointer (some ⟨M, 4, none⟩), .int .i64 x, .int .i64 (p : Int), .bool false] w fun e w' => e = .returned (.tuple #[]) ∧ Mod14 R L w' M b n cap st pr (putL qs p (qs p ++ [x])) ∧ Only (fun k => k = M) w w' := by
  obtain ⟨mo, h1, h2⟩ := h.blk
  refine (add13 w M 4 qs x p mo _ h.lst hp h1 (fun k hk => hk.2.1) (h.fresh hL) hl hx).mono ?_
  rintro e w' ⟨rfl, hq, ho, v, hv⟩
  exact ⟨rfl, h.turn h1 hq ho hv, ho⟩
theorem Mod14.front (h : Mod14 R L w M b n cap st pr qs) (hL : L ≤ w.heap.size) {p : Nat} (hp : p < 16) (hl : (qs p).length ≤ 1000) (x : Int) (hx : -9223372036854775808 ≤ x ∧ x ≤ 9223372036854775807) :
    Calls Tryz.prog 34 #[.pointer (some ⟨M, 4, none⟩), .int .i64 x, .int .i64 (p : Int), .bool true] w fun e w' => e = .returned (.tuple #[]) ∧ Mod14 R L w' M b n cap st pr (putL qs p (x :: qs p)) ∧ Only (fun k => k = M) w w' := by
  obtain ⟨mo, h1, h2⟩ := h.blk
  refine (front14 w M 4 qs x p mo _ h.lst hp h1 (fun k hk => hk.2.1) (h.fresh hL) hl hx).mono ?_
  rintro e w' ⟨rfl, hq, ho, v, hv⟩
  exact ⟨rfl, h.turn h1 hq ho hv, ho⟩
theorem Mod14.drop (h : Mod14 R L w M b n cap st pr qs) (hL : L ≤ w.heap.size) {p : Nat} (hp : p < 16) (hl : (qs p).length ≤ 1000) (x : Int) :
    Calls Tryz.prog 69 #[.pointer (some ⟨M, 4, none⟩), .int .i64 x, .int .i64 (p : Int)] w fun e w' => e = .returned (.tuple #[]) ∧ Mod14 R L w' M b n cap st pr (putL qs p (butL (qs p) x)) ∧ Only (fun k => k = M) w w' := by
  obtain ⟨mo, h1, h2⟩ := h.blk
  refine (drop14 w M 4 qs x p mo _ h.lst hp h1 (fun k hk => hk.2.1) (h.fresh hL) hl).mono ?_
  rintro e w' ⟨rfl, hq, ho, v, hv⟩
  exact ⟨rfl, h.turn h1 hq ho hv, ho⟩
end

set_option maxRecDepth 100000 in
set_option maxHeartbeats 1000000 in
theorem setReady14 {R : Nat → Option Value} {L : Nat} (w : World) (M b n cap : Nat) (st : Nat → Int) (pr : Nat → Nat) (qs : Nat → List Int) (h : Mod14 R L w M b n cap st pr qs) (hL : L ≤ w.heap.size) (t : Nat) (ht : t < n) (hp : pr t < 16) (hl : ∀ p, (qs p).length ≤ 1000) :
    Calls Tryz.prog 35 #[.pointer (some ⟨M, 0, none⟩), .int .i64 (t : Int)] w fun e w' => e = .returned (.tuple #[]) ∧ Mod14 R L w' M b n cap (updF st t 0) pr (putL qs (pr t) (qs (pr t) ++ [(t : Int)])) ∧ Only (fun k => k = M ∨ k = b) w w' := by
  obtain ⟨hc1, hc2, e2, hth⟩ := h.cells
  obtain ⟨k0, k2, z0, z2⟩ := hth t ht
  have hn := h.size
  obtain ⟨W, hW⟩ : ∃ W, w.setCell ⟨b, t * 14, none⟩ (.int .i64 0) = W := ⟨_, rfl⟩
  have hO1 : Only (fun k => k = b) w W := by rw [← hW]; exact (Only.self b w).own _ _
  have hS : Mod14 R L W M b n cap (updF st t 0) pr qs := by rw [← hW]; exact h.state t 0
  have HO1 := hid hO1
  have HS := hid hS
  have HL : Hid (L ≤ W.heap.size) := Nat.le_trans hL hO1.size
  obtain ⟨_, _, e3, hth2⟩ := hS.cells
  obtain ⟨q0, q2, y0, y2⟩ := hth2 t ht
  obtain ⟨p, hpe⟩ : ∃ p, pr t = p := ⟨_, rfl⟩
  have HPE := hid hpe
  rw [hpe] at hp q2 k2 ⊢
  have HLL := hid hl
  clear h hO1 hS hth hth2 hl hpe
  go_enter Tryz.func35, Tryz.ntmps35
  go_upto_region 1 with fail
  clear hW e2 k0 k2 z0 z2
  go_region_held (fun w' => w'.cell? ⟨M, 2, none⟩ = some (.slice (some ⟨b, 0, none⟩) n cap) ∧ w'.cell? ⟨b, t * 14 + 2, none⟩ = some (.int .i64 (p : Int))) (go_keep)
    (first | (go_at_call 34; refine ((HS.out.only (S := fun _ => False) ((Only.refl _ _).drew) (fun h => h) (fun h => h) (fun _ _ h => h)).add HL.out hp (HLL.out p) (t : Int) ⟨by omega, by omega⟩).mono ?_; rintro e w1 ⟨rfl, hm1, ho1⟩
              obtain ⟨_, _, r3, hth3⟩ := hm1.cells
              have r4 := (hth3 t ht).2.1
              rw [HPE.out] at r4
              have HM1 := hid hm1
              have HO2 : Hid (Only (fun k => k = M ∨ k = b) w w1) := (HO1.out.mono (T := fun k => k = M ∨ k = b) (fun _ _ e => .inr e)).chain (((Only.refl (fun k => k = M) _).drew).chain ho1 (fun _ _ e => e)) (fun _ _ e => .inl e)
              clear hm1 ho1 hth3))
  go_wp2_with fail
  go_end0
  exact ⟨rfl, HM1.out, HO2.out⟩

set_option maxRecDepth 100000 in
set_option maxHeartbeats 1000000 in
theorem unready14 {R : Nat → Option Value} {L : Nat} (w : World) (M b n cap : Nat) (st : Nat → Int) (pr : Nat → Nat) (qs : Nat → List Int) (h : Mod14 R L w M b n cap st pr qs) (hL : L ≤ w.heap.size) (t : Nat) (ht : t < n) (hp : pr t < 16) (hl : ∀ p, (qs p).length ≤ 1000) (x : Int) :
    Calls Tryz.prog 36 #[.pointer (some ⟨M, 0, none⟩), .int .i64 (t : Int), .int .i64 x] w fun e w' => e = .returned (.tuple #[]) ∧ Mod14 R L w' M b n cap (updF st t x) pr (putL qs (pr t) (butL (qs (pr t)) (t : Int))) ∧ Only (fun k => k = M ∨ k = b) w w' := by
  obtain ⟨hc1, hc2, e2, hth⟩ := h.cells
  obtain ⟨k0, k2, z0, z2⟩ := hth t ht
  have hn := h.size
  have HS := hid h
  have HL := hid hL
  have HO1 : Hid (Only (fun k => k = M ∨ k = b) w w) := Only.refl _ _
  obtain ⟨p, hpe⟩ : ∃ p, pr t = p := ⟨_, rfl⟩
  have HPE := hid hpe
  rw [hpe] at hp k2 ⊢
  have HLL := hid hl
  clear h hth hl hpe hL
  go_enter Tryz.func36, Tryz.ntmps36
  go_wp2_with fail
  go_region_held (fun w' => w'.cell? ⟨M, 2, none⟩ = some (.slice (some ⟨b, 0, none⟩) n cap) ∧ w'.cell? ⟨b, t * 14 + 2, none⟩ = some (.int .i64 (p : Int))) (go_keep)
    (first | (go_at_call 69; refine ((HS.out.only (S := fun _ => False) ((Only.refl _ _).drew) (fun h => h) (fun h => h) (fun _ _ h => h)).drop HL.out hp (HLL.out p) (t : Int)).mono ?_; rintro e w1 ⟨rfl, hm1, ho1⟩
              obtain ⟨_, _, r3, hth3⟩ := hm1.cells
              obtain ⟨r0, r4, y0, y2⟩ := hth3 t ht
              rw [HPE.out] at r4
              have HM1 := hid hm1
              have HO2 : Hid (Only (fun k => k = M ∨ k = b) w w1) := HO1.out.chain (((Only.refl (fun k => k = M) _).drew).chain ho1 (fun _ _ e => e)) (fun _ _ e => .inl e)
              clear hm1 ho1 hth3))
  go_wp2_with fail
  go_end0
  exact ⟨rfl, HM1.out.state t x, HO2.out.chain ((Only.self b w1).own _ _) (fun _ _ e => .inr e)⟩

set_option maxRecDepth 100000 in
set_option maxHeartbeats 1000000 in
theorem yield14 {R : Nat → Option Value} {L : Nat} (w : World) (M b n cap : Nat) (st : Nat → Int) (pr : Nat → Nat) (qs : Nat → List Int) (h : Mod14 R L w M b n cap st pr qs) (hL : L ≤ w.heap.size) (t : Nat) (ht : t < n) (hp : pr t < 16) (hl : ∀ p, (qs p).length ≤ 1000) :
    Calls Tryz.prog 38 #[.pointer (some ⟨M, 0, none⟩), .int .i64 (t : Int)] w fun e w' => e = .returned (.tuple #[]) ∧ Mod14 R L w' M b n cap st pr (if st t = 0 then putL (putL qs (pr t) (butL (qs (pr t)) (t : Int))) (pr t) (butL (qs (pr t)) (t : Int) ++ [(t : Int)]) else qs) ∧ Only (fun k => k = M ∨ k = b) w w' := by
  by_cases h0 : st t = 0
  · rw [if_pos h0]
    obtain ⟨hc1, hc2, e2, hth⟩ := h.cells
    obtain ⟨k0, k2, z0, z2⟩ := hth t ht
    have hn := h.size
    have HS := hid h
    have HL := hid hL
    have HO1 : Hid (Only (fun k => k = M ∨ k = b) w w) := Only.refl _ _
    obtain ⟨p, hpe⟩ : ∃ p, pr t = p := ⟨_, rfl⟩
    have HPE := hid hpe
    rw [hpe] at hp k2 ⊢
    have HLL := hid hl
    rw [h0] at k0
    clear h hth hl hpe hL h0
    go_enter Tryz.func38, Tryz.ntmps38
    go_wp2_with fail
    go_region_held (fun w' => w'.cell? ⟨M, 2, none⟩ = some (.slice (some ⟨b, 0, none⟩) n cap) ∧ w'.cell? ⟨b, t * 14 + 2, none⟩ = some (.int .i64 (p : Int))) (go_keep)
      (first | (go_at_call 69; refine ((HS.out.only (S := fun _ => False) ((Only.refl _ _).drew) (fun h => h) (fun h => h) (fun _ _ h => h)).drop HL.out hp (HLL.out p) (t : Int)).mono ?_; rintro e w1 ⟨rfl, hm1, ho1⟩
                obtain ⟨_, _, r3, hth3⟩ := hm1.cells
                obtain ⟨r0, r4, y0, y2⟩ := hth3 t ht
                rw [HPE.out] at r4
                have HM1 := hid hm1
                have HO2 : Hid (Only (fun k => k = M ∨ k = b) w w1) := HO1.out.chain (((Only.refl (fun k => k = M) _).drew).chain ho1 (fun _ _ e => e)) (fun _ _ e => .inl e)
                clear hm1 ho1 hth3))
    have HL1 : Hid (L ≤ w1.heap.size) := Nat.le_trans HL.out HO2.out.size
    have HA : Hid (∀ wx, Only (fun _ => False) w1 wx → Calls Tryz.prog 34 #[.pointer (some ⟨M, 4, none⟩), .int .i64 (t : Int), .int .i64 (p : Int), .bool false] wx fun e w' => e = .returned (.tuple #[]) ∧ Mod14 R L w' M b n cap st pr (putL (putL qs p (butL (qs p) (t : Int))) p (butL (qs p) (t : Int) ++ [(t : Int)])) ∧ Only (fun k => k = M) wx w') := fun wx ho => by
      have h9 := (HM1.out.only ho (fun h => h) (fun h => h) (fun _ _ h => h)).add (p := p) (Nat.le_trans HL1.out ho.size) hp (by
        show (if p = p then butL (qs p) (t : Int) else qs p).length ≤ 1000
        rw [if_pos rfl]
        exact Nat.le_trans (butL_len _ _) (HLL.out p)) (t : Int) ⟨by omega, by omega⟩
      rw [show putL qs p (butL (qs p) (t : Int)) p = butL (qs p) (t : Int) from if_pos rfl] at h9
      exact h9
    clear e2 k0 k2 z0 z2
    go_wp2_with fail
    go_region_held (fun w' => w'.cell? ⟨M, 2, none⟩ = some (.slice (some ⟨b, 0, none⟩) n cap) ∧ w'.cell? ⟨b, t * 14 + 2, none⟩ = some (.int .i64 (p : Int))) (go_keep)
      (first | (go_at_call 34; refine (HA.out _ ((Only.refl _ _).drew)).mono ?_; rintro e w2 ⟨rfl, hm2, ho2⟩
                obtain ⟨_, _, u3, hth4⟩ := hm2.cells
                have u4 := (hth4 t ht).2.1
                rw [HPE.out] at u4
                have HM2 := hid hm2
                have HO3 : Hid (Only (fun k => k = M ∨ k = b) w w2) := HO2.out.chain (((Only.refl (fun k => k = M) _).drew).chain ho2 (fun _ _ e => e)) (fun _ _ e => .inl e)
                clear hm2 ho2 hth4))
    go_wp2_with fail
    go_end0
    exact ⟨rfl, HM2.out, HO3.out⟩
  · rw [if_neg h0]
    obtain ⟨hc1, hc2, e2, hth⟩ := h.cells
    obtain ⟨k0, k2, z0, z2⟩ := hth t ht
    have hn := h.size
    have HS := hid h
    have hb : (st t == 0) = false := beq_eq_false_iff_ne.2 h0
    clear h hth hl h0
    go_enter Tryz.func38, Tryz.ntmps38
    go_wp2_with fail
    go_end0
    exact ⟨rfl, HS.out, Only.refl _ _⟩

set_option maxRecDepth 100000 in
set_option maxHeartbeats 1000000 in
theorem change14 {R : Nat → Option Value} {L : Nat} (w : World) (M b n cap : Nat) (st : Nat → Int) (pr : Nat → Nat) (qs : Nat → List Int) (h : Mod14 R L w M b n cap st pr qs) (hL : L ≤ w.heap.size) (t : Nat) (ht : t < n) (hp : pr t < 16) (hl : ∀ p, (qs p).length ≤ 1000) (q : Nat) (hq : q < 16) (first : Bool) (hl2 : (qs q).length + 1 ≤ 1000) :
    Calls Tryz.prog 37 #[.pointer (some ⟨M, 0, none⟩), .int .i64 (t : Int), .int .i64 (q : Int), .bool first] w fun e w' => e = .returned (.tuple #[]) ∧
      Mod14 R L w' M b n cap st (updF pr t q) (if st t = 0 then putL (putL qs (pr t) (butL (qs (pr t)) (t : Int))) q (if first = true then (t : Int) :: putL qs (pr t) (butL (qs (pr t)) (t : Int)) q else putL qs (pr t) (butL (qs (pr t)) (t : Int)) q ++ [(t : Int)]) else qs) ∧ Only (fun k => k = M ∨ k = b) w w' := by
  by_cases h0 : st t = 0
  · rw [if_pos h0]
    obtain ⟨hc1, hc2, e2, hth⟩ := h.cells
    obtain ⟨k0, k2, z0, z2⟩ := hth t ht
    have hn := h.size
    have HS := hid h
    have HL := hid hL
    have HO1 : Hid (Only (fun k => k = M ∨ k = b) w w) := Only.refl _ _
    obtain ⟨p, hpe⟩ : ∃ p, pr t = p := ⟨_, rfl⟩
    have HPE := hid hpe
    rw [hpe] at hp k2 ⊢
    have HLL := hid hl
    rw [h0] at k0
    obtain ⟨qs1, hqs⟩ : ∃ f, putL qs p (butL (qs p) (t : Int)) = f := ⟨_, rfl⟩
    have HLQ : Hid ((qs1 q).length ≤ 1000) := by
      show _ ≤ _
      rw [← hqs]
      unfold putL
      split
      · exact Nat.le_trans (butL_len _ _) (hl p)
      · omega
    have HQS := hid hqs
    rw [hqs]
    clear h hth hl hpe hL h0 hl2 hqs
    go_enter Tryz.func37, Tryz.ntmps37
    go_wp2_with fail
    go_region_held (fun w' => w'.cell? ⟨M, 2, none⟩ = some (.slice (some ⟨b, 0, none⟩) n cap) ∧ w'.cell? ⟨b, t * 14 + 2, none⟩ = some (.int .i64 (p : Int))) (go_keep)
      (first | (go_at_call 69; refine ((HS.out.only (S := fun _ => False) ((Only.refl _ _).drew) (fun h => h) (fun h => h) (fun _ _ h => h)).drop HL.out hp (HLL.out p) (t : Int)).mono ?_; rintro e w1 ⟨rfl, hm1, ho1⟩
                rw [HQS.out] at hm1
                obtain ⟨_, _, r3, hth3⟩ := hm1.cells
                obtain ⟨r0, r4, y0, y2⟩ := hth3 t ht
                rw [HPE.out] at r4
                have HM1 := hid hm1
                have HO2 : Hid (Only (fun k => k = M ∨ k = b) w w1) := HO1.out.chain (((Only.refl (fun k => k = M) _).drew).chain ho1 (fun _ _ e => e)) (fun _ _ e => .inl e)
                clear hm1 ho1 hth3))
    have HL1 : Hid (L ≤ w1.heap.size) := Nat.le_trans HL.out HO2.out.size
    clear e2 k0 k2 z0 z2
    cases first with
    | true =>
      have HA := hid (HM1.out.front HL1.out hq HLQ.out (t : Int) ⟨by omega, by omega⟩)
      go_wp2_with fail
      refine HA.out.mono ?_
      rintro e w2 ⟨rfl, hm2, ho2⟩
      obtain ⟨_, _, u3, hth4⟩ := hm2.cells
      obtain ⟨u0, u4, x0, x2⟩ := hth4 t ht
      rw [HPE.out] at u4
      have HM2 := hid hm2
      have HO3 : Hid (Only (fun k => k = M ∨ k = b) w w2) := HO2.out.chain ho2 (fun _ _ e => .inl e)
      clear hm2 ho2 hth4 HA r3 r0 r4 y0 y2
      go_wp2_with fail
      go_end0
      exact ⟨rfl, HM2.out.prio t q, HO3.out.chain ((Only.self b w2).own _ _) (fun _ _ e => .inr e)⟩
    | false =>
      have HA := hid (HM1.out.add HL1.out hq HLQ.out (t : Int) ⟨by omega, by omega⟩)
      go_wp2_with fail
      refine HA.out.mono ?_
      rintro e w2 ⟨rfl, hm2, ho2⟩
      obtain ⟨_, _, u3, hth4⟩ := hm2.cells
      obtain ⟨u0, u4, x0, x2⟩ := hth4 t ht
      rw [HPE.out] at u4
      have HM2 := hid hm2
      have HO3 : Hid (Only (fun k => k = M ∨ k = b) w w2) := HO2.out.chain ho2 (fun _ _ e => .inl e)
      clear hm2 ho2 hth4 HA r3 r0 r4 y0 y2
      go_wp2_with fail
      go_end0
      exact ⟨rfl, HM2.out.prio t q, HO3.out.chain ((Only.self b w2).own _ _) (fun _ _ e => .inr e)⟩
  · rw [if_neg h0]
    obtain ⟨hc1, hc2, e2, hth⟩ := h.cells
    obtain ⟨k0, k2, z0, z2⟩ := hth t ht
    have hn := h.size
    have HS := hid h
    have hb : (st t == 0) = false := beq_eq_false_iff_ne.2 h0
    clear h hth hl h0
    go_enter Tryz.func37, Tryz.ntmps37
    go_wp2_with fail
    go_end0
    exact ⟨rfl, HS.out.prio t q, (Only.refl (fun k => k = M ∨ k = b) w).chain ((Only.self b w).own _ _) (fun _ _ e => .inr e)⟩
end Go.Proofs.YtmcmjcaigipoaaaGreat

/-
  septumlaw14's do: what an op does to the model. Conditions: how many there are; priorities that are some.
-/
namespace Go.Sept
open Go.RowKit
/-- A call, as plain numbers. -/
structure Op14 where
  k : Int
  t : Int
  s : Int
  p : Int
  f : Bool
/-- Who is ready, and each thread's state and priority. -/
structure Sim14 where
  st : Nat → Int
  pr : Nat → Nat
  qs : Nat → List Int
def Sim14.ready (m : Sim14) (t : Nat) : Sim14 := ⟨updF m.st t 0, m.pr, putL m.qs (m.pr t) (m.qs (m.pr t) ++ [(t : Int)])⟩
def Sim14.unready (m : Sim14) (t : Nat) (x : Int) : Sim14 := ⟨updF m.st t x, m.pr, putL m.qs (m.pr t) (butL (m.qs (m.pr t)) (t : Int))⟩
def Sim14.change (m : Sim14) (t q : Nat) (first : Bool) : Sim14 :=
  ⟨m.st, updF m.pr t q, if m.st t = 0 then putL (putL m.qs (m.pr t) (butL (m.qs (m.pr t)) (t : Int))) q (if first = true then (t : Int) :: putL m.qs (m.pr t) (butL (m.qs (m.pr t)) (t : Int)) q else putL m.qs (m.pr t) (butL (m.qs (m.pr t)) (t : Int)) q ++ [(t : Int)]) else m.qs⟩
def Sim14.yield (m : Sim14) (t : Nat) : Sim14 :=
  ⟨m.st, m.pr, if m.st t = 0 then putL (putL m.qs (m.pr t) (butL (m.qs (m.pr t)) (t : Int))) (m.pr t) (butL (m.qs (m.pr t)) (t : Int) ++ [(t : Int)]) else m.qs⟩
/-- What an op does, and whether it may be done now. -/
def doM (n : Nat) (m : Sim14) (o : Op14) : Bool × Sim14 :=
  if o.t < 0 ∨ (n : Int) ≤ o.t then (true, m)
  else if o.k = 0 then (if m.st o.t.toNat = 0 then (false, m) else (true, m.ready o.t.toNat))
  else if o.k = 1 then (if m.st o.t.toNat = 0 then (true, if 1 ≤ o.s ∧ o.s ≤ 3 then m.unready o.t.toNat o.s else m) else (false, m))
  else if o.k = 2 then (true, if 0 ≤ o.p ∧ o.p ≤ 15 then m.change o.t.toNat o.p.toNat o.f else m)
  else (true, m.yield o.t.toNat)
end Go.Sept
namespace Go.Proofs.YtmcmjcaigipoaaaGreat
open Go.RowKit Go.Sept

abbrev op14V (o : Op14) : Value := .agg #[.int .u8 o.k, .int .i64 o.t, .int .i64 o.s, .int .i64 o.p, .bool o.f]
abbrev Mods (R : Nat → Option Value) (L : Nat) (w : World) (M b n cap : Nat) (m : Sim14) : Prop := Mod14 R L w M b n cap m.st m.pr m.qs

end Go.Proofs.YtmcmjcaigipoaaaGreat

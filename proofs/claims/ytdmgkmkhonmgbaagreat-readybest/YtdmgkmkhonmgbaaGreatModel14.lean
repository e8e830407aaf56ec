/-
  septumref13's Model: who is ready, and each thread's state and priority (SetReady, Unready, Change, Yield). Conditions: there is such a thread; how many there are.
-/
import Derived.Test.YtdmgkmkhonmgbaaGreatAdd13
import Derived.Test.YtdmgkmkhonmgbaaGreatNew13
import Derived.BigQuiet
namespace Go.Sept
open Go.RowKit
/-- The lists that a thread's turn leaves. -/
def putL (qs : Nat → List Int) (p : Nat) (L : List Int) : Nat → List Int := fun i => if i = p then L else qs i
def updF {α : Type} (f : Nat → α) (t : Nat) (x : α) : Nat → α := fun i => if i = t then x else f i
end Go.Sept
namespace Go.Proofs.YtdmgkmkhonmgbaaGreat
open Go.RowKit Go.Sept

abbrev mdP (L M b : Nat) : Nat → Prop := fun k => L ≤ k ∧ k ≠ M ∧ k ≠ b
/-- A model in block M, whose threads lie in block b from its beginning: n threads with their states and priorities, and its sixteen lists, in blocks from L on. -/
structure Mod14 (L : Nat) (w : World) (M b n cap : Nat) (st : Nat → Int) (pr : Nat → Nat) (qs : Nat → List Int) : Prop where
  blk : ∃ mo, w.heap[M]? = some (.cells mo 86) ∧ mo[2]? = some (.slice (some ⟨b, 0, none⟩) n cap)
  room : n ≤ cap ∧ cap ≤ 9223372036854775807
  thr : ∃ cs, w.heap[b]? = some (.cells cs 96) ∧ ∀ t, t < n → cs[t * 14]? = some (.int .i64 (st t)) ∧ cs[t * 14 + 2]? = some (.int .i64 (pr t : Int))
  lst : QIs (mdP L M b) w M 4 qs
  ne : M ≠ b
  size : n ≤ 1000
section
variable {L : Nat} {w w' : World} {M b n cap : Nat} {st : Nat → Int} {pr : Nat → Nat} {qs : Nat → List Int}
theorem Mod14.only {S : Nat → Prop} (h : Mod14 L w M b n cap st pr qs) (ho : Only S w w') (hM : ¬ S M) (hb : ¬ S b) (hP : ∀ k, L ≤ k → ¬ S k) : Mod14 L w' M b n cap st pr qs := by
  obtain ⟨mo, h1, h2⟩ := h.blk
  obtain ⟨cs, h4, h5⟩ := h.thr
  exact ⟨⟨mo, (ho.block M (lt_of_block h1) hM).trans h1, h2⟩, h.room, ⟨cs, (ho.block b (lt_of_block h4) hb).trans h4, h5⟩, h.lst.only ho hM (fun k hk => hP k hk.1), h.ne, h.size⟩
/-- What is read of it. -/
theorem Mod14.cells (h : Mod14 L w M b n cap st pr qs) : n ≤ cap ∧ cap ≤ 9223372036854775807 ∧ w.cell? ⟨M, 2, none⟩ = some (.slice (some ⟨b, 0, none⟩) n cap) ∧ ∀ t, t < n → w.cell? ⟨b, t * 14, none⟩ = some (.int .i64 (st t)) ∧ w.cell? ⟨b, t * 14 + 2, none⟩ = some (.int .i64 (pr t : Int)) ∧ w.frozen? ⟨b, t * 14, none⟩ = false ∧ w.frozen? ⟨b, t * 14 + 2, none⟩ = false := by
  obtain ⟨mo, h1, h2⟩ := h.blk
  obtain ⟨cs, h5, h6⟩ := h.thr
  refine ⟨h.room.1, h.room.2, (cell_of_block h1 2).trans h2, fun t ht => ⟨(cell_of_block h5 _).trans (h6 t ht).1, (cell_of_block h5 _).trans (h6 t ht).2, frozen_of_block h5 _, frozen_of_block h5 _⟩⟩
theorem Mod14.state (h : Mod14 L w M b n cap st pr qs) (t : Nat) (x : Int) : Mod14 L (w.setCell ⟨b, t * 14, none⟩ (.int .i64 x)) M b n cap (updF st t x) pr qs := by
  obtain ⟨mo, h1, h2⟩ := h.blk
  obtain ⟨cs, h5, h6⟩ := h.thr
  have ho : Only (fun k => k = b) w (w.setCell ⟨b, t * 14, none⟩ (.int .i64 x)) := (Only.self b w).own _ _
  refine ⟨⟨mo, (ho.block M (lt_of_block h1) h.ne).trans h1, h2⟩, h.room, ⟨_, block_setCell h5 _ _, fun i hi => ⟨?_, ?_⟩⟩, h.lst.only ho h.ne (fun k hk => hk.2.2), h.ne, h.size⟩
  · by_cases e : i = t
    · subst e
      unfold updF
      rw [if_pos rfl]
      exact set_same13 (h6 i hi).1
    · unfold updF
      rw [if_neg e]
      exact set_other13 (h6 i hi).1 (by omega)
  · exact set_other13 (h6 i hi).2 (by omega)
theorem Mod14.prio (h : Mod14 L w M b n cap st pr qs) (t : Nat) (x : Nat) : Mod14 L (w.setCell ⟨b, t * 14 + 2, none⟩ (.int .i64 (x : Int))) M b n cap st (updF pr t x) qs := by
  obtain ⟨mo, h1, h2⟩ := h.blk
  obtain ⟨cs, h5, h6⟩ := h.thr
  have ho : Only (fun k => k = b) w (w.setCell ⟨b, t * 14 + 2, none⟩ (.int .i64 (x : Int))) := (Only.self b w).own _ _
  refine ⟨⟨mo, (ho.block M (lt_of_block h1) h.ne).trans h1, h2⟩, h.room, ⟨_, block_setCell h5 _ _, fun i hi => ⟨?_, ?_⟩⟩, h.lst.only ho h.ne (fun k hk => hk.2.2), h.ne, h.size⟩
  · exact set_other13 (h6 i hi).1 (by omega)
  · by_cases e : i = t
    · subst e
      unfold updF
      rw [if_pos rfl]
      exact set_same13 (h6 i hi).2
    · unfold updF
      rw [if_neg e]
      exact set_other13 (h6 i hi).2 (by omega)
/-- One of its lists is another one. -/
theorem Mod14.turn (h : Mod14 L w M b n cap st pr qs) {qs' : Nat → List Int} {p : Nat} {mo : Array Value} {v : Value} (hm : w.heap[M]? = some (.cells mo 86)) (hq : QIs (mdP L M b) w' M 4 qs') (ho : Only (fun k => k = M) w w') (hb : w'.heap[M]? = some (.cells (mo.setIfInBounds (4 + p) v) 86)) : Mod14 L w' M b n cap st pr qs' := by
  obtain ⟨mo2, h1, h2⟩ := h.blk
  obtain ⟨cs, h5, h6⟩ := h.thr
  rw [hm] at h1
  injection h1 with h1
  injection h1 with h1 _
  subst h1
  exact ⟨⟨_, hb, set_other13 h2 (by omega)⟩, h.room, ⟨cs, (ho.block b (lt_of_block h5) (fun e => h.ne e.symm)).trans h5, h6⟩, hq, h.ne, h.size⟩
theorem Mod14.fresh (h : Mod14 L w M b n cap st pr qs) (hL : L ≤ w.heap.size) : ∀ k, w.heap.size ≤ k → mdP L M b k := fun k hk => by
  obtain ⟨mo, h1, _⟩ := h.blk
  obtain ⟨cs, h5, _⟩ := h.thr
  have a1 := lt_of_block h1
  have a2 := lt_of_block h5
  exact ⟨by omega, by omega, by omega⟩

/-- A list that a call of a queue turns. -/
theorem Mod14.add (h : Mod14 L w M b n cap st pr qs) (hL : L ≤ w.heap.size) {p : Nat} (hp : p < 16) (hl : (qs p).length ≤ 1000) (x : Int) (hx : -9223372036854775808 ≤ x ∧ x ≤ 9223372036854775807) :
    Calls Tryz.prog 31 #[.pointer (some ⟨M, 4, none⟩), .int .i64 x, .int .i64 (p : Int), .bool false] w fun e w' => e = .returned (.tuple #[]) ∧ Mod14 L w' M b n cap st pr (putL qs p (qs p ++ [x])) ∧ Only (fun k => k = M) w w' := by
  obtain ⟨mo, h1, h2⟩ := h.blk
  refine (add13 w M 4 qs x p mo _ h.lst hp h1 (fun k hk => hk.2.1) (h.fresh hL) hl hx).mono ?_
  rintro e w' ⟨rfl, hq, ho, v, hv⟩
  exact ⟨rfl, h.turn h1 hq ho hv, ho⟩
theorem Mod14.front (h : Mod14 L w M b n cap st pr qs) (hL : L ≤ w.heap.size) {p : Nat} (hp : p < 16) (hl : (qs p).length ≤ 1000) (x : Int) (hx : -9223372036854775808 ≤ x ∧ x ≤ 9223372036854775807) :
    Calls Tryz.prog 31 #[.pointer (some ⟨M, 4, none⟩), .int .i64 x, .int .i64 (p : Int), .bool true] w fun e w' => e = .returned (.tuple #[]) ∧ Mod14 L w' M b n cap st pr (putL qs p (x :: qs p)) ∧ Only (fun k => k = M) w w' := by
  obtain ⟨mo, h1, h2⟩ := h.blk
  refine (front14 w M 4 qs x p mo _ h.lst hp h1 (fun k hk => hk.2.1) (h.fresh hL) hl hx).mono ?_
  rintro e w' ⟨rfl, hq, ho, v, hv⟩
  exact ⟨rfl, h.turn h1 hq ho hv, ho⟩
theorem Mod14.drop (h : Mod14 L w M b n cap st pr qs) (hL : L ≤ w.heap.size) {p : Nat} (hp : p < 16) (hl : (qs p).length ≤ 1000) (x : Int) :
    Calls Tryz.prog 63 #[.pointer (some ⟨M, 4, none⟩), .int .i64 x, .int .i64 (p : Int)] w fun e w' => e = .returned (.tuple #[]) ∧ Mod14 L w' M b n cap st pr (putL qs p (butL (qs p) x)) ∧ Only (fun k => k = M) w w' := by
  obtain ⟨mo, h1, h2⟩ := h.blk
  refine (drop14 w M 4 qs x p mo _ h.lst hp h1 (fun k hk => hk.2.1) (h.fresh hL) hl).mono ?_
  rintro e w' ⟨rfl, hq, ho, v, hv⟩
  exact ⟨rfl, h.turn h1 hq ho hv, ho⟩
end

set_option maxRecDepth 100000 in
set_option maxHeartbeats 1000000 in
theorem setReady14 {L : Nat} (w : World) (M b n cap : Nat) (st : Nat → Int) (pr : Nat → Nat) (qs : Nat → List Int) (h : Mod14 L w M b n cap st pr qs) (hL : L ≤ w.heap.size) (t : Nat) (ht : t < n) (hp : pr t < 16) (hl : ∀ p, (qs p).length ≤ 1000) :
    Calls Tryz.prog 32 #[.pointer (some ⟨M, 0, none⟩), .int .i64 (t : Int)] w fun e w' => e = .returned (.tuple #[]) ∧ Mod14 L w' M b n cap (updF st t 0) pr (putL qs (pr t) (qs (pr t) ++ [(t : Int)])) ∧ Only (fun k => k = M ∨ k = b) w w' := by
  obtain ⟨hc1, hc2, e2, hth⟩ := h.cells
  obtain ⟨k0, k2, z0, z2⟩ := hth t ht
  have hn := h.size
  obtain ⟨W, hW⟩ : ∃ W, w.setCell ⟨b, t * 14, none⟩ (.int .i64 0) = W := ⟨_, rfl⟩
  have hO1 : Only (fun k => k = b) w W := by rw [← hW]; exact (Only.self b w).own _ _
  have hS : Mod14 L W M b n cap (updF st t 0) pr qs := by rw [← hW]; exact h.state t 0
  have HO1 := hid hO1
  have HS := hid hS
  have HL : Hid (L ≤ W.heap.size) := Nat.le_trans hL hO1.size
  obtain ⟨_, _, e3, hth2⟩ := hS.cells
  obtain ⟨q0, q2, y0, y2⟩ := hth2 t ht
  obtain ⟨p, hpe⟩ : ∃ p, pr t = p := ⟨_, rfl⟩
  have HPE := hid hpe
  rw [hpe] at hp q2 k2 ⊢
  have HLL := hid hl
  clear h hO1 hS hth hth2 hl hpe
  go_enter Tryz.func32, Tryz.ntmps32
  go_upto_region 1 with fail
  clear hW e2 k0 k2 z0 z2
  go_region_held (fun w' => w'.cell? ⟨M, 2, none⟩ = some (.slice (some ⟨b, 0, none⟩) n cap) ∧ w'.cell? ⟨b, t * 14 + 2, none⟩ = some (.int .i64 (p : Int))) (go_keep)
    (first | (go_at_call 31; refine ((HS.out.only (S := fun _ => False) ((Only.refl _ _).drew) (fun h => h) (fun h => h) (fun _ _ h => h)).add HL.out hp (HLL.out p) (t : Int) ⟨by omega, by omega⟩).mono ?_; rintro e w1 ⟨rfl, hm1, ho1⟩
              obtain ⟨_, _, r3, hth3⟩ := hm1.cells
              have r4 := (hth3 t ht).2.1
              rw [HPE.out] at r4
              have HM1 := hid hm1
              have HO2 : Hid (Only (fun k => k = M ∨ k = b) w w1) := (HO1.out.mono (T := fun k => k = M ∨ k = b) (fun _ _ e => .inr e)).chain (((Only.refl (fun k => k = M) _).drew).chain ho1 (fun _ _ e => e)) (fun _ _ e => .inl e)
              clear hm1 ho1 hth3))
  go_wp2_with fail
  go_end0
  exact ⟨rfl, HM1.out, HO2.out⟩

set_option maxRecDepth 100000 in
set_option maxHeartbeats 1000000 in
theorem unready14 {L : Nat} (w : World) (M b n cap : Nat) (st : Nat → Int) (pr : Nat → Nat) (qs : Nat → List Int) (h : Mod14 L w M b n cap st pr qs) (hL : L ≤ w.heap.size) (t : Nat) (ht : t < n) (hp : pr t < 16) (hl : ∀ p, (qs p).length ≤ 1000) (x : Int) :
    Calls Tryz.prog 33 #[.pointer (some ⟨M, 0, none⟩), .int .i64 (t : Int), .int .i64 x] w fun e w' => e = .returned (.tuple #[]) ∧ Mod14 L w' M b n cap (updF st t x) pr (putL qs (pr t) (butL (qs (pr t)) (t : Int))) ∧ Only (fun k => k = M ∨ k = b) w w' := by
  obtain ⟨hc1, hc2, e2, hth⟩ := h.cells
  obtain ⟨k0, k2, z0, z2⟩ := hth t ht
  have hn := h.size
  have HS := hid h
  have HL := hid hL
  have HO1 : Hid (Only (fun k => k = M ∨ k = b) w w) := Only.refl _ _
  obtain ⟨p, hpe⟩ : ∃ p, pr t = p := ⟨_, rfl⟩
  have HPE := hid hpe
  rw [hpe] at hp k2 ⊢
  have HLL := hid hl
  clear h hth hl hpe hL
  go_enter Tryz.func33, Tryz.ntmps33
  go_wp2_with fail
  go_region_held (fun w' => w'.cell? ⟨M, 2, none⟩ = some (.slice (some ⟨b, 0, none⟩) n cap) ∧ w'.cell? ⟨b, t * 14 + 2, none⟩ = some (.int .i64 (p : Int))) (go_keep)
    (first | (go_at_call 63; refine ((HS.out.only (S := fun _ => False) ((Only.refl _ _).drew) (fun h => h) (fun h => h) (fun _ _ h => h)).drop HL.out hp (HLL.out p) (t : Int)).mono ?_; rintro e w1 ⟨rfl, hm1, ho1⟩
              obtain ⟨_, _, r3, hth3⟩ := hm1.cells
              obtain ⟨r0, r4, y0, y2⟩ := hth3 t ht
              rw [HPE.out] at r4
              have HM1 := hid hm1
              have HO2 : Hid (Only (fun k => k = M ∨ k = b) w w1) := HO1.out.chain (((Only.refl (fun k => k = M) _).drew).chain ho1 (fun _ _ e => e)) (fun _ _ e => .inl e)
              clear hm1 ho1 hth3))
  go_wp2_with fail
  go_end0
  exact ⟨rfl, HM1.out.state t x, HO2.out.chain ((Only.self b w1).own _ _) (fun _ _ e => .inr e)⟩

set_option maxRecDepth 100000 in
set_option maxHeartbeats 1000000 in
theorem yield14 {L : Nat} (w : World) (M b n cap : Nat) (st : Nat → Int) (pr : Nat → Nat) (qs : Nat → List Int) (h : Mod14 L w M b n cap st pr qs) (hL : L ≤ w.heap.size) (t : Nat) (ht : t < n) (hp : pr t < 16) (hl : ∀ p, (qs p).length ≤ 1000) :
    Calls Tryz.prog 35 #[.pointer (some ⟨M, 0, none⟩), .int .i64 (t : Int)] w fun e w' => e = .returned (.tuple #[]) ∧ Mod14 L w' M b n cap st pr (if st t = 0 then putL (putL qs (pr t) (butL (qs (pr t)) (t : Int))) (pr t) (butL (qs (pr t)) (t : Int) ++ [(t : Int)]) else qs) ∧ Only (fun k => k = M ∨ k = b) w w' := by
  by_cases h0 : st t = 0
  · rw [if_pos h0]
    obtain ⟨hc1, hc2, e2, hth⟩ := h.cells
    obtain ⟨k0, k2, z0, z2⟩ := hth t ht
    have hn := h.size
    have HS := hid h
    have HL := hid hL
    have HO1 : Hid (Only (fun k => k = M ∨ k = b) w w) := Only.refl _ _
    obtain ⟨p, hpe⟩ : ∃ p, pr t = p := ⟨_, rfl⟩
    have HPE := hid hpe
    rw [hpe] at hp k2 ⊢
    have HLL := hid hl
    rw [h0] at k0
    clear h hth hl hpe hL h0
    go_enter Tryz.func35, Tryz.ntmps35
    go_wp2_with fail
    go_region_held (fun w' => w'.cell? ⟨M, 2, none⟩ = some (.slice (some ⟨b, 0, none⟩) n cap) ∧ w'.cell? ⟨b, t * 14 + 2, none⟩ = some (.int .i64 (p : Int))) (go_keep)
      (first | (go_at_call 63; refine ((HS.out.only (S := fun _ => False) ((Only.refl _ _).drew) (fun h => h) (fun h => h) (fun _ _ h => h)).drop HL.out hp (HLL.out p) (t : Int)).mono ?_; rintro e w1 ⟨rfl, hm1, ho1⟩
                obtain ⟨_, _, r3, hth3⟩ := hm1.cells
                obtain ⟨r0, r4, y0, y2⟩ := hth3 t ht
                rw [HPE.out] at r4
                have HM1 := hid hm1
                have HO2 : Hid (Only (fun k => k = M ∨ k = b) w w1) := HO1.out.chain (((Only.refl (fun k => k = M) _).drew).chain ho1 (fun _ _ e => e)) (fun _ _ e => .inl e)
                clear hm1 ho1 hth3))
    have HL1 : Hid (L ≤ w1.heap.size) := Nat.le_trans HL.out HO2.out.size
    have HA : Hid (∀ wx, Only (fun _ => False) w1 wx → Calls Tryz.prog 31 #[.pointer (some ⟨M, 4, none⟩), .int .i64 (t : Int), .int .i64 (p : Int), .bool false] wx fun e w' => e = .returned (.tuple #[]) ∧ Mod14 L w' M b n cap st pr (putL (putL qs p (butL (qs p) (t : Int))) p (butL (qs p) (t : Int) ++ [(t : Int)])) ∧ Only (fun k => k = M) wx w') := fun wx ho => by
      have h9 := (HM1.out.only ho (fun h => h) (fun h => h) (fun _ _ h => h)).add (p := p) (Nat.le_trans HL1.out ho.size) hp (by
        show (if p = p then butL (qs p) (t : Int) else qs p).length ≤ 1000
        rw [if_pos rfl]
        exact Nat.le_trans (butL_len _ _) (HLL.out p)) (t : Int) ⟨by omega, by omega⟩
      rw [show putL qs p (butL (qs p) (t : Int)) p = butL (qs p) (t : Int) from if_pos rfl] at h9
      exact h9
    clear e2 k0 k2 z0 z2
    go_wp2_with fail
    go_region_held (fun w' => w'.cell? ⟨M, 2, none⟩ = some (.slice (some ⟨b, 0, none⟩) n cap) ∧ w'.cell? ⟨b, t * 14 + 2, none⟩ = some (.int .i64 (p : Int))) (go_keep)
      (first | (go_at_call 31; refine (HA.out _ ((Only.refl _ _).drew)).mono ?_; rintro e w2 ⟨rfl, hm2, ho2⟩
                obtain ⟨_, _, u3, hth4⟩ := hm2.cells
                have u4 := (hth4 t ht).2.1
                rw [HPE.out] at u4
                have HM2 := hid hm2
                have HO3 : Hid (Only (fun k => k = M ∨ k = b) w w2) := HO2.out.chain (((Only.refl (fun k => k = M) _).drew).chain ho2 (fun _ _ e => e)) (fun _ _ e => .inl e)
                clear hm2 ho2 hth4))
    go_wp2_with fail
    go_end0
    exact ⟨rfl, HM2.out, HO3.out⟩
  · rw [if_neg h0]
    obtain ⟨hc1, hc2, e2, hth⟩ := h.cells
    obtain ⟨k0, k2, z0, z2⟩ := hth t ht
    have hn := h.size
    have HS := hid h
    have hb : (st t == 0) = false := beq_eq_false_iff_ne.2 h0
    clear h hth hl h0
    go_enter Tryz.func35, Tryz.ntmps35
    go_wp2_with fail
    go_end0
    exact ⟨rfl, HS.out, Only.refl _ _⟩

set_option maxRecDepth 100000 in
set_option maxHeartbeats 1000000 in
theorem change14 {L : Nat} (w : World) (M b n cap : Nat) (st : Nat → Int) (pr : Nat → Nat) (qs : Nat → List Int) (h : Mod14 L w M b n cap st pr qs) (hL : L ≤ w.heap.size) (t : Nat) (ht : t < n) (hp : pr t < 16) (hl : ∀ p, (qs p).length ≤ 1000) (q : Nat) (hq : q < 16) (first : Bool) (hl2 : (qs q).length + 1 ≤ 1000) :
    Calls Tryz.prog 34 #[.pointer (some ⟨M, 0, none⟩), .int .i64 (t : Int), .int .i64 (q : Int), .bool first] w fun e w' => e = .returned (.tuple #[]) ∧
      Mod14 L w' M b n cap st (updF pr t q) (if st t = 0 then putL (putL qs (pr t) (butL (qs (pr t)) (t : Int))) q (if first = true then (t : Int) :: putL qs (pr t) (butL (qs (pr t)) (t : Int)) q else putL qs (pr t) (butL (qs (pr t)) (t : Int)) q ++ [(t : Int)]) else qs) ∧ Only (fun k => k = M ∨ k = b) w w' := by
  by_cases h0 : st t = 0
  · rw [if_pos h0]
    obtain ⟨hc1, hc2, e2, hth⟩ := h.cells
    obtain ⟨k0, k2, z0, z2⟩ := hth t ht
    have hn := h.size
    have HS := hid h
    have HL := hid hL
    have HO1 : Hid (Only (fun k => k = M ∨ k = b) w w) := Only.refl _ _
    obtain ⟨p, hpe⟩ : ∃ p, pr t = p := ⟨_, rfl⟩
    have HPE := hid hpe
    rw [hpe] at hp k2 ⊢
    have HLL := hid hl
    rw [h0] at k0
    obtain ⟨qs1, hqs⟩ : ∃ f, putL qs p (butL (qs p) (t : Int)) = f := ⟨_, rfl⟩
    have HLQ : Hid ((qs1 q).length ≤ 1000) := by
      show _ ≤ _
      rw [← hqs]
      unfold putL
      split
      · exact Nat.le_trans (butL_len _ _) (hl p)
      · omega
    have HQS := hid hqs
    rw [hqs]
    clear h hth hl hpe hL h0 hl2 hqs
    go_enter Tryz.func34, Tryz.ntmps34
    go_wp2_with fail
    go_region_held (fun w' => w'.cell? ⟨M, 2, none⟩ = some (.slice (some ⟨b, 0, none⟩) n cap) ∧ w'.cell? ⟨b, t * 14 + 2, none⟩ = some (.int .i64 (p : Int))) (go_keep)
      (first | (go_at_call 63; refine ((HS.out.only (S := fun _ => False) ((Only.refl _ _).drew) (fun h => h) (fun h => h) (fun _ _ h => h)).drop HL.out hp (HLL.out p) (t : Int)).mono ?_; rintro e w1 ⟨rfl, hm1, ho1⟩
                rw [HQS.out] at hm1
                obtain ⟨_, _, r3, hth3⟩ := hm1.cells
                obtain ⟨r0, r4, y0, y2⟩ := hth3 t ht
                rw [HPE.out] at r4
                have HM1 := hid hm1
                have HO2 : Hid (Only (fun k => k = M ∨ k = b) w w1) := HO1.out.chain (((Only.refl (fun k => k = M) _).drew).chain ho1 (fun _ _ e => e)) (fun _ _ e => .inl e)
                clear hm1 ho1 hth3))
    have HL1 : Hid (L ≤ w1.heap.size) := Nat.le_trans HL.out HO2.out.size
    clear e2 k0 k2 z0 z2
    cases first with
    | true =>
      have HA := hid (HM1.out.front HL1.out hq HLQ.out (t : Int) ⟨by omega, by omega⟩)
      go_wp2_with fail
      refine HA.out.mono ?_
      rintro e w2 ⟨rfl, hm2, ho2⟩
      obtain ⟨_, _, u3, hth4⟩ := hm2.cells
      obtain ⟨u0, u4, x0, x2⟩ := hth4 t ht
      rw [HPE.out] at u4
      have HM2 := hid hm2
      have HO3 : Hid (Only (fun k => k = M ∨ k = b) w w2) := HO2.out.chain ho2 (fun _ _ e => .inl e)
      clear hm2 ho2 hth4 HA r3 r0 r4 y0 y2
      go_wp2_with fail
      go_end0
      exact ⟨rfl, HM2.out.prio t q, HO3.out.chain ((Only.self b w2).own _ _) (fun _ _ e => .inr e)⟩
    | false =>
      have HA := hid (HM1.out.add HL1.out hq HLQ.out (t : Int) ⟨by omega, by omega⟩)
      go_wp2_with fail
      refine HA.out.mono ?_
      rintro e w2 ⟨rfl, hm2, ho2⟩
      obtain ⟨_, _, u3, hth4⟩ := hm2.cells
      obtain ⟨u0, u4, x0, x2⟩ := hth4 t ht
      rw [HPE.out] at u4
      have HM2 := hid hm2
      have HO3 : Hid (Only (fun k => k = M ∨ k = b) w w2) := HO2.out.chain ho2 (fun _ _ e => .inl e)
      clear hm2 ho2 hth4 HA r3 r0 r4 y0 y2
      go_wp2_with fail
      go_end0
      exact ⟨rfl, HM2.out.prio t q, HO3.out.chain ((Only.self b w2).own _ _) (fun _ _ e => .inr e)⟩
  · rw [if_neg h0]
    obtain ⟨hc1, hc2, e2, hth⟩ := h.cells
    obtain ⟨k0, k2, z0, z2⟩ := hth t ht
    have hn := h.size
    have HS := hid h
    have hb : (st t == 0) = false := beq_eq_false_iff_ne.2 h0
    clear h hth hl h0
    go_enter Tryz.func34, Tryz.ntmps34
    go_wp2_with fail
    go_end0
    exact ⟨rfl, HS.out.prio t q, (Only.refl (fun k => k = M ∨ k = b) w).chain ((Only.self b w).own _ _) (fun _ _ e => .inr e)⟩
end Go.Proofs.YtdmgkmkhonmgbaaGreat

/-
  septumlaw14's do: what an op does to the model. Conditions: how many there are; priorities that are some.
-/
namespace Go.Sept
open Go.RowKit
/-- A call, as plain numbers. -/
structure Op14 where
  k : Int
  t : Int
  s : Int
  p : Int
  f : Bool
/-- Who is ready, and each thread's state and priority. -/
structure Sim14 where
  st : Nat → Int
  pr : Nat → Nat
  qs : Nat → List Int
def Sim14.ready (m : Sim14) (t : Nat) : Sim14 := ⟨updF m.st t 0, m.pr, putL m.qs (m.pr t) (m.qs (m.pr t) ++ [(t : Int)])⟩
def Sim14.unready (m : Sim14) (t : Nat) (x : Int) : Sim14 := ⟨updF m.st t x, m.pr, putL m.qs (m.pr t) (butL (m.qs (m.pr t)) (t : Int))⟩
def Sim14.change (m : Sim14) (t q : Nat) (first : Bool) : Sim14 :=
  ⟨m.st, updF m.pr t q, if m.st t = 0 then putL (putL m.qs (m.pr t) (butL (m.qs (m.pr t)) (t : Int))) q (if first = true then (t : Int) :: putL m.qs (m.pr t) (butL (m.qs (m.pr t)) (t : Int)) q else putL m.qs (m.pr t) (butL (m.qs (m.pr t)) (t : Int)) q ++ [(t : Int)]) else m.qs⟩
def Sim14.yield (m : Sim14) (t : Nat) : Sim14 :=
  ⟨m.st, m.pr, if m.st t = 0 then putL (putL m.qs (m.pr t) (butL (m.qs (m.pr t)) (t : Int))) (m.pr t) (butL (m.qs (m.pr t)) (t : Int) ++ [(t : Int)]) else m.qs⟩
/-- What an op does, and whether it may be done now. -/
def doM (n : Nat) (m : Sim14) (o : Op14) : Bool × Sim14 :=
  if o.t < 0 ∨ (n : Int) ≤ o.t then (true, m)
  else if o.k = 0 then (if m.st o.t.toNat = 0 then (false, m) else (true, m.ready o.t.toNat))
  else if o.k = 1 then (if m.st o.t.toNat = 0 then (true, if 1 ≤ o.s ∧ o.s ≤ 3 then m.unready o.t.toNat o.s else m) else (false, m))
  else if o.k = 2 then (true, if 0 ≤ o.p ∧ o.p ≤ 15 then m.change o.t.toNat o.p.toNat o.f else m)
  else (true, m.yield o.t.toNat)
end Go.Sept
namespace Go.Proofs.YtdmgkmkhonmgbaaGreat
open Go.RowKit Go.Sept

abbrev op14O (o : Op14) : Obj := .cells #[.int .u8 o.k, .int .i64 o.t, .int .i64 o.s, .int .i64 o.p, .bool o.f] 42
abbrev op14V (o : Op14) : Value := .agg #[.int .u8 o.k, .int .i64 o.t, .int .i64 o.s, .int .i64 o.p, .bool o.f]
abbrev Mods (L : Nat) (w : World) (M b n cap : Nat) (m : Sim14) : Prop := Mod14 L w M b n cap m.st m.pr m.qs

set_option maxRecDepth 100000 in
set_option maxHeartbeats 1000000 in
theorem do14_out {L : Nat} (w : World) (M b n cap : Nat) (m : Sim14) (h : Mods L w M b n cap m) (o : Op14) (ho : o.t < 0 ∨ (n : Int) ≤ o.t) :
    Calls Tryz.prog 9 #[.pointer (some ⟨M, 0, none⟩), op14V o] w fun e w' => e = .returned (.bool true) ∧ Mods L w' M b n cap m ∧ Only (fun k => k = M ∨ k = b) w w' := by
  obtain ⟨W, hW⟩ : ∃ W, w.alloc (op14O o) = W := ⟨_, rfl⟩
  obtain ⟨z, hz⟩ : ∃ z, w.heap.size = z := ⟨_, rfl⟩
  have hoW : Only (fun _ => False) w W := by rw [← hW]; exact (Only.refl _ _).alloc _
  have hbz : W.heap[z]? = some (op14O o) := by rw [← hW, ← hz]; exact heap_new _ _
  have hS := h.only hoW (fun h => h) (fun h => h) (fun _ _ h => h)
  obtain ⟨k, t, s, p, f⟩ := o
  have c1 : W.cell? ⟨z, 1, none⟩ = some (.int .i64 t) := cell_of_block hbz 1
  obtain ⟨hc1, hc2, e2, _⟩ := hS.cells
  have HS := hid hS
  have HO := hid hoW
  simp only [op14O] at hW
  have ho' : t < 0 ∨ (n : Int) ≤ t := ho
  clear h hoW hbz hS ho
  go_enter Tryz.func9, Tryz.ntmps9
  go_upto_region 1 with fail
  clear hW hz
  by_cases h0 : t < 0
  · have hd : decide (t < 0) = true := decide_eq_true h0
    go_quiet (fail)
    have HQ : Hid (Only (fun _ => False) W (W.drewN nq)) := only_drewN (Only.refl _ _) nq
    go_wp2_with fail
    go_ret
    exact ⟨rfl, HS.out.only HQ.out (fun h => h) (fun h => h) (fun _ _ h => h), (HO.out.chain HQ.out (fun _ _ h => h)).mono (fun _ _ h => h.elim)⟩
  · have hd : decide (t < 0) = false := decide_eq_false h0
    have h1 : (n : Int) ≤ t := by omega
    go_quiet (fail)
    have HQ : Hid (Only (fun _ => False) W (W.drewN nq)) := only_drewN (Only.refl _ _) nq
    go_wp2_with fail
    go_ret
    exact ⟨rfl, HS.out.only HQ.out (fun h => h) (fun h => h) (fun _ _ h => h), (HO.out.chain HQ.out (fun _ _ h => h)).mono (fun _ _ h => h.elim)⟩

set_option maxRecDepth 100000 in
set_option maxHeartbeats 1000000 in
theorem do14_in {L : Nat} (w : World) (M b n cap : Nat) (m : Sim14) (h : Mods L w M b n cap m) (hL : L ≤ w.heap.size) (k s p : Int) (t : Nat) (f : Bool) (ht : t < n) (hpr : ∀ t, t < n → m.pr t < 16) (hln : ∀ p, (m.qs p).length + 1 ≤ 1000) :
    Calls Tryz.prog 9 #[.pointer (some ⟨M, 0, none⟩), op14V ⟨k, (t : Int), s, p, f⟩] w fun e w' => e = .returned (.bool (doM n m ⟨k, (t : Int), s, p, f⟩).1) ∧ Mods L w' M b n cap (doM n m ⟨k, (t : Int), s, p, f⟩).2 ∧ Only (fun k => k = M ∨ k = b) w w' := by
  obtain ⟨W, hW⟩ : ∃ W, w.alloc (op14O ⟨k, (t : Int), s, p, f⟩) = W := ⟨_, rfl⟩
  obtain ⟨z, hz⟩ : ∃ z, w.heap.size = z := ⟨_, rfl⟩
  have hoW : Only (fun _ => False) w W := by rw [← hW]; exact (Only.refl _ _).alloc _
  have hbz : W.heap[z]? = some (op14O ⟨k, (t : Int), s, p, f⟩) := by rw [← hW, ← hz]; exact heap_new _ _
  have hS := h.only hoW (fun h => h) (fun h => h) (fun _ _ h => h)
  have HL : Hid (L ≤ W.heap.size) := Nat.le_trans hL hoW.size
  have c0 : W.cell? ⟨z, 0, none⟩ = some (.int .u8 k) := cell_of_block hbz 0
  have c1 : W.cell? ⟨z, 1, none⟩ = some (.int .i64 (t : Int)) := cell_of_block hbz 1
  have c2 : W.cell? ⟨z, 2, none⟩ = some (.int .i64 s) := cell_of_block hbz 2
  have c3 : W.cell? ⟨z, 3, none⟩ = some (.int .i64 p) := cell_of_block hbz 3
  have c4 : W.cell? ⟨z, 4, none⟩ = some (.bool f) := cell_of_block hbz 4
  obtain ⟨hc1, hc2, e2, hth⟩ := hS.cells
  obtain ⟨k0, k2, z0, z2⟩ := hth t ht
  have HS := hid hS
  have HO := hid hoW
  have HPR := hid hpr
  have HLN := hid hln
  have hn := h.size
  obtain ⟨R, hR⟩ : ∃ R, doM n m ⟨k, (t : Int), s, p, f⟩ = R := ⟨_, rfl⟩
  have HR : Hid (R = if k = 0 then (if m.st t = 0 then (false, m) else (true, m.ready t)) else if k = 1 then (if m.st t = 0 then (true, if 1 ≤ s ∧ s ≤ 3 then m.unready t s else m) else (false, m)) else if k = 2 then (true, if 0 ≤ p ∧ p ≤ 15 then m.change t p.toNat f else m) else (true, m.yield t)) := by
    show _ = _
    rw [← hR, doM, if_neg (by show ¬ ((t : Int) < 0 ∨ (n : Int) ≤ (t : Int)); omega)]
    simp only [Int.toNat_natCast]
  rw [hR]
  simp only [op14O] at hW
  have hd : decide ((t : Int) < 0) = false := decide_eq_false (by omega)
  have hd2 : ¬ ((n : Int) ≤ (t : Int)) := by omega
  clear h hoW hbz hS hth hR hpr hln hL
  go_enter Tryz.func9, Tryz.ntmps9
  go_upto_region 1 with fail
  clear hW hz
  go_quiet (fail)
  obtain ⟨X, hX⟩ : ∃ X, W.drewN nq = X := ⟨_, rfl⟩
  have HQ : Hid (Only (fun _ => False) W X) := by rw [← hX]; exact only_drewN (Only.refl _ _) nq
  rw [hX]
  have hSX := HS.out.only HQ.out (fun h => h) (fun h => h) (fun _ _ h => h)
  have HSX := hid hSX
  have HLX : Hid (L ≤ X.heap.size) := Nat.le_trans HL.out HQ.out.size
  have HOX : Hid (Only (fun k => k = M ∨ k = b) w X) := (HO.out.chain HQ.out (fun _ _ h => h)).mono (fun _ _ h => h.elim)
  have d0 := cellN13 HQ.out c0
  have d1 := cellN13 HQ.out c1
  have d2 := cellN13 HQ.out c2
  have d3 := cellN13 HQ.out c3
  have d4 := cellN13 HQ.out c4
  obtain ⟨_, _, e3, hth3⟩ := hSX.cells
  obtain ⟨j0, j2, y0, y2⟩ := hth3 t ht
  clear hX hSX hth3 c0 c1 c2 c3 c4 e2 k0 k2 z0 z2 hd hd2 HS
  have HLN2 : Hid (∀ p, (m.qs p).length ≤ 1000) := fun p => by have := HLN.out p; omega
  by_cases h0 : k = 0
  · have hk : (k == 0) = true := beq_iff_eq.2 h0
    by_cases hs0 : m.st t = 0
    · have HRV : Hid (R = (false, m)) := by show _ = _; rw [HR.out, if_pos h0, if_pos hs0]
      rw [hs0] at j0
      clear h0 hs0 HR
      go_upto_region 6 with fail
      go_quiet (fail)
      obtain ⟨Y, hY⟩ : ∃ Y, X.drewN nq = Y := ⟨_, rfl⟩
      have HY : Hid (Only (fun _ => False) X Y) := by rw [← hY]; exact only_drewN (Only.refl _ _) nq
      have HSY := hid (HSX.out.only HY.out (fun h => h) (fun h => h) (fun _ _ h => h))
      have HOY : Hid (Only (fun k => k = M ∨ k = b) w Y) := HOX.out.chain HY.out (fun _ _ h => h.elim)
      have HLY : Hid (L ≤ Y.heap.size) := Nat.le_trans HLX.out HY.out.size
      rw [hY]
      have g1 := cellN13 HY.out d1
      have g2 := cellN13 HY.out d2
      clear hY d0 d1 d2 d3 d4 e3 j0 j2 y0 y2
      go_wp2_with fail
      go_ret
      rw [HRV.out]
      exact ⟨rfl, HSY.out, HOY.out⟩
    · have HRV : Hid (R = (true, m.ready t)) := by show _ = _; rw [HR.out, if_pos h0, if_neg hs0]
      have hb : (m.st t == 0) = false := beq_eq_false_iff_ne.2 hs0
      clear h0 hs0 HR
      go_upto_region 6 with fail
      go_quiet (fail)
      obtain ⟨Y, hY⟩ : ∃ Y, X.drewN nq = Y := ⟨_, rfl⟩
      have HY : Hid (Only (fun _ => False) X Y) := by rw [← hY]; exact only_drewN (Only.refl _ _) nq
      have HSY := hid (HSX.out.only HY.out (fun h => h) (fun h => h) (fun _ _ h => h))
      have HOY : Hid (Only (fun k => k = M ∨ k = b) w Y) := HOX.out.chain HY.out (fun _ _ h => h.elim)
      have HLY : Hid (L ≤ Y.heap.size) := Nat.le_trans HLX.out HY.out.size
      rw [hY]
      have g1 := cellN13 HY.out d1
      have g2 := cellN13 HY.out d2
      clear hY d0 d1 d2 d3 d4 e3 j0 j2 y0 y2
      go_wp2_with fail
      refine (setReady14 Y M b n cap _ _ _ HSY.out HLY.out t ht (HPR.out t ht) HLN2.out).mono ?_
      rintro e w5 ⟨rfl, hm5, ho5⟩
      have HM5 := hid hm5
      have HO5 := hid (HOY.out.chain ho5 (fun _ _ h => h))
      clear hm5 ho5
      go_wp2_with fail
      go_ret
      rw [HRV.out]
      exact ⟨rfl, HM5.out, HO5.out⟩
  have hk0 : (k == 0) = false := beq_eq_false_iff_ne.2 h0
  by_cases h1 : k = 1
  · have hk : (k == 1) = true := beq_iff_eq.2 h1
    by_cases hs0 : m.st t = 0
    · have hb : (m.st t != 0) = false := by rw [hs0]; rfl
      by_cases hss : 1 ≤ s ∧ s ≤ 3
      · have HRV : Hid (R = (true, m.unready t s)) := by show _ = _; rw [HR.out, if_neg h0, if_pos h1, if_pos hs0, if_pos hss]
        obtain ⟨s1, s2⟩ := hss
        clear h0 h1 hs0 HR
        go_upto_region 10 with fail
        go_quiet (fail)
        obtain ⟨Y, hY⟩ : ∃ Y, X.drewN nq = Y := ⟨_, rfl⟩
        have HY : Hid (Only (fun _ => False) X Y) := by rw [← hY]; exact only_drewN (Only.refl _ _) nq
        have HSY := hid (HSX.out.only HY.out (fun h => h) (fun h => h) (fun _ _ h => h))
        have HOY : Hid (Only (fun k => k = M ∨ k = b) w Y) := HOX.out.chain HY.out (fun _ _ h => h.elim)
        have HLY : Hid (L ≤ Y.heap.size) := Nat.le_trans HLX.out HY.out.size
        rw [hY]
        have g1 := cellN13 HY.out d1
        have g2 := cellN13 HY.out d2
        clear hY d0 d1 d2 d3 d4 e3 j0 j2 y0 y2
        go_wp2_with fail
        refine (unready14 Y M b n cap _ _ _ HSY.out HLY.out t ht (HPR.out t ht) HLN2.out s).mono ?_
        rintro e w5 ⟨rfl, hm5, ho5⟩
        have HM5 := hid hm5
        have HO5 := hid (HOY.out.chain ho5 (fun _ _ h => h))
        clear hm5 ho5
        go_wp2_with fail
        go_ret
        rw [HRV.out]
        exact ⟨rfl, HM5.out, HO5.out⟩
      · have HRV : Hid (R = (true, m)) := by show _ = _; rw [HR.out, if_neg h0, if_pos h1, if_pos hs0, if_neg hss]
        clear h0 h1 hs0 HR
        rcases (show s < 1 ∨ (1 ≤ s ∧ 3 < s) by omega) with s1 | ⟨s1, s2⟩
        all_goals
          clear hss
          go_upto_region 10 with fail
          go_quiet (fail)
          obtain ⟨Y, hY⟩ : ∃ Y, X.drewN nq = Y := ⟨_, rfl⟩
          have HY : Hid (Only (fun _ => False) X Y) := by rw [← hY]; exact only_drewN (Only.refl _ _) nq
          have HSY := hid (HSX.out.only HY.out (fun h => h) (fun h => h) (fun _ _ h => h))
          have HOY : Hid (Only (fun k => k = M ∨ k = b) w Y) := HOX.out.chain HY.out (fun _ _ h => h.elim)
          have HLY : Hid (L ≤ Y.heap.size) := Nat.le_trans HLX.out HY.out.size
          rw [hY]
          have g1 := cellN13 HY.out d1
          have g2 := cellN13 HY.out d2
          clear hY d0 d1 d2 d3 d4 e3 j0 j2 y0 y2
          go_wp2_with fail
          go_ret
          rw [HRV.out]
          exact ⟨rfl, HSY.out, HOY.out⟩
    · have HRV : Hid (R = (false, m)) := by show _ = _; rw [HR.out, if_neg h0, if_pos h1, if_neg hs0]
      have hb : (m.st t != 0) = true := bne_iff_ne.2 hs0
      clear h0 h1 hs0 HR
      go_upto_region 10 with fail
      go_quiet (fail)
      obtain ⟨Y, hY⟩ : ∃ Y, X.drewN nq = Y := ⟨_, rfl⟩
      have HY : Hid (Only (fun _ => False) X Y) := by rw [← hY]; exact only_drewN (Only.refl _ _) nq
      have HSY := hid (HSX.out.only HY.out (fun h => h) (fun h => h) (fun _ _ h => h))
      have HOY : Hid (Only (fun k => k = M ∨ k = b) w Y) := HOX.out.chain HY.out (fun _ _ h => h.elim)
      have HLY : Hid (L ≤ Y.heap.size) := Nat.le_trans HLX.out HY.out.size
      rw [hY]
      have g1 := cellN13 HY.out d1
      have g2 := cellN13 HY.out d2
      clear hY d0 d1 d2 d3 d4 e3 j0 j2 y0 y2
      go_wp2_with fail
      go_ret
      rw [HRV.out]
      exact ⟨rfl, HSY.out, HOY.out⟩
  have hk1 : (k == 1) = false := beq_eq_false_iff_ne.2 h1
  by_cases h2 : k = 2
  · have hk : (k == 2) = true := beq_iff_eq.2 h2
    by_cases hpp : 0 ≤ p ∧ p ≤ 15
    · have HRV : Hid (R = (true, m.change t p.toNat f)) := by show _ = _; rw [HR.out, if_neg h0, if_neg h1, if_pos h2, if_pos hpp]
      obtain ⟨q, rfl⟩ : ∃ q : Nat, p = (q : Int) := ⟨p.toNat, by omega⟩
      have hq16 : q < 16 := by omega
      have hqi : (q : Int) ≤ 15 := by omega
      have hq0 : (0 : Int) ≤ (q : Int) := by omega
      rw [Int.toNat_natCast] at HRV
      clear h0 h1 h2 HR hpp
      go_wp2_with fail
      refine (change14 X M b n cap _ _ _ HSX.out HLX.out t ht (HPR.out t ht) HLN2.out q hq16 f (HLN.out q)).mono ?_
      rintro e w5 ⟨rfl, hm5, ho5⟩
      have HM5 := hid hm5
      have HO5 := hid (HOX.out.chain ho5 (fun _ _ h => h))
      clear hm5 ho5
      go_wp2_with fail
      go_ret
      rw [HRV.out]
      exact ⟨rfl, HM5.out, HO5.out⟩
    · have HRV : Hid (R = (true, m)) := by show _ = _; rw [HR.out, if_neg h0, if_neg h1, if_pos h2, if_neg hpp]
      clear h0 h1 h2 HR
      rcases (show p < 0 ∨ (0 ≤ p ∧ 15 < p) by omega) with p1 | ⟨p1, p2⟩
      all_goals
        clear hpp
        go_wp2_with fail
        go_ret
        rw [HRV.out]
        exact ⟨rfl, HSX.out, HOX.out⟩
  · have hk2 : (k == 2) = false := beq_eq_false_iff_ne.2 h2
    have HRV : Hid (R = (true, m.yield t)) := by show _ = _; rw [HR.out, if_neg h0, if_neg h1, if_neg h2]
    clear h0 h1 h2 HR
    go_wp2_with fail
    refine (yield14 X M b n cap _ _ _ HSX.out HLX.out t ht (HPR.out t ht) HLN2.out).mono ?_
    rintro e w5 ⟨rfl, hm5, ho5⟩
    have HM5 := hid hm5
    have HO5 := hid (HOX.out.chain ho5 (fun _ _ h => h))
    clear hm5 ho5
    go_wp2_with fail
    go_ret
    rw [HRV.out]
    exact ⟨rfl, HM5.out, HO5.out⟩
end Go.Proofs.YtdmgkmkhonmgbaaGreat

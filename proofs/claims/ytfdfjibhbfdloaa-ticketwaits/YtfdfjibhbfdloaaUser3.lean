/-
  The body of septumlaw03's user, underway in a frame's step, as a tree of accesses. Conditions: all of it lies in blocks that are not the same; the tree is long enough for the frame's log.
-/
import Derived.Test.YtfdfjibhbfdloaaTick2
import Derived.Deep.RegionHeld
namespace Go.Sept
open Go.RowKit

/-- Inside. -/
def inT (a t : Int) (d : Nat) : Tree (Int × Int × Bool) (d + 5) :=
  .off fun o => .acc 0 5 0 0 fun g => .acc 1 5 (wrap64 (g + 1)) 0 fun _ => .acc 1 (wrap64 (a + 1)) (wrap64 (t + 1)) 0 fun _ => .off fun o2 => .ret (t, g, if o2 = true then !o else false)
def waitU (a t : Int) : (n : Nat) → Tree (Int × Int × Bool) (3 * n + 5)
  | 0 => inT a t 0
  | n + 1 => .acc 0 (wrap64 (a + 1)) 0 0 fun v => .off fun o => if (!o && (v == t)) = true then inT a t (3 * n + 1) else .off fun o2 => if o2 = true then inT a t (3 * n) else waitU a t n
def userT (n : Nat) (a : Int) : Tree (Int × Int × Bool) (3 * n + 6) := .acc 2 a 1 0 fun t => waitU a t n
theorem run_inT (a t : Int) (d e : Nat) (s : FrSt) (xs : List Int) : (inT a t d).run s xs = (inT a t e).run s xs := by
  simp only [inT, Tree.run_off, Tree.run_acc, Tree.run_ret]
theorem waitT_same (n : Nat) (a t : Int) (s : FrSt) (xs : List Int) : ((waitT a t n).run s xs).1 = t := by
  induction n generalizing s xs with
  | zero => rfl
  | succ n ih =>
    rw [waitT_run]
    split
    · rfl
    · split
      · rfl
      · exact ih _ _
theorem waitU_run (n : Nat) (a t : Int) (s : FrSt) (xs : List Int) : (waitU a t n).run s xs = (inT a t 0).run ((waitT a t n).run s xs).2.1 ((waitT a t n).run s xs).2.2 := by
  induction n generalizing s xs with
  | zero => rfl
  | succ n ih =>
    rw [waitT_run, run_served]
    show Tree.run (if (!(!(Sept.acc 0 (wrap64 (a + 1)) 0 0 s xs).2.1.underway || (Sept.acc 0 (wrap64 (a + 1)) 0 0 s xs).2.1.off) && ((Sept.acc 0 (wrap64 (a + 1)) 0 0 s xs).1 == t)) = true then inT a t (3 * n + 1) else .off fun o2 => if o2 = true then inT a t (3 * n) else waitU a t n) _ _ = _
    split
    · exact run_inT a t _ 0 _ _
    · rw [Tree.run_off]
      split
      · exact run_inT a t _ 0 _ _
      · exact ih _ _
theorem userT_run (n : Nat) (a : Int) (s : FrSt) (xs : List Int) : (userT n a).run s xs = (inT a ((enterT n a).run s xs).1 0).run ((enterT n a).run s xs).2.1 ((enterT n a).run s xs).2.2 := by
  rw [run_enter, waitT_same]
  exact waitU_run n a _ _ _
end Go.Sept

namespace Go.Proofs.Ytfdfjibhbfdloaa
open Go.RowKit Go.Sept

/-- A user, as it lies in a block. -/
def UserIs (w : World) (U : Nat) (a t g : Int) (i : Bool) : Prop := w.heap[U]? = some (.cells #[.int .i64 a, .int .i64 t, .int .i64 g, .bool i] 62)

/-- A frame, its memory, and a block beside them. -/
structure Beside (w : World) (F lb p q U : Nat) (s : FrSt) (xs : List Int) (c : Array Value) (tu : TypeId) : Prop where
  fm : FMIs w F lb p q s xs
  blk : w.heap[U]? = some (.cells c tu)
  n1 : U ≠ F
  n2 : U ≠ lb
  n3 : U ≠ p
  n4 : U ≠ q

/-- What is left of it, and what else has turned. -/
def Stays (w : World) (F lb p q U : Nat) (s : FrSt) (xs : List Int) (c : Array Value) (tu : TypeId) (w' : World) : Prop :=
  ∃ lb', Beside w' F lb' p q U s xs c tu ∧ (lb' = lb ∨ w.heap.size ≤ lb') ∧ Only (fun k => k = F ∨ k = lb ∨ k = q ∨ k = U) w w'

section
variable {w w1 w2 : World} {F lb p q U : Nat} {s s1 s2 : FrSt} {xs xs1 xs2 : List Int} {c c1 c2 : Array Value} {tu : TypeId}
theorem Beside.self (h : Beside w F lb p q U s xs c tu) : Stays w F lb p q U s xs c tu w := ⟨lb, h, .inl rfl, Only.refl _ _⟩
theorem Stays.left (h : Stays w F lb p q U s1 xs1 c tu w1) {lb1 : Nat} (hb : Beside w1 F lb1 p q U s1 xs1 c tu) (hl : lb1 = lb ∨ w.heap.size ≤ lb1) (k : Left w1 F lb1 p q s2 xs2 w2) : Stays w F lb p q U s2 xs2 c tu w2 := by
  obtain ⟨_, _, _, h3⟩ := h
  obtain ⟨lb2, k1, k2, k3⟩ := k
  have z := h3.size
  have hU := lt_of_block hb.blk
  have a1 := hb.n1
  have a2 := hb.n2
  have a4 := hb.n4
  refine ⟨lb2, ⟨k1, (k3.block U hU (by omega)).trans hb.blk, a1, by omega, hb.n3, a4⟩, by omega, h3.chain k3 (fun i hi e => ?_)⟩
  omega
theorem Stays.set (h : Stays w F lb p q U s1 xs1 c tu w1) (i : Nat) (v : Value) : Stays w F lb p q U s1 xs1 (c.setIfInBounds i v) tu (w1.setCell ⟨U, i, none⟩ v) := by
  obtain ⟨lb1, hb, h2, h3⟩ := h
  have ho := (Only.self U w1).own i v
  refine ⟨lb1, ⟨hb.fm.only ho (fun e => hb.n1 e.symm) (fun e => hb.n2 e.symm) (fun e => hb.n3 e.symm) (fun e => hb.n4 e.symm), block_setCell hb.blk i v, hb.n1, hb.n2, hb.n3, hb.n4⟩, h2, h3.chain ho (fun _ _ e => .inr (.inr (.inr e)))⟩
theorem Stays.drew (h : Stays w F lb p q U s1 xs1 c tu w1) : Stays w F lb p q U s1 xs1 c tu w1.drew := by
  obtain ⟨lb1, hb, h2, h3⟩ := h
  have ho := (Only.refl (fun _ => False) w1).drew
  exact ⟨lb1, ⟨hb.fm.only ho (fun h => h) (fun h => h) (fun h => h) (fun h => h), hb.blk, hb.n1, hb.n2, hb.n3, hb.n4⟩, h2, h3.drew⟩
end

set_option maxRecDepth 100000 in
set_option maxHeartbeats 400000 in
theorem user_body (n : Nat) (w : World) (F lb p q U : Nat) (s : FrSt) (xs : List Int) (a t g : Int) (i : Bool) (h : Beside w F lb p q U s xs #[.int .i64 a, .int .i64 t, .int .i64 g, .bool i] 62) (hr : Fit (3 * n + 4) s) (h1 : s.asked ≤ s.most) (h2 : s.most + 2 ≤ n) :
    Calls Try.prog 25 #[.pointer (some ⟨U, 0, none⟩), .pointer (some ⟨F, 0, none⟩)] w fun e w' => e = .returned (.tuple #[]) ∧
      Stays w F lb p q U ((userT n a).run s xs).2.1 ((userT n a).run s xs).2.2 #[.int .i64 a, .int .i64 ((userT n a).run s xs).1.1, .int .i64 ((userT n a).run s xs).1.2.1, .bool ((userT n a).run s xs).1.2.2] 62 w' := by
  obtain ⟨R, hR⟩ : ∃ R, (userT n a).run s xs = R := ⟨_, rfl⟩
  rw [hR]
  rw [userT_run] at hR
  have HR := hid hR
  have HF := hid hr
  have HN := hid (And.intro h1 h2)
  have c3 : w.cell? ⟨U, 3, none⟩ = some (.bool i) := cell_of_block h.blk 3
  have f3 := frozen_of_block h.blk 3
  have H1 := hid (h.self.set 3 (.bool false))
  have c0 : (w.setCell ⟨U, 3, none⟩ (.bool false)).cell? ⟨U, 0, none⟩ = some (.int .i64 a) := by
    obtain ⟨_, hb, _⟩ := H1.out
    exact cell_of_block hb.blk 0
  clear hR h hr h1 h2
  go_enter Try.func25, Try.ntmps25
  go_wp2_with fail
  generalize hw1 : w.setCell ⟨U, 3, none⟩ (.bool false) = w1 at *
  clear hw1 c3 f3
  obtain ⟨lb1, hb1, hl1, ho1⟩ := H1.out
  have HB1 := hid (And.intro hb1 hl1)
  clear hb1 hl1 ho1 c0
  refine (enter_rel n _ F lb1 p q s xs HB1.out.1.fm (HF.out.mono (by omega)) HN.out.1 HN.out.2 a).mono ?_
  rintro e w2 ⟨rfl, hL⟩
  have H2 := hid (H1.out.left HB1.out.1 HB1.out.2 hL)
  have HF2 : Hid (Fit 3 ((enterT n a).run s xs).2.1) := (enterT n a).fit (k := 3) (HF.out.mono (by omega)) xs
  clear hL HB1 H1 HF HN
  obtain ⟨⟨t1, s1, xs1⟩, hE⟩ : ∃ E, (enterT n a).run s xs = E := ⟨_, rfl⟩
  rw [hE] at H2 HF2 HR
  rw [hE]
  clear hE
  obtain ⟨lb2, hb2, hl2, ho2⟩ := H2.out
  have HB2 := hid (And.intro hb2 hl2)
  have c1 : w2.cell? ⟨U, 1, none⟩ = some (.int .i64 t) := cell_of_block hb2.blk 1
  have f1 := frozen_of_block hb2.blk 1
  have H3 := hid (H2.out.set 1 (.int .i64 t1))
  clear hb2 hl2 ho2 HB2 H2
  go_wp2_with fail
  generalize hw3 : w2.setCell ⟨U, 1, none⟩ (.int .i64 t1) = w3 at *
  clear hw3 c1 f1
  obtain ⟨lb3, hb3, hl3, ho3⟩ := H3.out
  have HB3 := hid (And.intro hb3 hl3)
  have c3 : w3.cell? ⟨U, 3, none⟩ = some (.bool false) := cell_of_block hb3.blk 3
  have f3 := frozen_of_block hb3.blk 3
  clear hb3 hl3 ho3
  refine (foff_left HB3.out.1.fm).mono ?_
  rintro e w4 ⟨rfl, rfl⟩
  obtain ⟨o, ho⟩ : ∃ o, (!s1.underway || s1.off) = o := ⟨_, rfl⟩
  rw [ho]
  simp only [inT, Tree.run_off, Tree.run_acc, Tree.run_ret] at HR
  rw [ho] at HR
  have H4 := hid (H3.out.set 3 (.bool !o))
  clear H3 HB3 ho
  go_wp2_with fail
  generalize hw5 : w4.setCell ⟨U, 3, none⟩ (.bool !o) = w5 at *
  clear hw5 c3 f3
  obtain ⟨lb5, hb5, hl5, ho5⟩ := H4.out
  have HB5 := hid (And.intro hb5 hl5)
  clear hb5 hl5 ho5
  refine (fload_rel _ F lb5 p q s1 xs1 HB5.out.1.fm (fit_ready HF2.out) 5 0 0).mono ?_
  rintro e w6 ⟨rfl, hL⟩
  have H6 := hid (H4.out.left HB5.out.1 HB5.out.2 hL)
  have HF6 := hid (HF2.out.acc 0 5 0 0 xs1)
  obtain ⟨⟨g1, s2, xs2⟩, hE⟩ : ∃ E, acc 0 5 0 0 s1 xs1 = E := ⟨_, rfl⟩
  rw [hE] at H6 HF6 HR
  rw [hE]
  clear hL H4 HB5 HF2 hE
  obtain ⟨lb6, hb6, hl6, ho6⟩ := H6.out
  have c2 : w6.cell? ⟨U, 2, none⟩ = some (.int .i64 g) := cell_of_block hb6.blk 2
  have f2 := frozen_of_block hb6.blk 2
  have H7 := hid (H6.out.set 2 (.int .i64 g1))
  have d2 : (w6.setCell ⟨U, 2, none⟩ (.int .i64 g1)).cell? ⟨U, 2, none⟩ = some (.int .i64 g1) := by
    obtain ⟨_, hb, _⟩ := H7.out
    exact cell_of_block hb.blk 2
  clear hb6 hl6 ho6 H6
  go_wp2_with fail
  generalize hw7 : w6.setCell ⟨U, 2, none⟩ (.int .i64 g1) = w7 at *
  clear hw7 c2 f2 d2
  obtain ⟨lb7, hb7, hl7, ho7⟩ := H7.out
  have HB7 := hid (And.intro hb7 hl7)
  clear hb7 hl7 ho7
  refine (fstore_rel _ F lb7 p q s2 xs2 HB7.out.1.fm (fit_ready HF6.out) 5 (wrap64 (g1 + 1)) 0).mono ?_
  rintro e w8 ⟨rfl, hL⟩
  have H8 := hid (H7.out.left HB7.out.1 HB7.out.2 hL).drew
  have HF8 := hid (HF6.out.acc 1 5 (wrap64 (g1 + 1)) 0 xs2)
  obtain ⟨⟨r1, s3, xs3⟩, hE⟩ : ∃ E, acc 1 5 (wrap64 (g1 + 1)) 0 s2 xs2 = E := ⟨_, rfl⟩
  rw [hE] at H8 HF8 HR
  clear hL H7 HB7 HF6 hE
  obtain ⟨lb8, hb8, hl8, ho8⟩ := H8.out
  have HB8 := hid (And.intro hb8 hl8)
  have d0 : w8.cell? ⟨U, 0, none⟩ = some (.int .i64 a) := cell_of_block hb8.blk 0
  have d1 : w8.cell? ⟨U, 1, none⟩ = some (.int .i64 t1) := cell_of_block hb8.blk 1
  clear hb8 hl8 ho8
  go_wp2_with fail
  go_region_held (fun w' => w'.cell? ⟨U, 0, none⟩ = some (.int .i64 a) ∧ w'.cell? ⟨U, 1, none⟩ = some (.int .i64 t1)) (go_keep)
    (first | (go_at_call 42; refine (leave_rel _ F lb8 p q s3 xs3 ?_ ?_ a t1).mono ?_; exact HB8.out.1.fm; exact HF8.out; rintro e w9 ⟨rfl, hL⟩; have H9 := hid (H8.out.left HB8.out.1 HB8.out.2 hL); obtain ⟨lb9, hb9, hl9, ho9⟩ := H9.out; have e0 : w9.cell? ⟨U, 0, none⟩ = some (.int .i64 a) := cell_of_block hb9.blk 0; have e1 : w9.cell? ⟨U, 1, none⟩ = some (.int .i64 t1) := cell_of_block hb9.blk 1; have HB9 := hid (And.intro hb9 hl9); clear hb9 hl9 ho9 hL))
  simp only [run_leave] at H9 HB9
  obtain ⟨⟨r2, s4, xs4⟩, hE⟩ : ∃ E, acc 1 (wrap64 (a + 1)) (wrap64 (t1 + 1)) 0 s3 xs3 = E := ⟨_, rfl⟩
  rw [hE] at H9 HB9 HR
  clear hE H8 HB8 HF8 d0 d1 e0 e1
  go_wp2_with fail
  refine (foff_left HB9.out.1.fm).mono ?_
  rintro e w10 ⟨rfl, rfl⟩
  obtain ⟨o2, ho⟩ : ∃ o, (!s4.underway || s4.off) = o := ⟨_, rfl⟩
  rw [ho]
  rw [ho] at HR
  have c3 : w10.cell? ⟨U, 3, none⟩ = some (.bool !o) := cell_of_block HB9.out.1.blk 3
  have f3 := frozen_of_block HB9.out.1.blk 3
  have H10 := hid (H9.out.set 3 (.bool false))
  clear HB9 ho
  cases o2
  · go_wp2_with fail
    go_end0
    refine ⟨rfl, ?_⟩
    rw [← HR.out]
    exact H10.out
  · go_wp2_with fail
    go_end0
    refine ⟨rfl, ?_⟩
    rw [← HR.out]
    exact H9.out
end Go.Proofs.Ytfdfjibhbfdloaa

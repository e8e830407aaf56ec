/-
  The bodies of septumlaw06 but look: act and after. Conditions: all of it lies in blocks that are not the same.
-/
import Derived.Test.YthihbkhgemdpdaaQueue6
import Derived.Deep.RegionHeld
namespace Go.Proofs.Ythihbkhgemdpdaa
open Go.RowKit Go.Sept

/-- To show that a method is a body that does a tree. -/
theorem body_of {α : Type} {n m : Nat} {T : Tree α n} {fn : Nat} {rcv : Value} {K : Kept α} (hent : ∀ (args : Array Value) (w : World), (callFunc fn args).run Try.prog w = .ok (.enter fn args) w) (hn : n ≤ 200000) (hm : m ≤ 100000)
    (h : ∀ w, K.Pre w → ∃ B : Bag, B.P w ∧ (∀ k, B.V k → K.V k) ∧ ∀ (F lb p q : Nat) (R : α × FrSt × List Int), At w F lb p q K.W B T R w →
      Calls Try.prog fn #[rcv, ptrV F] w fun e w' => ∃ (x : α) (B' : Bag), e = .returned (.tuple #[]) ∧ At w F lb p q K.W B' (Tree.ret x : Tree α 0) R w' ∧ (∀ k, K.V k → B'.V k) ∧ (B'.P w' → K.Pre w' ∧ K.Post w.heap.size x w')) : BodyIn T fn rcv K m where
  enters := hent
  small := hm
  does := fun w F lb p q s xs hN hf _ _ => by
    obtain ⟨B, hP, hV, hc⟩ := h w hN.pre
    refine (hc F lb p q _ (At.start hN.fm (hf.mono hn) hP (fun k hk => hN.apart k (hV k hk)))).mono ?_
    rintro e w' ⟨x, B', rfl, ⟨s', xs', lb1, a1, a2, a3, a4, a5, a6⟩, hV', hK⟩
    have hk := hK a4.1
    rw [← a6, Tree.run_ret]
    exact ⟨rfl, lb1, ⟨a1, hk.1, fun k hk => a4.2 k (hV' k hk)⟩, a2, a3, hk.2⟩

abbrev actO (k n p : Int) : Obj := .cells #[.int .u8 k, .int .i64 n, .int .i64 p] 30

/-- One block that a body reads. -/
def readK (U : Nat) (o : Obj) : Kept Unit where
  V := fun k => k = U
  W := fun _ => False
  Pre := fun w => w.heap[U]? = some o
  Post := fun _ _ _ => True
  sub := fun _ h => h.elim
  low := fun w k h hk => by
    obtain rfl : k = U := hk
    exact lt_of_block h
  keep := fun S w w' h ho hv => (ho.block U (lt_of_block h) (hv U rfl)).trans h
  held := fun _ _ _ _ _ _ _ _ _ => trivial
  less := fun _ _ _ _ _ _ => trivial

theorem act_of {n : Nat} {T : Tree Unit n} (U : Nat) (k a b : Int) (hn : n ≤ 200000)
    (h : ∀ (w : World) (F lb p q : Nat) (R : Unit × FrSt × List Int), At w F lb p q (fun _ => False) (Bag.one U (actO k a b)) T R w →
      Calls Try.prog 9 #[ptrV U, ptrV F] w fun e w' => e = .returned (.tuple #[]) ∧ At w F lb p q (fun _ => False) (Bag.one U (actO k a b)) (Tree.ret () : Tree Unit 0) R w') : BodyIn T 9 (ptrV U) (readK U (actO k a b)) 6000 := by
  refine body_of (enters_of Try.func9 (by kernel_rfl) rfl) hn (by decide) fun w hw => ⟨Bag.one U (actO k a b), hw, fun _ h => h, fun F lb p q R h0 => (h w F lb p q R h0).mono ?_⟩
  rintro e w' ⟨rfl, h1⟩
  exact ⟨(), _, rfl, h1, fun _ h => h, fun h => ⟨h, trivial⟩⟩

set_option maxRecDepth 100000 in
set_option maxHeartbeats 400000 in
theorem act3_of (U : Nat) (a b : Int) : BodyIn (qInitT 5 16) 9 (ptrV U) (readK U (actO 3 a b)) 6000 := by
  refine act_of U 3 a b (by decide) fun w F lb p q R h0 => ?_
  have H := hid h0
  have hb : w.heap[U]? = some (actO 3 a b) := h0.bag
  have c0 : w.cell? ⟨U, 0, none⟩ = some (.int .u8 3) := cell_of_block hb 0
  clear h0 hb
  go_enter Try.func9, Try.ntmps9
  go_wp2_with fail
  refine (H.out.tail (qInit_does 5)).mono ?_
  rintro e w1 ⟨x1, rfl, h1⟩
  have H1 := hid h1
  clear H h1
  go_wp2_with fail
  go_end0
  exact ⟨rfl, H1.out⟩

set_option maxRecDepth 100000 in
set_option maxHeartbeats 400000 in
theorem act0_of (U : Nat) (a b : Int) : BodyIn (qAddT 5 a b) 9 (ptrV U) (readK U (actO 0 a b)) 6000 := by
  refine act_of U 0 a b (by decide) fun w F lb p q R h0 => ?_
  have H := hid h0.drew
  have hb : w.heap[U]? = some (actO 0 a b) := h0.bag
  have c0 : w.cell? ⟨U, 0, none⟩ = some (.int .u8 0) := cell_of_block hb 0
  have c1 : w.cell? ⟨U, 1, none⟩ = some (.int .i64 a) := cell_of_block hb 1
  have c2 : w.cell? ⟨U, 2, none⟩ = some (.int .i64 b) := cell_of_block hb 2
  clear h0 hb
  go_enter Try.func9, Try.ntmps9
  go_wp2_with fail
  go_region_held (fun w' => w'.cell? ⟨U, 1, none⟩ = some (.int .i64 a) ∧ w'.cell? ⟨U, 2, none⟩ = some (.int .i64 b)) (go_keep)
    (first | (go_at_call 18; refine (H.out.tail (qAdd_does 5 a b)).mono ?_; rintro e w1 ⟨x1, rfl, h1⟩; have H1 := hid h1; have hb1 : w1.heap[U]? = some (actO 0 a b) := h1.bag; have d1 : w1.cell? ⟨U, 1, none⟩ = some (.int .i64 a) := cell_of_block hb1 1; have d2 : w1.cell? ⟨U, 2, none⟩ = some (.int .i64 b) := cell_of_block hb1 2; clear h1 hb1))
  clear H c0 c1 c2 d1 d2
  go_wp2_with fail
  go_end0
  exact ⟨rfl, H1.out⟩

set_option maxRecDepth 100000 in
set_option maxHeartbeats 400000 in
theorem act1_of (U : Nat) (a b : Int) (hp : ¬ (0 ≤ b ∧ b < 16)) : BodyIn (Tree.ret () : Tree Unit 0) 9 (ptrV U) (readK U (actO 1 a b)) 6000 := by
  refine act_of U 1 a b (by decide) fun w F lb p q R h0 => ?_
  have H := hid h0.drew
  have hb : w.heap[U]? = some (actO 1 a b) := h0.bag
  have c0 : w.cell? ⟨U, 0, none⟩ = some (.int .u8 1) := cell_of_block hb 0
  have c1 : w.cell? ⟨U, 1, none⟩ = some (.int .i64 a) := cell_of_block hb 1
  have c2 : w.cell? ⟨U, 2, none⟩ = some (.int .i64 b) := cell_of_block hb 2
  have HC := hid (qAddFirst_none 5 a b hp)
  clear h0 hb hp
  go_enter Try.func9, Try.ntmps9
  go_wp2_with fail
  go_region_held (fun w' => w'.cell? ⟨U, 1, none⟩ = some (.int .i64 a) ∧ w'.cell? ⟨U, 2, none⟩ = some (.int .i64 b)) (go_keep)
    (first | (go_at_call 19; refine (HC.out _ F).mono ?_; rintro e w1 ⟨rfl, hw1⟩; have H1 : Hid (At w F lb p q (fun _ => False) (Bag.one U (actO 1 a b)) (Tree.ret () : Tree Unit 0) R w1) := (by rw [hw1]; exact H.out); have hb1 : w1.heap[U]? = some (actO 1 a b) := H1.out.bag; have d1 : w1.cell? ⟨U, 1, none⟩ = some (.int .i64 a) := cell_of_block hb1 1; have d2 : w1.cell? ⟨U, 2, none⟩ = some (.int .i64 b) := cell_of_block hb1 2; clear hw1 hb1))
  clear H c0 c1 c2 d1 d2
  go_wp2_with fail
  go_end0
  exact ⟨rfl, H1.out⟩

set_option maxRecDepth 100000 in
set_option maxHeartbeats 400000 in
theorem act2_of (U : Nat) (a b : Int) (hp : ¬ (0 ≤ b ∧ b < 16)) : BodyIn (Tree.ret () : Tree Unit 0) 9 (ptrV U) (readK U (actO 2 a b)) 6000 := by
  refine act_of U 2 a b (by decide) fun w F lb p q R h0 => ?_
  have H := hid h0.drew
  have hb : w.heap[U]? = some (actO 2 a b) := h0.bag
  have c0 : w.cell? ⟨U, 0, none⟩ = some (.int .u8 2) := cell_of_block hb 0
  have c1 : w.cell? ⟨U, 1, none⟩ = some (.int .i64 a) := cell_of_block hb 1
  have c2 : w.cell? ⟨U, 2, none⟩ = some (.int .i64 b) := cell_of_block hb 2
  have HC := hid (qDrop_none 5 a b hp)
  clear h0 hb hp
  go_enter Try.func9, Try.ntmps9
  go_wp2_with fail
  go_region_held (fun w' => w'.cell? ⟨U, 1, none⟩ = some (.int .i64 a) ∧ w'.cell? ⟨U, 2, none⟩ = some (.int .i64 b)) (go_keep)
    (first | (go_at_call 20; refine (HC.out _ F).mono ?_; rintro e w1 ⟨rfl, hw1⟩; have H1 : Hid (At w F lb p q (fun _ => False) (Bag.one U (actO 2 a b)) (Tree.ret () : Tree Unit 0) R w1) := (by rw [hw1]; exact H.out); have hb1 : w1.heap[U]? = some (actO 2 a b) := H1.out.bag; have d1 : w1.cell? ⟨U, 1, none⟩ = some (.int .i64 a) := cell_of_block hb1 1; have d2 : w1.cell? ⟨U, 2, none⟩ = some (.int .i64 b) := cell_of_block hb1 2; clear hw1 hb1))
  clear H c0 c1 c2 d1 d2
  go_wp2_with fail
  go_end0
  exact ⟨rfl, H1.out⟩
end Go.Proofs.Ythihbkhgemdpdaa

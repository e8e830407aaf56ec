/-
  The body after of septumlaw06. Conditions: all of it lies in blocks that are not the same.
-/
import Derived.Test.YthihbkhgemdpdaaBody6
namespace Go.Proofs.Ythihbkhgemdpdaa
open Go.RowKit Go.Sept

abbrev afterO (a b : Int) (x : Int × Int × Bool) : Obj := .cells #[.int .i64 a, .int .i64 b, .int .i64 x.1, .int .i64 x.2.1, .bool x.2.2] 33

def afterK (U : Nat) (a b : Int) : Kept (Int × Int × Bool) where
  V := fun k => k = U
  W := fun k => k = U
  Pre := fun w => ∃ x, w.heap[U]? = some (afterO a b x)
  Post := fun _ x w => w.heap[U]? = some (afterO a b x)
  sub := fun _ h => h
  low := fun w k h hk => by
    obtain ⟨x, h⟩ := h
    obtain rfl : k = U := hk
    exact lt_of_block h
  keep := fun S w w' h ho hv => by
    obtain ⟨x, h⟩ := h
    exact ⟨x, (ho.block U (lt_of_block h) (hv U rfl)).trans h⟩
  held := fun S b r w w' h ho hv _ => (ho.block U (lt_of_block h) (hv U rfl)).trans h
  less := fun _ _ _ _ h _ => h

/-- A store into the one block beside the frame. -/
theorem At.set {w w1 : World} {F lb p q : Nat} {β : Type} {n : Nat} {R : β × FrSt × List Int} {T : Tree β n} {U : Nat} {c : Array Value} {t : TypeId} (h : At w F lb p q (fun k => k = U) (Bag.one U (.cells c t)) T R w1) (i : Nat) (v : Value) : At w F lb p q (fun k => k = U) (Bag.one U (.cells (c.setIfInBounds i v) t)) T R (w1.setCell ⟨U, i, none⟩ v) :=
  h.turn (S2 := fun k => k = U) ((Only.self U w1).own i v) (fun _ h => h) (fun _ _ h => h) (block_setCell h.bag i v) (fun _ h => .inl h)

set_option maxRecDepth 100000 in
set_option maxHeartbeats 1000000 in
theorem after_of (U : Nat) (a b : Int) : BodyIn (qAfterT 5 a b) 10 (ptrV U) (afterK U a b) 6000 := by
  refine body_of (enters_of Try.func10 (by kernel_rfl) rfl) (by decide) (by decide) fun w hw => ?_
  obtain ⟨⟨x, y, o⟩, hb⟩ := hw
  refine ⟨Bag.one U (afterO a b (x, y, o)), hb, fun _ h => h, fun F lb p q R h0 => ?_⟩
  have H := hid h0.drew
  have c1 : w.cell? ⟨U, 0, none⟩ = some (.int .i64 a) := cell_of_block hb 0
  have c2 : w.cell? ⟨U, 1, none⟩ = some (.int .i64 b) := cell_of_block hb 1
  clear h0 hb
  go_enter Try.func10, Try.ntmps10
  go_wp2_with fail
  go_region_held (fun w' => w'.cell? ⟨U, 0, none⟩ = some (.int .i64 a) ∧ w'.cell? ⟨U, 1, none⟩ = some (.int .i64 b)) (go_keep)
    (first | (go_at_call 22; refine (H.out.tail (qAfter_does 5 a b)).mono ?_; rintro e w1 ⟨⟨x1, y1, o1⟩, rfl, h1⟩; have hb1 : w1.heap[U]? = some (afterO a b (x, y, o)) := h1.bag
              have h2 := h1.set 2 (.int .i64 x1); have hb2 : (w1.setCell ⟨U, 2, none⟩ (.int .i64 x1)).heap[U]? = some (afterO a b (x1, y, o)) := h2.bag
              have h3 := h2.set 3 (.int .i64 y1); have hb3 : ((w1.setCell ⟨U, 2, none⟩ (.int .i64 x1)).setCell ⟨U, 3, none⟩ (.int .i64 y1)).heap[U]? = some (afterO a b (x1, y1, o)) := h3.bag
              have h4 := h3.set 4 (.bool o1); have hb4 : (((w1.setCell ⟨U, 2, none⟩ (.int .i64 x1)).setCell ⟨U, 3, none⟩ (.int .i64 y1)).setCell ⟨U, 4, none⟩ (.bool o1)).heap[U]? = some (afterO a b (x1, y1, o1)) := h4.bag
              have H4 := hid h4
              have d0 : w1.cell? ⟨U, 0, none⟩ = some (.int .i64 a) := cell_of_block hb1 0; have d1 : w1.cell? ⟨U, 1, none⟩ = some (.int .i64 b) := cell_of_block hb1 1
              have d2 : w1.cell? ⟨U, 2, none⟩ = some (.int .i64 x) := cell_of_block hb1 2; have f2 := frozen_of_block hb1 2
              have d3 : w1.cell? ⟨U, 3, none⟩ = some (.int .i64 y) := cell_of_block hb1 3; have f3 := frozen_of_block hb1 3
              have d4 : w1.cell? ⟨U, 4, none⟩ = some (.bool o) := cell_of_block hb1 4; have f4 := frozen_of_block hb1 4
              have e0 := cell_of_block hb2 0; have e1 := cell_of_block hb2 1
              have g0 := cell_of_block hb3 0; have g1 := cell_of_block hb3 1
              have i0 := cell_of_block hb4 0; have i1 := cell_of_block hb4 1
              simp only [List.getElem?_toArray, List.getElem?_cons_zero, List.getElem?_cons_succ] at e0 e1 g0 g1 i0 i1
              clear h1 h2 h3 h4 hb1 hb2 hb3 hb4))
  clear H c1 c2 d0 d1 d2 f2 d3 f3 d4 f4 e0 e1 g0 g1 i0 i1
  go_wp2_with fail
  go_end0
  exact ⟨(x1, y1, o1), Bag.one U (afterO a b (x1, y1, o1)), rfl, H4.out, fun _ h => h, fun h => ⟨⟨(x1, y1, o1), h⟩, h⟩⟩
end Go.Proofs.Ythihbkhgemdpdaa

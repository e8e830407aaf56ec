/-
  The bodies of septumlaw07. Conditions: all of it lies in blocks that are not the same.
-/
import Derived.Test.YtaoobegfgpfncaaDelta7
import Derived.Test.YtaoobegfgpfncaaBodyOf
namespace Go.Proofs.Ytaoobegfgpfncaa
open Go.RowKit Go.Sept

abbrev act7O (k n t : Int) (x : Int × Bool) : Obj := .cells #[.int .u8 k, .int .i64 n, .int .i64 t, .int .i64 x.1, .bool x.2] 35
theorem act7_enters (args : Array Value) (w : World) : (callFunc 9 args).run Try.prog w = .ok (.enter 9 args) w := enters_of Try.func9 (by kernel_rfl) rfl args w

set_option maxRecDepth 100000 in
set_option maxHeartbeats 400000 in
theorem act7_4 (U : Nat) (a b : Int) (x : Int × Bool) : BodyIn (joinT 2 2) 9 (ptrV U) (readK U (act7O 4 a b x)) 6000 := by
  refine read_of U _ _ act7_enters (by decide) fun w F lb p q R h0 => ?_
  have H := hid h0
  have hb : w.heap[U]? = some (act7O 4 a b x) := h0.bag
  have c0 : w.cell? ⟨U, 0, none⟩ = some (.int .u8 4) := cell_of_block hb 0
  clear h0 hb
  go_enter Try.func9, Try.ntmps9
  go_wp2_with fail
  refine (H.out.tail (dInit_does 2)).mono ?_
  rintro e w1 ⟨x1, rfl, h1⟩
  have H1 := hid h1
  clear H h1
  go_wp2_with fail
  go_end0
  exact ⟨rfl, H1.out⟩

set_option maxRecDepth 100000 in
set_option maxHeartbeats 400000 in
theorem act7_2 (U : Nat) (a b : Int) (x : Int × Bool) : BodyIn (dTickT 2) 9 (ptrV U) (readK U (act7O 2 a b x)) 6000 := by
  refine read_of U _ _ act7_enters (by decide) fun w F lb p q R h0 => ?_
  have H := hid h0
  have hb : w.heap[U]? = some (act7O 2 a b x) := h0.bag
  have c0 : w.cell? ⟨U, 0, none⟩ = some (.int .u8 2) := cell_of_block hb 0
  clear h0 hb
  go_enter Try.func9, Try.ntmps9
  go_wp2_with fail
  refine (H.out.tail (dTick_does 2)).mono ?_
  rintro e w1 ⟨x1, rfl, h1⟩
  have H1 := hid h1
  clear H h1
  go_wp2_with fail
  go_end0
  exact ⟨rfl, H1.out⟩

set_option maxRecDepth 100000 in
set_option maxHeartbeats 400000 in
theorem act7_1 (U : Nat) (a b : Int) (x : Int × Bool) : BodyIn (dRemoveT 2 a) 9 (ptrV U) (readK U (act7O 1 a b x)) 6000 := by
  refine read_of U _ _ act7_enters (by decide) fun w F lb p q R h0 => ?_
  have H := hid h0
  have hb : w.heap[U]? = some (act7O 1 a b x) := h0.bag
  have c0 : w.cell? ⟨U, 0, none⟩ = some (.int .u8 1) := cell_of_block hb 0
  have c1 : w.cell? ⟨U, 1, none⟩ = some (.int .i64 a) := cell_of_block hb 1
  clear h0 hb
  go_enter Try.func9, Try.ntmps9
  go_wp2_with fail
  refine (H.out.tail (dRemove_does 2 a)).mono ?_
  rintro e w1 ⟨x1, rfl, h1⟩
  have H1 := hid h1
  clear H h1
  go_wp2_with fail
  go_end0
  exact ⟨rfl, H1.out⟩

set_option maxRecDepth 100000 in
set_option maxHeartbeats 1000000 in
theorem act7_0 (U : Nat) (a b : Int) (x : Int × Bool) (hb0 : 0 ≤ b) : BodyIn (dInsertT 2 a b 26) 9 (ptrV U) (readK U (act7O 0 a b x)) 6000 := by
  refine read_of U _ _ act7_enters (by decide) fun w F lb p q R h0 => ?_
  have H := hid h0.drew
  have hb : w.heap[U]? = some (act7O 0 a b x) := h0.bag
  have c0 : w.cell? ⟨U, 0, none⟩ = some (.int .u8 0) := cell_of_block hb 0
  have c1 : w.cell? ⟨U, 1, none⟩ = some (.int .i64 a) := cell_of_block hb 1
  have c2 : w.cell? ⟨U, 2, none⟩ = some (.int .i64 b) := cell_of_block hb 2
  have HC := hid (dInsert_does 2 a b hb0)
  clear h0 hb hb0
  go_enter Try.func9, Try.ntmps9
  go_wp2_with fail
  go_region_held (fun w' => w'.cell? ⟨U, 1, none⟩ = some (.int .i64 a) ∧ w'.cell? ⟨U, 2, none⟩ = some (.int .i64 b)) (go_keep)
    (first | (go_at_call 16; refine (H.out.tail HC.out).mono ?_; rintro e w1 ⟨x1, rfl, h1⟩; have H1 := hid h1; have hb1 : w1.heap[U]? = some (act7O 0 a b x) := h1.bag; have d1 : w1.cell? ⟨U, 1, none⟩ = some (.int .i64 a) := cell_of_block hb1 1; have d2 : w1.cell? ⟨U, 2, none⟩ = some (.int .i64 b) := cell_of_block hb1 2; clear h1 hb1))
  clear H c0 c1 c2 d1 d2
  go_wp2_with fail
  go_end0
  exact ⟨rfl, H1.out⟩

set_option maxRecDepth 100000 in
set_option maxHeartbeats 1000000 in
theorem act7_3 (U : Nat) (a b : Int) : BodyIn (dDueT 2) 9 (ptrV U) (cellK U (act7O 3 a b)) 6000 := by
  refine body_of act7_enters (by decide) (by decide) fun w hw => ?_
  obtain ⟨⟨x, o⟩, hb⟩ := hw
  refine ⟨Bag.one U (act7O 3 a b (x, o)), hb, fun _ h => h, fun F lb p q R h0 => ?_⟩
  have H := hid h0
  have c0 : w.cell? ⟨U, 0, none⟩ = some (.int .u8 3) := cell_of_block hb 0
  clear h0 hb
  go_enter Try.func9, Try.ntmps9
  go_wp2_with fail
  refine (H.out.tail (dDue_does 2)).mono ?_
  rintro e w1 ⟨⟨x1, o1⟩, rfl, h1⟩
  have hb1 : w1.heap[U]? = some (act7O 3 a b (x, o)) := h1.bag
  have h2 := h1.set 3 (.int .i64 x1)
  have hb2 : (w1.setCell ⟨U, 3, none⟩ (.int .i64 x1)).heap[U]? = some (act7O 3 a b (x1, o)) := h2.bag
  have h3 := h2.set 4 (.bool o1)
  have hb3 : ((w1.setCell ⟨U, 3, none⟩ (.int .i64 x1)).setCell ⟨U, 4, none⟩ (.bool o1)).heap[U]? = some (act7O 3 a b (x1, o1)) := h3.bag
  have H3 := hid h3
  have d3 : w1.cell? ⟨U, 3, none⟩ = some (.int .i64 x) := cell_of_block hb1 3
  have f3 := frozen_of_block hb1 3
  have d4 : w1.cell? ⟨U, 4, none⟩ = some (.bool o) := cell_of_block hb1 4
  have f4 := frozen_of_block hb1 4
  clear H h1 h2 h3 hb1 hb2 hb3
  go_wp2_with fail
  go_end0
  exact ⟨(x1, o1), Bag.one U (act7O 3 a b (x1, o1)), rfl, H3.out, fun _ h => h, fun h => ⟨⟨(x1, o1), h⟩, h⟩⟩
end Go.Proofs.Ytaoobegfgpfncaa

/-
  The bodies of septumlaw10. Conditions: all of it lies in blocks that are not the same.
-/
import Derived.Test.YtgoakjhjdoopkaaTable10
import Derived.Test.YtgoakjhjdoopkaaBodyOf
namespace Go.Proofs.Ytgoakjhjdoopkaa
open Go.RowKit Go.Sept

abbrev act10O (kd k i h g : Int) (o : Bool) : Obj := .cells #[.int .u8 kd, .int .i64 k, .int .i64 i, .int .i64 h, .int .i64 g, .bool o] 31
theorem act10_enters (args : Array Value) (w : World) : (callFunc 8 args).run Try.prog w = .ok (.enter 8 args) w := enters_of Try.func8 (by kernel_rfl) rfl args w

set_option maxRecDepth 100000 in
set_option maxHeartbeats 1000000 in
theorem act10_handle {n : Nat} (U : Nat) (k i h : Int) (T : Tree (Int × Bool) n) (hn : n ≤ 200000) (hT : Does 12 (fun f => #[f, .int .i64 4, .int .i64 k, .int .i64 i]) T (fun x => .tuple #[.int .i64 x.1, .bool x.2])) : BodyIn T 8 (ptrV U) (cellK U (fun x => act10O 0 k i h x.1 x.2)) 6000 := by
  refine body_of act10_enters hn (by decide) fun w hw => ?_
  obtain ⟨⟨x, o⟩, hb⟩ := hw
  refine ⟨Bag.one U (act10O 0 k i h x o), hb, fun _ h => h, fun F lb p q R h0 => ?_⟩
  have H := hid h0.drew
  have c0 : w.cell? ⟨U, 0, none⟩ = some (.int .u8 0) := cell_of_block hb 0
  have c1 : w.cell? ⟨U, 1, none⟩ = some (.int .i64 k) := cell_of_block hb 1
  have c2 : w.cell? ⟨U, 2, none⟩ = some (.int .i64 i) := cell_of_block hb 2
  have HC := hid hT
  clear h0 hb hn hT
  go_enter Try.func8, Try.ntmps8
  go_wp2_with fail
  go_region_held (fun w' => w'.cell? ⟨U, 1, none⟩ = some (.int .i64 k) ∧ w'.cell? ⟨U, 2, none⟩ = some (.int .i64 i)) (go_keep)
    (first | (go_at_call 12; refine (H.out.tail HC.out).mono ?_; rintro e w1 ⟨⟨x1, o1⟩, rfl, h1⟩; have hb1 : w1.heap[U]? = some (act10O 0 k i h x o) := h1.bag
              have h2 := h1.set 4 (.int .i64 x1); have hb2 : (w1.setCell ⟨U, 4, none⟩ (.int .i64 x1)).heap[U]? = some (act10O 0 k i h x1 o) := h2.bag
              have h3 := h2.set 5 (.bool o1); have hb3 : ((w1.setCell ⟨U, 4, none⟩ (.int .i64 x1)).setCell ⟨U, 5, none⟩ (.bool o1)).heap[U]? = some (act10O 0 k i h x1 o1) := h3.bag
              have H3 := hid h3
              have d1 : w1.cell? ⟨U, 1, none⟩ = some (.int .i64 k) := cell_of_block hb1 1; have d2 : w1.cell? ⟨U, 2, none⟩ = some (.int .i64 i) := cell_of_block hb1 2
              have d4 : w1.cell? ⟨U, 4, none⟩ = some (.int .i64 x) := cell_of_block hb1 4; have f4 := frozen_of_block hb1 4
              have d5 : w1.cell? ⟨U, 5, none⟩ = some (.bool o) := cell_of_block hb1 5; have f5 := frozen_of_block hb1 5
              have e1 := cell_of_block hb3 1; have e2 := cell_of_block hb3 2
              have g1 := cell_of_block hb2 1; have g2 := cell_of_block hb2 2
              simp only [List.getElem?_toArray, List.getElem?_cons_zero, List.getElem?_cons_succ] at e1 e2 g1 g2
              clear h1 h2 h3 hb1 hb2 hb3))
  clear H HC c0 c1 c2 d1 d2 d4 f4 d5 f5 e1 e2 g1 g2
  go_wp2_with fail
  go_end0
  exact ⟨(x1, o1), Bag.one U (act10O 0 k i h x1 o1), rfl, H3.out, fun _ h => h, fun h => ⟨⟨(x1, o1), h⟩, h⟩⟩

set_option maxRecDepth 100000 in
set_option maxHeartbeats 1000000 in
theorem act10_check {n : Nat} (U : Nat) (k i h : Int) (T : Tree (Int × Bool) n) (hn : n ≤ 200000) (hT : Does 13 (fun f => #[f, .int .i64 4, .int .i64 k, .int .i64 h]) T (fun x => .tuple #[.int .i64 x.1, .bool x.2])) : BodyIn T 8 (ptrV U) (cellK U (fun x => act10O 1 k i h x.1 x.2)) 6000 := by
  refine body_of act10_enters hn (by decide) fun w hw => ?_
  obtain ⟨⟨x, o⟩, hb⟩ := hw
  refine ⟨Bag.one U (act10O 1 k i h x o), hb, fun _ h => h, fun F lb p q R h0 => ?_⟩
  have H := hid h0.drew
  have c0 : w.cell? ⟨U, 0, none⟩ = some (.int .u8 1) := cell_of_block hb 0
  have c1 : w.cell? ⟨U, 1, none⟩ = some (.int .i64 k) := cell_of_block hb 1
  have c2 : w.cell? ⟨U, 3, none⟩ = some (.int .i64 h) := cell_of_block hb 3
  have HC := hid hT
  clear h0 hb hn hT
  go_enter Try.func8, Try.ntmps8
  go_wp2_with fail
  go_region_held (fun w' => w'.cell? ⟨U, 1, none⟩ = some (.int .i64 k) ∧ w'.cell? ⟨U, 3, none⟩ = some (.int .i64 h)) (go_keep)
    (first | (go_at_call 13; refine (H.out.tail HC.out).mono ?_; rintro e w1 ⟨⟨x1, o1⟩, rfl, h1⟩; have hb1 : w1.heap[U]? = some (act10O 1 k i h x o) := h1.bag
              have h2 := h1.set 4 (.int .i64 x1); have hb2 : (w1.setCell ⟨U, 4, none⟩ (.int .i64 x1)).heap[U]? = some (act10O 1 k i h x1 o) := h2.bag
              have h3 := h2.set 5 (.bool o1); have hb3 : ((w1.setCell ⟨U, 4, none⟩ (.int .i64 x1)).setCell ⟨U, 5, none⟩ (.bool o1)).heap[U]? = some (act10O 1 k i h x1 o1) := h3.bag
              have H3 := hid h3
              have d1 : w1.cell? ⟨U, 1, none⟩ = some (.int .i64 k) := cell_of_block hb1 1; have d2 : w1.cell? ⟨U, 3, none⟩ = some (.int .i64 h) := cell_of_block hb1 3
              have d4 : w1.cell? ⟨U, 4, none⟩ = some (.int .i64 x) := cell_of_block hb1 4; have f4 := frozen_of_block hb1 4
              have d5 : w1.cell? ⟨U, 5, none⟩ = some (.bool o) := cell_of_block hb1 5; have f5 := frozen_of_block hb1 5
              clear h1 h2 h3 hb1 hb2 hb3))
  clear H HC c0 c1 c2
  go_wp2_with fail
  go_end0
  exact ⟨(x1, o1), Bag.one U (act10O 1 k i h x1 o1), rfl, H3.out, fun _ h => h, fun h => ⟨⟨(x1, o1), h⟩, h⟩⟩

set_option maxRecDepth 100000 in
set_option maxHeartbeats 1000000 in
theorem act10_next {n : Nat} (U : Nat) (kd k i h : Int) (hk0 : kd ≠ 0) (hk1 : kd ≠ 1) (T : Tree Bool n) (hn : n ≤ 200000) (hT : Does 14 (fun f => #[f, .int .i64 4, .int .i64 k, .int .i64 i]) T .bool) : BodyIn T 8 (ptrV U) (cellK U (fun o => act10O kd k i h 0 o)) 6000 := by
  refine body_of act10_enters hn (by decide) fun w hw => ?_
  obtain ⟨o, hb⟩ := hw
  refine ⟨Bag.one U (act10O kd k i h 0 o), hb, fun _ h => h, fun F lb p q R h0 => ?_⟩
  have H := hid h0.drew
  have c0 : w.cell? ⟨U, 0, none⟩ = some (.int .u8 kd) := cell_of_block hb 0
  have c1 : w.cell? ⟨U, 1, none⟩ = some (.int .i64 k) := cell_of_block hb 1
  have c2 : w.cell? ⟨U, 2, none⟩ = some (.int .i64 i) := cell_of_block hb 2
  have HC := hid hT
  clear h0 hb hn hT
  go_enter Try.func8, Try.ntmps8
  go_wp2_with fail
  go_region_held (fun w' => w'.cell? ⟨U, 1, none⟩ = some (.int .i64 k) ∧ w'.cell? ⟨U, 2, none⟩ = some (.int .i64 i)) (go_keep)
    (first | (go_at_call 14; refine (H.out.tail HC.out).mono ?_; rintro e w1 ⟨o1, rfl, h1⟩; have hb1 : w1.heap[U]? = some (act10O kd k i h 0 o) := h1.bag
              have h2 := h1.set 5 (.bool o1); have hb2 : (w1.setCell ⟨U, 5, none⟩ (.bool o1)).heap[U]? = some (act10O kd k i h 0 o1) := h2.bag
              have H2 := hid h2
              have d1 : w1.cell? ⟨U, 1, none⟩ = some (.int .i64 k) := cell_of_block hb1 1; have d2 : w1.cell? ⟨U, 2, none⟩ = some (.int .i64 i) := cell_of_block hb1 2
              have d5 : w1.cell? ⟨U, 5, none⟩ = some (.bool o) := cell_of_block hb1 5; have f5 := frozen_of_block hb1 5
              have e1 := cell_of_block hb2 1; have e2 := cell_of_block hb2 2
              simp only [List.getElem?_toArray, List.getElem?_cons_zero, List.getElem?_cons_succ] at e1 e2
              clear h1 h2 hb1 hb2))
  clear H HC c0 c1 c2 d1 d2 d5 f5 e1 e2
  go_wp2_with fail
  go_end0
  exact ⟨o1, Bag.one U (act10O kd k i h 0 o1), rfl, H2.out, fun _ h => h, fun h => ⟨⟨o1, h⟩, h⟩⟩
end Go.Proofs.Ytgoakjhjdoopkaa

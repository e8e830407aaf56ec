/-
  The bodies of septumlaw08. Conditions: all of it lies in blocks that are not the same; a size that is one, or that is none.
-/
import Derived.Test.YtdoihlnipajniaaRing8
import Derived.Test.YtdoihlnipajniaaBodyOf
namespace Go.Proofs.Ytdoihlnipajniaa
open Go.RowKit Go.Sept

abbrev act8O (k c v g : Int) (o : Bool) (n : Int) : Obj := .cells #[.int .u8 k, .int .i64 c, .int .i64 v, .int .i64 g, .bool o, .int .i64 n] 33
theorem act8_enters (args : Array Value) (w : World) : (callFunc 11 args).run Try.prog w = .ok (.enter 11 args) w := enters_of Try.func11 (by kernel_rfl) rfl args w

set_option maxRecDepth 100000 in
set_option maxHeartbeats 1000000 in
theorem act8_put {n : Nat} (U : Nat) (c v : Int) (T : Tree Bool n) (hn : n ≤ 200000) (hT : Does 20 (fun f => #[f, .int .i64 3, .int .i64 c, .int .i64 v]) T .bool) : BodyIn T 11 (ptrV U) (cellK U (fun o => act8O 0 c v 0 o 0)) 6000 := by
  refine body_of act8_enters hn (by decide) fun w hw => ?_
  obtain ⟨o, hb⟩ := hw
  refine ⟨Bag.one U (act8O 0 c v 0 o 0), hb, fun _ h => h, fun F lb p q R h0 => ?_⟩
  have H := hid h0.drew
  have c0 : w.cell? ⟨U, 0, none⟩ = some (.int .u8 0) := cell_of_block hb 0
  have c1 : w.cell? ⟨U, 1, none⟩ = some (.int .i64 c) := cell_of_block hb 1
  have c2 : w.cell? ⟨U, 2, none⟩ = some (.int .i64 v) := cell_of_block hb 2
  have HC := hid hT
  clear h0 hb hn
  go_enter Try.func11, Try.ntmps11
  go_wp2_with fail
  go_region_held (fun w' => w'.cell? ⟨U, 1, none⟩ = some (.int .i64 c) ∧ w'.cell? ⟨U, 2, none⟩ = some (.int .i64 v)) (go_keep)
    (first | (go_at_call 20; refine (H.out.tail HC.out).mono ?_; rintro e w1 ⟨o1, rfl, h1⟩; have hb1 : w1.heap[U]? = some (act8O 0 c v 0 o 0) := h1.bag
              have h2 := h1.set 4 (.bool o1); have hb2 : (w1.setCell ⟨U, 4, none⟩ (.bool o1)).heap[U]? = some (act8O 0 c v 0 o1 0) := h2.bag
              have H2 := hid h2
              have d1 : w1.cell? ⟨U, 1, none⟩ = some (.int .i64 c) := cell_of_block hb1 1; have d2 : w1.cell? ⟨U, 2, none⟩ = some (.int .i64 v) := cell_of_block hb1 2
              have d4 : w1.cell? ⟨U, 4, none⟩ = some (.bool o) := cell_of_block hb1 4; have f4 := frozen_of_block hb1 4
              have e1 := cell_of_block hb2 1; have e2 := cell_of_block hb2 2
              simp only [List.getElem?_toArray, List.getElem?_cons_zero, List.getElem?_cons_succ] at e1 e2
              clear h1 h2 hb1 hb2))
  clear H HC c0 c1 c2 d1 d2 d4 f4 e1 e2
  go_wp2_with fail
  go_end0
  exact ⟨o1, Bag.one U (act8O 0 c v 0 o1 0), rfl, H2.out, fun _ h => h, fun h => ⟨⟨o1, h⟩, h⟩⟩

set_option maxRecDepth 100000 in
set_option maxHeartbeats 1000000 in
theorem act8_get {n : Nat} (U : Nat) (c v : Int) (T : Tree (Int × Bool) n) (hn : n ≤ 200000) (hT : Does 21 (fun f => #[f, .int .i64 3, .int .i64 c]) T (fun x => .tuple #[.int .i64 x.1, .bool x.2])) : BodyIn T 11 (ptrV U) (cellK U (fun x => act8O 1 c v x.1 x.2 0)) 6000 := by
  refine body_of act8_enters hn (by decide) fun w hw => ?_
  obtain ⟨⟨x, o⟩, hb⟩ := hw
  refine ⟨Bag.one U (act8O 1 c v x o 0), hb, fun _ h => h, fun F lb p q R h0 => ?_⟩
  have H := hid h0
  have c0 : w.cell? ⟨U, 0, none⟩ = some (.int .u8 1) := cell_of_block hb 0
  have c1 : w.cell? ⟨U, 1, none⟩ = some (.int .i64 c) := cell_of_block hb 1
  have HC := hid hT
  clear h0 hb hn hT
  go_enter Try.func11, Try.ntmps11
  go_wp2_with fail
  refine (H.out.tail HC.out).mono ?_
  rintro e w1 ⟨⟨x1, o1⟩, rfl, h1⟩
  have hb1 : w1.heap[U]? = some (act8O 1 c v x o 0) := h1.bag
  have h2 := h1.set 3 (.int .i64 x1)
  have hb2 : (w1.setCell ⟨U, 3, none⟩ (.int .i64 x1)).heap[U]? = some (act8O 1 c v x1 o 0) := h2.bag
  have h3 := h2.set 4 (.bool o1)
  have hb3 : ((w1.setCell ⟨U, 3, none⟩ (.int .i64 x1)).setCell ⟨U, 4, none⟩ (.bool o1)).heap[U]? = some (act8O 1 c v x1 o1 0) := h3.bag
  have H3 := hid h3
  have d3 : w1.cell? ⟨U, 3, none⟩ = some (.int .i64 x) := cell_of_block hb1 3
  have f3 := frozen_of_block hb1 3
  have d4 : w1.cell? ⟨U, 4, none⟩ = some (.bool o) := cell_of_block hb1 4
  have f4 := frozen_of_block hb1 4
  clear H h1 h2 h3 hb1 hb2 hb3
  go_wp2_with fail
  go_end0
  exact ⟨(x1, o1), Bag.one U (act8O 1 c v x1 o1 0), rfl, H3.out, fun _ h => h, fun h => ⟨⟨(x1, o1), h⟩, h⟩⟩

set_option maxRecDepth 100000 in
set_option maxHeartbeats 1000000 in
theorem act8_len (U : Nat) (c v : Int) : BodyIn (lenT 3) 11 (ptrV U) (cellK U (fun n => act8O 2 c v 0 false n)) 6000 := by
  refine body_of act8_enters (by decide) (by decide) fun w hw => ?_
  obtain ⟨n, hb⟩ := hw
  refine ⟨Bag.one U (act8O 2 c v 0 false n), hb, fun _ h => h, fun F lb p q R h0 => ?_⟩
  have H := hid h0
  have c0 : w.cell? ⟨U, 0, none⟩ = some (.int .u8 2) := cell_of_block hb 0
  clear h0 hb
  go_enter Try.func11, Try.ntmps11
  go_wp2_with fail
  refine (H.out.tail (ringLen_does 3)).mono ?_
  rintro e w1 ⟨n1, rfl, h1⟩
  have hb1 : w1.heap[U]? = some (act8O 2 c v 0 false n) := h1.bag
  have h2 := h1.set 5 (.int .i64 n1)
  have H2 := hid h2
  have d5 : w1.cell? ⟨U, 5, none⟩ = some (.int .i64 n) := cell_of_block hb1 5
  have f5 := frozen_of_block hb1 5
  clear H h1 h2 hb1
  go_wp2_with fail
  go_end0
  exact ⟨n1, Bag.one U (act8O 2 c v 0 false n1), rfl, H2.out, fun _ h => h, fun h => ⟨⟨n1, h⟩, h⟩⟩

set_option maxRecDepth 100000 in
set_option maxHeartbeats 1000000 in
theorem act8_clear (U : Nat) (k c v : Int) (hk0 : k ≠ 0) (hk1 : k ≠ 1) (hk2 : k ≠ 2) : BodyIn (clearT 3) 11 (ptrV U) (readK U (act8O k c v 0 false 0)) 6000 := by
  refine read_of U _ _ act8_enters (by decide) fun w F lb p q R h0 => ?_
  have H := hid h0
  have hb : w.heap[U]? = some (act8O k c v 0 false 0) := h0.bag
  have c0 : w.cell? ⟨U, 0, none⟩ = some (.int .u8 k) := cell_of_block hb 0
  clear h0 hb
  go_enter Try.func11, Try.ntmps11
  go_wp2_with fail
  refine (H.out.tail (clear_does 3)).mono ?_
  rintro e w1 ⟨x1, rfl, h1⟩
  have H1 := hid h1
  clear H h1
  go_wp2_with fail
  go_end0
  exact ⟨rfl, H1.out⟩
end Go.Proofs.Ytdoihlnipajniaa

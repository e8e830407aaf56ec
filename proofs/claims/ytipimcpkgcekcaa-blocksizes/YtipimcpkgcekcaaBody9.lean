/-
  The bodies of septumlaw09. Conditions: all of it lies in blocks that are not the same.
-/
import Derived.Test.YtipimcpkgcekcaaBlock9
import Derived.Test.YtipimcpkgcekcaaBodyOf
namespace Go.Proofs.Ytipimcpkgcekcaa
open Go.RowKit Go.Sept

abbrev act9O (k c i g : Int) (o : Bool) : Obj := .cells #[.int .u8 k, .int .i64 c, .int .i64 i, .int .i64 g, .bool o] 28
theorem act9_enters (args : Array Value) (w : World) : (callFunc 8 args).run Try.prog w = .ok (.enter 8 args) w := enters_of Try.func8 (by kernel_rfl) rfl args w

set_option maxRecDepth 100000 in
set_option maxHeartbeats 1000000 in
theorem act9_take {n : Nat} (U : Nat) (c i : Int) (T : Tree (Int × Bool) n) (hn : n ≤ 200000) (hT : Does 15 (fun f => #[f, .int .i64 2, .int .i64 c]) T (fun x => .tuple #[.int .i64 x.1, .bool x.2])) : BodyIn T 8 (ptrV U) (cellK U (fun x => act9O 0 c i x.1 x.2)) 6000 := by
  refine body_of act9_enters hn (by decide) fun w hw => ?_
  obtain ⟨⟨x, o⟩, hb⟩ := hw
  refine ⟨Bag.one U (act9O 0 c i x o), hb, fun _ h => h, fun F lb p q R h0 => ?_⟩
  have H := hid h0
  have c0 : w.cell? ⟨U, 0, none⟩ = some (.int .u8 0) := cell_of_block hb 0
  have c1 : w.cell? ⟨U, 1, none⟩ = some (.int .i64 c) := cell_of_block hb 1
  have HC := hid hT
  clear h0 hb hn hT
  go_enter Try.func8, Try.ntmps8
  go_wp2_with fail
  refine (H.out.tail HC.out).mono ?_
  rintro e w1 ⟨⟨x1, o1⟩, rfl, h1⟩
  have hb1 : w1.heap[U]? = some (act9O 0 c i x o) := h1.bag
  have h2 := h1.set 3 (.int .i64 x1)
  have hb2 : (w1.setCell ⟨U, 3, none⟩ (.int .i64 x1)).heap[U]? = some (act9O 0 c i x1 o) := h2.bag
  have h3 := h2.set 4 (.bool o1)
  have hb3 : ((w1.setCell ⟨U, 3, none⟩ (.int .i64 x1)).setCell ⟨U, 4, none⟩ (.bool o1)).heap[U]? = some (act9O 0 c i x1 o1) := h3.bag
  have H3 := hid h3
  have d3 : w1.cell? ⟨U, 3, none⟩ = some (.int .i64 x) := cell_of_block hb1 3
  have f3 := frozen_of_block hb1 3
  have d4 : w1.cell? ⟨U, 4, none⟩ = some (.bool o) := cell_of_block hb1 4
  have f4 := frozen_of_block hb1 4
  clear H h1 h2 h3 hb1 hb2 hb3
  go_wp2_with fail
  go_end0
  exact ⟨(x1, o1), Bag.one U (act9O 0 c i x1 o1), rfl, H3.out, fun _ h => h, fun h => ⟨⟨(x1, o1), h⟩, h⟩⟩

set_option maxRecDepth 100000 in
set_option maxHeartbeats 1000000 in
theorem act9_give {n : Nat} (U : Nat) (c v : Int) (T : Tree Bool n) (hn : n ≤ 200000) (hT : Does 16 (fun f => #[f, .int .i64 2, .int .i64 c, .int .i64 v]) T .bool) : BodyIn T 8 (ptrV U) (cellK U (fun o => act9O 1 c v 0 o)) 6000 := by
  refine body_of act9_enters hn (by decide) fun w hw => ?_
  obtain ⟨o, hb⟩ := hw
  refine ⟨Bag.one U (act9O 1 c v 0 o), hb, fun _ h => h, fun F lb p q R h0 => ?_⟩
  have H := hid h0.drew
  have c0 : w.cell? ⟨U, 0, none⟩ = some (.int .u8 1) := cell_of_block hb 0
  have c1 : w.cell? ⟨U, 1, none⟩ = some (.int .i64 c) := cell_of_block hb 1
  have c2 : w.cell? ⟨U, 2, none⟩ = some (.int .i64 v) := cell_of_block hb 2
  have HC := hid hT
  clear h0 hb hn hT
  go_enter Try.func8, Try.ntmps8
  go_wp2_with fail
  go_region_held (fun w' => w'.cell? ⟨U, 1, none⟩ = some (.int .i64 c) ∧ w'.cell? ⟨U, 2, none⟩ = some (.int .i64 v)) (go_keep)
    (first | (go_at_call 16; refine (H.out.tail HC.out).mono ?_; rintro e w1 ⟨o1, rfl, h1⟩; have hb1 : w1.heap[U]? = some (act9O 1 c v 0 o) := h1.bag
              have h2 := h1.set 4 (.bool o1); have hb2 : (w1.setCell ⟨U, 4, none⟩ (.bool o1)).heap[U]? = some (act9O 1 c v 0 o1) := h2.bag
              have H2 := hid h2
              have d1 : w1.cell? ⟨U, 1, none⟩ = some (.int .i64 c) := cell_of_block hb1 1; have d2 : w1.cell? ⟨U, 2, none⟩ = some (.int .i64 v) := cell_of_block hb1 2
              have d4 : w1.cell? ⟨U, 4, none⟩ = some (.bool o) := cell_of_block hb1 4; have f4 := frozen_of_block hb1 4
              have e1 := cell_of_block hb2 1; have e2 := cell_of_block hb2 2
              simp only [List.getElem?_toArray, List.getElem?_cons_zero, List.getElem?_cons_succ] at e1 e2
              clear h1 h2 hb1 hb2))
  clear H HC c0 c1 c2 d1 d2 d4 f4 e1 e2
  go_wp2_with fail
  go_end0
  exact ⟨o1, Bag.one U (act9O 1 c v 0 o1), rfl, H2.out, fun _ h => h, fun h => ⟨⟨o1, h⟩, h⟩⟩

set_option maxRecDepth 100000 in
set_option maxHeartbeats 1000000 in
theorem act9_free {n : Nat} (U : Nat) (c v : Int) (T : Tree Bool n) (hn : n ≤ 200000) (hT : Does 17 (fun f => #[f, .int .i64 2, .int .i64 c, .int .i64 v]) T .bool) : BodyIn T 8 (ptrV U) (cellK U (fun o => act9O 2 c v 0 o)) 6000 := by
  refine body_of act9_enters hn (by decide) fun w hw => ?_
  obtain ⟨o, hb⟩ := hw
  refine ⟨Bag.one U (act9O 2 c v 0 o), hb, fun _ h => h, fun F lb p q R h0 => ?_⟩
  have H := hid h0.drew
  have c0 : w.cell? ⟨U, 0, none⟩ = some (.int .u8 2) := cell_of_block hb 0
  have c1 : w.cell? ⟨U, 1, none⟩ = some (.int .i64 c) := cell_of_block hb 1
  have c2 : w.cell? ⟨U, 2, none⟩ = some (.int .i64 v) := cell_of_block hb 2
  have HC := hid hT
  clear h0 hb hn hT
  go_enter Try.func8, Try.ntmps8
  go_wp2_with fail
  go_region_held (fun w' => w'.cell? ⟨U, 1, none⟩ = some (.int .i64 c) ∧ w'.cell? ⟨U, 2, none⟩ = some (.int .i64 v)) (go_keep)
    (first | (go_at_call 17; refine (H.out.tail HC.out).mono ?_; rintro e w1 ⟨o1, rfl, h1⟩; have hb1 : w1.heap[U]? = some (act9O 2 c v 0 o) := h1.bag
              have h2 := h1.set 4 (.bool o1); have hb2 : (w1.setCell ⟨U, 4, none⟩ (.bool o1)).heap[U]? = some (act9O 2 c v 0 o1) := h2.bag
              have H2 := hid h2
              have d1 : w1.cell? ⟨U, 1, none⟩ = some (.int .i64 c) := cell_of_block hb1 1; have d2 : w1.cell? ⟨U, 2, none⟩ = some (.int .i64 v) := cell_of_block hb1 2
              have d4 : w1.cell? ⟨U, 4, none⟩ = some (.bool o) := cell_of_block hb1 4; have f4 := frozen_of_block hb1 4
              have e1 := cell_of_block hb2 1; have e2 := cell_of_block hb2 2
              simp only [List.getElem?_toArray, List.getElem?_cons_zero, List.getElem?_cons_succ] at e1 e2
              clear h1 h2 hb1 hb2))
  clear H HC c0 c1 c2 d1 d2 d4 f4 e1 e2
  go_wp2_with fail
  go_end0
  exact ⟨o1, Bag.one U (act9O 2 c v 0 o1), rfl, H2.out, fun _ h => h, fun h => ⟨⟨o1, h⟩, h⟩⟩

set_option maxRecDepth 100000 in
set_option maxHeartbeats 1000000 in
theorem act9_init {n : Nat} (U : Nat) (k c v : Int) (hk0 : k ≠ 0) (hk1 : k ≠ 1) (hk2 : k ≠ 2) (T : Tree Unit n) (hn : n ≤ 200000) (hT : Does 18 (fun f => #[f, .int .i64 2, .int .i64 c]) T (fun _ => .tuple #[])) : BodyIn T 8 (ptrV U) (readK U (act9O k c v 0 false)) 6000 := by
  refine read_of U _ _ act9_enters hn fun w F lb p q R h0 => ?_
  have H := hid h0
  have hb : w.heap[U]? = some (act9O k c v 0 false) := h0.bag
  have c0 : w.cell? ⟨U, 0, none⟩ = some (.int .u8 k) := cell_of_block hb 0
  have c1 : w.cell? ⟨U, 1, none⟩ = some (.int .i64 c) := cell_of_block hb 1
  have HC := hid hT
  clear h0 hb hn hT
  go_enter Try.func8, Try.ntmps8
  go_wp2_with fail
  refine (H.out.tail HC.out).mono ?_
  rintro e w1 ⟨x1, rfl, h1⟩
  have H1 := hid h1
  clear H h1
  go_wp2_with fail
  go_end0
  exact ⟨rfl, H1.out⟩
end Go.Proofs.Ytipimcpkgcekcaa

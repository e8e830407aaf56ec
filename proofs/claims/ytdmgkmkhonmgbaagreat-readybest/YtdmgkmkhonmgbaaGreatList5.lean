/-
  The calls of package list, as trees of accesses. Conditions: none beside what Does asks.
-/
import Derived.Test.YtdmgkmkhonmgbaaGreatDoes
namespace Go.Sept
open Go.RowKit

def joinT (b n : Int) : Tree Unit 2 := (storeT b n).bind fun _ => storeT (wrap64 (n + 1)) b
def nextT (h n : Int) : Tree (Int × Bool) 2 := (loadT n).bind fun v => offT.bind fun o => (Tree.ret (if (o || (v == h)) = true then (0, false) else (v, true)) : Tree _ 0)
def prependT (h n : Int) : Tree Unit 5 := (loadT h).bind fun x => (joinT h n).bind fun _ => joinT n x
def aheadT (n m : Int) : Tree Unit 5 := (loadT (wrap64 (n + 1))).bind fun b => (joinT b m).bind fun _ => joinT m n
def removeT (n : Int) : Tree Unit 6 := (loadT n).bind fun x => (loadT (wrap64 (n + 1))).bind fun b => (joinT b x).bind fun _ => joinT n n
def emptyT (h : Int) : Tree Bool 2 := (nextT h h).bind fun x => (Tree.ret (!x.2) : Tree _ 0)
abbrev nodeV (x : Int × Bool) : Value := .tuple #[.int .i64 x.1, .bool x.2]
end Go.Sept

namespace Go.Proofs.YtdmgkmkhonmgbaaGreat
open Go.RowKit Go.Sept

set_option maxHeartbeats 400000 in
theorem join_does (b n : Int) : Does 89 (fun f => #[f, .int .i64 b, .int .i64 n]) (joinT b n) (fun _ => .tuple #[]) := by
  refine Does.of fun w F lb p q R h => ?_
  have H := hid h
  clear h
  go_enter Tryz.func89, Tryz.ntmps89
  go_wp2_with fail
  refine (H.out.call (store_does b n)).mono ?_
  rintro e w1 ⟨x1, rfl, h1⟩
  have H1 := hid h1
  clear H h1
  go_wp2_with fail
  refine (H1.out.tail (store_does (wrap64 (n + 1)) b)).mono ?_
  rintro e w2 ⟨x2, rfl, h2⟩
  have H2 := hid h2
  clear H1 h2
  go_wp2_with fail
  go_end0
  exact ⟨_, rfl, H2.out⟩

set_option maxHeartbeats 400000 in
theorem listInit_does (h : Int) : Does 56 (fun f => #[f, .int .i64 h]) (joinT h h) (fun _ => .tuple #[]) := by
  refine Does.of fun w F lb p q R h0 => ?_
  have H := hid h0
  clear h0
  go_enter Tryz.func56, Tryz.ntmps56
  go_wp2_with fail
  refine (H.out.tail (join_does h h)).mono ?_
  rintro e w1 ⟨x1, rfl, h1⟩
  have H1 := hid h1
  clear H h1
  go_wp2_with fail
  go_end0
  exact ⟨_, rfl, H1.out⟩

set_option maxHeartbeats 400000 in
theorem follow_does (a : Int) : Does 116 (fun f => #[f, .int .i64 a]) (loadT a) (.int .i64) := by
  refine Does.of fun w F lb p q R h0 => ?_
  have H := hid h0
  clear h0
  go_enter Tryz.func116, Tryz.ntmps116
  go_wp2_with fail
  refine (H.out.tail (load_does a)).mono ?_
  rintro e w1 ⟨x1, rfl, h1⟩
  have H1 := hid h1
  clear H h1
  go_wp2_with fail
  go_ret
  exact ⟨_, rfl, H1.out⟩

set_option maxHeartbeats 400000 in
theorem next_does (h n : Int) : Does 95 (fun f => #[f, .int .i64 h, .int .i64 n]) (nextT h n) nodeV := by
  refine Does.of fun w F lb p q R h0 => ?_
  have H := hid h0
  clear h0
  go_enter Tryz.func95, Tryz.ntmps95
  go_wp2_with fail
  refine (H.out.call (follow_does n)).mono ?_
  rintro e w1 ⟨v, rfl, h1⟩
  have H1 := hid h1
  clear H h1
  go_wp2_with fail
  refine (H1.out.call off_does).mono ?_
  rintro e w2 ⟨o, rfl, h2⟩
  have H2 := hid h2
  clear H1 h2
  cases o
  · cases hv : (v == h)
    · have HV := hid hv
      go_wp2_with fail
      go_ret2
      refine ⟨_, ?_, H2.out⟩
      rw [HV.out]
      rfl
    · have HV := hid hv
      go_wp2_with fail
      go_ret2
      refine ⟨_, ?_, H2.out⟩
      rw [HV.out]
      rfl
  · go_wp2_with fail
    go_ret2
    exact ⟨_, rfl, H2.out⟩

set_option maxHeartbeats 400000 in
theorem listFirst_does (h : Int) : Does 115 (fun f => #[f, .int .i64 h]) (nextT h h) nodeV := by
  refine Does.of fun w F lb p q R h0 => ?_
  have H := hid h0
  clear h0
  go_enter Tryz.func115, Tryz.ntmps115
  go_wp2_with fail
  refine (H.out.tail (next_does h h)).mono ?_
  rintro e w1 ⟨x1, rfl, h1⟩
  have H1 := hid h1
  clear H h1
  go_wp2_with fail
  go_ret2
  exact ⟨_, rfl, H1.out⟩

set_option maxHeartbeats 400000 in
theorem ahead_does (n m : Int) : Does 113 (fun f => #[f, .int .i64 n, .int .i64 m]) (aheadT n m) (fun _ => .tuple #[]) := by
  refine Does.of fun w F lb p q R h0 => ?_
  have H := hid h0
  clear h0
  go_enter Tryz.func113, Tryz.ntmps113
  go_wp2_with fail
  refine (H.out.call (follow_does _)).mono ?_
  rintro e w1 ⟨b, rfl, h1⟩
  have H1 := hid h1
  clear H h1
  go_wp2_with fail
  refine (H1.out.call (join_does b m)).mono ?_
  rintro e w2 ⟨x2, rfl, h2⟩
  have H2 := hid h2
  clear H1 h2
  go_wp2_with fail
  refine (H2.out.tail (join_does m n)).mono ?_
  rintro e w3 ⟨x3, rfl, h3⟩
  have H3 := hid h3
  clear H2 h3
  go_wp2_with fail
  go_end0
  exact ⟨_, rfl, H3.out⟩

set_option maxHeartbeats 400000 in
theorem append_does (h n : Int) : Does 92 (fun f => #[f, .int .i64 h, .int .i64 n]) (aheadT h n) (fun _ => .tuple #[]) := by
  refine Does.of fun w F lb p q R h0 => ?_
  have H := hid h0
  clear h0
  go_enter Tryz.func92, Tryz.ntmps92
  go_wp2_with fail
  refine (H.out.tail (ahead_does h n)).mono ?_
  rintro e w1 ⟨x1, rfl, h1⟩
  have H1 := hid h1
  clear H h1
  go_wp2_with fail
  go_end0
  exact ⟨_, rfl, H1.out⟩

set_option maxHeartbeats 400000 in
theorem prepend_does (h n : Int) : Does 101 (fun f => #[f, .int .i64 h, .int .i64 n]) (prependT h n) (fun _ => .tuple #[]) := by
  refine Does.of fun w F lb p q R h0 => ?_
  have H := hid h0
  clear h0
  go_enter Tryz.func101, Tryz.ntmps101
  go_wp2_with fail
  refine (H.out.call (follow_does _)).mono ?_
  rintro e w1 ⟨b, rfl, h1⟩
  have H1 := hid h1
  clear H h1
  go_wp2_with fail
  refine (H1.out.call (join_does h n)).mono ?_
  rintro e w2 ⟨x2, rfl, h2⟩
  have H2 := hid h2
  clear H1 h2
  go_wp2_with fail
  refine (H2.out.tail (join_does n b)).mono ?_
  rintro e w3 ⟨x3, rfl, h3⟩
  have H3 := hid h3
  clear H2 h3
  go_wp2_with fail
  go_end0
  exact ⟨_, rfl, H3.out⟩

set_option maxHeartbeats 400000 in
theorem remove_does (n : Int) : Does 99 (fun f => #[f, .int .i64 n]) (removeT n) (fun _ => .tuple #[]) := by
  refine Does.of fun w F lb p q R h0 => ?_
  have H := hid h0
  clear h0
  go_enter Tryz.func99, Tryz.ntmps99
  go_wp2_with fail
  refine (H.out.call (follow_does _)).mono ?_
  rintro e w1 ⟨x, rfl, h1⟩
  have H1 := hid h1
  clear H h1
  go_wp2_with fail
  refine (H1.out.call (follow_does _)).mono ?_
  rintro e w2 ⟨b, rfl, h2⟩
  have H2 := hid h2
  clear H1 h2
  go_wp2_with fail
  refine (H2.out.call (join_does b x)).mono ?_
  rintro e w3 ⟨x3, rfl, h3⟩
  have H3 := hid h3
  clear H2 h3
  go_wp2_with fail
  refine (H3.out.tail (listInit_does n)).mono ?_
  rintro e w4 ⟨x4, rfl, h4⟩
  have H4 := hid h4
  clear H3 h4
  go_wp2_with fail
  go_end0
  exact ⟨_, rfl, H4.out⟩

set_option maxHeartbeats 400000 in
theorem empty_does (h : Int) : Does 100 (fun f => #[f, .int .i64 h]) (emptyT h) .bool := by
  refine Does.of fun w F lb p q R h0 => ?_
  have H := hid h0
  clear h0
  go_enter Tryz.func100, Tryz.ntmps100
  go_wp2_with fail
  refine (H.out.call (listFirst_does h)).mono ?_
  rintro e w1 ⟨x, rfl, h1⟩
  have H1 := hid h1
  clear H h1
  go_wp2_with fail
  go_ret
  exact ⟨_, rfl, H1.out⟩
end Go.Proofs.YtdmgkmkhonmgbaaGreat

/-
  The calls of package list, as trees of accesses. Conditions: none beside what Does asks.
-/
import Derived.Test.YtmcmjcaigipoaaaGreatDoes
namespace Go.Sept
open Go.RowKit

def joinT (b n : Int) : Tree Unit 2 := (storeT b n).bind fun _ => storeT (wrap64 (n + 1)) b
def nextT (h n : Int) : Tree (Int × Bool) 2 := (loadT n).bind fun v => offT.bind fun o => (Tree.ret (if (o || (v == h)) = true then (0, false) else (v, true)) : Tree _ 0)
def prependT (h n : Int) : Tree Unit 5 := (loadT h).bind fun x => (joinT h n).bind fun _ => joinT n x
def aheadT (n m : Int) : Tree Unit 5 := (loadT (wrap64 (n + 1))).bind fun b => (joinT b m).bind fun _ => joinT m n
def removeT (n : Int) : Tree Unit 6 := (loadT n).bind fun x => (loadT (wrap64 (n + 1))).bind fun b => (joinT b x).bind fun _ => joinT n n
def emptyT (h : Int) : Tree Bool 2 := (nextT h h).bind fun x => (Tree.ret (!x.2) : Tree _ 0)
abbrev nodeV (x : Int × Bool) : Value := .tuple #[.int .i64 x.1, .bool x.2]
end Go.Sept

namespace Go.Proofs.YtmcmjcaigipoaaaGreat
open Go.RowKit Go.Sept

set_option maxHeartbeats 400000 in
theorem join_does (b n : Int) : Does 99 (fun f => #[f, .int .i64 b, .int .i64 n]) (joinT b n) (fun _ => .tuple #[]) := by
  refine Does.of fun w F lb p q R h => ?_
  have H := hid h
  clear h
  go_enter Tryz.func99, Tryz.ntmps99
  go_wp2_with fail
  refine (H.out.call (store_does b n)).mono ?_
  rintro e w1 ⟨x1, rfl, h1⟩
  have H1 := hid h1
  clear H h1
  go_wp2_with fail
  refine (H1.out.tail (store_does (wrap64 (n + 1)) b)).mono ?_
  rintro e w2 ⟨x2, rfl, h2⟩
  have H2 := hid h2
  clear H1 h2
  go_wp2_with fail
  go_end0
  exact ⟨_, rfl, H2.out⟩

set_option maxHeartbeats 400000 in
theorem listInit_does (h : Int) : Does 62 (fun f => #[f, .int .i64 h]) (joinT h h) (fun _ => .tuple #[]) := by
  refine Does.of fun w F lb p q R h0 => ?_
  have H := hid h0
  clear h0
  go_enter Tryz.func62, Tryz.ntmps62
  go_wp2_with fail
  refine (H.out.tail (join_does h h)).mono ?_
  rintro e w1 ⟨x1, rfl, h1⟩
  have H1 := hid h1
  clear H h1
  go_wp2_with fail
  go_end0
  exact ⟨_, rfl, H1.out⟩

set_option maxHeartbeats 400000 in
theorem follow_does (a : Int) : Does 131 (fun f => #[f, .int .i64 a]) (loadT a) (.int .i64) := by
  refine Does.of fun w F lb p q R h0 => ?_
  have H := hid h0
  clear h0
  go_enter Tryz.func131, Tryz.ntmps131
  go_wp2_with fail
  refine (H.out.tail (load_does a)).mono ?_
  rintro e w1 ⟨x1, rfl, h1⟩
  have H1 := hid h1
  clear H h1
  go_wp2_with fail
  go_ret
  exact ⟨_, rfl, H1.out⟩

set_option maxHeartbeats 400000 in
theorem next_does (h n : Int) : Does 105 (fun f => #[f, .int .i64 h, .int .i64 n]) (nextT h n) nodeV := by
  refine Does.of fun w F lb p q R h0 => ?_
  have H := hid h0
  clear h0
  go_enter Tryz.func105, Tryz.ntmps105
  go_wp2_with fail
  refine (H.out.call (follow_does n)).mono ?_
  rintro e w1 ⟨v, rfl, h1⟩
  have H1 := hid h1
  clear H h1
  go_wp2_with fail
  refine (H1.out.call off_does).mono ?_
  rintro e w2 ⟨o, rfl, h2⟩
  have H2 := hid h2
  clear H1 h2
  cases o
  · cases hv : (v == h)
    · have HV := hid hv
      go_wp2_with fail
      go_ret2
      refine ⟨_, ?_, H2.out⟩
      rw [HV.out]
      rfl
    · have HV := hid hv
      go_wp2_with fail
      go_ret2
      refine ⟨_, ?_, H2.out⟩
      rw [HV.out]
      rfl
  · go_wp2_with fail
    go_ret2
    exact ⟨_, rfl, H2.out⟩

set_option maxHeartbeats 400000 in
theorem listFirst_does (h : Int) : Does 130 (fun f => #[f, .int .i64 h]) (nextT h h) nodeV := by
  refine Does.of fun w F lb p q R h0 => ?_
  have H := hid h0
  clear h0
  go_enter Tryz.func130, Tryz.ntmps130
  go_wp2_with fail
  refine (H.out.tail (next_does h h)).mono ?_
  rintro e w1 ⟨x1, rfl, h1⟩
  have H1 := hid h1
  clear H h1
  go_wp2_with fail
  go_ret2
  exact ⟨_, rfl, H1.out⟩

set_option maxHeartbeats 400000 in
theorem ahead_does (n m : Int) : Does 128 (fun f => #[f, .int .i64 n, .int .i64 m]) (aheadT n m) (fun _ => .tuple #[]) := by
  refine Does.of fun w F lb p q R h0 => ?_
  have H := hid h0
  clear h0
  go_enter Tryz.func128, Tryz.ntmps128
  go_wp2_with fail
  refine (H.out.call (follow_does _)).mono ?_
  rintro e w1 ⟨b, rfl, h1⟩
  have H1 := hid h1
  clear H h1
  go_wp2_with fail
  refine (H1.out.call (join_does b m)).mono ?_
  rintro e w2 ⟨x2, rfl, h2⟩
  have H2 := hid h2
  clear H1 h2
  go_wp2_with fail
  refine (H2.out.tail (join_does m n)).mono ?_
  rintro e w3 ⟨x3, rfl, h3⟩
  have H3 := hid h3
  clear H2 h3
  go_wp2_with fail
  go_end0
  exact ⟨_, rfl, H3.out⟩

set_option maxHeartbeats 400000 in
theorem append_does (h n : Int) : Does 102 (fun f => #[f, .int .i64 h, .int .i64 n]) (aheadT h n) (fun _ => .tuple #[]) := by
  refine Does.of fun w F lb p q R h0 => ?_
  have H := hid h0
  clear h0
  go_enter Tryz.func102, Tryz.ntmps102
  go_wp2_with fail
  refine (H.out.tail (ahead_does h n)).mono ?_
  rintro e w1 ⟨x1, rfl, h1⟩
  have H1 := hid h1
  clear H h1
  go_wp2_with fail
  go_end0
  exact ⟨_, rfl, H1.out⟩

set_option maxHeartbeats 400000 in
theorem prepend_does (h n : Int) : Does 112 (fun f => #[f, .int .i64 h, .int .i64 n]) (prependT h n) (fun _ => .tuple #[]) := by
  refine Does.of fun w F lb p q R h0 => ?_
  have H := hid h0
  clear h0
  go_enter Tryz.func112, Tryz.ntmps112
  go_wp2_with fail
  refine (H.out.call (follow_does _)).mono ?_
  rintro e w1 ⟨b, rfl, h1⟩
  have H1 := hid h1
  clear H h1
  go_wp2_with fail
  refine (H1.out.call (join_does h n)).mono ?_
  rintro e w2 ⟨x2, rfl, h2⟩
  have H2 := hid h2
  clear H1 h2
  go_wp2_with fail
  refine (H2.out.tail (join_does n b)).mono ?_
  rintro e w3 ⟨x3, rfl, h3⟩
  have H3 := hid h3
  clear H2 h3
  go_wp2_with fail
  go_end0
  exact ⟨_, rfl, H3.out⟩

set_option maxHeartbeats 400000 in
theorem remove_does (n : Int) : Does 110 (fun f => #[f, .int .i64 n]) (removeT n) (fun _ => .tuple #[]) := by
  refine Does.of fun w F lb p q R h0 => ?_
  have H := hid h0
  clear h0
  go_enter Tryz.func110, Tryz.ntmps110
  go_wp2_with fail
  refine (H.out.call (follow_does _)).mono ?_
  rintro e w1 ⟨x, rfl, h1⟩
  have H1 := hid h1
  clear H h1
  go_wp2_with fail
  refine (H1.out.call (follow_does _)).mono ?_
  rintro e w2 ⟨b, rfl, h2⟩
  have H2 := hid h2
  clear H1 h2
  go_wp2_with fail
  refine (H2.out.call (join_does b x)).mono ?_
  rintro e w3 ⟨x3, rfl, h3⟩
  have H3 := hid h3
  clear H2 h3
  go_wp2_with fail
  refine (H3.out.tail (listInit_does n)).mono ?_
  rintro e w4 ⟨x4, rfl, h4⟩
  have H4 := hid h4
  clear H3 h4
  go_wp2_with fail
  go_end0
  exact ⟨_, rfl, H4.out⟩

set_option maxHeartbeats 400000 in
theorem empty_does (h : Int) : Does 111 (fun f => #[f, .int .i64 h]) (emptyT h) .bool := by
  refine Does.of fun w F lb p q R h0 => ?_
  have H := hid h0
  clear h0
  go_enter Tryz.func111, Tryz.ntmps111
  go_wp2_with fail
  refine (H.out.call (listFirst_does h)).mono ?_
  rintro e w1 ⟨x, rfl, h1⟩
  have H1 := hid h1
  clear H h1
  go_wp2_with fail
  go_ret
  exact ⟨_, rfl, H1.out⟩
end Go.Proofs.YtmcmjcaigipoaaaGreat

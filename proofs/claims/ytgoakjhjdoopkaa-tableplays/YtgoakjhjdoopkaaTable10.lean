/-
  The calls of package table, as trees of accesses, at all arguments. Conditions: none beside what Does asks.
-/
import Derived.Test.YtgoakjhjdoopkaaDoes
namespace Go.Sept
open Go.RowKit

/-- There is a slot i in a table of k slots. -/
def IsSl (k i : Int) : Prop := k ≤ 8 ∧ 0 ≤ i ∧ i < k
def curT (a i : Int) : Tree (Int × Bool) 2 := (loadT (wrap64 (a + i))).bind fun g => offT.bind fun o => (Tree.ret (if o = true then (0, false) else (wrap64 (i + wrap64 (256 * g)), true)) : Tree (Int × Bool) 0)
def nexT (a i : Int) : Tree Bool 2 := (addT (wrap64 (a + i)) 1).bind fun _ => offT.bind fun o => (Tree.ret (!o) : Tree Bool 0)
def cheT (a h : Int) : Tree (Int × Bool) 2 := (curT a (h % 256)).bind fun x => (Tree.ret (if x.2 = true ∧ x.1 = h then (h % 256, true) else (0, false)) : Tree (Int × Bool) 0)
end Go.Sept

namespace Go.Proofs.Ytgoakjhjdoopkaa
open Go.RowKit Go.Sept

theorem isSlot_in (w : World) (k i : Int) (h : IsSl k i) : Calls Try.prog 17 #[.int .i64 k, .int .i64 i] w fun e w' => e = .returned (.bool true) ∧ w' = w := by
  obtain ⟨h1, h2, h3⟩ := h
  go_enter Try.func17, Try.ntmps17
  go_wp2
  go_ret
  exact ⟨rfl, rfl⟩
theorem isSlot_out (w : World) (k i : Int) (h : ¬ IsSl k i) : Calls Try.prog 17 #[.int .i64 k, .int .i64 i] w fun e w' => e = .returned (.bool false) ∧ w' = w := by
  by_cases k1 : k ≤ 8
  · by_cases k2 : 0 ≤ i
    · have k3 : ¬ i < k := fun k3 => h ⟨k1, k2, k3⟩
      clear h
      go_enter Try.func17, Try.ntmps17
      go_wp2
      go_ret
      exact ⟨rfl, rfl⟩
    · clear h
      go_enter Try.func17, Try.ntmps17
      go_wp2
      go_ret
      exact ⟨rfl, rfl⟩
  · clear h
    go_enter Try.func17, Try.ntmps17
    go_wp2
    go_ret
    exact ⟨rfl, rfl⟩

set_option maxRecDepth 100000 in
set_option maxHeartbeats 1000000 in
theorem cur_does (a i : Int) : Does 18 (fun f => #[f, .int .i64 a, .int .i64 i]) (curT a i) (fun x => .tuple #[.int .i64 x.1, .bool x.2]) := by
  refine Does.of fun w F lb p q R h0 => ?_
  have H := hid h0
  clear h0
  go_enter Try.func18, Try.ntmps18
  go_wp2_with fail
  refine (H.out.call (load_does _)).mono ?_
  rintro e w1 ⟨g, rfl, h1⟩
  have H1 := hid h1
  clear H h1
  go_wp2_with fail
  refine (H1.out.call off_does).mono ?_
  rintro e w2 ⟨o, rfl, h2⟩
  have H2 := hid h2
  clear H1 h2
  cases o
  · go_wp2_with fail
    go_ret2
    exact ⟨_, rfl, H2.out⟩
  · go_wp2_with fail
    go_ret2
    exact ⟨_, rfl, H2.out⟩

set_option maxRecDepth 100000 in
set_option maxHeartbeats 1000000 in
theorem handle_does (a k i : Int) (h : IsSl k i) : Does 12 (fun f => #[f, .int .i64 a, .int .i64 k, .int .i64 i]) (curT a i) (fun x => .tuple #[.int .i64 x.1, .bool x.2]) := by
  refine Does.of fun w F lb p q R h0 => ?_
  have H := hid h0
  have HS : Hid (∀ w : World, _) := fun w => isSlot_in w k i h
  clear h0 h
  go_enter Try.func12, Try.ntmps12
  go_wp2_with fail
  refine (HS.out _).mono ?_
  rintro e w0 ⟨rfl, rfl⟩
  go_wp2_with fail
  refine (H.out.tail (cur_does _ _)).mono ?_
  rintro e w1 ⟨x, rfl, h1⟩
  have H1 := hid h1
  clear H h1
  go_wp2_with fail
  go_ret2
  exact ⟨_, rfl, H1.out⟩

set_option maxRecDepth 100000 in
set_option maxHeartbeats 1000000 in
theorem handle_idle (a k i : Int) (h : ¬ IsSl k i) : Does 12 (fun f => #[f, .int .i64 a, .int .i64 k, .int .i64 i]) (Tree.ret (0, false) : Tree (Int × Bool) 2) (fun x => .tuple #[.int .i64 x.1, .bool x.2]) := by
  refine Does.idle fun w F => ?_
  have HS : Hid (∀ w : World, _) := fun w => isSlot_out w k i h
  clear h
  go_enter Try.func12, Try.ntmps12
  go_wp2_with fail
  refine (HS.out _).mono ?_
  rintro e w0 ⟨rfl, rfl⟩
  go_wp2_with fail
  go_ret2
  exact ⟨rfl, rfl⟩

set_option maxRecDepth 100000 in
set_option maxHeartbeats 1000000 in
theorem next_does (a k i : Int) (h : IsSl k i) : Does 14 (fun f => #[f, .int .i64 a, .int .i64 k, .int .i64 i]) (nexT a i) .bool := by
  refine Does.of fun w F lb p q R h0 => ?_
  have H := hid h0
  have HS : Hid (∀ w : World, _) := fun w => isSlot_in w k i h
  clear h0 h
  go_enter Try.func14, Try.ntmps14
  go_wp2_with fail
  refine (HS.out _).mono ?_
  rintro e w0 ⟨rfl, rfl⟩
  go_wp2_with fail
  refine (H.out.call (add_does _ _)).mono ?_
  rintro e w1 ⟨x, rfl, h1⟩
  have H1 := hid h1
  clear H h1
  go_wp2_with fail
  refine (H1.out.call off_does).mono ?_
  rintro e w2 ⟨o, rfl, h2⟩
  have H2 := hid h2
  clear H1 h2
  go_wp2_with fail
  go_ret
  exact ⟨_, rfl, H2.out⟩

set_option maxRecDepth 100000 in
set_option maxHeartbeats 1000000 in
theorem next_idle (a k i : Int) (h : ¬ IsSl k i) : Does 14 (fun f => #[f, .int .i64 a, .int .i64 k, .int .i64 i]) (Tree.ret false : Tree Bool 2) .bool := by
  refine Does.idle fun w F => ?_
  have HS : Hid (∀ w : World, _) := fun w => isSlot_out w k i h
  clear h
  go_enter Try.func14, Try.ntmps14
  go_wp2_with fail
  refine (HS.out _).mono ?_
  rintro e w0 ⟨rfl, rfl⟩
  go_wp2_with fail
  go_ret
  exact ⟨rfl, rfl⟩

set_option maxRecDepth 100000 in
set_option maxHeartbeats 1000000 in
theorem check_does (a k h : Int) (hh : 0 ≤ h) (hs : IsSl k (h % 256)) : Does 13 (fun f => #[f, .int .i64 a, .int .i64 k, .int .i64 h]) (cheT a h) (fun x => .tuple #[.int .i64 x.1, .bool x.2]) := by
  refine Does.of fun w F lb p q R h0 => ?_
  have H := hid h0
  have HS : Hid (∀ w : World, _) := fun w => isSlot_in w k (h % 256) hs
  have h00 : ¬ h < 0 := by omega
  clear h0 hs
  go_enter Try.func13, Try.ntmps13
  go_wp2_with fail
  refine (HS.out _).mono ?_
  rintro e w0 ⟨rfl, rfl⟩
  go_wp2_with fail
  refine (H.out.call (cur_does _ _)).mono ?_
  rintro e w1 ⟨⟨x, o⟩, rfl, h1⟩
  cases o
  · have H1 := hid (h1.eq (t2 := Tree.ret (0, false)) (by rw [if_neg (fun h => by cases h.1)]))
    clear H h1
    go_wp2_with fail
    go_ret2
    exact ⟨_, rfl, H1.out⟩
  · by_cases hx : x = h
    · have H1 := hid (h1.eq (t2 := Tree.ret (h % 256, true)) (by rw [if_pos ⟨rfl, hx⟩]))
      have hne : (x != h) = false := by rw [hx]; simp
      clear H h1
      go_wp2_with fail
      go_ret2
      exact ⟨_, rfl, H1.out⟩
    · have H1 := hid (h1.eq (t2 := Tree.ret (0, false)) (by rw [if_neg (fun h => hx h.2)]))
      have hne : (x != h) = true := bne_iff_ne.2 hx
      clear H h1
      go_wp2_with fail
      go_ret2
      exact ⟨_, rfl, H1.out⟩

set_option maxRecDepth 100000 in
set_option maxHeartbeats 1000000 in
theorem check_idle (a k h : Int) (hs : h < 0 ∨ ¬ IsSl k (h % 256)) : Does 13 (fun f => #[f, .int .i64 a, .int .i64 k, .int .i64 h]) (Tree.ret (0, false) : Tree (Int × Bool) 2) (fun x => .tuple #[.int .i64 x.1, .bool x.2]) := by
  refine Does.idle fun w F => ?_
  by_cases h0 : h < 0
  · clear hs
    go_enter Try.func13, Try.ntmps13
    go_wp2_with fail
    go_ret2
    exact ⟨rfl, rfl⟩
  · have HS : Hid (∀ w : World, _) := fun w => isSlot_out w k (h % 256) (hs.resolve_left h0)
    clear hs
    go_enter Try.func13, Try.ntmps13
    go_wp2_with fail
    refine (HS.out _).mono ?_
    rintro e w0 ⟨rfl, rfl⟩
    go_wp2_with fail
    go_ret2
    exact ⟨rfl, rfl⟩
end Go.Proofs.Ytgoakjhjdoopkaa

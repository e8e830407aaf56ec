/-
  The calls of package delta, as trees of accesses. Conditions: none beside what Does asks; Insert of ticks from 0 on.
-/
import Derived.Test.YtaoobegfgpfncaaList5
namespace Go.Sept
open Go.RowKit

def seekD : Nat → Nat
  | 0 => 2
  | k + 1 => seekD k + 3
abbrev Place : Type := Int × Int × Bool
/-- Which one is the next behind a timer of so many ticks, how many are left to it, and whether its place was found among k. -/
def seekT (h : Int) : (k : Nat) → Int → Int → Tree Place (seekD k)
  | 0, a, r => (nextT h a).bind fun x => (Tree.ret (h, r, !x.2) : Tree Place 0)
  | k + 1, a, r => (nextT h a).bind fun x => if x.2 = true then (loadT (wrap64 (x.1 + 2))).bind fun d => if r < d then Tree.ret (x.1, r, true) else seekT h k x.1 (wrap64 (r - d)) else Tree.ret (h, r, true)
theorem seekT_succ (h : Int) (k : Nat) (a r : Int) : seekT h (k + 1) a r = (nextT h a).bind fun x => if x.2 = true then (loadT (wrap64 (x.1 + 2))).bind fun d => if r < d then Tree.ret (x.1, r, true) else seekT h k x.1 (wrap64 (r - d)) else Tree.ret (h, r, true) := rfl
/-- Behind it: the node is laid ahead of the one that was found. -/
def layT (h n : Int) (x : Place) : Tree Unit 7 := if x.2.2 = true then (aheadT x.1 n).bind fun _ => (storeT (wrap64 (n + 2)) x.2.1).bind fun _ => if x.1 = h then Tree.ret () else (addT (wrap64 (x.1 + 2)) (wrap64 (- x.2.1))).bind fun _ => (Tree.ret () : Tree Unit 0) else Tree.ret ()
def dInsertT (h n t : Int) (k : Nat) : Tree Unit (7 + seekD k) := (seekT h k h t).bind fun x => layT h n x
def dRemoveT (h n : Int) : Tree Unit 11 := (loadT (wrap64 (n + 2))).bind fun d => (nextT h n).bind fun x => if x.2 = true then (addT (wrap64 (x.1 + 2)) d).bind fun _ => (removeT n).bind fun _ => storeT (wrap64 (n + 2)) 0 else ((removeT n).bind fun _ => storeT (wrap64 (n + 2)) 0).up
def dTickT (h : Int) : Tree Unit 4 := (nextT h h).bind fun x => if x.2 = true then (loadT (wrap64 (x.1 + 2))).bind fun d => if 0 < d then (addT (wrap64 (x.1 + 2)) (-1)).bind fun _ => (Tree.ret () : Tree Unit 0) else Tree.ret () else Tree.ret ()
def dDueT (h : Int) : Tree (Int × Bool) 10 := (nextT h h).bind fun x => if x.2 = true then (loadT (wrap64 (x.1 + 2))).bind fun d => if d = 0 then (removeT x.1).bind fun _ => offT.bind fun o => (Tree.ret (if o = true then (0, false) else (x.1, true)) : Tree (Int × Bool) 0) else Tree.ret (0, false) else Tree.ret (0, false)
abbrev placeV (x : Place) : Value := .tuple #[.int .i64 x.1, .int .i64 x.2.1, .bool x.2.2]
end Go.Sept

namespace Go.Proofs.Ytaoobegfgpfncaa
open Go.RowKit Go.Sept

theorem At.low {w w1 : World} {F lb p q : Nat} {S : Nat → Prop} {B : Bag} {β : Type} {n : Nat} {T : Tree β n} {R : β × FrSt × List Int} (h : At w F lb p q S B T.up R w1) : At w F lb p q S B T R w1 := by
  obtain ⟨s, xs, lb1, h1, h2, h3, h4, h5, h6⟩ := h
  exact ⟨s, xs, lb1, h1, h2, h3, h4, h5.mono (Nat.le_succ _), by rw [← h6, Tree.run_up]⟩

set_option maxHeartbeats 400000 in
theorem dInit_does (h : Int) : Does 20 (fun f => #[f, .int .i64 h]) (joinT h h) (fun _ => .tuple #[]) := by
  refine Does.of fun w F lb p q R h0 => ?_
  have H := hid h0
  clear h0
  go_enter Try.func20, Try.ntmps20
  go_wp2_with fail
  refine (H.out.tail (listInit_does h)).mono ?_
  rintro e w1 ⟨x1, rfl, h1⟩
  have H1 := hid h1
  clear H h1
  go_wp2_with fail
  go_end0
  exact ⟨_, rfl, H1.out⟩

set_option maxRecDepth 100000 in
set_option maxHeartbeats 1000000 in
theorem seek_does (h t : Int) : Does 24 (fun f => #[f, .int .i64 h, .int .i64 t]) (seekT h 26 h t) placeV := by
  refine Does.of fun w F lb p q R h0 => ?_
  have H := hid h0
  clear h0
  go_enter Try.func24, Try.ntmps24
  go_wp2_with fail
  go_loopw [7, 9, 17] (fun r a i wx => ∃ (j : Nat) (r' a' : Int), r = .int .i64 r' ∧ a = .int .i64 a' ∧ i = .int .i64 (j : Int) ∧ j ≤ 26 ∧ At w F lb p q (fun _ => False) Bag.none (seekT h (26 - j) a' r') R wx) (fun _ _ i _ => 26 - (intOf i).toNat)
  case atStart => exact ⟨0, t, h, rfl, rfl, rfl, by decide, H.out⟩
  case round =>
    obtain ⟨j, r', a', rfl, rfl, rfl, hj, hat⟩ := hrel
    clear H
    by_cases hlt : (j : Int) < 26
    · obtain ⟨k, hk⟩ : ∃ k, 26 - j = k + 1 := ⟨25 - j, by omega⟩
      have hat2 : At w F lb p q (fun _ => False) Bag.none (seekT h (k + 1) a' r') R wr := by
        rw [hk] at hat
        exact hat
      have H2 := hid hat2
      have HK : Hid (k = 26 - (j + 1)) := by show _ = _; omega
      clear hat hat2 hk
      go_wp2_with fail
      refine (H2.out.call (next_does h a')).mono ?_
      rintro e w3 ⟨⟨nx, fo⟩, rfl, h3⟩
      cases fo
      · have H3 := hid (h3.neg (fun e => by cases e)).fin
        clear H2 h3
        go_wp2_with fail
        go_ret3
        exact ⟨_, rfl, H3.out⟩
      · have H3 := hid (h3.pos rfl)
        clear H2 h3
        go_wp2_with fail
        refine (H3.out.call (load_does _)).mono ?_
        rintro e w4 ⟨d, rfl, h4⟩
        by_cases hd : r' < d
        · have H4 := hid (h4.pos hd).fin
          clear H3 h4
          go_wp2_with fail
          go_ret3
          exact ⟨_, rfl, H4.out⟩
        · have H4 := hid (h4.neg hd)
          clear H3 h4
          go_wp2_with fail
          go_roundw
          case rel =>
            refine ⟨j + 1, _, _, rfl, rfl, by go_num, by omega, ?_⟩
            have h9 := H4.out
            rwa [HK.out] at h9
          case measure => simp [intOf]; omega
    · obtain rfl : j = 26 := by omega
      have H2 := hid hat
      clear hat
      go_wp2_with fail
      refine (H2.out.call (next_does h a')).mono ?_
      rintro e w3 ⟨⟨nx, fo⟩, rfl, h3⟩
      have H3 := hid h3
      clear H2 h3
      go_wp2_with fail
      go_ret3
      exact ⟨_, rfl, H3.out⟩

set_option maxRecDepth 100000 in
set_option maxHeartbeats 1000000 in
theorem dInsert_does (h n t : Int) (ht : 0 ≤ t) : Does 16 (fun f => #[f, .int .i64 h, .int .i64 n, .int .i64 t]) (dInsertT h n t 26) (fun _ => .tuple #[]) := by
  refine Does.of fun w F lb p q R h0 => ?_
  have H := hid h0
  clear h0
  go_enter Try.func16, Try.ntmps16
  go_wp2_with fail
  refine (H.out.call (seek_does h t)).mono ?_
  rintro e w1 ⟨⟨b, r, fo⟩, rfl, h1⟩
  cases fo
  · have H1 := hid (h1.neg (fun e => by cases e)).fin
    clear H h1
    go_wp2_with fail
    refine bodyPost_ret (results_none rfl _ _ _) rfl ?_
    exact ⟨_, rfl, H1.out⟩
  · have H1 := hid (h1.pos rfl)
    clear H h1
    go_wp2_with fail
    refine (H1.out.call (ahead_does b n)).mono ?_
    rintro e w2 ⟨x2, rfl, h2⟩
    have H2 := hid h2
    clear H1 h2
    go_wp2_with fail
    refine (H2.out.call (store_does _ r)).mono ?_
    rintro e w3 ⟨x3, rfl, h3⟩
    by_cases hb : b = h
    · have H3 := hid (h3.pos hb).fin
      clear H2 h3
      go_wp2_with fail
      go_end0
      exact ⟨_, rfl, H3.out⟩
    · have H3 := hid (h3.neg hb)
      clear H2 h3
      go_wp2_with fail
      refine (H3.out.call (add_does _ _)).mono ?_
      rintro e w4 ⟨x4, rfl, h4⟩
      have H4 := hid h4
      clear H3 h4
      go_wp2_with fail
      go_end0
      exact ⟨_, rfl, H4.out⟩

set_option maxRecDepth 100000 in
set_option maxHeartbeats 1000000 in
theorem dRemove_does (h n : Int) : Does 17 (fun f => #[f, .int .i64 h, .int .i64 n]) (dRemoveT h n) (fun _ => .tuple #[]) := by
  refine Does.of fun w F lb p q R h0 => ?_
  have H := hid h0
  clear h0
  go_enter Try.func17, Try.ntmps17
  go_wp2_with fail
  refine (H.out.call (load_does _)).mono ?_
  rintro e w1 ⟨d, rfl, h1⟩
  have H1 := hid h1
  clear H h1
  go_wp2_with fail
  refine (H1.out.call (next_does h n)).mono ?_
  rintro e w2 ⟨⟨nx, fo⟩, rfl, h2⟩
  cases fo
  · have H2 := hid (h2.neg (fun e => by cases e)).low
    clear H1 h2
    go_wp2_with fail
    refine (H2.out.call (remove_does n)).mono ?_
    rintro e w3 ⟨x3, rfl, h3⟩
    have H3 := hid h3
    clear H2 h3
    go_wp2_with fail
    refine (H3.out.tail (store_does _ 0)).mono ?_
    rintro e w4 ⟨x4, rfl, h4⟩
    have H4 := hid h4
    clear H3 h4
    go_wp2_with fail
    go_end0
    exact ⟨_, rfl, H4.out⟩
  · have H2 := hid (h2.pos rfl)
    clear H1 h2
    go_wp2_with fail
    refine (H2.out.call (add_does _ d)).mono ?_
    rintro e w3 ⟨x3, rfl, h3⟩
    have H3 := hid h3
    clear H2 h3
    go_wp2_with fail
    refine (H3.out.call (remove_does n)).mono ?_
    rintro e w4 ⟨x4, rfl, h4⟩
    have H4 := hid h4
    clear H3 h4
    go_wp2_with fail
    refine (H4.out.tail (store_does _ 0)).mono ?_
    rintro e w5 ⟨x5, rfl, h5⟩
    have H5 := hid h5
    clear H4 h5
    go_wp2_with fail
    go_end0
    exact ⟨_, rfl, H5.out⟩

set_option maxRecDepth 100000 in
set_option maxHeartbeats 1000000 in
theorem dTick_does (h : Int) : Does 18 (fun f => #[f, .int .i64 h]) (dTickT h) (fun _ => .tuple #[]) := by
  refine Does.of fun w F lb p q R h0 => ?_
  have H := hid h0
  clear h0
  go_enter Try.func18, Try.ntmps18
  go_wp2_with fail
  refine (H.out.call (listFirst_does h)).mono ?_
  rintro e w2 ⟨⟨nx, fo⟩, rfl, h2⟩
  cases fo
  · have H2 := hid (h2.neg (fun e => by cases e)).fin
    clear H h2
    go_wp2_with fail
    go_end0
    exact ⟨_, rfl, H2.out⟩
  · have H2 := hid (h2.pos rfl)
    clear H h2
    go_wp2_with fail
    refine (H2.out.call (load_does _)).mono ?_
    rintro e w3 ⟨d, rfl, h3⟩
    by_cases hd : 0 < d
    · have H3 := hid (h3.pos hd)
      clear H2 h3
      go_wp2_with fail
      refine (H3.out.call (add_does _ (-1))).mono ?_
      rintro e w4 ⟨x4, rfl, h4⟩
      have H4 := hid h4
      clear H3 h4
      go_wp2_with fail
      go_end0
      exact ⟨_, rfl, H4.out⟩
    · have H3 := hid (h3.neg hd).fin
      clear H2 h3
      go_wp2_with fail
      go_end0
      exact ⟨_, rfl, H3.out⟩

set_option maxRecDepth 100000 in
set_option maxHeartbeats 1000000 in
theorem dDue_does (h : Int) : Does 19 (fun f => #[f, .int .i64 h]) (dDueT h) nodeV := by
  refine Does.of fun w F lb p q R h0 => ?_
  have H := hid h0
  clear h0
  go_enter Try.func19, Try.ntmps19
  go_wp2_with fail
  refine (H.out.call (listFirst_does h)).mono ?_
  rintro e w2 ⟨⟨nx, fo⟩, rfl, h2⟩
  cases fo
  · have H2 := hid (h2.neg (fun e => by cases e)).fin
    clear H h2
    go_wp2_with fail
    go_ret2
    exact ⟨_, rfl, H2.out⟩
  · have H2 := hid (h2.pos rfl)
    clear H h2
    go_wp2_with fail
    refine (H2.out.call (load_does _)).mono ?_
    rintro e w3 ⟨d, rfl, h3⟩
    by_cases hd : d = 0
    · have H3 := hid (h3.pos hd)
      subst hd
      clear H2 h3
      go_wp2_with fail
      refine (H3.out.call (remove_does nx)).mono ?_
      rintro e w4 ⟨x4, rfl, h4⟩
      have H4 := hid h4
      clear H3 h4
      go_wp2_with fail
      refine (H4.out.call off_does).mono ?_
      rintro e w5 ⟨o, rfl, h5⟩
      have H5 := hid h5
      clear H4 h5
      cases o
      · go_wp2_with fail
        go_ret2
        exact ⟨_, rfl, H5.out⟩
      · go_wp2_with fail
        go_ret2
        exact ⟨_, rfl, H5.out⟩
    · have H3 := hid (h3.neg hd).fin
      clear H2 h3
      go_wp2_with fail
      go_ret2
      exact ⟨_, rfl, H3.out⟩
end Go.Proofs.Ytaoobegfgpfncaa

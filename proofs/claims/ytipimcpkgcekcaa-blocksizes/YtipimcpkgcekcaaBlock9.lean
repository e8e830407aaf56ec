/-
  The calls of package block, as trees of accesses. Conditions: none beside what Does asks; a number of blocks that can be, or that can't.
-/
import Derived.Test.YtipimcpkgcekcaaDoes
namespace Go.Sept
open Go.RowKit

/-- The words of a set, from the place j on: k of them lead to the one behind; the last one leads to none. -/
def initsT (a : Int) : (k : Nat) → Int → Tree Unit (k + 1)
  | 0, j => storeT (wrap64 (a + j)) 0
  | k + 1, j => (storeT (wrap64 (a + j)) (j + 1)).bind fun _ => initsT a k (j + 1)
theorem initsT_succ (a : Int) (k : Nat) (j : Int) : initsT a (k + 1) j = (storeT (wrap64 (a + j)) (j + 1)).bind fun _ => initsT a k (j + 1) := rfl
def firstT (a c : Int) : Tree Int 1 := (loadT a).bind fun x => (Tree.ret (if x < 1 ∨ c < x then 0 else x) : Tree Int 0)
def takeT (a c : Int) : Tree (Int × Bool) 5 := (firstT a c).bind fun x => if x = 0 then Tree.ret (0, false) else (loadT (wrap64 (a + x))).bind fun y => if y = -1 then Tree.ret (0, false) else (storeT a y).bind fun _ => (storeT (wrap64 (a + x)) (-1)).bind fun _ => offT.bind fun o => (Tree.ret (if o = true then (0, false) else (wrap64 (x - 1), true)) : Tree (Int × Bool) 0)
def giveT (a c i : Int) : Tree Bool 5 := (loadT (wrap64 (wrap64 (a + i) + 1))).bind fun x => if x = -1 then (firstT a c).bind fun y => (storeT (wrap64 (wrap64 (a + i) + 1)) y).bind fun _ => (storeT a (wrap64 (i + 1))).bind fun _ => offT.bind fun o => (Tree.ret (!o) : Tree Bool 0) else Tree.ret false
def freeT (a i : Int) : Tree Bool 2 := (loadT (wrap64 (wrap64 (a + i) + 1))).bind fun x => if x = -1 then Tree.ret false else offT.bind fun o => (Tree.ret (!o) : Tree Bool 0)
end Go.Sept

namespace Go.Proofs.Ytipimcpkgcekcaa
open Go.RowKit Go.Sept

theorem isSize_in (w : World) (c : Int) (h1 : 1 ≤ c) (h2 : c ≤ 16) : Calls Try.prog 11 #[.int .i64 c] w fun e w' => e = .returned (.bool true) ∧ w' = w := by
  go_enter Try.func11, Try.ntmps11
  go_wp2
  go_ret
  exact ⟨rfl, rfl⟩
theorem isSize_out (w : World) (c : Int) (h : c < 1 ∨ 16 < c) : Calls Try.prog 11 #[.int .i64 c] w fun e w' => e = .returned (.bool false) ∧ w' = w := by
  by_cases k1 : 1 ≤ c
  · have k2 : ¬ c ≤ 16 := by omega
    clear h
    go_enter Try.func11, Try.ntmps11
    go_wp2
    go_ret
    exact ⟨rfl, rfl⟩
  · clear h
    go_enter Try.func11, Try.ntmps11
    go_wp2
    go_ret
    exact ⟨rfl, rfl⟩
theorem isBlock_in (w : World) (c i : Int) (h1 : 1 ≤ c) (h2 : c ≤ 16) (h3 : 0 ≤ i) (h4 : i < c) : Calls Try.prog 26 #[.int .i64 c, .int .i64 i] w fun e w' => e = .returned (.bool true) ∧ w' = w := by
  have HS : Hid (∀ w : World, _) := fun w => isSize_in w c h1 h2
  clear h1 h2
  go_enter Try.func26, Try.ntmps26
  go_wp2_with fail
  refine (HS.out _).mono ?_
  rintro e w0 ⟨rfl, rfl⟩
  go_wp2
  go_ret
  exact ⟨rfl, rfl⟩
theorem isBlock_no (w : World) (c i : Int) (h : c < 1 ∨ 16 < c) : Calls Try.prog 26 #[.int .i64 c, .int .i64 i] w fun e w' => e = .returned (.bool false) ∧ w' = w := by
  have HS : Hid (∀ w : World, _) := fun w => isSize_out w c h
  clear h
  go_enter Try.func26, Try.ntmps26
  go_wp2_with fail
  refine (HS.out _).mono ?_
  rintro e w0 ⟨rfl, rfl⟩
  go_wp2
  go_ret
  exact ⟨rfl, rfl⟩
theorem isBlock_out (w : World) (c i : Int) (h : i < 0 ∨ c ≤ i) : Calls Try.prog 26 #[.int .i64 c, .int .i64 i] w fun e w' => e = .returned (.bool false) ∧ w' = w := by
  by_cases hc : c < 1 ∨ 16 < c
  · exact isBlock_no w c i hc
  · have HS : Hid (∀ w : World, _) := fun w => isSize_in w c (by omega) (by omega)
    clear hc
    by_cases k1 : 0 ≤ i
    · have k2 : ¬ i < c := by omega
      clear h
      go_enter Try.func26, Try.ntmps26
      go_wp2_with fail
      refine (HS.out _).mono ?_
      rintro e w0 ⟨rfl, rfl⟩
      go_wp2
      go_ret
      refine ⟨?_, rfl⟩
      show Ending.returned (.bool (decide (i < c))) = _
      rw [decide_eq_false (Int.not_lt.2 k2)]
    · clear h
      go_enter Try.func26, Try.ntmps26
      go_wp2_with fail
      refine (HS.out _).mono ?_
      rintro e w0 ⟨rfl, rfl⟩
      go_wp2
      go_ret
      exact ⟨rfl, rfl⟩

theorem blockWords_in (w : World) (c : Int) (h1 : 1 ≤ c) (h2 : c ≤ 16) : Calls Try.prog 5 #[.int .i64 c] w fun e w' => e = .returned (.int .i64 (c + 1)) ∧ w' = w := by
  have HS : Hid (∀ w : World, _) := fun w => isSize_in w c h1 h2
  go_enter Try.func5, Try.ntmps5
  go_wp2_with fail
  refine (HS.out _).mono ?_
  rintro e w0 ⟨rfl, rfl⟩
  go_wp2
  go_ret
  exact ⟨rfl, rfl⟩
theorem blockWords_out (w : World) (c : Int) (h : c < 1 ∨ 16 < c) : Calls Try.prog 5 #[.int .i64 c] w fun e w' => e = .returned (.int .i64 0) ∧ w' = w := by
  have HS : Hid (∀ w : World, _) := fun w => isSize_out w c h
  clear h
  go_enter Try.func5, Try.ntmps5
  go_wp2_with fail
  refine (HS.out _).mono ?_
  rintro e w0 ⟨rfl, rfl⟩
  go_wp2
  go_ret
  exact ⟨rfl, rfl⟩

set_option maxHeartbeats 400000 in
theorem first_does (a c : Int) : Does 22 (fun f => #[f, .int .i64 a, .int .i64 c]) (firstT a c) (.int .i64) := by
  refine Does.of fun w F lb p q R h0 => ?_
  have H := hid h0
  clear h0
  go_enter Try.func22, Try.ntmps22
  go_wp2_with fail
  refine (H.out.call (load_does _)).mono ?_
  rintro e w1 ⟨x, rfl, h1⟩
  by_cases k1 : x < 1
  · have H1 := hid (h1.eq (t2 := Tree.ret 0) (by rw [if_pos (.inl k1)]))
    clear H h1
    go_wp2
    go_ret
    exact ⟨_, rfl, H1.out⟩
  · by_cases k2 : c < x
    · have H1 := hid (h1.eq (t2 := Tree.ret 0) (by rw [if_pos (.inr k2)]))
      clear H h1
      go_wp2
      go_ret
      exact ⟨_, rfl, H1.out⟩
    · have H1 := hid (h1.eq (t2 := Tree.ret x) (by rw [if_neg (by omega)]))
      clear H h1
      go_wp2
      go_ret
      exact ⟨_, rfl, H1.out⟩

set_option maxRecDepth 100000 in
set_option maxHeartbeats 1000000 in
theorem take_does (a c : Int) (h1 : 1 ≤ c) (h2 : c ≤ 16) : Does 15 (fun f => #[f, .int .i64 a, .int .i64 c]) (takeT a c) (fun x => .tuple #[.int .i64 x.1, .bool x.2]) := by
  refine Does.of fun w F lb p q R h0 => ?_
  have H := hid h0
  have HS : Hid (∀ w : World, _) := fun w => isSize_in w c h1 h2
  clear h0 h1 h2
  go_enter Try.func15, Try.ntmps15
  go_wp2_with fail
  refine (HS.out _).mono ?_
  rintro e w0 ⟨rfl, rfl⟩
  go_wp2_with fail
  refine (H.out.call (first_does _ _)).mono ?_
  rintro e w1 ⟨x, rfl, h1⟩
  by_cases k1 : x = 0
  · have H1 := hid (h1.pos k1).fin
    clear H h1
    go_wp2_with fail
    go_ret2
    exact ⟨_, rfl, H1.out⟩
  · have H1 := hid (h1.neg k1)
    clear H h1
    go_wp2_with fail
    refine (H1.out.call (load_does _)).mono ?_
    rintro e w2 ⟨y, rfl, h2⟩
    by_cases k2 : y = -1
    · have H2 := hid (h2.pos k2).fin
      clear H1 h2
      go_wp2_with fail
      go_ret2
      exact ⟨_, rfl, H2.out⟩
    · have H2 := hid (h2.neg k2)
      clear H1 h2
      go_wp2_with fail
      refine (H2.out.call (store_does _ _)).mono ?_
      rintro e w3 ⟨x3, rfl, h3⟩
      have H3 := hid h3
      clear H2 h3
      go_wp2_with fail
      refine (H3.out.call (store_does _ _)).mono ?_
      rintro e w4 ⟨x4, rfl, h4⟩
      have H4 := hid h4
      clear H3 h4
      go_wp2_with fail
      refine (H4.out.call off_does).mono ?_
      rintro e w5 ⟨o, rfl, h5⟩
      have H5 := hid h5
      clear H4 h5
      cases o
      · go_wp2_with fail
        go_ret2
        exact ⟨_, rfl, H5.out⟩
      · go_wp2_with fail
        go_ret2
        exact ⟨_, rfl, H5.out⟩

set_option maxRecDepth 100000 in
set_option maxHeartbeats 1000000 in
theorem take_idle (a c : Int) (h1 : c < 1 ∨ 16 < c) : Does 15 (fun f => #[f, .int .i64 a, .int .i64 c]) (Tree.ret (0, false) : Tree (Int × Bool) 0) (fun x => .tuple #[.int .i64 x.1, .bool x.2]) := by
  refine Does.idle fun w F => ?_
  have HS : Hid (∀ w : World, _) := fun w => isSize_out w c h1
  clear h1
  go_enter Try.func15, Try.ntmps15
  go_wp2_with fail
  refine (HS.out _).mono ?_
  rintro e w0 ⟨rfl, rfl⟩
  go_wp2_with fail
  go_ret2
  exact ⟨rfl, rfl⟩

set_option maxRecDepth 100000 in
set_option maxHeartbeats 1000000 in
theorem give_does (a c i : Int) (h1 : 1 ≤ c) (h2 : c ≤ 16) (h3 : 0 ≤ i) (h4 : i < c) : Does 16 (fun f => #[f, .int .i64 a, .int .i64 c, .int .i64 i]) (giveT a c i) .bool := by
  refine Does.of fun w F lb p q R h0 => ?_
  have H := hid h0
  have HS : Hid (∀ w : World, _) := fun w => isBlock_in w c i h1 h2 h3 h4
  clear h0 h1 h2 h3 h4
  go_enter Try.func16, Try.ntmps16
  go_wp2_with fail
  refine (HS.out _).mono ?_
  rintro e w0 ⟨rfl, rfl⟩
  go_wp2_with fail
  refine (H.out.call (load_does _)).mono ?_
  rintro e w1 ⟨x, rfl, h1⟩
  by_cases k1 : x = -1
  · have H1 := hid (h1.pos k1)
    clear H h1
    go_wp2_with fail
    refine (H1.out.call (first_does _ _)).mono ?_
    rintro e w2 ⟨y, rfl, h2⟩
    have H2 := hid h2
    clear H1 h2
    go_wp2_with fail
    refine (H2.out.call (store_does _ _)).mono ?_
    rintro e w3 ⟨x3, rfl, h3⟩
    have H3 := hid h3
    clear H2 h3
    go_wp2_with fail
    refine (H3.out.call (store_does _ _)).mono ?_
    rintro e w4 ⟨x4, rfl, h4⟩
    have H4 := hid h4
    clear H3 h4
    go_wp2_with fail
    refine (H4.out.call off_does).mono ?_
    rintro e w5 ⟨o, rfl, h5⟩
    have H5 := hid h5
    clear H4 h5
    go_wp2_with fail
    go_ret
    exact ⟨_, rfl, H5.out⟩
  · have H1 := hid (h1.neg k1).fin
    clear H h1
    go_wp2_with fail
    go_ret
    exact ⟨_, rfl, H1.out⟩

set_option maxRecDepth 100000 in
set_option maxHeartbeats 1000000 in
theorem give_none (a c i : Int) (h : ∀ w : World, Calls Try.prog 26 #[.int .i64 c, .int .i64 i] w fun e w' => e = .returned (.bool false) ∧ w' = w) : Does 16 (fun f => #[f, .int .i64 a, .int .i64 c, .int .i64 i]) (Tree.ret false : Tree Bool 0) .bool := by
  refine Does.idle fun w F => ?_
  have HS := hid h
  clear h
  go_enter Try.func16, Try.ntmps16
  go_wp2_with fail
  refine (HS.out _).mono ?_
  rintro e w0 ⟨rfl, rfl⟩
  go_wp2_with fail
  go_ret
  exact ⟨rfl, rfl⟩
theorem give_idle (a c i : Int) (h1 : c < 1 ∨ 16 < c) : Does 16 (fun f => #[f, .int .i64 a, .int .i64 c, .int .i64 i]) (Tree.ret false : Tree Bool 0) .bool :=
  give_none a c i fun w => isBlock_no w c i h1
theorem give_out (a c i : Int) (h : i < 0 ∨ c ≤ i) : Does 16 (fun f => #[f, .int .i64 a, .int .i64 c, .int .i64 i]) (Tree.ret false : Tree Bool 0) .bool :=
  give_none a c i fun w => isBlock_out w c i h

set_option maxRecDepth 100000 in
set_option maxHeartbeats 1000000 in
theorem free_does (a c i : Int) (h1 : 1 ≤ c) (h2 : c ≤ 16) (h3 : 0 ≤ i) (h4 : i < c) : Does 17 (fun f => #[f, .int .i64 a, .int .i64 c, .int .i64 i]) (freeT a i) .bool := by
  refine Does.of fun w F lb p q R h0 => ?_
  have H := hid h0
  have HS : Hid (∀ w : World, _) := fun w => isBlock_in w c i h1 h2 h3 h4
  clear h0 h1 h2 h3 h4
  go_enter Try.func17, Try.ntmps17
  go_wp2_with fail
  refine (HS.out _).mono ?_
  rintro e w0 ⟨rfl, rfl⟩
  go_wp2_with fail
  refine (H.out.call (load_does _)).mono ?_
  rintro e w1 ⟨x, rfl, h1⟩
  by_cases k1 : x = -1
  · have H1 := hid (h1.pos k1).fin
    clear H h1
    go_wp2_with fail
    go_ret
    exact ⟨_, rfl, H1.out⟩
  · have H1 := hid (h1.neg k1)
    have HX : Hid ((x != -1) = true) := bne_iff_ne.2 k1
    clear H h1
    go_wp2_with fail
    refine (H1.out.call off_does).mono ?_
    rintro e w5 ⟨o, rfl, h5⟩
    have H5 := hid h5
    clear H1 h5
    go_wp2_with fail
    go_ret
    refine ⟨!o, ?_, H5.out⟩
    show Ending.returned (.bool (x != -1 && !o)) = _
    rw [HX.out, Bool.true_and]

set_option maxRecDepth 100000 in
set_option maxHeartbeats 1000000 in
theorem free_none (a c i : Int) (h : ∀ w : World, Calls Try.prog 26 #[.int .i64 c, .int .i64 i] w fun e w' => e = .returned (.bool false) ∧ w' = w) : Does 17 (fun f => #[f, .int .i64 a, .int .i64 c, .int .i64 i]) (Tree.ret false : Tree Bool 0) .bool := by
  refine Does.idle fun w F => ?_
  have HS := hid h
  clear h
  go_enter Try.func17, Try.ntmps17
  go_wp2_with fail
  refine (HS.out _).mono ?_
  rintro e w0 ⟨rfl, rfl⟩
  go_wp2_with fail
  go_ret
  exact ⟨rfl, rfl⟩
theorem free_idle (a c i : Int) (h1 : c < 1 ∨ 16 < c) : Does 17 (fun f => #[f, .int .i64 a, .int .i64 c, .int .i64 i]) (Tree.ret false : Tree Bool 0) .bool :=
  free_none a c i fun w => isBlock_no w c i h1
theorem free_out (a c i : Int) (h : i < 0 ∨ c ≤ i) : Does 17 (fun f => #[f, .int .i64 a, .int .i64 c, .int .i64 i]) (Tree.ret false : Tree Bool 0) .bool :=
  free_none a c i fun w => isBlock_out w c i h

set_option maxRecDepth 100000 in
set_option maxHeartbeats 1000000 in
theorem init_does (a : Int) (k : Nat) (h1 : 1 ≤ k) (h2 : k ≤ 16) : Does 18 (fun f => #[f, .int .i64 a, .int .i64 (k : Int)]) (initsT a k 0) (fun _ => .tuple #[]) := by
  refine Does.of fun w F lb p q R h0 => ?_
  have H := hid h0
  have HS : Hid (∀ w : World, _) := fun w => isSize_in w (k : Int) (by omega) (by omega)
  clear h0 h1
  go_enter Try.func18, Try.ntmps18
  go_wp2_with fail
  refine (HS.out _).mono ?_
  rintro e w0 ⟨rfl, rfl⟩
  go_wp2_with fail
  go_loopw [11] (fun i wx => ∃ (j : Nat), i = .int .i64 (j : Int) ∧ j ≤ k ∧ At w0 F lb p q (fun _ => False) Bag.none (initsT a (k - j) (j : Int)) R wx) (fun i _ => k - (intOf i).toNat)
  case atStart => exact ⟨0, rfl, Nat.zero_le _, H.out⟩
  case round =>
    obtain ⟨j, rfl, hj, hat⟩ := hrel
    clear H
    by_cases hlt : (j : Int) < (k : Int)
    · obtain ⟨l, hl⟩ : ∃ l, k - j = l + 1 := ⟨k - j - 1, by omega⟩
      have hat2 : At w0 F lb p q (fun _ => False) Bag.none ((storeT (wrap64 (a + (j : Int))) ((j : Int) + 1)).bind fun _ => initsT a l ((j : Int) + 1)) R wr := by
        rw [hl, initsT_succ] at hat
        exact hat
      have H2 := hid hat2
      have HK : Hid (l = k - (j + 1)) := by show _ = _; omega
      clear hat hat2 hl
      go_wp2_with fail
      refine (H2.out.call (store_does _ _)).mono ?_
      rintro e w3 ⟨x3, rfl, h3⟩
      have H3 := hid h3
      clear H2 h3
      go_wp2_with fail
      go_roundw
      case rel =>
        refine ⟨j + 1, by go_num, by omega, ?_⟩
        have h9 := H3.out
        rw [HK.out] at h9
        exact h9
      case measure => simp [intOf]; omega
    · obtain rfl : j = k := by omega
      have hat2 : At w0 F lb p q (fun _ => False) Bag.none (initsT a 0 (j : Int)) R wr := by
        rw [Nat.sub_self] at hat
        exact hat
      have H2 := hid hat2
      clear hat hat2
      go_wp2_with fail
      refine (H2.out.tail (store_does _ _)).mono ?_
      rintro e w3 ⟨x3, rfl, h3⟩
      have H3 := hid h3
      clear H2 h3
      go_wp2_with fail
      go_end0
      exact ⟨_, rfl, H3.out⟩

set_option maxRecDepth 100000 in
set_option maxHeartbeats 1000000 in
theorem init_idle (a c : Int) (h1 : c < 1 ∨ 16 < c) : Does 18 (fun f => #[f, .int .i64 a, .int .i64 c]) (Tree.ret () : Tree Unit 0) (fun _ => .tuple #[]) := by
  refine Does.idle fun w F => ?_
  have HS : Hid (∀ w : World, _) := fun w => isSize_out w c h1
  clear h1
  go_enter Try.func18, Try.ntmps18
  go_wp2_with fail
  refine (HS.out _).mono ?_
  rintro e w0 ⟨rfl, rfl⟩
  go_wp2_with fail
  refine bodyPost_ret (results_none rfl _ _ _) rfl ?_
  exact ⟨rfl, rfl⟩
end Go.Proofs.Ytipimcpkgcekcaa

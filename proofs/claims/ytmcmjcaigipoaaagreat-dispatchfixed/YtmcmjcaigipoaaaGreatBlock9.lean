/-
  The calls of package block, as trees of accesses. Conditions: none beside what Does asks; a number of blocks that can be, or that can't.
-/
import Derived.Test.YtmcmjcaigipoaaaGreatDoes
namespace Go.Sept
open Go.RowKit

/-- The words of a set, from the place j on: k of them lead to the one behind; the last one leads to none. -/
def initsT (a : Int) : (k : Nat) → Int → Tree Unit (k + 1)
  | 0, j => storeT (wrap64 (a + j)) 0
  | k + 1, j => (storeT (wrap64 (a + j)) (j + 1)).bind fun _ => initsT a k (j + 1)
theorem initsT_succ (a : Int) (k : Nat) (j : Int) : initsT a (k + 1) j = (storeT (wrap64 (a + j)) (j + 1)).bind fun _ => initsT a k (j + 1) := rfl
def firstT (a c : Int) : Tree Int 1 := (loadT a).bind fun x => (Tree.ret (if x < 1 ∨ c < x then 0 else x) : Tree Int 0)
def takeT (a c : Int) : Tree (Int × Bool) 5 := (firstT a c).bind fun x => if x = 0 then Tree.ret (0, false) else (loadT (wrap64 (a + x))).bind fun y => if y = -1 then Tree.ret (0, false) else (storeT a y).bind fun _ => (storeT (wrap64 (a + x)) (-1)).bind fun _ => offT.bind fun o => (Tree.ret (if o = true then (0, false) else (wrap64 (x - 1), true)) : Tree (Int × Bool) 0)
def giveT (a c i : Int) : Tree Bool 5 := (loadT (wrap64 (wrap64 (a + i) + 1))).bind fun x => if x = -1 then (firstT a c).bind fun y => (storeT (wrap64 (wrap64 (a + i) + 1)) y).bind fun _ => (storeT a (wrap64 (i + 1))).bind fun _ => offT.bind fun o => (Tree.ret (!o) : Tree Bool 0) else Tree.ret false
def freeT (a i : Int) : Tree Bool 2 := (loadT (wrap64 (wrap64 (a + i) + 1))).bind fun x => if x = -1 then Tree.ret false else offT.bind fun o => (Tree.ret (!o) : Tree Bool 0)
end Go.Sept

namespace Go.Proofs.YtmcmjcaigipoaaaGreat
open Go.RowKit Go.Sept

theorem isSize_in (w : World) (c : Int) (h1 : 1 ≤ c) (h2 : c ≤ 16) : Calls Tryz.prog 100 #[.int .i64 c] w fun e w' => e = .returned (.bool true) ∧ w' = w := by
  go_enter Tryz.func100, Tryz.ntmps100
  go_wp2
  go_ret
  exact ⟨rfl, rfl⟩
theorem isSize_out (w : World) (c : Int) (h : c < 1 ∨ 16 < c) : Calls Tryz.prog 100 #[.int .i64 c] w fun e w' => e = .returned (.bool false) ∧ w' = w := by
  by_cases k1 : 1 ≤ c
  · have k2 : ¬ c ≤ 16 := by omega
    clear h
    go_enter Tryz.func100, Tryz.ntmps100
    go_wp2
    go_ret
    exact ⟨rfl, rfl⟩
  · clear h
    go_enter Tryz.func100, Tryz.ntmps100
    go_wp2
    go_ret
    exact ⟨rfl, rfl⟩
set_option maxRecDepth 100000 in
set_option maxHeartbeats 1000000 in
theorem init_does (a : Int) (k : Nat) (h1 : 1 ≤ k) (h2 : k ≤ 16) : Does 64 (fun f => #[f, .int .i64 a, .int .i64 (k : Int)]) (initsT a k 0) (fun _ => .tuple #[]) := by
  refine Does.of fun w F lb p q R h0 => ?_
  have H := hid h0
  have HS : Hid (∀ w : World, _) := fun w => isSize_in w (k : Int) (by omega) (by omega)
  clear h0 h1
  go_enter Tryz.func64, Tryz.ntmps64
  go_wp2_with fail
  refine (HS.out _).mono ?_
  rintro e w0 ⟨rfl, rfl⟩
  go_wp2_with fail
  go_loopw [11] (fun i wx => ∃ (j : Nat), i = .int .i64 (j : Int) ∧ j ≤ k ∧ At w0 F lb p q (fun _ => False) Bag.none (initsT a (k - j) (j : Int)) R wx) (fun i _ => k - (intOf i).toNat)
  case atStart => exact ⟨0, rfl, Nat.zero_le _, H.out⟩
  case round =>
    obtain ⟨j, rfl, hj, hat⟩ := hrel
    clear H
    by_cases hlt : (j : Int) < (k : Int)
    · obtain ⟨l, hl⟩ : ∃ l, k - j = l + 1 := ⟨k - j - 1, by omega⟩
      have hat2 : At w0 F lb p q (fun _ => False) Bag.none ((storeT (wrap64 (a + (j : Int))) ((j : Int) + 1)).bind fun _ => initsT a l ((j : Int) + 1)) R wr := by
        rw [hl, initsT_succ] at hat
        exact hat
      have H2 := hid hat2
      have HK : Hid (l = k - (j + 1)) := by show _ = _; omega
      clear hat hat2 hl
      go_wp2_with fail
      refine (H2.out.call (store_does _ _)).mono ?_
      rintro e w3 ⟨x3, rfl, h3⟩
      have H3 := hid h3
      clear H2 h3
      go_wp2_with fail
      go_roundw
      case rel =>
        refine ⟨j + 1, by go_num, by omega, ?_⟩
        have h9 := H3.out
        rw [HK.out] at h9
        exact h9
      case measure => simp [intOf]; omega
    · obtain rfl : j = k := by omega
      have hat2 : At w0 F lb p q (fun _ => False) Bag.none (initsT a 0 (j : Int)) R wr := by
        rw [Nat.sub_self] at hat
        exact hat
      have H2 := hid hat2
      clear hat hat2
      go_wp2_with fail
      refine (H2.out.tail (store_does _ _)).mono ?_
      rintro e w3 ⟨x3, rfl, h3⟩
      have H3 := hid h3
      clear H2 h3
      go_wp2_with fail
      go_end0
      exact ⟨_, rfl, H3.out⟩

set_option maxRecDepth 100000 in
set_option maxHeartbeats 1000000 in
theorem init_idle (a c : Int) (h1 : c < 1 ∨ 16 < c) : Does 64 (fun f => #[f, .int .i64 a, .int .i64 c]) (Tree.ret () : Tree Unit 0) (fun _ => .tuple #[]) := by
  refine Does.idle fun w F => ?_
  have HS : Hid (∀ w : World, _) := fun w => isSize_out w c h1
  clear h1
  go_enter Tryz.func64, Tryz.ntmps64
  go_wp2_with fail
  refine (HS.out _).mono ?_
  rintro e w0 ⟨rfl, rfl⟩
  go_wp2_with fail
  refine bodyPost_ret (results_none rfl _ _ _) rfl ?_
  exact ⟨rfl, rfl⟩
end Go.Proofs.YtmcmjcaigipoaaaGreat

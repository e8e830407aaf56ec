/-
  The leaves of package queue, and math/bits.Len64. Conditions: of bit that the priority is none below 0; of Len64 that its argument is a uint64.
-/
import Derived.Test.YtapmakdklpbjkaaList5
import Derived.Lib.BitFns
import Derived.OwnWalk
namespace Go.Sept
open Go.RowKit
theorem wrap64_fit (n : Int) (h : -9223372036854775808 ≤ n ∧ n ≤ 9223372036854775807) : wrap64 n = n := by unfold wrap64; omega
/-- The head of a priority's list. -/
def headA (a p : Int) : Int := wrap64 (wrap64 (a + 1) + wrap64 (p * 2))
end Go.Sept

namespace Go.Proofs.Ytapmakdklpbjkaa
open Go.RowKit Go.Sept

set_option maxHeartbeats 400000 in
theorem head_rel (w : World) (a p : Int) : Calls Try.prog 47 #[.int .i64 a, .int .i64 p] w fun e w' => e = .returned (.int .i64 (headA a p)) ∧ w' = w := by
  go_enter Try.func47, Try.ntmps47
  go_wp2
  go_ret
  exact ⟨rfl, rfl⟩

set_option maxHeartbeats 400000 in
theorem valid_rel (w : World) (p : Int) : Calls Try.prog 67 #[.int .i64 p] w fun e w' => e = .returned (.bool (decide (0 ≤ p ∧ p < 16))) ∧ w' = w := by
  by_cases h0 : 0 ≤ p
  · by_cases h1 : p < 16
    · rw [show decide (0 ≤ p ∧ p < 16) = true from decide_eq_true ⟨h0, h1⟩]
      go_enter Try.func67, Try.ntmps67
      go_wp2
      go_ret
      exact ⟨by simp, rfl⟩
    · rw [show decide (0 ≤ p ∧ p < 16) = false from decide_eq_false (fun h => h1 h.2)]
      go_enter Try.func67, Try.ntmps67
      go_wp2
      go_ret
      exact ⟨by simp, rfl⟩
  · rw [show decide (0 ≤ p ∧ p < 16) = false from decide_eq_false (fun h => h0 h.1)]
    go_enter Try.func67, Try.ntmps67
    go_wp2
    go_ret
    exact ⟨by simp, rfl⟩

theorem bit_bound (p : Int) (h1 : p ≤ 16) : (1 : Int) ≤ 2 ^ p.toNat ∧ (2 : Int) ^ p.toNat ≤ 65536 := by
  obtain ⟨n, hn⟩ : ∃ n, n = p.toNat := ⟨_, rfl⟩
  rw [← hn]
  have h2 : n ≤ 16 := by omega
  have h3 : (2 : Nat) ^ n ≤ 2 ^ 16 := Nat.pow_le_pow_right (by decide) h2
  have h4 : (2 : Int) ^ n = ((2 ^ n : Nat) : Int) := by norm_cast
  have h5 : 0 < 2 ^ n := Nat.two_pow_pos n
  rw [h4]
  exact ⟨by omega, by omega⟩
theorem bit_small (p : Int) (h1 : p ≤ 16) : wrap64 (2 ^ p.toNat) = 2 ^ p.toNat := by
  have h2 := bit_bound p h1
  exact wrap64_fit _ ⟨by omega, by omega⟩

set_option maxHeartbeats 400000 in
theorem bit_rel (w : World) (p : Int) (h0 : 0 ≤ p) (h1 : p ≤ 16) : Calls Try.prog 70 #[.int .i64 p] w fun e w' => e = .returned (.int .i64 (2 ^ p.toNat)) ∧ w' = w := by
  go_enter Try.func70, Try.ntmps70
  go_wp2
  go_ret
  refine ⟨?_, rfl⟩
  show Ending.returned (Value.int IntKind.i64 (wrap64 (2 ^ p.toNat))) = _
  rw [bit_small p h1]

set_option maxRecDepth 100000 in
theorem tab_size : (Lib.len8tab.size : Int) = 256 := by decide +kernel
set_option maxRecDepth 100000 in
theorem tab_all : ∀ n : Fin 256, ∀ h : n.val < Lib.len8tab.size, (Lib.len8tab[n.val]'h).toNat = Lib.bitLen n.val := by decide +kernel
theorem tab_get (x : Int) (h0 : 0 ≤ x) (h1 : x < 256) (h : x.toNat < Lib.len8tab.size) : ((Lib.len8tab[x.toNat]'h).toNat : Int) = Lib.bitLen x.toNat ∧ (Lib.bitLen x.toNat : Int) ≤ 8 := by
  have e := tab_all ⟨x.toNat, by omega⟩ h
  have l := Lib.bitLen_le8 ⟨x.toNat, by omega⟩
  simp only at e l
  exact ⟨by rw [e], by omega⟩

set_option maxHeartbeats 4000000 in
set_option maxRecDepth 100000 in
theorem len64_rel (w : World) (x : Int) (h0 : 0 ≤ x) (h1 : x ≤ 65535) : Calls Try.prog 86 #[.int .u64 x] w fun e w' => e = .returned (.int .i64 (Lib.bitLen x.toNat)) ∧ w' = w := by
  have hs := tab_size
  by_cases h2 : x < 256
  · have h3 : x < (Lib.len8tab.size : Int) := by omega
    go_enter Try.func86, Try.ntmps86
    go_wp2
    go_ret
    refine ⟨?_, rfl⟩
    show Ending.returned (Value.int IntKind.i64 (wrap64 (wrap64 ↑(Lib.len8tab[x.toNat]).toNat))) = _
    have h9 := tab_get x h0 h2 (by omega)
    rw [h9.1, wrap64_fit (Lib.bitLen x.toNat : Int) ⟨by omega, by omega⟩, wrap64_fit _ ⟨by omega, by omega⟩]
  · have h3 : x / 256 < (Lib.len8tab.size : Int) := by omega
    go_enter Try.func86, Try.ntmps86
    go_wp2
    go_ret
    refine ⟨?_, rfl⟩
    show Ending.returned (Value.int IntKind.i64 (wrap64 (8 + wrap64 ↑(Lib.len8tab[(x / 256).toNat]).toNat))) = _
    have h9 := tab_get (x / 256) (by omega) (by omega) (by omega)
    have h8 := Lib.bitLen_shift8 x.toNat (by omega) (by omega)
    have h7 : (x / 256).toNat = x.toNat / 256 := by omega
    rw [h9.1, wrap64_fit (Lib.bitLen (x / 256).toNat : Int) ⟨by omega, by omega⟩, wrap64_fit _ ⟨by omega, by omega⟩, h8, h7]
    push_cast
    rfl
end Go.Proofs.Ytapmakdklpbjkaa

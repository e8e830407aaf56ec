/-
  The leaves of package queue, and math/bits.Len64. Conditions: of bit that the priority is none below 0; of Len64 that its argument is a uint64.
-/
import Derived.Test.YtmcmjcaigipoaaaGreatList5
import Derived.Lib.BitFns
import Derived.OwnWalk
namespace Go.Sept
open Go.RowKit
theorem wrap64_fit (n : Int) (h : -9223372036854775808 ≤ n ∧ n ≤ 9223372036854775807) : wrap64 n = n := by unfold wrap64; omega
/-- The head of a priority's list. -/
def headA (a p : Int) : Int := wrap64 (wrap64 (a + 1) + wrap64 (p * 2))
end Go.Sept

namespace Go.Proofs.YtmcmjcaigipoaaaGreat
open Go.RowKit Go.Sept

set_option maxHeartbeats 400000 in
theorem head_rel (w : World) (a p : Int) : Calls Tryz.prog 63 #[.int .i64 a, .int .i64 p] w fun e w' => e = .returned (.int .i64 (headA a p)) ∧ w' = w := by
  go_enter Tryz.func63, Tryz.ntmps63
  go_wp2
  go_ret
  exact ⟨rfl, rfl⟩

set_option maxHeartbeats 400000 in
theorem valid_rel (w : World) (p : Int) : Calls Tryz.prog 101 #[.int .i64 p] w fun e w' => e = .returned (.bool (decide (0 ≤ p ∧ p < 16))) ∧ w' = w := by
  by_cases h0 : 0 ≤ p
  · by_cases h1 : p < 16
    · rw [show decide (0 ≤ p ∧ p < 16) = true from decide_eq_true ⟨h0, h1⟩]
      go_enter Tryz.func101, Tryz.ntmps101
      go_wp2
      go_ret
      exact ⟨by simp, rfl⟩
    · rw [show decide (0 ≤ p ∧ p < 16) = false from decide_eq_false (fun h => h1 h.2)]
      go_enter Tryz.func101, Tryz.ntmps101
      go_wp2
      go_ret
      exact ⟨by simp, rfl⟩
  · rw [show decide (0 ≤ p ∧ p < 16) = false from decide_eq_false (fun h => h0 h.1)]
    go_enter Tryz.func101, Tryz.ntmps101
    go_wp2
    go_ret
    exact ⟨by simp, rfl⟩

theorem bit_bound (p : Int) (h1 : p ≤ 16) : (1 : Int) ≤ 2 ^ p.toNat ∧ (2 : Int) ^ p.toNat ≤ 65536 := by
  obtain ⟨n, hn⟩ : ∃ n, n = p.toNat := ⟨_, rfl⟩
  rw [← hn]
  have h2 : n ≤ 16 := by omega
  have h3 : (2 : Nat) ^ n ≤ 2 ^ 16 := Nat.pow_le_pow_right (by decide) h2
  have h4 : (2 : Int) ^ n = ((2 ^ n : Nat) : Int) := by norm_cast
  have h5 : 0 < 2 ^ n := Nat.two_pow_pos n
  rw [h4]
  exact ⟨by omega, by omega⟩
theorem bit_small (p : Int) (h1 : p ≤ 16) : wrap64 (2 ^ p.toNat) = 2 ^ p.toNat := by
  have h2 := bit_bound p h1
  exact wrap64_fit _ ⟨by omega, by omega⟩

set_option maxHeartbeats 400000 in
theorem bit_rel (w : World) (p : Int) (h0 : 0 ≤ p) (h1 : p ≤ 16) : Calls Tryz.prog 103 #[.int .i64 p] w fun e w' => e = .returned (.int .i64 (2 ^ p.toNat)) ∧ w' = w := by
  go_enter Tryz.func103, Tryz.ntmps103
  go_wp2
  go_ret
  refine ⟨?_, rfl⟩
  show Ending.returned (Value.int IntKind.i64 (wrap64 (2 ^ p.toNat))) = _
  rw [bit_small p h1]

set_option maxRecDepth 100000 in
theorem tab_size : (Lib.len8tab.size : Int) = 256 := by decide +kernel
set_option maxRecDepth 100000 in
theorem tab_all : ∀ n : Fin 256, ∀ h : n.val < Lib.len8tab.size, (Lib.len8tab[n.val]'h).toNat = Lib.bitLen n.val := by decide +kernel
theorem tab_get (x : Int) (h0 : 0 ≤ x) (h1 : x < 256) (h : x.toNat < Lib.len8tab.size) : ((Lib.len8tab[x.toNat]'h).toNat : Int) = Lib.bitLen x.toNat ∧ (Lib.bitLen x.toNat : Int) ≤ 8 := by
  have e := tab_all ⟨x.toNat, by omega⟩ h
  have l := Lib.bitLen_le8 ⟨x.toNat, by omega⟩
  simp only at e l
  exact ⟨by rw [e], by omega⟩

set_option maxHeartbeats 4000000 in
set_option maxRecDepth 100000 in
theorem len64_rel (w : World) (x : Int) (h0 : 0 ≤ x) (h1 : x ≤ 65535) : Calls Tryz.prog 129 #[.int .u64 x] w fun e w' => e = .returned (.int .i64 (Lib.bitLen x.toNat)) ∧ w' = w := by
  have hs := tab_size
  by_cases h2 : x < 256
  · have h3 : x < (Lib.len8tab.size : Int) := by omega
    go_enter Tryz.func129, Tryz.ntmps129
    go_wp2
    go_ret
    refine ⟨?_, rfl⟩
    show Ending.returned (Value.int IntKind.i64 (wrap64 (wrap64 ↑(Lib.len8tab[x.toNat]).toNat))) = _
    have h9 := tab_get x h0 h2 (by omega)
    rw [h9.1, wrap64_fit (Lib.bitLen x.toNat : Int) ⟨by omega, by omega⟩, wrap64_fit _ ⟨by omega, by omega⟩]
  · have h3 : x / 256 < (Lib.len8tab.size : Int) := by omega
    go_enter Tryz.func129, Tryz.ntmps129
    go_wp2
    go_ret
    refine ⟨?_, rfl⟩
    show Ending.returned (Value.int IntKind.i64 (wrap64 (8 + wrap64 ↑(Lib.len8tab[(x / 256).toNat]).toNat))) = _
    have h9 := tab_get (x / 256) (by omega) (by omega) (by omega)
    have h8 := Lib.bitLen_shift8 x.toNat (by omega) (by omega)
    have h7 : (x / 256).toNat = x.toNat / 256 := by omega
    rw [h9.1, wrap64_fit (Lib.bitLen (x / 256).toNat : Int) ⟨by omega, by omega⟩, wrap64_fit _ ⟨by omega, by omega⟩, h8, h7]
    push_cast
    rfl
end Go.Proofs.YtmcmjcaigipoaaaGreat

/-
  The calls of package queue, as trees of accesses. Conditions: none beside what Does asks.
-/
namespace Go.Sept
open Go.RowKit

def headsT (a : Int) (n : Nat) : Tree Unit (2 * n) := eachT (fun k => joinT (headA a (15 - (k : Int))) (headA a (15 - (k : Int)))) n
theorem headsT_succ (a : Int) (n : Nat) : headsT a (n + 1) = (joinT (headA a (15 - (n : Int))) (headA a (15 - (n : Int)))).bind fun _ => headsT a n := rfl
def qInitT (a : Int) (k : Nat) : Tree Unit (2 * k + 1) := (storeT a 0).bind fun _ => headsT a k
/-- The word with the priority's bit. -/
def orV (v p : Int) : Int := bits .or .i64 v (2 ^ p.toNat)
def qAddT (a n p : Int) : Tree Unit 7 := if 0 ≤ p ∧ p < 16 then (aheadT (headA a p) n).bind fun _ => (loadT a).bind fun v => storeT a (orV v p) else .ret ()
/-- The bits of the priorities below l. -/
def heldV (v l : Int) : Int := IntKind.u64.wrap (bits .and .i64 v (wrap64 (2 ^ l.toNat - 1)))
def prioV (v l : Int) : Int := wrap64 ((Lib.bitLen (heldV v l).toNat : Int) - 1)
theorem and_small (v : Int) (m : Nat) (hm : m ≤ 65535) : 0 ≤ bits .and .i64 v (m : Int) ∧ bits .and .i64 v (m : Int) ≤ m := by
  have e : bits .and .i64 v (m : Int) = IntKind.i64.wrap ((BitVec.ofInt 64 v &&& BitVec.ofInt 64 (m : Int)).toNat : Int) := rfl
  have h1 : (BitVec.ofInt 64 v &&& BitVec.ofInt 64 (m : Int)).toNat ≤ m := by
    rw [BitVec.toNat_and]
    refine Nat.le_trans Nat.and_le_right ?_
    simp
    omega
  have h2 : IntKind.i64.wrap ((BitVec.ofInt 64 v &&& BitVec.ofInt 64 (m : Int)).toNat : Int) = ((BitVec.ofInt 64 v &&& BitVec.ofInt 64 (m : Int)).toNat : Int) := by
    rw [IntKind.wrap_i64]
    omega
  rw [e, h2]
  exact ⟨by omega, by omega⟩
theorem held_bound (v l : Int) (hb : (1 : Int) ≤ 2 ^ l.toNat ∧ (2 : Int) ^ l.toNat ≤ 65536) : 0 ≤ heldV v l ∧ heldV v l ≤ 65535 := by
  obtain ⟨m, hm⟩ : ∃ m : Nat, (m : Int) = 2 ^ l.toNat - 1 := ⟨(2 ^ l.toNat - 1 : Int).toNat, by omega⟩
  have h1 := and_small v m (by omega)
  unfold heldV
  rw [← hm, wrap64_fit _ ⟨by omega, by omega⟩]
  generalize bits .and .i64 v (m : Int) = z at *
  have h2 : IntKind.u64.wrap z = z := by
    rw [IntKind.wrap_u64]
    omega
  rw [h2]
  omega
def belowT (a l : Int) : Tree (Int × Int × Bool) 3 := (loadT a).bind fun v => if heldV v l = 0 then .ret (0, 0, false) else
  (nextT (headA a (prioV v l)) (headA a (prioV v l))).bind fun x => (Tree.ret (if x.2 = true then (x.1, prioV v l, true) else (0, 0, false)) : Tree _ 0)
def qAfterT (a n p : Int) : Tree (Int × Int × Bool) 5 := if 0 ≤ p ∧ p < 16 then (nextT (headA a p) n).bind fun x => if x.2 = true then .ret (x.1, p, true) else belowT a p else .ret (0, 0, false)
abbrev spotV (x : Int × Int × Bool) : Value := .tuple #[.int .i64 x.1, .int .i64 x.2.1, .bool x.2.2]
end Go.Sept

namespace Go.Proofs.YtmcmjcaigipoaaaGreat
open Go.RowKit Go.Sept

set_option maxRecDepth 100000 in
set_option maxHeartbeats 400000 in
theorem qInit_does (a : Int) : Does 24 (fun f => #[f, .int .i64 a]) (qInitT a 16) (fun _ => .tuple #[]) := by
  refine Does.of fun w F lb p q R h0 => ?_
  have H := hid h0
  clear h0
  go_enter Tryz.func24, Tryz.ntmps24
  go_wp2_with fail
  refine (H.out.call (store_does a 0)).mono ?_
  rintro e w1 ⟨x1, rfl, h1⟩
  have H1 := hid h1
  clear H h1
  go_wp2_with fail
  go_loopw [8] (fun i wx => ∃ j : Nat, i = .int .i64 (j : Int) ∧ j ≤ 16 ∧ At w F lb p q (fun _ => False) Bag.none (headsT a (16 - j)) R wx) (fun i _ => 16 - (intOf i).toNat)
  case atStart => exact ⟨0, rfl, by decide, H1.out⟩
  case round =>
    obtain ⟨j, rfl, hj, hat⟩ := hrel
    clear H1
    by_cases hlt : (j : Int) < 16
    · obtain ⟨k, hk⟩ : ∃ k, 16 - j = k + 1 := ⟨15 - j, by omega⟩
      have hat2 : At w F lb p q (fun _ => False) Bag.none ((joinT (headA a j) (headA a j)).bind fun _ => headsT a k) R wr := by
        rw [hk] at hat
        have e : ((15 : Int) - (k : Int)) = (j : Int) := by omega
        rw [← e]
        exact hat
      have H2 := hid hat2
      have HK : Hid (k = 16 - (j + 1)) := by show _ = _; omega
      clear hat hat2 hk
      go_wp2_with fail
      refine (head_rel _ a j).mono ?_
      rintro e w2 ⟨rfl, rfl⟩
      go_wp2_with fail
      refine (H2.out.call (listInit_does (headA a j))).mono ?_
      rintro e w3 ⟨x3, rfl, h3⟩
      have H3 := hid h3
      clear H2 h3
      go_wp2_with fail
      go_roundw
      case rel =>
        refine ⟨j + 1, by go_num, by omega, ?_⟩
        have h9 := H3.out
        rwa [HK.out] at h9
      case measure => simp [intOf]; omega
    · obtain rfl : j = 16 := by omega
      have H2 := hid hat
      clear hat
      go_wp2_with fail
      go_end0
      exact ⟨rfl, (), H2.out.fin⟩

theorem valid_true (w : World) (p : Int) (h : 0 ≤ p ∧ p < 16) : Calls Tryz.prog 101 #[.int .i64 p] w fun e w' => e = .returned (.bool true) ∧ w' = w := by
  have h1 := valid_rel w p
  rwa [decide_eq_true h] at h1
theorem valid_false (w : World) (p : Int) (h : ¬ (0 ≤ p ∧ p < 16)) : Calls Tryz.prog 101 #[.int .i64 p] w fun e w' => e = .returned (.bool false) ∧ w' = w := by
  have h1 := valid_rel w p
  rwa [decide_eq_false h] at h1

set_option maxHeartbeats 400000 in
theorem qAdd_none (a n p : Int) (hp : ¬ (0 ≤ p ∧ p < 16)) (w : World) (F : Nat) : Calls Tryz.prog 65 #[ptrV F, .int .i64 a, .int .i64 n, .int .i64 p] w fun e w' => e = .returned (.tuple #[]) ∧ w' = w := by
  go_enter Tryz.func65, Tryz.ntmps65
  go_wp2_with fail
  refine (valid_false _ p hp).mono ?_
  rintro e w1 ⟨rfl, rfl⟩
  go_wp2_with fail
  refine bodyPost_ret (results_none rfl _ _ _) rfl ?_
  exact ⟨rfl, rfl⟩
set_option maxHeartbeats 400000 in
theorem qAddFirst_none (a n p : Int) (hp : ¬ (0 ≤ p ∧ p < 16)) (w : World) (F : Nat) : Calls Tryz.prog 79 #[ptrV F, .int .i64 a, .int .i64 n, .int .i64 p] w fun e w' => e = .returned (.tuple #[]) ∧ w' = w := by
  go_enter Tryz.func79, Tryz.ntmps79
  go_wp2_with fail
  refine (valid_false _ p hp).mono ?_
  rintro e w1 ⟨rfl, rfl⟩
  go_wp2_with fail
  refine bodyPost_ret (results_none rfl _ _ _) rfl ?_
  exact ⟨rfl, rfl⟩
set_option maxHeartbeats 400000 in
theorem qDrop_none (a n p : Int) (hp : ¬ (0 ≤ p ∧ p < 16)) (w : World) (F : Nat) : Calls Tryz.prog 77 #[ptrV F, .int .i64 a, .int .i64 n, .int .i64 p] w fun e w' => e = .returned (.tuple #[]) ∧ w' = w := by
  go_enter Tryz.func77, Tryz.ntmps77
  go_wp2_with fail
  refine (valid_false _ p hp).mono ?_
  rintro e w1 ⟨rfl, rfl⟩
  go_wp2_with fail
  refine bodyPost_ret (results_none rfl _ _ _) rfl ?_
  exact ⟨rfl, rfl⟩
set_option maxHeartbeats 400000 in
theorem qAfter_none (a n p : Int) (hp : ¬ (0 ≤ p ∧ p < 16)) (w : World) (F : Nat) : Calls Tryz.prog 68 #[ptrV F, .int .i64 a, .int .i64 n, .int .i64 p] w fun e w' => e = .returned (spotV (0, 0, false)) ∧ w' = w := by
  go_enter Tryz.func68, Tryz.ntmps68
  go_wp2_with fail
  refine (valid_false _ p hp).mono ?_
  rintro e w1 ⟨rfl, rfl⟩
  go_wp2_with fail
  go_ret3
  exact ⟨rfl, rfl⟩

set_option maxHeartbeats 400000 in
theorem qAdd_does (a n p : Int) : Does 65 (fun f => #[f, .int .i64 a, .int .i64 n, .int .i64 p]) (qAddT a n p) (fun _ => .tuple #[]) := by
  by_cases hp : 0 ≤ p ∧ p < 16
  · refine Does.of fun w F lb p' q R h0 => ?_
    have H := hid (h0.pos hp)
    clear h0
    go_enter Tryz.func65, Tryz.ntmps65
    go_wp2_with fail
    refine (valid_true _ p hp).mono ?_
    rintro e w0 ⟨rfl, rfl⟩
    go_wp2_with fail
    refine (head_rel _ a p).mono ?_
    rintro e w1 ⟨rfl, rfl⟩
    go_wp2_with fail
    refine (H.out.call (append_does (headA a p) n)).mono ?_
    rintro e w2 ⟨x2, rfl, h2⟩
    have H2 := hid h2
    clear H h2
    go_wp2_with fail
    refine (H2.out.call (load_does a)).mono ?_
    rintro e w3 ⟨v, rfl, h3⟩
    have H3 := hid h3
    clear H2 h3
    go_wp2_with fail
    refine (bit_rel _ p hp.1 (by omega)).mono ?_
    rintro e w4 ⟨rfl, rfl⟩
    go_wp2_with fail
    refine (H3.out.tail (store_does a (orV v p))).mono ?_
    rintro e w5 ⟨x5, rfl, h5⟩
    have H5 := hid h5
    clear H3 h5
    go_wp2_with fail
    go_end0
    exact ⟨_, rfl, H5.out⟩
  · refine Does.eq (Does.idle (x := ()) (qAdd_none a n p hp)) ?_
    rw [qAddT, if_neg hp]

set_option maxHeartbeats 400000 in
theorem below_does (a l : Int) (h0 : 0 ≤ l) (h1 : l ≤ 16) : Does 104 (fun f => #[f, .int .i64 a, .int .i64 l]) (belowT a l) spotV := by
  refine Does.of fun w F lb p q R hh => ?_
  have H := hid hh
  clear hh
  go_enter Tryz.func104, Tryz.ntmps104
  go_wp2_with fail
  refine (H.out.call (load_does a)).mono ?_
  rintro e w1 ⟨v, rfl, hh1⟩
  have H1 := hid hh1
  clear H hh1
  go_wp2_with fail
  refine (bit_rel _ l h0 h1).mono ?_
  rintro e w2 ⟨rfl, rfl⟩
  have HB := hid (held_bound v l (bit_bound l h1))
  by_cases hz : heldV v l = 0
  · have H2 := hid (H1.out.pos hz)
    have hz' : (IntKind.u64.wrap (bits BinOp.and IntKind.i64 v (wrap64 (2 ^ l.toNat - 1))) == 0) = true := beq_iff_eq.2 hz
    clear H1 HB hz
    go_wp2_with fail
    go_ret3
    exact ⟨_, rfl, H2.out.fin⟩
  · have H2 := hid (H1.out.neg hz)
    have hz' : (IntKind.u64.wrap (bits BinOp.and IntKind.i64 v (wrap64 (2 ^ l.toNat - 1))) == 0) = false := beq_eq_false_iff_ne.2 hz
    clear H1 hz
    go_wp2_with fail
    refine (len64_rel _ (heldV v l) HB.out.1 HB.out.2).mono ?_
    rintro e w3 ⟨rfl, rfl⟩
    clear HB hz'
    go_wp2_with fail
    refine (head_rel _ a (prioV v l)).mono ?_
    rintro e w4 ⟨rfl, rfl⟩
    go_wp2_with fail
    refine (H2.out.call (listFirst_does (headA a (prioV v l)))).mono ?_
    rintro e w5 ⟨⟨x, ok⟩, rfl, h5⟩
    have H5 := hid h5
    clear H2 h5
    cases ok
    · go_wp2_with fail
      go_ret3
      exact ⟨_, rfl, H5.out.fin⟩
    · go_wp2_with fail
      go_ret3
      exact ⟨_, rfl, H5.out.fin⟩

set_option maxHeartbeats 400000 in
theorem qFirst_does (a : Int) : Does 66 (fun f => #[f, .int .i64 a]) (belowT a 16) spotV := by
  refine Does.of fun w F lb p q R hh => ?_
  have H := hid hh
  clear hh
  go_enter Tryz.func66, Tryz.ntmps66
  go_wp2_with fail
  refine (H.out.tail (below_does a 16 (by decide) (by decide))).mono ?_
  rintro e w1 ⟨x1, rfl, h1⟩
  have H1 := hid h1
  clear H h1
  go_wp2_with fail
  go_ret3
  exact ⟨_, rfl, H1.out⟩

set_option maxHeartbeats 400000 in
theorem qAfter_does (a n p : Int) : Does 68 (fun f => #[f, .int .i64 a, .int .i64 n, .int .i64 p]) (qAfterT a n p) spotV := by
  by_cases hp : 0 ≤ p ∧ p < 16
  · refine Does.of fun w F lb p' q R h0 => ?_
    have H := hid (h0.pos hp)
    clear h0
    go_enter Tryz.func68, Tryz.ntmps68
    go_wp2_with fail
    refine (valid_true _ p hp).mono ?_
    rintro e w0 ⟨rfl, rfl⟩
    go_wp2_with fail
    refine (head_rel _ a p).mono ?_
    rintro e w1 ⟨rfl, rfl⟩
    go_wp2_with fail
    refine (H.out.call (next_does (headA a p) n)).mono ?_
    rintro e w2 ⟨⟨x, ok⟩, rfl, h2⟩
    have H2 := hid h2
    clear H h2
    cases ok
    · go_wp2_with fail
      refine ((H2.out.neg (by decide)).tail (below_does a p hp.1 (by omega))).mono ?_
      rintro e w3 ⟨y, rfl, h3⟩
      have H3 := hid h3
      clear H2 h3
      go_wp2_with fail
      go_ret3
      exact ⟨_, rfl, H3.out⟩
    · go_wp2_with fail
      go_ret3
      exact ⟨_, rfl, (H2.out.pos (by trivial)).fin⟩
  · refine Does.eq (Does.idle (x := (0, 0, false)) (qAfter_none a n p hp)) ?_
    rw [qAfterT, if_neg hp]
end Go.Proofs.YtmcmjcaigipoaaaGreat

/-
  Trees that go on alone, one behind the other; the queue's bits, as plain mathematics. Conditions: none.
-/
import Derived.Test.YtmcmjcaigipoaaaGreatBoot12b
namespace Go.Sept
open Go.RowKit

theorem v64 (n : Int) (h : -9223372036854775808 ≤ n ∧ n ≤ 9223372036854775807) : wrap64 n = n := by unfold wrap64; omega
/-- A word behind a store. -/
theorem val_set {xs : List Int} {a : Int} (h0 : 0 ≤ a) (h1 : a < xs.length) (v c : Int) : valA (setA xs a v) c = if c = a then v else valA xs c := by
  obtain ⟨k, rfl⟩ : ∃ k : Nat, a = k := ⟨a.toNat, by omega⟩
  have hk : k < xs.length := by omega
  have ok : okA xs (k : Int) = true := by simp [okA]; omega
  by_cases hc : c = (k : Int)
  · subst hc
    rw [if_pos rfl]
    simp [valA, setA, okA, hk]
  · rw [if_neg hc]
    unfold valA setA
    rw [if_pos ok]
    have e : okA (xs.set (k : Int).toNat v) c = okA xs c := by simp [okA]
    rw [e]
    split
    · rename_i h9
      have h8 : 0 ≤ c := by simp [okA] at h9; omega
      have : k ≠ c.toNat := by omega
      simp [List.getD_eq_getElem?_getD, this]
    · rfl

section
variable {α β : Type} {n m : Nat}
/-- What a tree answers, and leaves. -/
def ans (t : Tree α n) (xs : List Int) : α := (t.alone xs).1
def aft (t : Tree α n) (xs : List Int) : List Int := (t.alone xs).2.1
theorem aft_length (t : Tree α n) (xs : List Int) : (aft t xs).length = xs.length := Tree.alone_length t xs
theorem both_bind (t : Tree α n) (g : α → Tree β m) (xs : List Int) : ans (Tree.bind t g) xs = ans (g (ans t xs)) (aft t xs) ∧ aft (Tree.bind t g) xs = aft (g (ans t xs)) (aft t xs) := by
  unfold ans aft
  induction n generalizing xs with
  | zero => exact ⟨rfl, rfl⟩
  | succ n ih =>
    rcases Tree.kinds t with ⟨x, rfl⟩ | ⟨k, a, v, u, f, rfl⟩ | ⟨f, rfl⟩ | ⟨t', rfl⟩
    · rw [Tree.bind_ret, Tree.alone_ups, Tree.alone_ret]
      exact ⟨rfl, rfl⟩
    · rw [Tree.bind_acc, Tree.alone_acc, Tree.alone_acc]
      exact ih _ _
    · rw [Tree.bind_off, Tree.alone_off, Tree.alone_off]
      exact ih _ _
    · rw [Tree.bind_mark, Tree.alone_mark, Tree.alone_mark]
      exact ih _ _
theorem ans_bind (t : Tree α n) (g : α → Tree β m) (xs : List Int) : ans (Tree.bind t g) xs = ans (g (ans t xs)) (aft t xs) := (both_bind t g xs).1
theorem aft_bind (t : Tree α n) (g : α → Tree β m) (xs : List Int) : aft (Tree.bind t g) xs = aft (g (ans t xs)) (aft t xs) := (both_bind t g xs).2
theorem ans_ret (x : α) (xs : List Int) : ans (Tree.ret x : Tree α n) xs = x := by unfold ans; rw [Tree.alone_ret]
theorem aft_ret (x : α) (xs : List Int) : aft (Tree.ret x : Tree α n) xs = xs := by unfold aft; rw [Tree.alone_ret]
theorem ans_load (a : Int) (xs : List Int) : ans (loadT a) xs = valA xs a := rfl
theorem aft_load (a : Int) (xs : List Int) : aft (loadT a) xs = xs := rfl
theorem aft_store (a v : Int) (xs : List Int) : aft (storeT a v) xs = setA xs a v := rfl
theorem aft_join (b c : Int) (xs : List Int) : aft (joinT b c) xs = setA (setA xs b c) (wrap64 (c + 1)) b := rfl
theorem aft_next (h c : Int) (xs : List Int) : aft (nextT h c) xs = xs := rfl
theorem ans_next (h c : Int) (xs : List Int) : ans (nextT h c) xs = if valA xs c = h then (0, false) else (valA xs c, true) := by
  have h1 : ans (nextT h c) xs = (if (false || (valA xs c == h)) = true then (0, false) else (valA xs c, true)) := rfl
  rw [h1, Bool.false_or]
  by_cases e : valA xs c = h
  · rw [if_pos e, if_pos (beq_iff_eq.2 e)]
  · rw [if_neg e, if_neg (fun h9 => e (beq_iff_eq.1 h9))]
theorem aft_below (a l : Int) (xs : List Int) : aft (belowT a l) xs = xs := by
  rw [belowT, aft_bind, aft_load, ans_load]
  split
  · exact aft_ret _ _
  · rw [aft_bind, aft_next, aft_ret]
theorem aft_after (a c p : Int) (xs : List Int) : aft (qAfterT a c p) xs = xs := by
  unfold qAfterT
  split
  · rw [aft_bind, aft_next]
    split
    · exact aft_ret _ _
    · exact aft_below _ _ _
  · exact aft_ret _ _
end

/-- The priority's bit, set. -/
theorem or_bit (k p : Nat) (hk : k < 65536) (hp : p < 16) : orV (k : Int) (p : Int) = ((k ||| 2 ^ p : Nat) : Int) ∧ k ||| 2 ^ p < 65536 := by
  have h2 : 2 ^ p < 65536 := Nat.pow_lt_pow_right (by decide) hp
  have h3 : k ||| 2 ^ p < 2 ^ 16 := Nat.or_lt_two_pow hk h2
  have e : orV (k : Int) (p : Int) = IntKind.i64.wrap ((BitVec.ofInt 64 (k : Int) ||| BitVec.ofInt 64 (2 ^ (p : Int).toNat : Int)).toNat : Int) := rfl
  have e2 : (2 ^ (p : Int).toNat : Int) = ((2 ^ p : Nat) : Int) := by rw [Int.toNat_natCast]; norm_cast
  refine ⟨?_, h3⟩
  rw [e, e2, BitVec.toNat_or, BitVec.ofInt_natCast, BitVec.ofInt_natCast, BitVec.toNat_ofNat, BitVec.toNat_ofNat, Nat.mod_eq_of_lt (by omega), Nat.mod_eq_of_lt (by omega), IntKind.wrap_i64]
  omega
/-- The bits below a priority. -/
theorem held_bits (k l : Nat) (hk : k < 65536) (hl : l ≤ 16) : heldV (k : Int) (l : Int) = ((k % 2 ^ l : Nat) : Int) := by
  have h2 : 2 ^ l ≤ 65536 := Nat.pow_le_pow_right (n := 2) (by decide) hl
  have h0 : 0 < 2 ^ l := Nat.two_pow_pos l
  have e2 : wrap64 (2 ^ (l : Int).toNat - 1) = ((2 ^ l - 1 : Nat) : Int) := by
    rw [Int.toNat_natCast, show (2 : Int) ^ l = ((2 ^ l : Nat) : Int) by norm_cast, v64 _ ⟨by omega, by omega⟩]
    omega
  have e : bits .and .i64 (k : Int) ((2 ^ l - 1 : Nat) : Int) = IntKind.i64.wrap ((BitVec.ofInt 64 (k : Int) &&& BitVec.ofInt 64 ((2 ^ l - 1 : Nat) : Int)).toNat : Int) := rfl
  have h5 : k % 2 ^ l ≤ k := Nat.mod_le _ _
  unfold heldV
  rw [e2, e, BitVec.toNat_and, BitVec.ofInt_natCast, BitVec.ofInt_natCast, BitVec.toNat_ofNat, BitVec.toNat_ofNat, Nat.mod_eq_of_lt (by omega), Nat.mod_eq_of_lt (by omega), Nat.and_two_pow_sub_one_eq_mod, IntKind.wrap_i64, IntKind.wrap_u64]
  omega
/-- The greatest bit of a number. -/
theorem bitLen_top : ∀ (l x : Nat), l ≤ 16 → x < 2 ^ l → x ≠ 0 → 1 ≤ Lib.bitLen x ∧ Lib.bitLen x ≤ l ∧ x.testBit (Lib.bitLen x - 1) = true ∧ ∀ p, Lib.bitLen x ≤ p → x.testBit p = false := by
  intro l
  induction l with
  | zero => intro x _ h h0; omega
  | succ l ih =>
    intro x hl hx h0
    have h16 : 2 ^ (l + 1) ≤ 65536 := Nat.pow_le_pow_right (n := 2) (by decide) hl
    have hb := Lib.bitLen_half x h0 (by omega)
    by_cases h1 : x / 2 = 0
    · have hx1 : x = 1 := by omega
      subst hx1
      have e : Lib.bitLen 1 = 1 := by decide
      rw [e]
      refine ⟨Nat.le_refl _, by omega, by decide, fun p hp => ?_⟩
      exact Nat.testBit_lt_two_pow (Nat.one_lt_two_pow (by omega))
    · obtain ⟨k1, k2, k3, k4⟩ := ih (x / 2) (by omega) (by rw [Nat.pow_succ] at hx; omega) h1
      rw [hb]
      refine ⟨by omega, by omega, ?_, fun p hp => ?_⟩
      · rw [show 1 + Lib.bitLen (x / 2) - 1 = (Lib.bitLen (x / 2) - 1) + 1 by omega, Nat.testBit_succ]
        exact k3
      · obtain ⟨q, rfl⟩ : ∃ q, p = q + 1 := ⟨p - 1, by omega⟩
        rw [Nat.testBit_succ]
        exact k4 q (by omega)
/-- Which priority firstBelow finds. -/
theorem prio_bits (k l : Nat) (hk : k < 65536) (hl : l ≤ 16) : (heldV (k : Int) (l : Int) = 0 ↔ ∀ p, p < l → k.testBit p = false) ∧
    (heldV (k : Int) (l : Int) ≠ 0 → ∃ P : Nat, prioV (k : Int) (l : Int) = (P : Int) ∧ P < l ∧ k.testBit P = true ∧ ∀ p, P < p → p < l → k.testBit p = false) := by
  have hh := held_bits k l hk hl
  have hlt : k % 2 ^ l < 2 ^ l := Nat.mod_lt _ (Nat.two_pow_pos l)
  have htb : ∀ p, (k % 2 ^ l).testBit p = (decide (p < l) && k.testBit p) := fun p => Nat.testBit_mod_two_pow k l p
  constructor
  · rw [hh]
    constructor
    · intro h p hp
      have h0 : k % 2 ^ l = 0 := by omega
      have h9 := htb p
      rw [h0, Nat.zero_testBit, decide_eq_true hp, Bool.true_and] at h9
      exact h9.symm
    · intro h
      have h0 : k % 2 ^ l = 0 := Nat.eq_of_testBit_eq fun p => by
        rw [htb, Nat.zero_testBit]
        by_cases hp : p < l
        · rw [h p hp, Bool.and_false]
        · rw [decide_eq_false hp, Bool.false_and]
      rw [h0]
      rfl
  · intro h
    have h0 : k % 2 ^ l ≠ 0 := fun e => h (by rw [hh, e]; rfl)
    obtain ⟨k1, k2, k3, k4⟩ := bitLen_top l (k % 2 ^ l) hl hlt h0
    refine ⟨Lib.bitLen (k % 2 ^ l) - 1, ?_, by omega, ?_, fun p hp hpl => ?_⟩
    · unfold prioV
      rw [hh, Int.toNat_natCast, v64 _ ⟨by omega, by omega⟩]
      omega
    · rw [htb] at k3
      exact (Bool.and_eq_true_iff.1 k3).2
    · have h9 := k4 p (by omega)
      rw [htb, decide_eq_true hpl, Bool.true_and] at h9
      exact h9
end Go.Sept

/-
  The queue in words, as plain mathematics: rings of nodes, and what stands there behind a thread's body. Conditions: none.
-/
namespace Go.Sept
open Go.RowKit

/-- From a by the nodes of L to z. -/
def NodeCh (xs : List Int) : Int → List Int → Int → Prop
  | a, [], z => valA xs a = z
  | a, x :: r, z => valA xs a = x ∧ NodeCh xs x r z
def lastOf : Int → List Int → Int
  | a, [] => a
  | _, x :: r => lastOf x r
theorem lastOf_mem : ∀ (L : List Int) (a : Int), lastOf a L = a ∨ lastOf a L ∈ L
  | [], _ => .inl rfl
  | x :: r, _ => by
    rw [lastOf]
    rcases lastOf_mem r x with h | h
    · rw [h]; exact .inr (List.mem_cons_self ..)
    · exact .inr (List.mem_cons_of_mem _ h)
theorem lastOf_snoc : ∀ (L : List Int) (a c : Int), lastOf a (L ++ [c]) = c
  | [], _, _ => rfl
  | x :: r, _, c => by
    rw [List.cons_append, lastOf]
    exact lastOf_snoc r x c
theorem chn_keep {xs ys : List Int} : ∀ (L : List Int) (a z : Int), NodeCh xs a L z → (∀ b, b = a ∨ b ∈ L → valA ys b = valA xs b) → NodeCh ys a L z
  | [], a, _, h, hk => (hk a (.inl rfl)).trans h
  | x :: r, a, z, h, hk => ⟨(hk a (.inl rfl)).trans h.1, chn_keep r x z h.2 fun b hb => hk b (.inr (by
      rcases hb with rfl | hb
      · exact List.mem_cons_self ..
      · exact List.mem_cons_of_mem _ hb))⟩
theorem chn_snoc {xs ys : List Int} {c z : Int} : ∀ (L : List Int) (a : Int), NodeCh xs a L z → (a :: L).Nodup → (∀ b, b = a ∨ b ∈ L → b ≠ lastOf a L → valA ys b = valA xs b) → valA ys (lastOf a L) = c → valA ys c = z → NodeCh ys a (L ++ [c]) z
  | [], _, _, _, _, h2, h3 => ⟨h2, h3⟩
  | x :: r, a, h, hn, hk, h2, h3 => by
    have hn2 := List.nodup_cons.1 hn
    refine ⟨(hk a (.inl rfl) fun e => hn2.1 ?_).trans h.1, chn_snoc r x h.2 hn2.2 (fun b hb hl => hk b (.inr ?_) hl) h2 h3⟩
    · rw [e, lastOf]
      rcases lastOf_mem r x with h9 | h9
      · rw [h9]; exact List.mem_cons_self ..
      · exact List.mem_cons_of_mem _ h9
    · rcases hb with rfl | hb
      · exact List.mem_cons_self ..
      · exact List.mem_cons_of_mem _ hb

/-- The head of a priority's list; a thread's node. -/
def hdA (p : Nat) : Int := 9 + 2 * (p : Int)
def nodeA (m : Nat) (j : Int) : Int := 43 + (m : Int) + j * 24
theorem head_hd (p : Nat) (h : p < 16) : headA 8 (p : Int) = hdA p := by
  unfold headA hdA
  rw [v64 (8 + 1) ⟨by omega, by omega⟩, v64 ((p : Int) * 2) ⟨by omega, by omega⟩, v64 _ ⟨by omega, by omega⟩]
  omega

structure QInv (N m t : Nat) (qs : Nat → List Int) (xs : List Int) : Prop where
  len : xs.length = N
  zero : ∀ a : Int, (0 ≤ a ∧ a < 8) ∨ (43 ≤ a ∧ a < 43 + m) → valA xs a = 0
  chn : ∀ p, p < 16 → NodeCh xs (hdA p) ((qs p).map (nodeA m)) (hdA p)
  lst : ∀ p, p < 16 → valA xs (hdA p + 1) = lastOf (hdA p) ((qs p).map (nodeA m))
  bit : ∃ k : Nat, valA xs 8 = k ∧ k < 65536 ∧ ∀ p, p < 16 → k.testBit p = !(qs p).isEmpty
  mem : ∀ p, p < 16 → (qs p).Nodup ∧ ∀ j ∈ qs p, 0 ≤ j ∧ j < t
  one : ∀ p q j, p < 16 → q < 16 → j ∈ qs p → j ∈ qs q → p = q

/-- The last node of a list, or its head. -/
theorem last_or {m p : Nat} {qs : Nat → List Int} : lastOf (hdA p) ((qs p).map (nodeA m)) = hdA p ∨ ∃ j ∈ qs p, lastOf (hdA p) ((qs p).map (nodeA m)) = nodeA m j := by
  rcases lastOf_mem ((qs p).map (nodeA m)) (hdA p) with h9 | h9
  · exact .inl h9
  · obtain ⟨j, hj, e⟩ := List.mem_map.1 h9
    exact .inr ⟨j, hj, e.symm⟩

theorem node_inj {m : Nat} {i j : Int} (h : nodeA m i = nodeA m j) : i = j := by unfold nodeA at h; omega
theorem ring_nodup {N m t : Nat} {qs : Nat → List Int} {xs : List Int} (h : QInv N m t qs xs) {p : Nat} (hp : p < 16) : (hdA p :: (qs p).map (nodeA m)).Nodup := by
  rw [List.nodup_cons]
  constructor
  · intro h9
    obtain ⟨j, hj, e⟩ := List.mem_map.1 h9
    have := (h.mem p hp).2 j hj
    unfold nodeA hdA at e
    omega
  · exact List.pairwise_map.2 ((h.mem p hp).1.imp (fun hab e => hab (node_inj e)))

theorem aft_ahead (c d : Int) (ys : List Int) : aft (aheadT c d) ys = setA (setA (setA (setA ys (valA ys (wrap64 (c + 1))) d) (wrap64 (d + 1)) (valA ys (wrap64 (c + 1)))) d c) (wrap64 (c + 1)) d := by
  unfold aheadT
  rw [aft_bind, aft_load, ans_load, aft_bind, aft_join, aft_join]
theorem aft_orbit (a p : Int) (ys : List Int) : aft ((loadT a).bind fun v => storeT a (orV v p)) ys = setA ys a (orV (valA ys a) p) := by
  rw [aft_bind, aft_load, ans_load, aft_store]
theorem aft_qadd0 (a c p : Int) (h : 0 ≤ p ∧ p < 16) (ys : List Int) : aft (qAddT a c p) ys = setA (aft (aheadT (headA a p) c) ys) a (orV (valA (aft (aheadT (headA a p) c) ys) a) p) := by
  unfold qAddT
  rw [if_pos h]
  exact (aft_bind _ _ _).trans (aft_orbit _ _ _)
theorem aft_qadd {A : Int} {p : Nat} (hp : p < 16) (ys : List Int) (b : Int) (hb : valA ys (hdA p + 1) = b) (hA : 0 ≤ A ∧ A ≤ 5000) : aft (qAddT 8 A (p : Int)) ys = setA (setA (setA (setA (setA ys b A) (A + 1) b) A (hdA p)) (hdA p + 1) A) 8 (orV (valA (setA (setA (setA (setA ys b A) (A + 1) b) A (hdA p)) (hdA p + 1) A) 8) (p : Int)) := by
  have h1 : 0 ≤ hdA p ∧ hdA p ≤ 50 := by unfold hdA; omega
  have e1 := v64 (hdA p + 1) ⟨by omega, by omega⟩
  have e2 := v64 (A + 1) ⟨by omega, by omega⟩
  rw [aft_qadd0 8 A (p : Int) ⟨by omega, by omega⟩ ys, head_hd p hp, aft_ahead, e1, e2, hb]
theorem aft_thrT (A p : Int) (ys : List Int) : aft (thrT A p) ys = aft (qAddT 8 A p) (setA (setA (setA (setA ys (A + 2) (A + 2)) (wrap64 (A + 2 + 1)) (A + 2)) (A + 6) p) (A + 7) p) := by
  unfold thrT
  refine (aft_bind _ _ _).trans ((aft_bind _ _ _).trans ((aft_bind _ _ _).trans ?_))
  rw [aft_join, aft_store, aft_store]
/-- What a thread's body leaves, word by word. -/
theorem thr_words {N m t p : Nat} {xs : List Int} {b : Int} (hN : xs.length = N) (hp : p < 16) (ht : 43 + m + t * 24 + 24 ≤ N) (hb : valA xs (hdA p + 1) = b) (hbr : 0 ≤ b ∧ b < 43 + (m : Int) + (t : Int) * 24) {k : Nat} (hk : valA xs 8 = k) (hk2 : k < 65536) (hb8 : b ≠ 8) (hN2 : N ≤ 4000) :
    (aft (thrT (nodeA m (t : Int)) (p : Int)) xs).length = N ∧ ∀ c, valA (aft (thrT (nodeA m (t : Int)) (p : Int)) xs) c =
      if c = 8 then ((k ||| 2 ^ p : Nat) : Int) else if c = hdA p + 1 then nodeA m t else if c = nodeA m t then hdA p else if c = nodeA m t + 1 then b else if c = b then nodeA m t
      else if c = nodeA m t + 7 then (p : Int) else if c = nodeA m t + 6 then (p : Int) else if c = nodeA m t + 3 then nodeA m t + 2 else if c = nodeA m t + 2 then nodeA m t + 2 else valA xs c := by
  refine ⟨(aft_length _ _).trans hN, fun c => ?_⟩
  obtain ⟨A, hA⟩ : ∃ A, nodeA m (t : Int) = A := ⟨_, rfl⟩
  obtain ⟨H, hH⟩ : ∃ H, hdA p = H := ⟨_, rfl⟩
  have hAb : 43 ≤ A ∧ A + 24 ≤ N ∧ b < A := by rw [← hA]; unfold nodeA; omega
  have hHb : 9 ≤ H ∧ H ≤ 39 := by rw [← hH]; unfold hdA; omega
  rw [hH] at hb
  rw [hA, hH]
  rw [aft_thrT, v64 (A + 2 + 1) ⟨by omega, by omega⟩]
  have l0 : ((setA (setA (setA (setA xs (A + 2) (A + 2)) (A + 2 + 1) (A + 2)) (A + 6) (p : Int)) (A + 7) (p : Int))).length = N := by rw [length_setA, length_setA, length_setA, length_setA, hN]
  have e1 : valA (setA (setA (setA (setA xs (A + 2) (A + 2)) (A + 2 + 1) (A + 2)) (A + 6) (p : Int)) (A + 7) (p : Int)) (H + 1) = b := by
    rw [val_set (by omega) (by rw [length_setA, length_setA, length_setA, hN]; omega), if_neg (by omega), val_set (by omega) (by rw [length_setA, length_setA, hN]; omega), if_neg (by omega), val_set (by omega) (by rw [length_setA, hN]; omega), if_neg (by omega), val_set (by omega) (by rw [hN]; omega), if_neg (by omega)]
    exact hb
  rw [aft_qadd hp _ b (by rw [hH]; exact e1) ⟨by omega, by omega⟩, hH]
  clear e1
  obtain ⟨ys, hys⟩ : ∃ ys, setA (setA (setA (setA xs (A + 2) (A + 2)) (A + 2 + 1) (A + 2)) (A + 6) (p : Int)) (A + 7) (p : Int) = ys := ⟨_, rfl⟩
  have hyv : ∀ c, valA ys c = if c = A + 7 then (p : Int) else if c = A + 6 then (p : Int) else if c = A + 3 then A + 2 else if c = A + 2 then A + 2 else valA xs c := fun c => by
    rw [← hys, val_set (by omega) (by rw [length_setA, length_setA, length_setA, hN]; omega), val_set (by omega) (by rw [length_setA, length_setA, hN]; omega), val_set (by omega) (by rw [length_setA, hN]; omega), val_set (by omega) (by rw [hN]; omega), show A + 2 + 1 = A + 3 by omega]
  rw [hys] at l0 ⊢
  have e8 : valA (setA (setA (setA (setA ys b A) (A + 1) b) A H) (H + 1) A) 8 = (k : Int) := by
    rw [val_set (by omega) (by rw [length_setA, length_setA, length_setA, l0]; omega), if_neg (by omega), val_set (by omega) (by rw [length_setA, length_setA, l0]; omega), if_neg (by omega), val_set (by omega) (by rw [length_setA, l0]; omega), if_neg (by omega), val_set (by omega) (by rw [l0]; omega), if_neg (by omega), hyv, if_neg (by omega), if_neg (by omega), if_neg (by omega), if_neg (by omega)]
    exact hk
  rw [e8, (or_bit k p hk2 hp).1, val_set (by omega) (by rw [length_setA, length_setA, length_setA, length_setA, l0]; omega), val_set (by omega) (by rw [length_setA, length_setA, length_setA, l0]; omega), val_set (by omega) (by rw [length_setA, length_setA, l0]; omega), val_set (by omega) (by rw [length_setA, l0]; omega), val_set (by omega) (by rw [l0]; omega), hyv]
end Go.Sept

/-
  The queue in words behind Boot's bodies, as plain mathematics. Conditions: nothing is wrong with the partition.
-/
namespace Go.Sept
open Go.RowKit

theorem val_other {xs : List Int} {a c : Int} (v : Int) (h : c ≠ a) : valA (setA xs a v) c = valA xs c := by
  by_cases h1 : 0 ≤ a ∧ a < xs.length
  · rw [val_set h1.1 h1.2, if_neg h]
  · unfold setA
    rw [if_neg (by unfold okA; simpa using h1)]
/-- Which of the first t threads are ready at a priority. -/
def rdyN (ths : List Th) : Nat → Nat → List Int
  | 0, _ => []
  | j + 1, q => if (ths[j]?).map Th.prio = some (q : Int) then rdyN ths j q ++ [(j : Int)] else rdyN ths j q

set_option maxHeartbeats 1000000 in
theorem QInv.step {N m t : Nat} {qs : Nat → List Int} {xs : List Int} (h : QInv N m t qs xs) {p : Nat} (hp : p < 16) (ht : 43 + m + t * 24 + 24 ≤ N) (hN2 : N ≤ 4000) :
    QInv N m (t + 1) (fun q => if q = p then qs p ++ [(t : Int)] else qs q) (aft (thrT (nodeA m (t : Int)) (p : Int)) xs) := by
  obtain ⟨k, hk, hk2, hkb⟩ := h.bit
  obtain ⟨b, hb⟩ : ∃ b, lastOf (hdA p) ((qs p).map (nodeA m)) = b := ⟨_, rfl⟩
  have hbc : b = hdA p ∨ ∃ j ∈ qs p, b = nodeA m j ∧ 0 ≤ j ∧ j < t := by
    rcases last_or (m := m) (p := p) (qs := qs) with h9 | ⟨j, hj, h9⟩
    · exact .inl (hb.symm.trans h9)
    · exact .inr ⟨j, hj, hb.symm.trans h9, (h.mem p hp).2 j hj⟩
  have hH : hdA p = 9 + 2 * (p : Int) := rfl
  have hbr : (9 ≤ b ∧ b ≤ 39 ∧ b = 9 + 2 * (p : Int)) ∨ (43 + (m : Int) ≤ b ∧ b + 24 ≤ 43 + (m : Int) + (t : Int) * 24) := by
    rcases hbc with e | ⟨j, _, e, _, _⟩
    · left; omega
    · right; rw [e]; unfold nodeA; omega
  obtain ⟨hl, hw⟩ := thr_words h.len hp ht (hb ▸ h.lst p hp) (by omega) hk hk2 (by omega) hN2
  obtain ⟨A, hA⟩ : ∃ A, nodeA m (t : Int) = A := ⟨_, rfl⟩
  obtain ⟨ys, hys⟩ : ∃ ys, aft (thrT (nodeA m (t : Int)) (p : Int)) xs = ys := ⟨_, rfl⟩
  have hAe : A = 43 + (m : Int) + (t : Int) * 24 := by rw [← hA]; rfl
  rw [hys] at hl hw ⊢
  rw [hA, hH] at hw
  -- a word that is none of these
  have hkeep : ∀ c, c ≠ 8 → c ≠ 9 + 2 * (p : Int) + 1 → c ≠ b → (c < A ∨ A + 24 ≤ c) → valA ys c = valA xs c := fun c h1 h2 h3 h4 => by
    rw [hw, if_neg h1, if_neg h2, if_neg (by omega), if_neg (by omega), if_neg h3, if_neg (by omega), if_neg (by omega), if_neg (by omega), if_neg (by omega)]
  refine ⟨hl, fun a ha => ?_, fun q hq => ?_, fun q hq => ?_, ⟨k ||| 2 ^ p, ?_, (or_bit k p hk2 hp).2, fun q hq => ?_⟩, fun q hq => ?_, fun q r j hq hr hjq hjr => ?_⟩
  · rw [hkeep a (by omega) (by omega) (by omega) (by omega)]
    exact h.zero a ha
  · by_cases e : q = p
    · subst e
      simp only [if_true, List.map_append, List.map_cons, List.map_nil]
      rw [hA]
      refine chn_snoc _ _ (h.chn q hq) (ring_nodup h hq) (fun b' hb' hne => ?_) ?_ ?_
      · rw [hb] at hne
        refine hkeep b' ?_ ?_ hne ?_
        all_goals
          rcases hb' with e | e
          · rw [e, hH]; omega
          · obtain ⟨j, hj, e⟩ := List.mem_map.1 e
            have := (h.mem q hq).2 j hj
            rw [← e]
            unfold nodeA
            omega
      · rw [hb, hw, if_neg (by omega), if_neg (by omega), if_neg (by omega), if_neg (by omega), if_pos rfl]
      · rw [hw, if_neg (by omega), if_neg (by omega), if_pos rfl, hH]
    · simp only [if_neg e]
      refine chn_keep _ _ _ (h.chn q hq) fun b' hb' => ?_
      have hb2 : (b' = 9 + 2 * (q : Int)) ∨ ∃ j ∈ qs q, b' = 43 + (m : Int) + j * 24 ∧ 0 ≤ j ∧ j < t := by
        rcases hb' with e | e
        · exact .inl e
        · obtain ⟨j, hj, e⟩ := List.mem_map.1 e
          exact .inr ⟨j, hj, e.symm, (h.mem q hq).2 j hj⟩
      refine hkeep b' (by rcases hb2 with e | ⟨j, _, e, _, _⟩ <;> omega) (by rcases hb2 with e | ⟨j, _, e, _, _⟩ <;> omega) (fun e9 => ?_) (by rcases hb2 with e | ⟨j, _, e, _, _⟩ <;> omega)
      rcases hb2 with e1 | ⟨j, hj, e1, _, _⟩
      · omega
      · rcases hbc with e2 | ⟨i, hi, e2, _, _⟩
        · omega
        · have e3 : nodeA m j = nodeA m i := by rw [← e2, ← e9, e1]; rfl
          rw [node_inj e3] at hj
          exact e (h.one q p i hq hp hj hi)
  · by_cases e : q = p
    · subst e
      simp only [if_true, List.map_append, List.map_cons, List.map_nil]
      rw [lastOf_snoc, hA, hw, hH, if_neg (by omega), if_pos rfl]
    · simp only [if_neg e]
      rw [← h.lst q hq]
      refine hkeep _ ?_ ?_ ?_ ?_
      all_goals
        show _
        unfold hdA
        omega
  · rw [hw, if_pos rfl]
  · rw [Nat.testBit_or, Nat.testBit_two_pow, hkb q hq]
    by_cases e : q = p
    · subst e
      simp
    · simp only [if_neg e]
      rw [decide_eq_false (fun e9 => e e9.symm), Bool.or_false]
  · by_cases e : q = p
    · subst e
      simp only [if_true]
      refine ⟨List.nodup_append.2 ⟨(h.mem q hq).1, by simp, fun a ha c hc => ?_⟩, fun j hj => ?_⟩
      · rw [List.mem_singleton] at hc
        have := (h.mem q hq).2 a ha
        omega
      · rcases List.mem_append.1 hj with hj | hj
        · have := (h.mem q hq).2 j hj
          omega
        · rw [List.mem_singleton] at hj
          omega
    · simp only [if_neg e]
      exact ⟨(h.mem q hq).1, fun j hj => by have := (h.mem q hq).2 j hj; omega⟩
  · have hof : ∀ q, q < 16 → j ∈ (if q = p then qs p ++ [(t : Int)] else qs q) → (j ∈ qs q) ∨ (j = (t : Int) ∧ q = p) := fun q _ hj => by
      by_cases e : q = p
      · rw [if_pos e] at hj
        rcases List.mem_append.1 hj with hj | hj
        · exact .inl (e ▸ hj)
        · exact .inr ⟨List.mem_singleton.1 hj, e⟩
      · rw [if_neg e] at hj
        exact .inl hj
    rcases hof q hq hjq with h1 | ⟨h1, h1'⟩
    · rcases hof r hr hjr with h2 | ⟨h2, h2'⟩
      · exact h.one q r j hq hr h1 h2
      · have := (h.mem q hq).2 j h1
        omega
    · rcases hof r hr hjr with h2 | ⟨h2, h2'⟩
      · have := (h.mem r hr).2 j h2
        omega
      · omega
end Go.Sept

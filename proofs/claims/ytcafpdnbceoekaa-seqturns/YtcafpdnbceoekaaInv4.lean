/-
  The plain mathematics of SeqTurns: what a Read has seen, while versions are written. Conditions: none; no program is named here.
-/
import Derived.Test.YtcafpdnbceoekaaMach4
import Derived.Test.YtcafpdnbceoekaaVals4
namespace Go.Sept
open Go.RowKit

def restOf (k : Nat) : List Int := List.replicate (20 - (1 + k)) 0
/-- The memory: version v was written, n accesses of the next one were done. -/
def memAt (k v n : Nat) : List Int := wmem (2 * (v : Int)) (vals v k) (vals (v + 1) k) (restOf k) n
def countAt (v n : Nat) : Int := if n < 2 then 2 * (v : Int) else 2 * (v : Int) + 1
section
variable {k v n : Nat}
theorem wrap_count (hv : v ≤ 1000) (d : Nat) (hd : d ≤ 2) : wrap64 (2 * (v : Int) + (d : Int)) = 2 * (v : Int) + d := by unfold wrap64; omega
theorem memAt_length (hk : k ≤ 6) (hn : n < k + 3) : (memAt k v n).length = 20 := by
  unfold memAt wmem
  split
  · rw [valM_length, vals_length, restOf, List.length_replicate]
    show 0 + 1 + k + (20 - (1 + k)) = 20
    omega
  · rw [vals_length, if_pos hn, valM_length, mixed_length (by rw [vals_length, vals_length]), vals_length, restOf, List.length_replicate]
    show 0 + 1 + k + (20 - (1 + k)) = 20
    omega
theorem memAt_count (hv : v ≤ 1000) (hn : n < k + 3) : valA (memAt k v n) 0 = countAt v n := by
  unfold memAt wmem countAt
  split
  · exact val_count
  · rw [vals_length, if_pos hn, show wrap64 (2 * (v : Int) + 1) = 2 * (v : Int) + 1 from wrap_count hv 1 (by omega)]
    exact val_count
theorem memAt_word (hk : k ≤ 6) (hn : n < 2) {j : Nat} (hj : j < k) : valA (memAt k v n) (wordA 0 j) = val1 v j := by
  unfold memAt
  rw [wmem_start hn]
  have h9 : valA (valM [] (2 * (v : Int)) (vals v k) (restOf k)) (wordA ((([] : List Int).length : Nat) : Int) j) = (vals v k).getD j 0 := val_word (by rw [vals_length]; exact hj) (by show 0 + 1 + j ≤ _; omega)
  rw [vals_getD _ _ _ hj] at h9
  exact h9
theorem memAt_next (hv : v ≤ 1000) : wmem (2 * (v : Int)) (vals v k) (vals (v + 1) k) (restOf k) (k + 3) = memAt k (v + 1) 0 := by
  have h9 := wmem_end (c := 2 * (v : Int)) (ws := vals v k) (l := vals (v + 1) k) (post := restOf k)
  rw [vals_length] at h9
  rw [h9, memAt, wmem_start (by omega), show wrap64 (2 * (v : Int) + 2) = 2 * (v : Int) + 2 from wrap_count hv 2 (by omega)]
  congr 1
theorem memAt_start : memAt k 0 0 = List.replicate (1 + k) 0 ++ restOf k := by
  unfold memAt
  rw [wmem_start (by omega), valM, List.nil_append]
  have h9 : vals 0 k = List.replicate k 0 := by
    unfold vals
    rw [List.map_eq_replicate_iff.2 (fun x _ => by rfl)]
    simp
  rw [h9, Nat.add_comm 1 k, List.replicate_succ, List.cons_append]
  rfl
theorem oddB_even (u : Nat) : oddB (2 * (u : Int)) = false := by
  unfold oddB
  rw [Int.mul_tmod_right]
  rfl
theorem oddB_odd (u : Nat) : oddB (2 * (u : Int) + 1) = true := by
  unfold oddB
  rw [Int.tmod_eq_emod_of_nonneg (by omega)]
  have h9 : (2 * (u : Int) + 1) % 2 = 1 := by omega
  rw [h9]
  rfl

/-- What a Read that has begun has seen. -/
def RInv (k v n least : Nat) (st : Nat × Int × List Int) : Prop :=
  (st = (0, 0, []) ∧ least ≤ v) ∨ ∃ (u : Nat) (l : List Int), st = (1, 2 * (u : Int), l) ∧ l.length ≤ k ∧ least ≤ u ∧ u ≤ v ∧ (u = v → n < 2 → l = vals u l.length)
theorem RInv.write {least : Nat} {st : Nat × Int × List Int} (h : RInv k v n least st) : RInv k v (n + 1) least st := by
  rcases h with h | ⟨u, l, h1, h2, h3, h4, h5⟩
  · exact .inl h
  · exact .inr ⟨u, l, h1, h2, h3, h4, fun e hn => h5 e (by omega)⟩
theorem RInv.done {least : Nat} {st : Nat × Int × List Int} (h : RInv k v n least st) : RInv k (v + 1) 0 least st := by
  rcases h with ⟨h1, h2⟩ | ⟨u, l, h1, h2, h3, h4, h5⟩
  · exact .inl ⟨h1, by omega⟩
  · exact .inr ⟨u, l, h1, h2, h3, by omega, fun e _ => by omega⟩
theorem read_go {least : Nat} {st : Nat × Int × List Int} (hk : k ≤ 6) (hv : v ≤ 1000) (hn : n < k + 3) (h : RInv k v n least st) :
    ∃ a, (readM 0 k).obs st = Sum.inr (0, a, 0, 0) ∧ (RInv k v n least ((readM 0 k).next st (valA (memAt k v n) a)) ∨ ∃ u, (readM 0 k).next st (valA (memAt k v n) a) = (2, 0, vals u k) ∧ least ≤ u ∧ u ≤ v) := by
  rcases h with ⟨rfl, hl⟩ | ⟨u, l, rfl, h2, h3, h4, h5⟩
  · refine ⟨0, readM_top, .inl ?_⟩
    rw [memAt_count hv hn, countAt]
    split
    · rename_i h2
      rw [readM_even (oddB_even v)]
      exact .inr ⟨v, [], rfl, Nat.zero_le _, hl, Nat.le_refl _, fun _ _ => rfl⟩
    · rw [readM_odd (oddB_odd v)]
      exact .inl ⟨rfl, hl⟩
  · by_cases hlk : l.length < k
    · refine ⟨_, readM_word hlk, .inl ?_⟩
      rw [readM_got _ hlk]
      refine .inr ⟨u, _, rfl, by rw [List.length_append]; exact hlk, h3, h4, fun e hn2 => ?_⟩
      rw [memAt_word hk hn2 hlk, List.length_append, List.length_singleton, vals_succ, ← h5 e hn2, e]
    · refine ⟨_, readM_last hlk, ?_⟩
      rw [memAt_count hv hn, countAt]
      by_cases hn2 : n < 2
      · rw [if_pos hn2]
        by_cases e : u = v
        · rw [readM_good hlk (by rw [e]; simp)]
          refine .inr ⟨u, ?_, h3, h4⟩
          have h9 := h5 e hn2
          rw [show l.length = k by omega] at h9
          rw [h9]
        · rw [readM_bad hlk (beq_eq_false_iff_ne.2 (by omega))]
          exact .inl (.inl ⟨rfl, by omega⟩)
      · rw [if_neg hn2, readM_bad hlk (beq_eq_false_iff_ne.2 (by omega))]
        exact .inl (.inl ⟨rfl, by omega⟩)
theorem vals_first (u k : Nat) (hk : 0 < k) : (vals u k).getD 0 0 = (u : Int) := by
  rw [vals_getD _ _ _ hk, val1]
  split
  · omega
  · omega
end

/-- One value of a row turned. -/
def ext {α : Type} (f : Nat → α) (k : Nat) (x : α) : Nat → α := fun i => if i = k then x else f i
theorem ext_self {α : Type} (f : Nat → α) (k : Nat) (x : α) : ext f k x k = x := by simp [ext]
theorem ext_ne {α : Type} (f : Nat → α) {k i : Nat} (x : α) (h : i ≠ k) : ext f k x i = f i := by simp [ext, h]
def ptr (b : Nat) : Value := .pointer (some ⟨b, 0, none⟩)

/-- The blocks of the one that has the number a: 0 and 1 read, 2 writes. -/
def own (Fs Ls Us : Nat → Nat) (WV a k : Nat) : Prop := k = Fs a ∨ k = Ls a ∨ k = Us a ∨ (a = 2 ∧ k = WV)
/-- Where all lies: those of which D are not there (yet, or any more). -/
structure Lay (D : Nat → Prop) (B : Nat) (w : World) (p q FA RA LA : Nat) (Fs Ls Us : Nat → Nat) (WV : Nat) : Prop where
  apart : ∀ a b k, a < 3 → b < 3 → ¬ D a → ¬ D b → a ≠ b → own Fs Ls Us WV a k → own Fs Ls Us WV b k → False
  far : ∀ a k, a < 3 → ¬ D a → own Fs Ls Us WV a k → (B ≤ k ∧ k < w.heap.size) ∧ k ≠ p ∧ k ≠ q ∧ k ≠ FA ∧ k ≠ RA ∧ k ≠ LA
  base : p < w.heap.size ∧ q < w.heap.size ∧ FA < w.heap.size ∧ RA < w.heap.size ∧ LA < w.heap.size
  tabs : B ≤ q ∧ B ≤ FA ∧ B ≤ RA ∧ B ≤ LA
  off : (p ≠ FA ∧ p ≠ RA ∧ p ≠ LA) ∧ (q ≠ FA ∧ q ≠ RA ∧ q ≠ LA) ∧ FA ≠ RA ∧ FA ≠ LA ∧ RA ≠ LA
section
variable {D : Nat → Prop} {B : Nat} {w w' : World} {p q FA RA LA WV : Nat} {Fs Ls Us : Nat → Nat}
theorem Lay.mono (h : Lay D B w p q FA RA LA Fs Ls Us WV) (hz : w.heap.size ≤ w'.heap.size) : Lay D B w' p q FA RA LA Fs Ls Us WV := by
  refine ⟨h.apart, fun a k ha hd ho => ?_, ?_, h.tabs, h.off⟩
  · obtain ⟨⟨h1, h2⟩, h3⟩ := h.far a k ha hd ho
    exact ⟨⟨h1, by omega⟩, h3⟩
  · obtain ⟨h1, h2, h3, h4, h5⟩ := h.base
    exact ⟨by omega, by omega, by omega, by omega, by omega⟩
theorem Lay.dead (h : Lay D B w p q FA RA LA Fs Ls Us WV) {E : Nat → Prop} (hE : ∀ a, D a → E a) : Lay E B w p q FA RA LA Fs Ls Us WV :=
  ⟨fun a b k ha hb h1 h2 => h.apart a b k ha hb (fun e => h1 (hE a e)) (fun e => h2 (hE b e)), fun a k ha h1 => h.far a k ha (fun e => h1 (hE a e)), h.base, h.tabs, h.off⟩
/-- One has all of its blocks anew, or as they were. -/
theorem Lay.renew (h : Lay D B w p q FA RA LA Fs Ls Us WV) (hz : w.heap.size ≤ w'.heap.size) (a : Nat) {E : Nat → Prop} (hE : ∀ b, b ≠ a → D b → E b) {Fs' Ls' Us' : Nat → Nat} {WV' : Nat} (hB : B ≤ w.heap.size)
    (same : ∀ b k, b < 3 → b ≠ a → own Fs' Ls' Us' WV' b k → own Fs Ls Us WV b k)
    (fresh : ∀ k, own Fs' Ls' Us' WV' a k → (w.heap.size ≤ k ∧ k < w'.heap.size) ∨ (¬ D a ∧ own Fs Ls Us WV a k)) : Lay E B w' p q FA RA LA Fs' Ls' Us' WV' := by
  have hm := h.mono hz
  obtain ⟨b1, b2, b3, b4, b5⟩ := h.base
  have alive : ∀ b, b ≠ a → ¬ E b → ¬ D b := fun b hb he hd => he (hE b hb hd)
  refine ⟨fun x y k hx hy ex ey hxy ox oy => ?_, fun x k hx ex ox => ?_, hm.base, h.tabs, h.off⟩
  · by_cases e1 : x = a
    · subst e1
      have hyx : y ≠ x := fun e => hxy e.symm
      have oy' := same y k hy hyx oy
      have dy := alive y hyx ey
      rcases fresh k ox with hk | ⟨hd, hk⟩
      · have := (h.far y k hy dy oy').1.2
        omega
      · exact h.apart x y k hx hy hd dy hxy hk oy'
    · have ox' := same x k hx e1 ox
      have dx := alive x e1 ex
      by_cases e2 : y = a
      · subst e2
        rcases fresh k oy with hk | ⟨hd, hk⟩
        · have := (h.far x k hx dx ox').1.2
          omega
        · exact h.apart x y k hx hy dx hd hxy ox' hk
      · exact h.apart x y k hx hy dx (alive y e2 ey) hxy ox' (same y k hy e2 oy)
  · by_cases e1 : x = a
    · subst e1
      rcases fresh k ox with hk | ⟨hd, hk⟩
      · exact ⟨⟨by omega, hk.2⟩, by omega, by omega, by omega, by omega, by omega⟩
      · exact hm.far x k hx hd hk
    · exact hm.far x k hx (alive x e1 ex) (same x k hx e1 ox)
end
end Go.Sept

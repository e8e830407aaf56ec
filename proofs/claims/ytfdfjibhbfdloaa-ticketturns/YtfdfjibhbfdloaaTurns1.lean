/-
  Several users of septumlaw03, each with its frame, over one memory: what a step of one leaves of all. Conditions: all of it lies in blocks that are not the same.
-/
import Derived.Test.YtfdfjibhbfdloaaTurns0
namespace Go.Sept
open Go.RowKit
/-- Where an append begins: in the slice's own block, or, where it has none, past all blocks. -/
theorem Grow.respot {e : TypeId} {size : Nat} {w : World} {v : Value} {b n : Nat} {xs : List Value} (h : Grow e size w v b n xs) : ∃ b0, Grow e size w v b0 n xs ∧ (v.ownBlock = some b0 ∨ w.heap.size ≤ b0) := by
  rcases h.own.2 with ⟨rfl, rfl⟩ | ⟨g, cap, cur, rfl, _⟩
  · exact ⟨w.heap.size, ⟨h.own, fun k hk => by cases hk⟩, .inr (Nat.le_refl _)⟩
  · have e : g = b := h.spot g rfl
    subst e
    exact ⟨g, h, .inl rfl⟩
def ext {α : Type} (f : Nat → α) (k : Nat) (x : α) : Nat → α := fun i => if i = k then x else f i
theorem ext_self {α : Type} (f : Nat → α) (k : Nat) (x : α) : ext f k x k = x := by simp [ext]
theorem ext_ne {α : Type} (f : Nat → α) {k i : Nat} (x : α) (h : i ≠ k) : ext f k x i = f i := by simp [ext, h]
def ptr (b : Nat) : Value := .pointer (some ⟨b, 0, none⟩)
def ptrs (f : Nat → Nat) (k : Nat) : List Value := (List.range k).map fun i => ptr (f i)
theorem ptrs_length (f : Nat → Nat) (k : Nat) : (ptrs f k).length = k := by simp [ptrs]
theorem ptrs_succ (f : Nat → Nat) (k x : Nat) : ptrs (ext f k x) (k + 1) = ptrs f k ++ [ptr x] := by
  unfold ptrs
  rw [List.range_succ, List.map_append]
  congr 1
  · refine List.map_congr_left fun i hi => ?_
    rw [ext_ne]
    have := List.mem_range.1 hi
    omega
  · simp [ext_self]
theorem ptrs_get (f : Nat → Nat) {k i : Nat} (h : i < k) : (ptrs f k)[i]? = some (ptr (f i)) := by simp [ptrs, h]
end Go.Sept

namespace Go.Proofs.Ytfdfjibhbfdloaa
open Go.RowKit Go.Sept Go.Sept.Turns

/-- The blocks of the i-th user. -/
def Mine (Fs Us Ls : Nat → Nat) (i b : Nat) : Prop := b = Fs i ∨ b = Us i ∨ b = Ls i

structure Users (B : Nat) (w : World) (k p q : Nat) (Fs Us Ls : Nat → Nat) (ss : Nat → FrSt) (xs : List Int) (φ : Nat → Ph) : Prop where
  one : ∀ i, i < k → UserAt w (Fs i) (Ls i) p q (Us i) (ss i) xs (φ i)
  apart : ∀ i j b, i < k → j < k → Mine Fs Us Ls i b → Mine Fs Us Ls j b → i = j
  base : ∀ i b, i < k → Mine Fs Us Ls i b → B ≤ b
  row : B ≤ q

section
variable {B : Nat} {w w' : World} {k p q : Nat} {Fs Us Ls : Nat → Nat} {ss : Nat → FrSt} {xs : List Int} {φ : Nat → Ph}
theorem Users.lt (h : Users B w k p q Fs Us Ls ss xs φ) {i b : Nat} (hi : i < k) (hb : Mine Fs Us Ls i b) : b < w.heap.size := by
  have h1 := h.one i hi
  rcases hb with rfl | rfl | rfl
  · exact h1.side.fm.frame.lt
  · exact lt_of_block h1.side.blk
  · exact h1.side.fm.ll
theorem Users.off (h : Users B w k p q Fs Us Ls ss xs φ) {i b : Nat} (hi : i < k) (hb : Mine Fs Us Ls i b) : b ≠ p ∧ b ≠ q := by
  have h1 := (h.one i hi).side
  rcases hb with rfl | rfl | rfl
  · exact ⟨h1.fm.n1, h1.fm.n2⟩
  · exact ⟨h1.n3, h1.n4⟩
  · exact ⟨h1.fm.n3, h1.fm.n4⟩
theorem Users.only {S : Nat → Prop} (h : Users B w k p q Fs Us Ls ss xs φ) (ho : Only S w w') (hS : ∀ b, S b → b ≠ p ∧ b ≠ q ∧ ∀ i, i < k → ¬ Mine Fs Us Ls i b) : Users B w' k p q Fs Us Ls ss xs φ :=
  ⟨fun i hi => (h.one i hi).only ho (fun e => (hS _ e).2.2 i hi (.inl rfl)) (fun e => (hS _ e).2.2 i hi (.inr (.inr rfl))) (fun e => (hS _ e).1 rfl) (fun e => (hS _ e).2.1 rfl) (fun e => (hS _ e).2.2 i hi (.inr (.inl rfl))), h.apart, h.base, h.row⟩
theorem Users.none (hq : B ≤ q) (Fs Us Ls : Nat → Nat) (ss : Nat → FrSt) (φ : Nat → Ph) : Users B w 0 p q Fs Us Ls ss xs φ :=
  ⟨fun i hi => by omega, fun i j b hi => by omega, fun i b hi => by omega, hq⟩
theorem Users.add (h : Users B w k p q Fs Us Ls ss xs φ) {F U : Nat} {s : FrSt} {x : Ph} (hn : UserAt w F F p q U s xs x) (hF : B ≤ F) (hU : B ≤ U) (h1 : ∀ i, i < k → ¬ Mine Fs Us Ls i F) (h2 : ∀ i, i < k → ¬ Mine Fs Us Ls i U) :
    Users B w (k + 1) p q (ext Fs k F) (ext Us k U) (ext Ls k F) (ext ss k s) xs (ext φ k x) := by
  have hold : ∀ i b, i < k → Mine (ext Fs k F) (ext Us k U) (ext Ls k F) i b → Mine Fs Us Ls i b := by
    intro i b hi hb
    unfold Mine at *
    rwa [ext_ne _ _ (by omega), ext_ne _ _ (by omega), ext_ne _ _ (by omega)] at hb
  have hnew : ∀ b, Mine (ext Fs k F) (ext Us k U) (ext Ls k F) k b → b = F ∨ b = U := by
    intro b hb
    unfold Mine at hb
    rw [ext_self, ext_self, ext_self] at hb
    rcases hb with h | h | h
    · exact .inl h
    · exact .inr h
    · exact .inl h
  refine ⟨fun i hi => ?_, fun i j b hi hj hb hc => ?_, fun i b hi hb => ?_, h.row⟩
  · by_cases e : i = k
    · subst e
      rw [ext_self, ext_self, ext_self, ext_self, ext_self]
      exact hn
    · rw [ext_ne _ _ e, ext_ne _ _ e, ext_ne _ _ e, ext_ne _ _ e, ext_ne _ _ e]
      exact h.one i (by omega)
  · by_cases e : i = k
    · subst e
      by_cases e2 : j = i
      · exact e2.symm
      · have h4 := hold j b (by omega) hc
        rcases hnew b hb with rfl | rfl
        · exact absurd h4 (h1 j (by omega))
        · exact absurd h4 (h2 j (by omega))
    · have h3 := hold i b (by omega) hb
      by_cases e2 : j = k
      · subst e2
        rcases hnew b hc with rfl | rfl
        · exact absurd h3 (h1 i (by omega))
        · exact absurd h3 (h2 i (by omega))
      · exact h.apart i j b (by omega) (by omega) h3 (hold j b (by omega) hc)
  · by_cases e : i = k
    · subst e
      rcases hnew b hb with rfl | rfl
      · exact hF
      · exact hU
    · exact h.base i b (by omega) (hold i b (by omega) hb)

/-- A step of one of them. -/
theorem users_step (h : Users B w k p q Fs Us Ls ss xs φ) (g : Nat) (hg : g < k) (now : Int) (hz : (φ g).isZ = false) (hl : (ss g).log.length < 900) (hw : (φ g).waits ≤ (ss g).log.length) :
    Calls Try.prog 13 #[ptr (Fs g), .int .i64 now, userV (Us g)] w fun e w' => ∃ r Ls' ss', e = .returned (.bool r) ∧ Users B w' k p q Fs Us Ls' ss' ((φ g).words xs) (upd φ g ((φ g).next xs)) ∧ (∀ i, i ≠ g → ss' i = ss i) ∧ (ss' g).log.length = (ss g).log.length + 1 ∧
      Only (fun b => b = q ∨ Mine Fs Us Ls g b) w w' ∧ (∀ i b, i < k → Mine Fs Us Ls' i b → Mine Fs Us Ls i b ∨ w.heap.size ≤ b) := by
  refine (user_go w (Fs g) (Ls g) p q (Us g) (ss g) xs (φ g) now (h.one g hg) hz hl hw).mono ?_
  rintro e w' ⟨lb', s', rfl, hu, hs, hlb, ho⟩
  have hz := ho.size
  have hmine : ∀ i b, i < k → Mine Fs Us (ext Ls g lb') i b → Mine Fs Us Ls i b ∨ (i = g ∧ w.heap.size ≤ b) := by
    intro i b hi hb
    by_cases e : i = g
    · subst e
      unfold Mine at *
      rw [ext_self] at hb
      rcases hb with h1 | h1 | h1
      · exact .inl (.inl h1)
      · exact .inl (.inr (.inl h1))
      · rcases hlb with h2 | h2
        · exact .inl (.inr (.inr (h1.trans h2)))
        · exact .inr ⟨rfl, by omega⟩
    · unfold Mine at *
      rw [ext_ne _ _ e] at hb
      exact .inl hb
  have hO : Only (fun b => b = q ∨ Mine Fs Us Ls g b) w w' := ho.mono (fun b _ e => by
    rcases e with e | e | e | e
    · exact .inr (.inl e)
    · exact .inr (.inr (.inr e))
    · exact .inl e
    · exact .inr (.inr (.inl e)))
  refine ⟨_, ext Ls g lb', ext ss g s', rfl, ⟨fun i hi => ?_, fun i j b hi hj hb hc => ?_, fun i b hi hb => ?_, h.row⟩, fun i hi => ext_ne _ _ hi, by rw [ext_self]; exact hs, hO, fun i b hi hb => ?_⟩
  · by_cases e : i = g
    · subst e
      rw [ext_self, ext_self, upd_self]
      exact hu
    · rw [ext_ne _ _ e, ext_ne _ _ e, upd_ne _ _ e]
      have hno : ∀ b, Mine Fs Us Ls i b → ¬ (b = q ∨ Mine Fs Us Ls g b) := by
        rintro b hb (h1 | h1)
        · exact (h.off hi hb).2 h1
        · exact e (h.apart i g b hi hg hb h1)
      exact (h.one i hi).mem hO hu.mem_holds (hno _ (.inl rfl)) (hno _ (.inr (.inr rfl))) (hno _ (.inr (.inl rfl)))
  · rcases hmine i b hi hb with h1 | ⟨rfl, h1⟩
    · rcases hmine j b hj hc with h2 | ⟨rfl, h2⟩
      · exact h.apart i j b hi hj h1 h2
      · have := h.lt hi h1
        omega
    · rcases hmine j b hj hc with h2 | ⟨rfl, h2⟩
      · have := h.lt hj h2
        omega
      · rfl
  · rcases hmine i b hi hb with h1 | ⟨rfl, h1⟩
    · exact h.base i b hi h1
    · have h3 := h.lt hg (.inl rfl)
      have h4 := h.base i _ hg (.inl rfl)
      omega
  · rcases hmine i b hi hb with h1 | ⟨_, h1⟩
    · exact .inl h1
    · exact .inr h1

/-- A step of one that is done. -/
theorem users_over (h : Users B w k p q Fs Us Ls ss xs φ) (g : Nat) (hg : g < k) (now : Int) (hz : (φ g).isZ = true) :
    Calls Try.prog 13 #[ptr (Fs g), .int .i64 now, userV (Us g)] w fun e w' => e = .returned (.bool true) ∧ w' = w :=
  step_over w (Fs g) (Ls g) (ss g) now (h.one g hg).side.fm.frame ((h.one g hg).over.trans hz) _
end
end Go.Proofs.Ytfdfjibhbfdloaa

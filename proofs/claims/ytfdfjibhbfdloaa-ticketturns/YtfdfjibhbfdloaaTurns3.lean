/-
  The play of septumlaw03.TicketTurns: what a turn leaves. Conditions: all of it lies in blocks that are not the same.
-/
import Derived.Test.YtfdfjibhbfdloaaTurns2
namespace Go.Sept.Turns
open Go.RowKit Go.Sept
theorem Good.z_not_target {k : Nat} {first : Int} {φ : Nat → Ph} {ord : List Nat} {c e : Nat} (h : Good k first φ ord c e) {g : Nat} (hg : g < k) (hz : (φ g).isZ = true) : ¬ Target k ord c g := by
  have hm : g ∈ ord := Classical.byContradiction fun hx => by
    rw [h.rest g hg hx] at hz
    exact absurd (show false = true from hz) (by decide)
  rintro ⟨_, ⟨_, h4⟩ | ⟨_, h4⟩⟩
  · rcases h.spot c g h4 with ⟨h5, _⟩ | ⟨h5, _⟩ | ⟨_, ⟨_, j, h6⟩ | ⟨_, h6⟩ | ⟨_, h6⟩ | ⟨_, h6⟩⟩
    · omega
    · omega
    all_goals
      rw [h6] at hz
      exact absurd (show false = true from hz) (by decide)
  · exact h4 hm
/-- A step adds one to how often it may have waited. -/
theorem next_waits (xs : List Int) (φ : Ph) : (φ.next xs).waits ≤ φ.waits + 1 := by
  rcases Ph.kinds φ with rfl | ⟨t, j, rfl⟩ | ⟨t, rfl⟩ | ⟨t, g, rfl⟩ | ⟨t, g, rfl⟩ | ⟨t, g, rfl⟩
  · show 1 ≤ 0 + 1
    omega
  · show Ph.waits (if valA xs 1 = t then Ph.C t else Ph.B t (j + 1)) ≤ j + 1 + 1
    split
    · show 0 ≤ _
      omega
    · show j + 1 + 1 ≤ _
      omega
  · show 0 ≤ _
    omega
  · show 0 ≤ _
    omega
  · show 0 ≤ _
    omega
  · show 0 ≤ _
    omega
end Go.Sept.Turns

namespace Go.Proofs.Ytfdfjibhbfdloaa
open Go.RowKit Go.Sept Go.Sept.Turns

structure Play (B : Nat) (w : World) (k p q fb ub : Nat) (Fs Us : Nat → Nat) (first : Int) (now : Nat) (φ : Nat → Ph) (ord : List Nat) (c e : Nat) (Ls : Nat → Nat) (ss : Nat → FrSt) : Prop where
  users : Users B w k p q Fs Us Ls ss (wordsOf first ord.length c e) φ
  good : Turns.Good k first φ ord c e
  short : ∀ i, i < k → (ss i).log.length ≤ now ∧ (φ i).waits ≤ (ss i).log.length
  fs : ∀ i, i < k → w.cell? ⟨fb, i, none⟩ = some (ptr (Fs i))
  us : ∀ i, i < k → w.cell? ⟨ub, i, none⟩ = some (ptr (Us i))
  fo : ∀ i, i < k → ¬ Mine Fs Us Ls i fb
  uo : ∀ i, i < k → ¬ Mine Fs Us Ls i ub
  fq : fb ≠ q
  uq : ub ≠ q
  fl : fb < w.heap.size
  ul : ub < w.heap.size

theorem Play.only {B : Nat} {w w' : World} {k p q fb ub : Nat} {Fs Us : Nat → Nat} {first : Int} {now : Nat} {φ : Nat → Ph} {ord : List Nat} {c e : Nat} {Ls : Nat → Nat} {ss : Nat → FrSt} (h : Play B w k p q fb ub Fs Us first now φ ord c e Ls ss) (ho : Only (fun _ => False) w w') : Play B w' k p q fb ub Fs Us first now φ ord c e Ls ss :=
  ⟨h.users.only ho (fun _ h => h.elim), h.good, h.short, fun i hi => (World.cell?_of_block (ho.block fb h.fl (fun h => h))).trans (h.fs i hi), fun i hi => (World.cell?_of_block (ho.block ub h.ul (fun h => h))).trans (h.us i hi), h.fo, h.uo, h.fq, h.uq, Nat.lt_of_lt_of_le h.fl ho.size, Nat.lt_of_lt_of_le h.ul ho.size⟩

theorem play_step {B : Nat} {w : World} {k p q fb ub : Nat} {Fs Us : Nat → Nat} {first : Int} {now : Nat} {φ : Nat → Ph} {ord : List Nat} {c e : Nat} {Ls : Nat → Nat} {ss : Nat → FrSt} (h : Play B w k p q fb ub Fs Us first now φ ord c e Ls ss) (hk : k ≤ 5) (hnow : now < 900) (g : Nat) (hg : g < k) (t : Int) :
    Calls Try.prog 13 #[ptr (Fs g), .int .i64 t, userV (Us g)] w fun x w' => ∃ r φ' ord' c' e' Ls' ss', x = .returned (.bool r) ∧ Play B w' k p q fb ub Fs Us first (now + 1) φ' ord' c' e' Ls' ss' ∧
      (score ord' c' e' = score ord c e + 1 ∨ (ord' = ord ∧ c' = c ∧ e' = e ∧ ¬ Turns.Target k ord c g)) ∧ Only (fun b => B ≤ b) w w' := by
  cases hz : (φ g).isZ with
  | true =>
    refine (users_over h.users g hg t hz).mono ?_
    rintro x w' ⟨rfl, rfl⟩
    exact ⟨true, φ, ord, c, e, Ls, ss, rfl, ⟨h.users, h.good, fun i hi => ⟨by have := (h.short i hi).1; omega, (h.short i hi).2⟩, h.fs, h.us, h.fo, h.uo, h.fq, h.uq, h.fl, h.ul⟩, .inr ⟨rfl, rfl, rfl, h.good.z_not_target hg hz⟩, Only.refl _ _⟩
  | false =>
    obtain ⟨ord', c', e', hG, hW, hP⟩ := h.good.step hk hg hz
    refine (users_step h.users g hg t hz (by have := (h.short g hg).1; omega) (h.short g hg).2).mono ?_
    rintro x w' ⟨r, Ls', ss', rfl, hU, hs1, hs2, ho, hmn⟩
    rw [hW] at hU
    have hnf : ∀ b, (b = fb ∨ b = ub) → ¬ (b = q ∨ Mine Fs Us Ls g b) := by
      rintro b (rfl | rfl) (e | e)
      · exact h.fq e
      · exact h.fo g hg e
      · exact h.uq e
      · exact h.uo g hg e
    refine ⟨r, _, ord', c', e', Ls', ss', rfl, ⟨hU, hG, fun i hi => ?_, fun i hi => (World.cell?_of_block (ho.block fb h.fl (hnf fb (.inl rfl)))).trans (h.fs i hi), fun i hi => (World.cell?_of_block (ho.block ub h.ul (hnf ub (.inr rfl)))).trans (h.us i hi), fun i hi hb => ?_, fun i hi hb => ?_, h.fq, h.uq, Nat.lt_of_lt_of_le h.fl ho.size, Nat.lt_of_lt_of_le h.ul ho.size⟩, hP, ho.mono (fun b _ e => ?_)⟩
    · by_cases ei : i = g
      · subst ei
        rw [upd_self, hs2]
        have a1 := h.short i hi
        have a2 := next_waits (wordsOf first ord.length c e) (φ i)
        exact ⟨by omega, by omega⟩
      · rw [upd_ne _ _ ei, hs1 i ei]
        have a1 := h.short i hi
        exact ⟨by omega, a1.2⟩
    · rcases hmn i fb hi hb with a1 | a1
      · exact h.fo i hi a1
      · have := h.fl
        omega
    · rcases hmn i ub hi hb with a1 | a1
      · exact h.uo i hi a1
      · have := h.ul
        omega
    · rcases e with e | e
      · rw [e]
        exact h.users.row
      · exact h.users.base g b hg e

/-- A list of bytes that was handed in. -/
def U8s (w : World) (a : Option Addr) (n : Nat) (T : Nat → Nat) : Prop := ∃ b off, ∀ i, i < n → a = some ⟨b, off, none⟩ ∧ w.cell? ⟨b, off + i, none⟩ = some (.int .u8 (T i : Int))
theorem U8s.only {w w' : World} {a : Option Addr} {n : Nat} {T : Nat → Nat} (h : U8s w a n T) (ho : Only (fun _ => False) w w') : U8s w' a n T := by
  obtain ⟨b, off, hh⟩ := h
  refine ⟨b, off, fun i hi => ⟨(hh i hi).1, ?_⟩⟩
  have h1 := (hh i hi).2
  exact (World.cell?_of_block (ho.block b (World.block_lt_of_cell? _ _ h1) (fun h => h))).trans h1
end Go.Proofs.Ytfdfjibhbfdloaa

/-
  How far a frame is whose body does so many accesses, behind so many steps. Conditions: as for BodyIn.
-/
import Derived.Test.YtdoihlnipajniaaAwake8
namespace Go.Proofs.Ytdoihlnipajniaa
open Go.RowKit Go.Sept

section
variable {α : Type} {m : Nat} {K : Kept α} {T : Tree α m}
/-- A frame with a body of n accesses, behind j steps. -/
def Paced (K : Kept α) (T : Tree α m) (F p q n lb j : Nat) (w : World) : Prop :=
  (j < n ∧ ∃ s ys A, Near K w F lb p q s ys ∧ T.after s.answers = some (Sum.inr A) ∧ (Tree.halone (Sum.inr A) ys).2.2 = n - j ∧ s.log.length = j ∧ s.underway = false ∧ s.done = false) ∨
  (n ≤ j ∧ ∃ s, FrameIs w F lb s ∧ s.done = true ∧ s.log.length = n)
theorem Paced.start {w : World} {F p q n lb : Nat} {mp : Option Addr} {xs : List Int} (h : Near K w F lb p q (fresh mp) xs) (hn : (T.alone xs).2.2 = n) (h0 : 0 < n) : Paced K T F p q n lb 0 w := by
  obtain ⟨t, h1, h2, _⟩ := Tree.after_nil T
  rcases t with x | A
  · have h3 := congrArg (fun z => z.2.2) (h2 xs)
    simp only [Tree.halone] at h3
    omega
  · refine .inl ⟨h0, _, xs, A, h, h1, ?_, rfl, rfl, rfl⟩
    rw [h2 xs, hn, Nat.sub_zero]
theorem Paced.step {fn : Nat} {rcv : Value} {k : Nat} (hB : BodyIn T fn rcv K k) {w : World} {F p q n lb j : Nat} (hk : n + 3 ≤ k) (h : Paced K T F p q n lb j w) (now : Int) :
    Calls Try.prog 13 #[.pointer (some ⟨F, 0, none⟩), .int .i64 now, bodyV fn rcv] w fun e w' => ∃ b lb', e = .returned (.bool b) ∧ Paced K T F p q n lb' (j + 1) w' ∧ (lb' = lb ∨ w.heap.size ≤ lb') ∧ Only (fun k => k = F ∨ k = lb ∨ k = q ∨ K.W k) w w' := by
  rcases h with ⟨hj, s, ys, A, hN, hA, hal, hlog, hu, hd⟩ | ⟨hj, s, hf, hd, hlog⟩
  · refine (hB.step w F lb p q s ys now hN hd hu (by omega) hA).mono ?_
    rintro e w' ⟨s', T', rfl, ⟨lb', hn', hlb, hO, hP⟩, g1, g2, g3, g4, g5, g6⟩
    refine ⟨_, lb', rfl, ?_, hlb, hO⟩
    obtain ⟨T2, k1, k2, _, _⟩ := Tree.after_nil (A.f (ansA A.k A.a A.u ys))
    obtain rfl : T2 = T' := Option.some.inj (k1.symm.trans g6)
    have h3 := congrArg (fun z => z.2.2) (k2 (aftA A.k A.a A.v A.u ys))
    simp only [Tree.halone] at hal
    have hl' : s'.log.length = j + 1 := by rw [g1, List.length_append, hlog]; rfl
    rcases T2 with x | A'
    · simp only [Tree.halone] at h3
      exact .inr ⟨by omega, s', hn'.fm.frame, by rw [g4]; rfl, by omega⟩
    · have h4 := h3
      simp only [Tree.halone] at h4
      exact .inl ⟨by omega, s', _, A', hn', g5, by have h5 : (Tree.halone (Sum.inr A') (aftA A.k A.a A.v A.u ys)).2.2 = _ := h3; omega, hl', g3, by rw [g4]; rfl⟩
  · refine (step_over w F lb s now hf hd _).mono ?_
    rintro e w' ⟨rfl, rfl⟩
    exact ⟨_, lb, rfl, .inr ⟨by omega, s, hf, hd, hlog⟩, .inl rfl, Only.refl _ _⟩
end

/-- What a law may do with a frame and its body of n accesses: steps; P tells how many were done. -/
def Pacer (z F q n : Nat) (P : Nat → Nat → World → Prop) : Prop :=
  (∀ lb j w (now : Int), P lb j w → Calls Try.prog 13 #[.pointer (some ⟨F, 0, none⟩), .int .i64 now, bodyV 11 (ptrV z)] w fun e w' => ∃ b lb', e = .returned (.bool b) ∧ P lb' (j + 1) w' ∧ (lb' = lb ∨ w.heap.size ≤ lb') ∧ Only (fun k => k = F ∨ k = lb ∨ k = q ∨ k = z) w w') ∧
  (∀ lb j w, P lb j w → n ≤ j → ∃ s, FrameIs w F lb s ∧ s.done = true ∧ s.log.length = n)

theorem pacer_of {α : Type} {m : Nat} {K : Kept α} {T : Tree α m} {z F p q n : Nat} {w : World} {xs : List Int} (hB : BodyIn T 11 (ptrV z) K 6000) (hK : ∀ k, K.V k → k = z) (hP : K.Pre w) (hf : FrameIs w F F (fresh (some ⟨p, 0, none⟩))) (hm : MemIs 49 w p q xs) (n1 : F ≠ p) (n2 : F ≠ q) (n3 : z ≠ F) (n4 : z ≠ p) (n5 : z ≠ q) (hn : (T.alone xs).2.2 = n) (h0 : 0 < n) (h1 : n ≤ 5000) :
    ∃ P, Pacer z F q n P ∧ P F 0 w := by
  refine ⟨Paced K T F p q n, ⟨fun lb j w1 now h => ?_, fun lb j w1 h hj => ?_⟩, ?_⟩
  · refine (h.step hB (by omega) now).mono ?_
    rintro e w' ⟨b, lb', rfl, h1, h2, h3⟩
    exact ⟨b, lb', rfl, h1, h2, h3.mono (fun k _ e => e.imp (fun h => h) (fun e => e.imp (fun h => h) (fun e => e.imp (fun h => h) (fun e => hK k (K.sub k e)))))⟩
  · rcases h with ⟨h2, _⟩ | ⟨_, h2⟩
    · omega
    · exact h2
  · refine Paced.start (xs := xs) (mp := some ⟨p, 0, none⟩) ⟨⟨hf, .inl ⟨rfl, hm⟩, lt_of_block hm.head, hm.row.lt, hf.lt, n1, n2, n1, n2⟩, hP, fun k hk => ?_⟩ hn h0
    have e := hK k hk
    subst e
    exact ⟨n3, n3, n4, n5⟩

/-- How many accesses a call does. -/
def want (k n c : Nat) : Nat := if k = 0 ∧ n < c ∨ k = 1 ∧ 0 < n then 4 else 2

theorem pacer8 {c k : Nat} {ws xs : List Int} {z F p q : Nat} {w : World} (hR : Rg c 0 ws xs) (hk : k < 4) (hc1 : 1 ≤ c) (hc : c ≤ 16) (hz : w.heap[z]? = some (act8O k c 0 0 false 0)) (hf : FrameIs w F F (fresh (some ⟨p, 0, none⟩))) (hm : MemIs 49 w p q xs) (n1 : F ≠ p) (n2 : F ≠ q) (n3 : z ≠ F) (n4 : z ≠ p) (n5 : z ≠ q) :
    ∃ P, Pacer z F q (want k ws.length c) P ∧ P F 0 w := by
  have hr := hR.room
  obtain rfl | rfl | rfl | rfl : k = 0 ∨ k = 1 ∨ k = 2 ∨ k = 3 := by omega
  · refine pacer_of (act8_put z c 0 _ (by decide) (put_does 3 c 0 (by omega) (by omega))) (fun _ h => h) ⟨false, hz⟩ hf hm n1 n2 n3 n4 n5 ?_ ?_ ?_
    · by_cases h : ws.length < c
      · obtain ⟨ys, h1, _⟩ := hR.put_room (by decide) hc1 hc h 0
        rw [h1, want, if_pos (.inl ⟨rfl, h⟩)]
      · rw [hR.put_full hc (by omega), want, if_neg (by omega)]
    · unfold want; split <;> omega
    · unfold want; split <;> omega
  · refine pacer_of (act8_get z c 0 _ (by decide) (get_does 3 c (by omega) (by omega))) (fun _ h => h) ⟨(0, false), hz⟩ hf hm n1 n2 n3 n4 n5 ?_ ?_ ?_
    · cases ws with
      | nil => rw [hR.get_none]; rfl
      | cons x ws =>
        obtain ⟨ys, h1, _⟩ := hR.get_some (by decide) hc1 hc
        rw [h1, want, if_pos (.inr ⟨rfl, by simp⟩)]
    · unfold want; split <;> omega
    · unfold want; split <;> omega
  · have e2 : want 2 ws.length c = 2 := by rw [want, if_neg (by omega)]
    refine pacer_of (act8_len z c 0) (fun _ h => h) ⟨0, hz⟩ hf hm n1 n2 n3 n4 n5 ?_ (by rw [e2]; decide) (by rw [e2]; decide)
    rw [hR.length hc, e2]
  · have e2 : want 3 ws.length c = 2 := by rw [want, if_neg (by omega)]
    refine pacer_of (act8_clear z 3 c 0 (by decide) (by decide) (by decide)) (fun _ h => h) hz hf hm n1 n2 n3 n4 n5 ?_ (by rw [e2]; decide) (by rw [e2]; decide)
    obtain ⟨ys, h1, _⟩ := hR.clear
    rw [h1, e2]
end Go.Proofs.Ytdoihlnipajniaa

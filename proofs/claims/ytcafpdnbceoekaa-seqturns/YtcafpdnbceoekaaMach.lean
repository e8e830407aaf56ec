/-
  A step of a frame whose body follows a machine. Conditions: all of it lies in blocks that are not the same; the body's own contract.
-/
import Derived.Test.YtcafpdnbceoekaaSide2
namespace Go.Proofs.Ytcafpdnbceoekaa
open Go.RowKit Go.Sept

section
variable {α σ : Type} {K : Kept α} {m : Nat} {T : Tree α m} {fn : Nat} {rcv : Value} {n : Nat} {M : Tree.Mach σ α}
/-- Where a frame with such a body stands: so many steps are borne, its body is in the state st. -/
structure Walks (K : Kept α) (T : Tree α m) (M : Tree.Mach σ α) (w : World) (F lb p q : Nat) (s : FrSt) (xs : List Int) (st : σ) (f : Nat) : Prop where
  near : Near K w F lb p q s xs
  live : s.done = false
  idle : s.underway = false
  mp : s.mp = some ⟨p, 0, none⟩
  at' : ∃ t, T.after s.answers = some t ∧ Tree.StandsAt M f t st

theorem Walks.start {w : World} {F lb p q : Nat} {xs : List Int} {st : σ} {f : Nat} (h : Near K w F lb p q (fresh (some ⟨p, 0, none⟩)) xs) (hs : Tree.Sim M (f + 1) st T) : Walks K T M w F lb p q (fresh (some ⟨p, 0, none⟩)) xs st f :=
  ⟨h, rfl, rfl, rfl, hs.start⟩
theorem Walks.only {w w' : World} {F lb p q : Nat} {s : FrSt} {xs : List Int} {st : σ} {f : Nat} {S : Nat → Prop} (h : Walks K T M w F lb p q s xs st f) (ho : Only S w w') (a1 : ¬ S F) (a2 : ¬ S lb) (a3 : ¬ S p) (a4 : ¬ S q) (a5 : ∀ k, K.V k → ¬ S k) : Walks K T M w' F lb p q s xs st f :=
  ⟨h.near.only ho a1 a2 a3 a4 a5, h.live, h.idle, h.mp, h.at'⟩
/-- Where only the memory's row has turned. -/
theorem Walks.mem {w w' : World} {F lb p q : Nat} {s : FrSt} {xs ys : List Int} {st : σ} {f : Nat} {S : Nat → Prop} (h : Walks K T M w F lb p q s xs st f) (ho : Only S w w') (hm : Holds 52 w' (.pointer (some ⟨p, 0, none⟩)) p q ys) (a1 : ¬ S F) (a2 : ¬ S lb) (a5 : ∀ k, K.V k → ¬ S k) : Walks K T M w' F lb p q s ys st f :=
  ⟨h.near.mem ho (by rw [h.mp]; exact hm) a1 a2 a5, h.live, h.idle, h.mp, h.at'⟩
theorem Walks.holds {w : World} {F lb p q : Nat} {s : FrSt} {xs : List Int} {st : σ} {f : Nat} (h : Walks K T M w F lb p q s xs st f) : Holds 52 w (.pointer (some ⟨p, 0, none⟩)) p q xs := by
  have h9 := h.near.fm.mem
  rwa [h.mp] at h9

/-- A step: the machine's next access is done; if it is at its end then, the body's answer lies beside the frame. -/
theorem Walks.step (hB : BodyIn T fn rcv K n) {w : World} {F lb p q : Nat} {s : FrSt} {xs : List Int} {st : σ} {f : Nat} (now : Int) (h : Walks K T M w F lb p q s xs st (f + 1)) (hl : s.log.length + 3 ≤ n) {k a v u : Int} (ho : M.obs st = Sum.inr (k, a, v, u)) :
    Calls Try.prog 16 #[.pointer (some ⟨F, 0, none⟩), .int .i64 now, bodyV fn rcv] w fun e w' =>
      ∃ s' lb', s'.log = s.log ++ [(ansA k a u xs, now)] ∧ (lb' = lb ∨ w.heap.size ≤ lb') ∧ Only (fun k => k = F ∨ k = lb ∨ k = q ∨ K.W k) w w' ∧
        ((∃ x, M.obs (M.next st (ansA k a u xs)) = Sum.inl x ∧ e = .returned (.bool true) ∧ s'.done = true ∧ s'.mp = some ⟨p, 0, none⟩ ∧ Near K w' F lb' p q s' (aftA k a v u xs) ∧ K.Post w.heap.size x w') ∨
         ((∃ B, M.obs (M.next st (ansA k a u xs)) = Sum.inr B) ∧ e = .returned (.bool false) ∧ Walks K T M w' F lb' p q s' (aftA k a v u xs) (M.next st (ansA k a u xs)) f)) := by
  obtain ⟨t, ht, hs⟩ := h.at'
  unfold Tree.StandsAt at hs
  rw [ho] at hs
  obtain ⟨A, rfl, h1, h2, h3, h4, h5⟩ := hs
  subst h1 h2 h3 h4
  refine (hB.step w F lb p q s xs now h.near h.live h.idle hl ht).mono ?_
  rintro e w' ⟨s', T', rfl, ⟨lb', hn, hlb, hO, hP⟩, g1, g2, g3, g4, g5, g6⟩
  refine ⟨s', lb', g1, hlb, hO, ?_⟩
  obtain ⟨T2, k1, k2⟩ := (h5 (ansA A.k A.a A.u xs)).start
  obtain rfl : T2 = T' := Option.some.inj (k1.symm.trans g6)
  cases hob : M.obs (M.next st (ansA A.k A.a A.u xs)) with
  | inl x =>
    have k3 := k2
    unfold Tree.StandsAt at k3
    rw [hob] at k3
    obtain rfl : T2 = Sum.inl x := k3
    exact .inl ⟨x, rfl, rfl, g4, g2.trans h.mp, hn, hP⟩
  | inr B =>
    refine .inr ⟨⟨B, rfl⟩, ?_, hn, ?_, g3, g2.trans h.mp, T2, g5, k2⟩
    · have k3 := k2
      unfold Tree.StandsAt at k3
      rw [hob] at k3
      obtain ⟨A', rfl, _⟩ := k3
      rfl
    · have k3 := k2
      unfold Tree.StandsAt at k3
      rw [hob] at k3
      obtain ⟨A', rfl, _⟩ := k3
      exact g4
end
end Go.Proofs.Ytcafpdnbceoekaa

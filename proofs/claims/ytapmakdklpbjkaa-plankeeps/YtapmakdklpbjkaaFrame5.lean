/-
  The frame's accesses: Load, Store, Add, Swap. Conditions: the frame and its memory are there, and share no block.
-/
import Derived.Test.YtapmakdklpbjkaaFrame4
namespace Go.Proofs.Ytapmakdklpbjkaa
open Go.RowKit Go.Sept

abbrev FMIs (w : World) (F lb p q : Nat) (s : FrSt) (xs : List Int) : Prop := FM 135 151 77 w F lb p q s xs

/-- What an access wants of a frame. -/
structure Ready (s : FrSt) : Prop where
  heard : s.unheard < 1048576
  short : s.log.length < 1000000
  behind : s.asked ≤ s.log.length

/-- What an access leaves. -/
def Left (w : World) (F lb p q : Nat) (s : FrSt) (xs : List Int) (w' : World) : Prop :=
  ∃ lb', FMIs w' F lb' p q s xs ∧ (lb' = lb ∨ w.heap.size ≤ lb') ∧ Only (fun x => x = F ∨ x = lb ∨ x = q) w w'

theorem ask_replay (w : World) (F lb : Nat) (s : FrSt) (h : FrameIs w F lb s) (hr : Ready s) (hf : s.isFresh = false) :
    Calls Try.prog 62 #[.pointer (some ⟨F, 0, none⟩)] w fun e w' => e = .returned (.tuple #[.int .i64 s.replay.1, .bool false]) ∧ FrameIs w' F lb s.replay.2 ∧ Only (· = F) w w' := by
  cases hu : s.underway with
  | false =>
    have e : s.replay = (0, s) := by rw [FrSt.replay, if_pos hu]
    rw [e]
    exact ask_idle w F lb s h hu
  | true =>
    by_cases ha : s.asked = s.most
    · have e : s.replay = (0, { s with off := true, unheard := s.unheard + 1 }) := by rw [FrSt.replay, if_neg (by simp [hu]), if_pos ha]
      rw [e]
      exact ask_off w F lb s h hu ha hr.heard
    · have hl : s.asked < s.log.length := by
        have h1 := hr.behind
        have h2 : s.asked ≠ s.log.length := by
          intro e
          simp [FrSt.isFresh, hu, e] at hf
          exact ha (e.trans hf)
        omega
      have e : s.replay = ((s.log.getD s.asked (0, 0)).1, { s with asked := s.asked + 1 }) := by rw [FrSt.replay, if_neg (by simp [hu]), if_neg ha]
      rw [e]
      exact ask_again w F lb s h hu ha hl (Nat.le_of_lt hr.short)

theorem ask_new (w : World) (F lb : Nat) (s : FrSt) (h : FrameIs w F lb s) (hf : s.isFresh = true) :
    Calls Try.prog 62 #[.pointer (some ⟨F, 0, none⟩)] w fun e w' => e = .returned (.tuple #[.int .i64 0, .bool true]) ∧ FrameIs w' F lb s ∧ Only (· = F) w w' := by
  simp [FrSt.isFresh] at hf
  exact ask_fresh w F lb s h hf.1.1 hf.1.2 hf.2

theorem FrameIs_ne {w : World} {F lb : Nat} {s : FrSt} (h : FrameIs w F lb s) : ∃ lv, w.heap[F]? = some (.cells (s.cells lv) 135) := ⟨_, h.2.choose_spec.1⟩
theorem FrameIs.mem_cell {w : World} {F lb : Nat} {s : FrSt} (h : FrameIs w F lb s) : w.cell? ⟨F, 0, none⟩ = some (.pointer s.mp) := by
  obtain ⟨lv, h1⟩ := FrameIs_ne h
  exact cell_of_block h1 0
theorem FrameIs.log_lt {w : World} {F lb : Nat} {s : FrSt} (h : FrameIs w F lb s) (hn : 0 < s.log.length) : lb < w.heap.size := h.2.choose_spec.2.lt hn

theorem replay_mp (s : FrSt) : s.replay.2.mp = s.mp := by
  unfold FrSt.replay
  split
  · rfl
  · split <;> rfl

theorem FMIs.replay {w w' : World} {F lb p q : Nat} {s s' : FrSt} {xs : List Int} (h : FMIs w F lb p q s xs) (hm : s'.mp = s.mp) (hf : FrameIs w' F lb s') (ho : Only (· = F) w w') : FMIs w' F lb p q s' xs :=
  ⟨hf, hm ▸ h.mem.only ho (fun e => h.n1 e.symm) (fun e => h.n2 e.symm), Nat.lt_of_lt_of_le h.lp ho.size, Nat.lt_of_lt_of_le h.lq ho.size, Nat.lt_of_lt_of_le h.ll ho.size, h.n1, h.n2, h.n3, h.n4⟩

theorem left_replay {w w' : World} {F lb p q : Nat} {s : FrSt} {xs : List Int} (h : FMIs w F lb p q s xs) (hf : FrameIs w' F lb s.replay.2) (ho : Only (· = F) w w') : Left w F lb p q s.replay.2 xs w' :=
  ⟨lb, h.replay (replay_mp s) hf ho, .inl rfl, ho.mono (fun _ _ e => .inl e)⟩

theorem left_kept {w w1 w2 w3 : World} {F lb lb' p q : Nat} {s : FrSt} {xs ys : List Int} {r : Int} (h : FMIs w F lb p q s xs) (ho1 : Only (· = F) w w1)
    (hm : Holds 77 w2 (.pointer s.mp) p q ys) (ho2 : Only (· = q) w1 w2)
    (hf : FrameIs w3 F lb' (s.kept r)) (hl : lb' = lb ∨ w2.heap.size ≤ lb') (ho3 : Only (fun k => k = F ∨ k = lb) w2 w3) : Left w F lb p q (s.kept r) ys w3 := by
  have z1 := ho1.size
  have z2 := ho2.size
  have z3 := ho3.size
  have a1 := h.lp
  have a2 := h.lq
  have a3 := h.ll
  have b1 := h.n1
  have b2 := h.n2
  have b3 := h.n3
  have b4 := h.n4
  refine ⟨lb', ⟨hf, hm.only ho3 (by omega) (by omega), by omega, by omega, hf.log_lt (by simp [FrSt.kept]), h.n1, h.n2, by omega, by omega⟩, by omega, ?_⟩
  refine (((ho1.mono (T := fun x => x = F ∨ x = lb ∨ x = q) (fun _ _ e => .inl e)).chain ho2 (fun _ _ e => .inr (.inr e)))).chain ho3 (fun _ _ e => ?_)
  rcases e with e | e
  · exact .inl e
  · exact .inr (.inl e)

set_option maxHeartbeats 1000000 in
theorem fload_rel (w : World) (F lb p q : Nat) (s : FrSt) (xs : List Int) (h : FMIs w F lb p q s xs) (hr : Ready s) (a v u : Int) :
    Calls Try.prog 69 #[.pointer (some ⟨F, 0, none⟩), .int .i64 a] w fun e w' => e = .returned (.int .i64 (acc 0 a v u s xs).1) ∧ Left w F lb p q (acc 0 a v u s xs).2.1 (acc 0 a v u s xs).2.2 w' := by
  cases hf : s.isFresh with
  | false =>
    rw [acc, if_neg (by simp [hf])]
    go_enter Try.func69, Try.ntmps69
    go_wp2_with fail
    refine (ask_replay _ _ _ _ h.frame hr hf).mono ?_
    rintro e w1 ⟨rfl, h1, ho1⟩
    have HL : Hid (Left w F lb p q s.replay.2 xs w1) := left_replay h h1 ho1
    clear h1 ho1 h hr hf
    go_wp2_with fail
    go_ret
    exact ⟨rfl, HL.out⟩
  | true =>
    rw [acc, if_pos hf]
    have hs := hr.short
    have hb := hr.behind
    go_enter Try.func69, Try.ntmps69
    go_wp2_with fail
    refine (ask_new _ _ _ _ h.frame hf).mono ?_
    rintro e w1 ⟨rfl, h1, ho1⟩
    have c0 := h1.mem_cell
    have hm1 := (h.replay rfl h1 ho1).mem
    go_wp2_with fail
    refine (load_rel _ _ p q xs hm1 _).mono ?_
    rintro e w2 ⟨rfl, rfl⟩
    clear c0
    go_wp2_with fail
    refine (keep_rel _ F lb s _ h1 (by omega) (by omega)).mono ?_
    rintro e w3 ⟨lb', rfl, h3, hl3, ho3⟩
    have HL : Hid (Left w F lb p q (s.kept (valA xs a)) xs w3) := left_kept h ho1 hm1 (Only.refl _ _) h3 hl3 ho3
    clear h1 ho1 h hr hf hm1 h3 hl3 ho3
    go_wp2_with fail
    go_ret
    exact ⟨rfl, HL.out⟩

set_option maxHeartbeats 1000000 in
theorem fstore_rel (w : World) (F lb p q : Nat) (s : FrSt) (xs : List Int) (h : FMIs w F lb p q s xs) (hr : Ready s) (a v u : Int) :
    Calls Try.prog 45 #[.pointer (some ⟨F, 0, none⟩), .int .i64 a, .int .i64 v] w fun e w' => e = .returned (.tuple #[]) ∧ Left w F lb p q (acc 1 a v u s xs).2.1 (acc 1 a v u s xs).2.2 w' := by
  cases hf : s.isFresh with
  | false =>
    rw [acc, if_neg (by simp [hf])]
    go_enter Try.func45, Try.ntmps45
    go_wp2_with fail
    refine (ask_replay _ _ _ _ h.frame hr hf).mono ?_
    rintro e w1 ⟨rfl, h1, ho1⟩
    have HL : Hid (Left w F lb p q s.replay.2 xs w1) := left_replay h h1 ho1
    clear h1 ho1 h hr hf
    go_wp2_with fail
    go_end0
    exact ⟨rfl, HL.out⟩
  | true =>
    rw [acc, if_pos hf]
    have hs := hr.short
    have hb := hr.behind
    go_enter Try.func45, Try.ntmps45
    go_wp2_with fail
    refine (ask_new _ _ _ _ h.frame hf).mono ?_
    rintro e w1 ⟨rfl, h1, ho1⟩
    have c0 := h1.mem_cell
    have hm1 := (h.replay rfl h1 ho1).mem
    go_wp2_with fail
    refine (sto_rel _ _ p q xs hm1 _ _).mono ?_
    rintro e w2 ⟨rfl, hm2, ho2⟩
    have h2 : FrameIs w2 F lb s := h1.only ho2 h.n2 h.n4
    clear c0
    go_wp2_with fail
    refine (keep_rel _ F lb s _ h2 (by omega) (by omega)).mono ?_
    rintro e w3 ⟨lb', rfl, h3, hl3, ho3⟩
    have HL : Hid (Left w F lb p q (s.kept 0) (setA xs a v) w3) := left_kept h ho1 hm2 ho2 h3 hl3 ho3
    clear h1 ho1 h hr hf hm1 h3 hl3 ho3 hm2 ho2 h2
    go_wp2_with fail
    go_end0
    exact ⟨rfl, HL.out⟩

end Go.Proofs.Ytapmakdklpbjkaa

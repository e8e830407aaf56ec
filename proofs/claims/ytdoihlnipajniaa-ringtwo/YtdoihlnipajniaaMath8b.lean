/-
  One that puts and one that gets, access by access, as plain mathematics. Conditions: the ring lies at 3 in a memory of 30 words; its size is 1 to 16; at most 40 words. No program is named here.
-/
import Derived.Test.YtdoihlnipajniaaMath8
namespace Go.Sept
open Go.RowKit

/-- The next access. -/
def AccIs {α : Type} (A : AccS α) (k a v : Int) : Prop := A.k = k ∧ A.a = a ∧ A.v = v ∧ A.u = 0

section
variable (c : Nat) (v g t y : Int)
theorem put_after0 : ∃ A, (putT 3 c v).after [] = some (Sum.inr A) ∧ AccIs A 0 3 0 := ⟨_, rfl, rfl, wr3, rfl, rfl⟩
theorem put_after1 : ∃ A, (putT 3 c v).after [g] = some (Sum.inr A) ∧ AccIs A 0 4 0 := ⟨_, rfl, rfl, wr4, rfl, rfl⟩
theorem put_after2_full (h : (c : Int) ≤ wrap64 (t - g)) : (putT 3 c v).after [g, t] = some (Sum.inl false) := by
  show (if (c : Int) ≤ wrap64 (t - g) then (Tree.ret false : Tree Bool 3) else _).after [] = _
  rw [if_pos h]
  rfl
theorem put_after2 (h : ¬ (c : Int) ≤ wrap64 (t - g)) : ∃ A, (putT 3 c v).after [g, t] = some (Sum.inr A) ∧ AccIs A 1 (wrap64 (3 + placeI c t)) v := by
  show ∃ A, (if (c : Int) ≤ wrap64 (t - g) then (Tree.ret false : Tree Bool 3) else _).after [] = some (Sum.inr A) ∧ _
  rw [if_neg h]
  exact ⟨_, rfl, rfl, rfl, rfl, rfl⟩
theorem put_after3 (h : ¬ (c : Int) ≤ wrap64 (t - g)) : ∃ A, (putT 3 c v).after [g, t, y] = some (Sum.inr A) ∧ AccIs A 1 4 (wrap64 (t + 1)) := by
  show ∃ A, (if (c : Int) ≤ wrap64 (t - g) then (Tree.ret false : Tree Bool 3) else _).after [y] = some (Sum.inr A) ∧ _
  rw [if_neg h]
  exact ⟨_, rfl, rfl, wr4, rfl, rfl⟩
theorem put_after4 (z : Int) (h : ¬ (c : Int) ≤ wrap64 (t - g)) : (putT 3 c v).after [g, t, y, z] = some (Sum.inl true) := by
  show (if (c : Int) ≤ wrap64 (t - g) then (Tree.ret false : Tree Bool 3) else _).after [y, z] = _
  rw [if_neg h]
  rfl
theorem get_after0 : ∃ A, (getT 3 c).after [] = some (Sum.inr A) ∧ AccIs A 0 3 0 := ⟨_, rfl, rfl, wr3, rfl, rfl⟩
theorem get_after1 : ∃ A, (getT 3 c).after [g] = some (Sum.inr A) ∧ AccIs A 0 4 0 := ⟨_, rfl, rfl, wr4, rfl, rfl⟩
theorem get_after2_none (h : wrap64 (t - g) ≤ 0) : (getT 3 c).after [g, t] = some (Sum.inl (0, false)) := by
  show (if wrap64 (t - g) ≤ 0 then (Tree.ret (0, false) : Tree (Int × Bool) 3) else _).after [] = _
  rw [if_pos h]
  rfl
theorem get_after2 (h : ¬ wrap64 (t - g) ≤ 0) : ∃ A, (getT 3 c).after [g, t] = some (Sum.inr A) ∧ AccIs A 0 (wrap64 (3 + placeI c g)) 0 := by
  show ∃ A, (if wrap64 (t - g) ≤ 0 then (Tree.ret (0, false) : Tree (Int × Bool) 3) else _).after [] = some (Sum.inr A) ∧ _
  rw [if_neg h]
  exact ⟨_, rfl, rfl, rfl, rfl, rfl⟩
theorem get_after3 (h : ¬ wrap64 (t - g) ≤ 0) : ∃ A, (getT 3 c).after [g, t, y] = some (Sum.inr A) ∧ AccIs A 1 3 (wrap64 (g + 1)) := by
  show ∃ A, (if wrap64 (t - g) ≤ 0 then (Tree.ret (0, false) : Tree (Int × Bool) 3) else _).after [y] = some (Sum.inr A) ∧ _
  rw [if_neg h]
  exact ⟨_, rfl, rfl, wr3, rfl, rfl⟩
theorem get_after4 (z : Int) (h : ¬ wrap64 (t - g) ≤ 0) : (getT 3 c).after [g, t, y, z] = some (Sum.inl (y, true)) := by
  show (if wrap64 (t - g) ≤ 0 then (Tree.ret (0, false) : Tree (Int × Bool) 3) else _).after [y, z] = _
  rw [if_neg h]
  rfl
end

/-- The memory behind np words that were put, and ng that were got. -/
structure MemR (c np ng : Nat) (W xs : List Int) : Prop where
  len : xs.length = 30
  gone : valA xs 3 = ng
  all : valA xs 4 = np
  word : ∀ i, ng ≤ i → i < np → valA xs (5 + (i % c : Nat)) = W.getD i 0
  room : np ≤ ng + c
  le : ng ≤ np

/-- How far one is that puts, by what its accesses answered. -/
def PutS (c np ng : Nat) (W xs l : List Int) : Prop :=
  l = [] ∨ (∃ g : Nat, l = [(g : Int)] ∧ g ≤ ng) ∨ (∃ g : Nat, l = [(g : Int), (np : Int)] ∧ g ≤ ng ∧ np < g + c) ∨ ∃ g : Nat, l = [(g : Int), (np : Int), 0] ∧ g ≤ ng ∧ np < g + c ∧ valA xs (5 + (np % c : Nat)) = W.getD np 0
/-- How far one is that gets. -/
def GetS (np ng : Nat) (W l : List Int) : Prop :=
  l = [] ∨ l = [(ng : Int)] ∨ (∃ t : Nat, l = [(ng : Int), (t : Int)] ∧ t ≤ np ∧ ng < t) ∨ ∃ t : Nat, l = [(ng : Int), (t : Int), W.getD ng 0] ∧ t ≤ np ∧ ng < t
theorem PutS.short {c np ng : Nat} {W xs l : List Int} (h : PutS c np ng W xs l) : l.length ≤ 3 := by
  rcases h with rfl | ⟨g, rfl, _⟩ | ⟨g, rfl, _⟩ | ⟨g, rfl, _⟩ <;> simp
theorem GetS.short {np ng : Nat} {W l : List Int} (h : GetS np ng W l) : l.length ≤ 3 := by
  rcases h with rfl | rfl | ⟨t, rfl, _⟩ | ⟨t, rfl, _⟩ <;> simp
theorem GetS.more {np ng : Nat} {W l : List Int} (h : GetS np ng W l) : GetS (np + 1) ng W l := by
  rcases h with rfl | rfl | ⟨t, rfl, h1, h2⟩ | ⟨t, rfl, h1, h2⟩
  · exact .inl rfl
  · exact .inr (.inl rfl)
  · exact .inr (.inr (.inl ⟨t, rfl, by omega, h2⟩))
  · exact .inr (.inr (.inr ⟨t, rfl, by omega, h2⟩))

section
variable {c np ng : Nat} {W xs l l2 : List Int}
/-- A step of the one that puts. -/
theorem put_step (hM : MemR c np ng W xs) (hP : PutS c np ng W xs l) (hc1 : 1 ≤ c) (hc : c ≤ 16) (hn : np ≤ 1000) (hG : GetS np ng W l2) :
    ∃ A, (putT 3 c (W.getD np 0)).after l = some (Sum.inr A) ∧
      ((∃ B, (putT 3 c (W.getD np 0)).after (l ++ [ansA A.k A.a A.u xs]) = some (Sum.inr B) ∧ MemR c np ng W (aftA A.k A.a A.v A.u xs) ∧ PutS c np ng W (aftA A.k A.a A.v A.u xs) (l ++ [ansA A.k A.a A.u xs])) ∨
       ((putT 3 c (W.getD np 0)).after (l ++ [ansA A.k A.a A.u xs]) = some (Sum.inl false) ∧ MemR c np ng W (aftA A.k A.a A.v A.u xs)) ∨
       ((putT 3 c (W.getD np 0)).after (l ++ [ansA A.k A.a A.u xs]) = some (Sum.inl true) ∧ MemR c (np + 1) ng W (aftA A.k A.a A.v A.u xs) ∧ GetS (np + 1) ng W l2)) := by
  have hl := hM.len
  have hle := hM.le
  have hm := Nat.mod_lt np (show 0 < c by omega)
  rcases hP with rfl | ⟨g, rfl, hg⟩ | ⟨g, rfl, hg, hgc⟩ | ⟨g, rfl, hg, hgc, hw⟩
  · obtain ⟨⟨m, k, a, v, u, f⟩, hA, rfl, rfl, rfl, rfl⟩ := put_after0 c (W.getD np 0)
    refine ⟨_, hA, .inl ?_⟩
    obtain ⟨B, hB, _⟩ := put_after1 c (W.getD np 0) (valA xs 3)
    exact ⟨B, hB, hM, .inr (.inl ⟨ng, by rw [← hM.gone]; rfl, Nat.le_refl _⟩)⟩
  · obtain ⟨⟨m, k, a, v, u, f⟩, hA, rfl, rfl, rfl, rfl⟩ := put_after1 c (W.getD np 0) g
    refine ⟨_, hA, ?_⟩
    have e : ansA 0 4 0 xs = np := hM.all
    simp only [e]
    by_cases hf : (c : Int) ≤ wrap64 ((np : Int) - g)
    · exact .inr (.inl ⟨put_after2_full c _ g np hf, hM⟩)
    · obtain ⟨B, hB, _⟩ := put_after2 c (W.getD np 0) g np hf
      rw [w64 _ (by omega) (by omega)] at hf
      exact .inl ⟨B, hB, hM, .inr (.inr (.inl ⟨g, rfl, hg, by omega⟩))⟩
  · have hf : ¬ (c : Int) ≤ wrap64 ((np : Int) - g) := by
      rw [w64 _ (by omega) (by omega)]
      omega
    obtain ⟨⟨m, k, a, v, u, f⟩, hA, rfl, rfl, rfl, rfl⟩ := put_after2 c (W.getD np 0) g np hf
    refine ⟨_, hA, .inl ?_⟩
    obtain ⟨B, hB, _⟩ := put_after3 c (W.getD np 0) g np 0 hf
    have e : aftA 1 (wrap64 (3 + placeI c np)) (W.getD np 0) 0 xs = setA xs (5 + (np % c : Nat)) (W.getD np 0) := by rw [spot_nat hc1 hc]; rfl
    have hv : ∀ a, valA (setA xs (5 + (np % c : Nat)) (W.getD np 0)) a = if a = 5 + (np % c : Nat) then W.getD np 0 else valA xs a := fun a => valA_setA (by omega) (by omega) _ _
    simp only [e]
    refine ⟨B, hB, ⟨by rw [length_setA]; exact hl, by rw [hv, if_neg (by omega)]; exact hM.gone, by rw [hv, if_neg (by omega)]; exact hM.all, fun i h1 h2 => ?_, hM.room, hle⟩, .inr (.inr (.inr ⟨g, rfl, hg, hgc, by rw [hv, if_pos rfl]⟩))⟩
    have := mod_apart (c := c) (a := i) (b := np) h2 (by omega)
    rw [hv, if_neg (by omega)]
    exact hM.word i h1 h2
  · have hf : ¬ (c : Int) ≤ wrap64 ((np : Int) - g) := by
      rw [w64 _ (by omega) (by omega)]
      omega
    obtain ⟨⟨m, k, a, v, u, f⟩, hA, rfl, rfl, rfl, rfl⟩ := put_after3 c (W.getD np 0) g np 0 hf
    refine ⟨_, hA, .inr (.inr ⟨put_after4 c _ g np 0 _ hf, ?_, hG.more⟩)⟩
    have e : aftA 1 4 (wrap64 ((np : Int) + 1)) 0 xs = setA xs 4 (np + 1 : Nat) := by rw [w64 _ (by omega) (by omega)]; rfl
    have hv : ∀ a, valA (setA xs 4 (np + 1 : Nat)) a = if a = 4 then ((np + 1 : Nat) : Int) else valA xs a := fun a => valA_setA (by omega) (by omega) _ _
    simp only [e]
    refine ⟨by rw [length_setA]; exact hl, by rw [hv, if_neg (by omega)]; exact hM.gone, by rw [hv, if_pos rfl], fun i h1 h2 => ?_, by omega, by omega⟩
    rw [hv, if_neg (by omega)]
    by_cases hi : i = np
    · subst hi
      exact hw
    · exact hM.word i h1 (by omega)

/-- A step of the one that gets. -/
theorem get_step (hM : MemR c np ng W xs) (hG : GetS np ng W l) (hc1 : 1 ≤ c) (hc : c ≤ 16) (hn : np ≤ 1000) (hP : PutS c np ng W xs l2) :
    ∃ A, (getT 3 c).after l = some (Sum.inr A) ∧
      ((∃ B, (getT 3 c).after (l ++ [ansA A.k A.a A.u xs]) = some (Sum.inr B) ∧ aftA A.k A.a A.v A.u xs = xs ∧ GetS np ng W (l ++ [ansA A.k A.a A.u xs])) ∨
       ((getT 3 c).after (l ++ [ansA A.k A.a A.u xs]) = some (Sum.inl (0, false)) ∧ aftA A.k A.a A.v A.u xs = xs) ∨
       ((getT 3 c).after (l ++ [ansA A.k A.a A.u xs]) = some (Sum.inl (W.getD ng 0, true)) ∧ ng < np ∧ MemR c np (ng + 1) W (aftA A.k A.a A.v A.u xs) ∧ PutS c np (ng + 1) W (aftA A.k A.a A.v A.u xs) l2)) := by
  have hl := hM.len
  have hle := hM.le
  rcases hG with rfl | rfl | ⟨t, rfl, ht, htg⟩ | ⟨t, rfl, ht, htg⟩
  · obtain ⟨⟨m, k, a, v, u, f⟩, hA, rfl, rfl, rfl, rfl⟩ := get_after0 c
    refine ⟨_, hA, .inl ?_⟩
    obtain ⟨B, hB, _⟩ := get_after1 c (valA xs 3)
    exact ⟨B, hB, rfl, .inr (.inl (by rw [← hM.gone]; rfl))⟩
  · obtain ⟨⟨m, k, a, v, u, f⟩, hA, rfl, rfl, rfl, rfl⟩ := get_after1 c ng
    refine ⟨_, hA, ?_⟩
    have e : ansA 0 4 0 xs = np := hM.all
    simp only [e]
    by_cases hf : wrap64 ((np : Int) - ng) ≤ 0
    · exact .inr (.inl ⟨get_after2_none c ng np hf, rfl⟩)
    · obtain ⟨B, hB, _⟩ := get_after2 c ng np hf
      rw [w64 _ (by omega) (by omega)] at hf
      exact .inl ⟨B, hB, rfl, .inr (.inr (.inl ⟨np, rfl, Nat.le_refl _, by omega⟩))⟩
  · have hf : ¬ wrap64 ((t : Int) - ng) ≤ 0 := by
      rw [w64 _ (by omega) (by omega)]
      omega
    obtain ⟨⟨m, k, a, v, u, f⟩, hA, rfl, rfl, rfl, rfl⟩ := get_after2 c ng t hf
    refine ⟨_, hA, .inl ?_⟩
    have e : ansA 0 (wrap64 (3 + placeI c ng)) 0 xs = W.getD ng 0 := by
      rw [spot_nat hc1 hc]
      exact hM.word ng (Nat.le_refl _) (by omega)
    simp only [e]
    obtain ⟨B, hB, _⟩ := get_after3 c ng t (W.getD ng 0) hf
    exact ⟨B, hB, rfl, .inr (.inr (.inr ⟨t, rfl, ht, htg⟩))⟩
  · have hf : ¬ wrap64 ((t : Int) - ng) ≤ 0 := by
      rw [w64 _ (by omega) (by omega)]
      omega
    obtain ⟨⟨m, k, a, v, u, f⟩, hA, rfl, rfl, rfl, rfl⟩ := get_after3 c ng t (W.getD ng 0) hf
    refine ⟨_, hA, .inr (.inr ⟨get_after4 c ng t _ _ hf, by omega, ?_⟩)⟩
    have e : aftA 1 3 (wrap64 ((ng : Int) + 1)) 0 xs = setA xs 3 (ng + 1 : Nat) := by rw [w64 _ (by omega) (by omega)]; rfl
    have hv : ∀ a, valA (setA xs 3 (ng + 1 : Nat)) a = if a = 3 then ((ng + 1 : Nat) : Int) else valA xs a := fun a => valA_setA (by omega) (by omega) _ _
    have hr := hM.room
    simp only [e]
    refine ⟨⟨by rw [length_setA]; exact hl, by rw [hv, if_pos rfl], by rw [hv, if_neg (by omega)]; exact hM.all, fun i h1 h2 => ?_, by omega, by omega⟩, ?_⟩
    · rw [hv, if_neg (by omega)]
      exact hM.word i (by omega) h2
    · rcases hP with rfl | ⟨g, rfl, h1⟩ | ⟨g, rfl, h1, h2⟩ | ⟨g, rfl, h1, h2, h3⟩
      · exact .inl rfl
      · exact .inr (.inl ⟨g, rfl, by omega⟩)
      · exact .inr (.inr (.inl ⟨g, rfl, by omega, h2⟩))
      · exact .inr (.inr (.inr ⟨g, rfl, by omega, h2, by rw [hv, if_neg (by omega)]; exact h3⟩))
end
theorem memR_new {c : Nat} {W : List Int} : MemR c 0 0 W (List.replicate 30 0) := ⟨rfl, rfl, rfl, fun _ _ h => absurd h (Nat.not_lt_zero _), Nat.zero_le _, Nat.le_refl _⟩
end Go.Sept

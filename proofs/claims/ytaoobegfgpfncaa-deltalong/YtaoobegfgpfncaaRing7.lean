/-
  Timers' lists in words, as plain mathematics: what Insert, Remove of the first one, and Due of none leave. Conditions: the nodes are those of septumlaw07 (10, 13, .. 37), the head is 2. No program is named here.
-/
import Derived.Test.YtaoobegfgpfncaaDelta7
namespace Go.Sept
open Go.RowKit

theorem w64 (n : Int) (h : -9223372036854775808 ≤ n) (h2 : n ≤ 9223372036854775807) : wrap64 n = n := by unfold wrap64; omega

theorem valA_setA {xs : List Int} {a : Int} (h0 : 0 ≤ a) (h1 : a < xs.length) (v c : Int) : valA (setA xs a v) c = if c = a then v else valA xs c := by
  obtain ⟨k, rfl⟩ : ∃ k : Nat, a = k := ⟨a.toNat, by omega⟩
  have hk : k < xs.length := by omega
  have ok : okA xs (k : Int) = true := by simp [okA]; omega
  by_cases hc : c = (k : Int)
  · subst hc
    rw [if_pos rfl]
    simp [valA, setA, okA, hk]
  · rw [if_neg hc]
    unfold valA setA
    rw [if_pos ok]
    have e : okA (xs.set (k : Int).toNat v) c = okA xs c := by simp [okA]
    rw [e]
    split
    · rename_i h9
      have h8 : 0 ≤ c := by simp [okA] at h9; omega
      have : k ≠ c.toNat := by omega
      simp [List.getD_eq_getElem?_getD, this]
    · rfl

/-- The place of a timer's node. -/
def IsNode (n : Int) : Prop := 10 ≤ n ∧ n ≤ 37 ∧ n % 3 = 1
/-- A timer: its node, and in how many ticks it is due. -/
abbrev Tm : Type := Int × Int
def Chain (xs : List Int) : Int → Int → List Tm → Prop
  | a, _, [] => valA xs a = 2 ∧ valA xs 3 = a
  | a, b, x :: L => valA xs a = x.1 ∧ valA xs (x.1 + 1) = a ∧ valA xs (x.1 + 2) = x.2 - b ∧ Chain xs x.1 x.2 L
def Small (t : Int) : Prop := 0 ≤ t ∧ t < 1152921504606846976
def Fine (L : List Tm) : Prop := ∀ x ∈ L, IsNode x.1 ∧ Small x.2
/-- The node is none of the list's. -/
def Out (n : Int) (L : List Tm) : Prop := ∀ x ∈ L, x.1 ≠ n
def Apart : List Tm → Prop
  | [] => True
  | x :: L => Out x.1 L ∧ Apart L

theorem Chain.keep {xs ys : List Int} : ∀ {L : List Tm} {a b : Int}, Chain xs a b L → valA ys a = valA xs a → valA ys 3 = valA xs 3 → (∀ x ∈ L, valA ys x.1 = valA xs x.1 ∧ valA ys (x.1 + 1) = valA xs (x.1 + 1) ∧ valA ys (x.1 + 2) = valA xs (x.1 + 2)) → Chain ys a b L
  | [], _, _, h, h1, h2, _ => ⟨h1.trans h.1, h2.trans h.2⟩
  | x :: _, _, _, h, h1, h2, h3 => ⟨h1.trans h.1, (h3 x (List.mem_cons_self ..)).2.1.trans h.2.1, (h3 x (List.mem_cons_self ..)).2.2.trans h.2.2.1,
      Chain.keep h.2.2.2 (h3 x (List.mem_cons_self ..)).1 h2 (fun y hy => h3 y (List.mem_cons_of_mem _ hy))⟩

/-- A timer that is inserted, behind all that are due no later. -/
def ins (n t : Int) : List Tm → List Tm
  | [] => [(n, t)]
  | x :: L => if t < x.2 then (n, t) :: x :: L else x :: ins n t L
/-- Which one is the next behind it, and when the one ahead is due. -/
def spot (t : Int) : Int → List Tm → Int × Int
  | b, [] => (2, b)
  | b, x :: L => if t < x.2 then (x.1, b) else spot t x.2 L

theorem mem_ins {n t : Int} {x : Tm} : ∀ {L : List Tm}, x ∈ ins n t L → x = (n, t) ∨ x ∈ L
  | [], h => .inl (by simpa [ins] using h)
  | y :: L, h => by
    rw [ins] at h
    split at h
    · rcases List.mem_cons.1 h with h | h
      · exact .inl h
      · exact .inr h
    · rcases List.mem_cons.1 h with h | h
      · exact .inr (h ▸ List.mem_cons_self ..)
      · rcases mem_ins h with h | h
        · exact .inl h
        · exact .inr (List.mem_cons_of_mem _ h)
theorem length_ins (n t : Int) : ∀ L : List Tm, (ins n t L).length = L.length + 1
  | [] => rfl
  | x :: L => by
    rw [ins]
    split
    · rfl
    · rw [List.length_cons, length_ins n t L, List.length_cons]
theorem Apart.ins {n t : Int} : ∀ {L : List Tm}, Apart L → Out n L → Apart (ins n t L)
  | [], _, _ => ⟨fun _ h => (List.not_mem_nil h).elim, trivial⟩
  | x :: L, h, ho => by
    rw [Sept.ins]
    split
    · exact ⟨ho, h⟩
    · refine ⟨fun y hy => ?_, Apart.ins h.2 (fun y hy => ho y (List.mem_cons_of_mem _ hy))⟩
      rcases mem_ins hy with rfl | hy
      · exact fun e => ho x (List.mem_cons_self ..) e.symm
      · exact h.1 y hy
theorem Fine.ins {n t : Int} {L : List Tm} (h : Fine L) (hn : IsNode n) (ht : Small t) : Fine (ins n t L) := fun x hx => by
  rcases mem_ins hx with rfl | hx
  · exact ⟨hn, ht⟩
  · exact h x hx
theorem Out.ins {m n t : Int} {L : List Tm} (h : Out m L) (hn : n ≠ m) : Out m (ins n t L) := fun x hx => by
  rcases mem_ins hx with rfl | hx
  · exact hn
  · exact h x hx
theorem spot_small {t : Int} : ∀ {L : List Tm} {b : Int}, Fine L → Small b → Small (spot t b L).2
  | [], _, _, hb => hb
  | x :: L, b, hf, hb => by
    rw [spot]
    split
    · exact hb
    · exact spot_small (fun y hy => hf y (List.mem_cons_of_mem _ hy)) (hf x (List.mem_cons_self ..)).2
theorem spot_in {t : Int} : ∀ {L : List Tm} {b : Int}, (spot t b L).1 = 2 ∨ ∃ x ∈ L, x.1 = (spot t b L).1
  | [], _ => .inl rfl
  | x :: L, b => by
    rw [spot]
    split
    · exact .inr ⟨x, List.mem_cons_self .., rfl⟩
    · rcases spot_in (t := t) (L := L) (b := x.2) with h | ⟨y, hy, e⟩
      · exact .inl h
      · exact .inr ⟨y, List.mem_cons_of_mem _ hy, e⟩
/-- The one ahead of it. -/
theorem spot_prev {xs : List Int} {t : Int} : ∀ {L : List Tm} {a b : Int}, Chain xs a b L → valA xs ((spot t b L).1 + 1) = a ∨ ∃ x ∈ L, x.1 = valA xs ((spot t b L).1 + 1)
  | [], _, _, h => .inl h.2
  | x :: L, a, b, h => by
    rw [spot]
    split
    · exact .inl h.2.1
    · rcases spot_prev (t := t) h.2.2.2 with h | ⟨y, hy, e⟩
      · exact .inr ⟨x, List.mem_cons_self .., h.symm⟩
      · exact .inr ⟨y, List.mem_cons_of_mem _ hy, e⟩

/-- What an insertion leaves, word by word. -/
def Laid (xs ys : List Int) (n t nx b p : Int) : Prop := ∀ c, valA ys c = if nx ≠ 2 ∧ c = nx + 2 then valA xs c - (t - b) else if c = n + 2 then t - b else if c = nx + 1 then n else if c = n then nx else if c = n + 1 then p else if c = p then n else valA xs c

set_option maxHeartbeats 4000000 in
theorem Chain.ins {xs ys : List Int} {n t : Int} (hn : IsNode n) : ∀ {L : List Tm} {a b : Int}, Chain xs a b L → Fine L → Apart L → Out n L → Out a L → a ≠ n → (a = 2 ∨ IsNode a) → Laid xs ys n t (spot t b L).1 (spot t b L).2 (valA xs ((spot t b L).1 + 1)) → Chain ys a b (ins n t L)
  | [], a, b, h, _, _, _, _, ha, hk, hl => by
    have e1 : valA xs 3 = a := h.2
    simp only [spot] at hl
    rw [show valA xs (2 + 1) = a from e1] at hl
    unfold IsNode at *
    have g1 := hl a
    have g2 := hl (n + 1)
    have g3 := hl (n + 2)
    have g4 := hl n
    have g5 := hl 3
    refine ⟨?_, ?_, ?_, ?_, ?_⟩
    · rw [g1]; repeat' split
      all_goals omega
    · rw [g2]; repeat' split
      all_goals omega
    · rw [g3]; repeat' split
      all_goals omega
    · rw [g4]; repeat' split
      all_goals omega
    · rw [g5]; repeat' split
      all_goals omega
  | x :: L, a, b, h, hf, hap, ho, hoa, ha, hk, hl => by
    obtain ⟨h1, h2, h3, h4⟩ := h
    have hx := (hf x (List.mem_cons_self ..)).1
    have hxn := ho x (List.mem_cons_self ..)
    have hxa := hoa x (List.mem_cons_self ..)
    rw [Sept.ins]
    rw [spot] at hl
    split
    · rename_i hlt
      rw [if_pos hlt] at hl
      simp only [h2] at hl
      unfold IsNode at *
      refine ⟨?_, ?_, ?_, ?_, ?_, ?_, ?_⟩
      · rw [hl]; repeat' split
        all_goals omega
      · rw [hl]; repeat' split
        all_goals omega
      · rw [hl]; repeat' split
        all_goals omega
      · rw [hl]; repeat' split
        all_goals omega
      · rw [hl]; repeat' split
        all_goals omega
      · rw [hl]; repeat' split
        all_goals omega
      · refine h4.keep ?_ ?_ ?_
        · rw [hl]; repeat' split
          all_goals omega
        · rw [hl]; repeat' split
          all_goals omega
        · intro y hy
          have k1 := (hf y (List.mem_cons_of_mem _ hy)).1
          have k2 := ho y (List.mem_cons_of_mem _ hy)
          have k3 := hoa y (List.mem_cons_of_mem _ hy)
          have k4 := hap.1 y hy
          unfold IsNode at k1
          refine ⟨?_, ?_, ?_⟩
          · rw [hl]; repeat' split
            all_goals omega
          · rw [hl]; repeat' split
            all_goals omega
          · rw [hl]; repeat' split
            all_goals omega
    · rename_i hlt
      rw [if_neg hlt] at hl
      have ih := Chain.ins hn h4 (fun y hy => hf y (List.mem_cons_of_mem _ hy)) hap.2 (fun y hy => ho y (List.mem_cons_of_mem _ hy)) hap.1 hxn (.inr hx) hl
      have s1 := spot_in (t := t) (L := L) (b := x.2)
      have s2 := spot_prev (t := t) h4
      have q1 : (spot t x.2 L).1 = 2 ∨ (IsNode (spot t x.2 L).1 ∧ (spot t x.2 L).1 ≠ x.1 ∧ (spot t x.2 L).1 ≠ a) := by
        rcases s1 with s1 | ⟨y, hy, e⟩
        · exact .inl s1
        · exact .inr ⟨e ▸ (hf y (List.mem_cons_of_mem _ hy)).1, e ▸ hap.1 y hy, e ▸ hoa y (List.mem_cons_of_mem _ hy)⟩
      have q2 : IsNode (valA xs ((spot t x.2 L).1 + 1)) ∧ valA xs ((spot t x.2 L).1 + 1) ≠ a := by
        rcases s2 with s2 | ⟨y, hy, e⟩
        · rw [s2]; exact ⟨hx, hxa⟩
        · exact ⟨e ▸ (hf y (List.mem_cons_of_mem _ hy)).1, e ▸ hoa y (List.mem_cons_of_mem _ hy)⟩
      clear s1 s2
      generalize spot t x.2 L = z at *
      generalize valA xs (z.1 + 1) = pp at *
      unfold IsNode at *
      refine ⟨?_, ?_, ?_, ih⟩
      · rw [hl]; repeat' split
        all_goals omega
      · rw [hl]; repeat' split
        all_goals omega
      · rw [hl]; repeat' split
        all_goals omega
end Go.Sept

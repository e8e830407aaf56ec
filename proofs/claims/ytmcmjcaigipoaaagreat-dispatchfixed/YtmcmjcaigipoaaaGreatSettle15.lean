/-
  Who runs behind dispatches, as plain mathematics: when each core has dispatched, and the first one again, those run that should. Conditions: those that are ready are told apart; who is fixed is ready; no thread runs twice.
-/
import Derived.Test.YtmcmjcaigipoaaaGreatQueue13
import Derived.Test.YtmcmjcaigipoaaaGreatModel15
import Derived.Test.YtmcmjcaigipoaaaGreatBest14
import Derived.BigQuiet
namespace Go.Sept
open Go.RowKit
theorem bestF_take (n : Nat) (but : List Int) : ∀ (L out : List Int), bestF (n : Int) but out L = out ++ (L.filter (fun x => !but.contains x)).take (n - out.length) := by
  intro L
  induction L with
  | nil => intro out; simp [bestF]
  | cons x r ih =>
    intro out
    rw [bestF]
    by_cases hb : but.contains x = true
    · rw [if_neg (fun h => by rw [hb] at h; exact Bool.noConfusion h.2), ih, List.filter_cons_of_neg (by rw [hb]; decide)]
    · have hb' : but.contains x = false := by simpa using hb
      by_cases hn : out.length < n
      · rw [if_pos ⟨by omega, hb'⟩, ih, List.filter_cons_of_pos (by rw [hb']; rfl), List.length_append, List.length_singleton]
        obtain ⟨k, hk⟩ : ∃ k, n - out.length = k + 1 := ⟨n - out.length - 1, by omega⟩
        rw [hk, show n - (out.length + 1) = k by omega, List.take_succ_cons, List.append_assoc]
        rfl
      · rw [if_neg (fun h => hn (by omega)), ih, show n - out.length = 0 by omega, List.take_zero, List.take_zero]
/-- The best of those that are ready, less who is fixed. -/
def best2 (L F : List Int) : List Int := bestF (2 - (F.length : Int)) F [] L
theorem best2_nil (L : List Int) : best2 L [] = L.take 2 := by
  have h := bestF_take 2 [] L []
  have e : (L.filter (fun x => !([] : List Int).contains x)) = L := List.filter_eq_self.2 (fun a _ => rfl)
  rw [e, List.nil_append] at h
  exact h
theorem best2_one (L : List Int) (c : Int) : best2 L [c] = (L.filter (fun x => !(x == c))).take 1 := by
  have h := bestF_take 1 [c] L []
  have e : (L.filter (fun x => !([c] : List Int).contains x)) = L.filter (fun x => !(x == c)) := List.filter_congr (fun x _ => by cases h : (x == c) <;> simp_all)
  rw [e, List.nil_append] at h
  exact h
theorem best2_two (L : List Int) (c d : Int) : best2 L [c, d] = [] := by
  have h := bestF_take 0 [c, d] L []
  rw [List.nil_append, Nat.zero_sub, List.take_zero] at h
  exact h
def firstNot (o : Int) : List Int → Int
  | [] => -1
  | x :: r => if x = o then firstNot o r else x
/-- Who runs on a core behind a dispatch. -/
def dispM (L : List Int) (fx : Int → Bool) (own other : Int) : Int :=
  if fx own = true ∨ own ∈ best2 L ([own, other].filter fx) then own else firstNot other (best2 L ([own, other].filter fx))
/-- Those run that should. -/
def ShouldM (L : List Int) (fx : Int → Bool) (a b : Int) : Prop :=
  ((([a, b].filter (fun t => decide (0 ≤ t))).length = (best2 L ([a, b].filter fx) ++ [a, b].filter fx).length) ∧ ¬ (a = b ∧ 0 ≤ a)) ∧ ∀ t ∈ [a, b], 0 ≤ t → t ∈ best2 L ([a, b].filter fx) ++ [a, b].filter fx
theorem one_two {x y : Int} {r : List Int} (hn : (x :: y :: r).Nodup) (c : Int) : best2 (x :: y :: r) [c] = if c = x then [y] else [x] := by
  rw [best2_one]
  have hxy : x ≠ y := by simp at hn; exact hn.1.1
  by_cases h : c = x
  · subst h
    have h2 : ¬ y = c := fun e => hxy e.symm
    simp [h2]
  · have h2 : ¬ x = c := fun e => h e.symm
    simp [h, h2]
theorem one_one (x c : Int) : best2 [x] [c] = if c = x then [] else [x] := by
  rw [best2_one]
  by_cases h : c = x
  · subst h; simp
  · have h2 : ¬ x = c := fun e => h e.symm
    simp [h, h2]
theorem filter_two (fx : Int → Bool) (a b : Int) : [a, b].filter fx = if fx a = true then (if fx b = true then [a, b] else [a]) else (if fx b = true then [b] else []) := by
  cases ha : fx a <;> cases hb : fx b <;> simp [ha, hb]
/-- The other one of two. -/
def otherV (x y c : Int) : Int := if c = x then y else x
section
variable {x y : Int} {r : List Int} {fx : Int → Bool}
theorem disp_two (hn : (x :: y :: r).Nodup) (a b : Int) : dispM (x :: y :: r) fx a b = if fx a = true then a else if fx b = true then otherV x y b else if a = x ∨ a = y then a else otherV x y b := by
  have hxy : x ≠ y := by simp at hn; exact hn.1.1
  unfold dispM
  rw [filter_two]
  by_cases fa : fx a = true
  · rw [if_pos (.inl fa), if_pos fa]
  · rw [if_neg fa, if_neg fa]
    by_cases fb : fx b = true
    · rw [if_pos fb, if_pos fb, one_two hn]
      unfold otherV
      by_cases hb : b = x
      · rw [if_pos hb, if_pos hb]
        by_cases ha : a = y
        · rw [if_pos (.inr (by simp [ha]))]
          exact ha
        · rw [if_neg (by simp [fa, ha])]
          rw [firstNot, if_neg (fun e => hxy (by rw [e, hb]))]
      · rw [if_neg hb, if_neg hb]
        by_cases ha : a = x
        · rw [if_pos (.inr (by simp [ha]))]
          exact ha
        · rw [if_neg (by simp [fa, ha])]
          rw [firstNot, if_neg (fun e => hb e.symm)]
    · rw [if_neg fb, if_neg fb, best2_nil]
      by_cases ha : a = x ∨ a = y
      · rw [if_pos ha, if_pos (.inr (by simpa using ha))]
      · rw [if_neg ha, if_neg (by simp at ha; simp [fa, ha])]
        unfold otherV
        by_cases hb : b = x
        · have hyb : ¬ y = b := fun e => hxy (by rw [e, hb])
          simp [firstNot, hb.symm, hyb]
        · have hxb : ¬ x = b := fun e => hb e.symm
          simp [firstNot, hb, hxb]
theorem should_of (hn : (x :: y :: r).Nodup) {a b : Int} (ha : 0 ≤ a) (hb : 0 ≤ b) (hab : a ≠ b)
    (h : fx a = true ∧ fx b = true ∨ fx a = true ∧ b = otherV x y a ∨ fx b = true ∧ a = otherV x y b ∨ (a = x ∧ b = y ∨ a = y ∧ b = x)) : ShouldM (x :: y :: r) fx a b := by
  have hxy : x ≠ y := by simp at hn; exact hn.1.1
  have hal : ([a, b].filter (fun t => decide (0 ≤ t))) = [a, b] := by simp [ha, hb]
  unfold ShouldM
  rw [hal, filter_two]
  refine ⟨⟨?_, fun e => hab e.1⟩, fun t ht _ => ?_⟩
  · cases fa : fx a <;> cases fb : fx b <;> simp [best2_nil, one_two hn, best2_two] <;> (try split) <;> simp
  · have hW : ∀ t, t = a ∨ t = b → t ∈ best2 (x :: y :: r) (if fx a = true then (if fx b = true then [a, b] else [a]) else (if fx b = true then [b] else [])) ++ (if fx a = true then (if fx b = true then [a, b] else [a]) else (if fx b = true then [b] else [])) := by
      unfold otherV at h
      intro t ht
      cases fa : fx a with
      | true =>
        cases fb : fx b with
        | true => simp [best2_two]; exact ht
        | false =>
          simp only [fa, fb, Bool.false_eq_true, if_true, if_false, false_and, and_false, true_and, false_or] at h ⊢
          rw [one_two hn]
          rcases ht with rfl | rfl
          · simp
          · rcases h with h | ⟨h1, h2⟩ | ⟨h1, h2⟩
            · split at h <;> split <;> simp_all
            · rw [if_pos h1, h2]; simp
            · rw [if_neg (by rw [h1]; exact fun e => hxy e.symm), h2]; simp
      | false =>
        cases fb : fx b with
        | true =>
          simp only [fa, fb, Bool.false_eq_true, if_true, if_false, false_and, true_and, false_or] at h ⊢
          rw [one_two hn]
          rcases ht with rfl | rfl
          · rcases h with h | ⟨h1, h2⟩ | ⟨h1, h2⟩
            · split at h <;> split <;> simp_all
            · rw [if_neg (by rw [h2]; exact fun e => hxy e.symm), h1]; simp
            · rw [if_pos h2, h1]; simp
          · simp
        | false =>
          simp only [fa, fb, Bool.false_eq_true, if_false, false_and, and_false, false_or] at h ⊢
          rw [best2_nil]
          rcases ht with rfl | rfl <;> rcases h with ⟨h1, h2⟩ | ⟨h1, h2⟩ <;> simp_all
    exact hW t (by simpa using ht)
end
theorem settle2 {x y : Int} {r : List Int} {fx : Int → Bool} (hn : (x :: y :: r).Nodup) (hx : 0 ≤ x) (hy : 0 ≤ y) (h0 : ∀ t, fx t = true → 0 ≤ t) {a b : Int} (hab : a = b → a = -1) :
    ShouldM (x :: y :: r) fx (dispM (x :: y :: r) fx (dispM (x :: y :: r) fx a b) (dispM (x :: y :: r) fx b (dispM (x :: y :: r) fx a b))) (dispM (x :: y :: r) fx b (dispM (x :: y :: r) fx a b)) := by
  have hxy : x ≠ y := by simp at hn; exact hn.1.1
  have hyx : y ≠ x := fun e => hxy e.symm
  have ho : ∀ c, 0 ≤ otherV x y c ∧ otherV x y c ≠ c := fun c => by
    unfold otherV
    split
    · rename_i e; exact ⟨hy, by rw [e]; exact hyx⟩
    · rename_i e; exact ⟨hx, fun e2 => e e2.symm⟩
  have ox : otherV x y x = y := if_pos rfl
  have oy : otherV x y y = x := if_neg hyx
  -- who runs behind the first two
  have key : ∀ a1 b1 : Int, (a1 = x ∧ b1 = y ∨ a1 = y ∧ b1 = x) → ShouldM (x :: y :: r) fx (dispM (x :: y :: r) fx a1 b1) b1 := by
    intro a1 b1 h
    have e : dispM (x :: y :: r) fx a1 b1 = a1 := by
      rw [disp_two hn]
      rcases h with ⟨rfl, rfl⟩ | ⟨rfl, rfl⟩
      · rw [oy]; simp
      · rw [ox]; simp
    rw [e]
    rcases h with ⟨rfl, rfl⟩ | ⟨rfl, rfl⟩
    · exact should_of hn hx hy hxy (.inr (.inr (.inr (.inl ⟨rfl, rfl⟩))))
    · exact should_of hn hy hx hyx (.inr (.inr (.inr (.inr ⟨rfl, rfl⟩))))
  obtain ⟨a1, ha1⟩ : ∃ a1, dispM (x :: y :: r) fx a b = a1 := ⟨_, rfl⟩
  obtain ⟨b1, hb1⟩ : ∃ b1, dispM (x :: y :: r) fx b a1 = b1 := ⟨_, rfl⟩
  rw [ha1, hb1]
  rw [disp_two hn] at ha1 hb1
  by_cases fa : fx a = true
  · rw [if_pos fa] at ha1
    subst ha1
    have e : dispM (x :: y :: r) fx a b1 = a := by rw [disp_two hn, if_pos fa]
    rw [e]
    by_cases fb : fx b = true
    · rw [if_pos fb] at hb1
      subst hb1
      exact should_of hn (h0 _ fa) (h0 _ fb) (fun e => by have := hab e; have := h0 _ fa; omega) (.inl ⟨fa, fb⟩)
    · rw [if_neg fb, if_pos fa] at hb1
      subst hb1
      exact should_of hn (h0 _ fa) (ho a).1 (fun e => (ho a).2 e.symm) (.inr (.inl ⟨fa, rfl⟩))
  · rw [if_neg fa] at ha1
    by_cases fb : fx b = true
    · rw [if_pos fb] at ha1 hb1
      subst hb1
      have e : dispM (x :: y :: r) fx a1 b = a1 := by
        rw [disp_two hn, if_pos fb, ← ha1]
        split <;> rfl
      rw [e, ← ha1]
      exact should_of hn (ho b).1 (h0 _ fb) (ho b).2 (.inr (.inr (.inl ⟨fb, rfl⟩)))
    · rw [if_neg fb] at ha1 hb1
      refine key a1 b1 ?_
      by_cases haxy : a = x ∨ a = y
      · rw [if_pos haxy] at ha1
        subst ha1
        rw [if_neg fa] at hb1
        by_cases hbxy : b = x ∨ b = y
        · rw [if_pos hbxy] at hb1
          subst hb1
          rcases haxy with rfl | rfl <;> rcases hbxy with rfl | rfl
          · have := hab rfl; omega
          · exact .inl ⟨rfl, rfl⟩
          · exact .inr ⟨rfl, rfl⟩
          · have := hab rfl; omega
        · rw [if_neg hbxy] at hb1
          rcases haxy with rfl | rfl
          · rw [ox] at hb1; exact .inl ⟨rfl, hb1.symm⟩
          · rw [oy] at hb1; exact .inr ⟨rfl, hb1.symm⟩
      · rw [if_neg haxy] at ha1
        by_cases hbx : b = x
        · subst hbx
          rw [ox] at ha1
          subst ha1
          refine .inr ⟨rfl, ?_⟩
          rw [oy] at hb1
          simp at hb1
          exact hb1.symm
        · have ea : a1 = x := by rw [← ha1]; exact if_neg hbx
          subst ea
          refine .inl ⟨rfl, ?_⟩
          rw [ox] at hb1
          split at hb1
          · exact hb1.symm
          · split at hb1
            · rename_i h9
              rcases h9 with h9 | h9
              · exact absurd h9 hbx
              · rw [← hb1, h9]
            · exact hb1.symm
set_option maxHeartbeats 4000000 in
theorem settle {L : List Int} {fx : Int → Bool} (hn : L.Nodup) (hf : ∀ t, fx t = true → t ∈ L) (h0 : ∀ t ∈ L, 0 ≤ t) {a b : Int} (hab : a = b → a = -1) :
    ShouldM L fx (dispM L fx (dispM L fx a b) (dispM L fx b (dispM L fx a b))) (dispM L fx b (dispM L fx a b)) := by
  have hp : ∀ t, fx t = true → 0 ≤ t := fun t ht => h0 t (hf t ht)
  have fm : fx (-1) = false := by
    cases h : fx (-1) with
    | false => rfl
    | true => have := hp _ h; omega
  match L, hn, hf, h0 with
  | [], _, hf, _ =>
    have fn : ∀ t, fx t = false := fun t => by
      cases h : fx t with
      | false => rfl
      | true => have := hf t h; simp at this
    simp [dispM, ShouldM, best2_nil, firstNot, fn]
  | [x], _, hf, h0 =>
    have hx : 0 ≤ x := h0 x (by simp)
    have fn : ∀ t, t ≠ x → fx t = false := fun t ht => by
      cases h : fx t with
      | false => rfl
      | true => have := hf t h; simp at this; exact absurd this ht
    have hx1 : x ≠ -1 := by omega
    have D : ∀ a b : Int, dispM [x] fx a b = if a = x then x else if b = x then -1 else x := by
      intro a b
      unfold dispM
      rw [filter_two]
      by_cases hax : a = x
      · subst hax
        rw [if_pos rfl]
        cases fa : fx a with
        | true => rw [if_pos (.inl rfl)]
        | false =>
          cases fb : fx b with
          | true =>
            have hne : b ≠ a := fun e => by rw [e, fa] at fb; cases fb
            exact absurd fb (by rw [fn b hne]; exact Bool.noConfusion)
          | false => rw [if_pos (.inr (by simp [best2_nil]))]
      · rw [if_neg hax, fn a hax]
        cases fb : fx b with
        | true =>
          have hbx : b = x := by
            by_cases e : b = x
            · exact e
            · rw [fn b e] at fb; cases fb
          subst hbx
          simp [one_one, firstNot]
        | false =>
          by_cases hbx : b = x
          · subst hbx
            simp [best2_nil, firstNot, hax]
          · have hxb : ¬ x = b := fun e => hbx e.symm
            simp [best2_nil, firstNot, hax, hbx, hxb]
    have S1 : ShouldM [x] fx x (-1) := by
      unfold ShouldM
      rw [filter_two fx, fm]
      cases hfx : fx x <;> simp [best2_nil, one_one, hx, hx1]
    have S2 : ShouldM [x] fx (-1) x := by
      unfold ShouldM
      rw [filter_two fx, fm]
      have hx2 : ¬ -1 = x := fun e => hx1 e.symm
      cases hfx : fx x <;> simp [best2_nil, one_one, hx, hx2]
    by_cases hax : a = x
    · have hbx : b ≠ x := fun e => by have := hab (hax.trans e.symm); omega
      have e1 : dispM [x] fx a b = x := by rw [D, if_pos hax]
      have e2 : dispM [x] fx b x = -1 := by rw [D, if_neg hbx, if_pos rfl]
      have e3 : dispM [x] fx x (-1) = x := by rw [D, if_pos rfl]
      rw [e1, e2, e3]
      exact S1
    · by_cases hbx : b = x
      · have e1 : dispM [x] fx a b = -1 := by rw [D, if_neg hax, if_pos hbx]
        have e2 : dispM [x] fx b (-1) = x := by rw [D, if_pos hbx]
        have e3 : dispM [x] fx (-1) x = -1 := by rw [D, if_neg (fun e => hx1 e.symm), if_pos rfl]
        rw [e1, e2, e3]
        exact S2
      · have e1 : dispM [x] fx a b = x := by rw [D, if_neg hax, if_neg hbx]
        have e2 : dispM [x] fx b x = -1 := by rw [D, if_neg hbx, if_pos rfl]
        have e3 : dispM [x] fx x (-1) = x := by rw [D, if_pos rfl]
        rw [e1, e2, e3]
        exact S1
  | x :: y :: r, hn, hf, h0 => exact settle2 hn (h0 x (by simp)) (h0 y (by simp)) hp hab

theorem best2_swap (L : List Int) (fx : Int → Bool) (a b : Int) : best2 L ([b, a].filter fx) = best2 L ([a, b].filter fx) := by
  rw [filter_two, filter_two]
  cases fa : fx a <;> cases fb : fx b <;> simp [best2_two]
theorem should_swap {L : List Int} {fx : Int → Bool} {a b : Int} (h : ShouldM L fx a b) : ShouldM L fx b a := by
  obtain ⟨⟨h1, h2⟩, h3⟩ := h
  unfold ShouldM
  rw [best2_swap]
  have hl : ∀ f : Int → Bool, ([b, a].filter f).length = ([a, b].filter f).length := fun f => by
    rw [filter_two, filter_two]
    cases fa : f a <;> cases fb : f b <;> simp
  have hm : ∀ t, t ∈ [b, a].filter fx ↔ t ∈ [a, b].filter fx := fun t => by
    simp only [List.mem_filter, List.mem_cons, List.not_mem_nil, or_false]
    constructor
    · rintro ⟨h | h, k⟩
      · exact ⟨.inr h, k⟩
      · exact ⟨.inl h, k⟩
    · rintro ⟨h | h, k⟩
      · exact ⟨.inr h, k⟩
      · exact ⟨.inl h, k⟩
  refine ⟨⟨?_, fun e => h2 ⟨e.1.symm, by rw [← e.1]; exact e.2⟩⟩, fun t ht h0 => ?_⟩
  · rw [hl, List.length_append, hl fx, ← List.length_append]
    exact h1
  · have h9 := h3 t (by simp at ht ⊢; exact ht.symm) h0
    rw [List.mem_append] at h9 ⊢
    rw [hm]
    exact h9
end Go.Sept

/-
  The model's Fixed, and Should: whether those run that should. Conditions: the model's lists and priorities are some.
-/
namespace Go.Sept
open Go.RowKit
/-- Is a thread that runs? -/
def fxM (n : Nat) (s : Sim14) (hd : Nat → Nat) (t : Int) : Bool := decide (0 ≤ t ∧ t < n) && (decide (s.st t.toNat = 0) && decide (0 < hd t.toNat))
theorem fxM_out {n : Nat} {s : Sim14} {hd : Nat → Nat} {t : Int} (h : ¬ (0 ≤ t ∧ t < n)) : fxM n s hd t = false := by
  unfold fxM
  rw [decide_eq_false h, Bool.false_and]
theorem fxM_in {n : Nat} {s : Sim14} {hd : Nat → Nat} {t : Nat} (h : t < n) : fxM n s hd (t : Int) = (decide (s.st t = 0) && decide (0 < hd t)) := by
  unfold fxM
  rw [decide_eq_true (show (0 : Int) ≤ (t : Int) ∧ (t : Int) < n by omega), Bool.true_and, Int.toNat_natCast]
theorem tail_mem15 (qs : Nat → List Int) : ∀ (l : Nat) {x : Int}, x ∈ tailL qs l → ∃ q, q < l ∧ x ∈ qs q := by
  intro l
  induction l with
  | zero => exact fun hx => absurd hx (by simp [tailL])
  | succ l ih =>
    intro x hx
    rw [tailL] at hx
    rcases List.mem_append.1 hx with hx | hx
    · exact ⟨l, Nat.lt_succ_self l, hx⟩
    · obtain ⟨q, hq, hx⟩ := ih hx
      exact ⟨q, by omega, hx⟩
theorem best_mem15 {N : Int} {but : List Int} {x : Int} : ∀ (L l : List Int), x ∈ bestF N but l L → x ∈ l ∨ x ∈ L := by
  intro L
  induction L with
  | nil => exact fun l h => .inl h
  | cons a r ih =>
    intro l h
    rw [bestF] at h
    rcases ih _ h with h | h
    · split at h
      · rcases List.mem_append.1 h with h | h
        · exact .inl h
        · exact .inr (by rw [List.mem_singleton] at h; rw [h]; exact List.mem_cons_self ..)
      · exact .inl h
    · exact .inr (List.mem_cons_of_mem _ h)
theorem take_two {a b : Int} {j : Nat} {c : Int} (hc : [a, b][j]? = some c) : [a, b].take (j + 1) = [a, b].take j ++ [c] := by
  rw [List.take_add_one, hc]
  rfl
end Go.Sept
namespace Go.Proofs.YtmcmjcaigipoaaaGreat
open Go.RowKit Go.Sept

/-- Two slices of ints that grow, in new blocks. -/
structure Pair15 (B : Nat) (w : World) (v1 v2 : Value) (xs ys : List Int) : Prop where
  o1 : ∃ b, Own13 w v1 b xs
  o2 : ∃ b, Own13 w v2 b ys
  s1 : ∀ k, v1.ownBlock = some k → B ≤ k ∧ v2.ownBlock ≠ some k
  s2 : ∀ k, v2.ownBlock = some k → B ≤ k
section
variable {B : Nat} {w w' : World} {v1 v2 v' : Value} {xs ys zs : List Int} {b b' : Nat}
theorem Pair15.still (h : Pair15 B w v1 v2 xs ys) (ho : Only (fun _ => False) w w') : Pair15 B w' v1 v2 xs ys := by
  obtain ⟨⟨b1, h1⟩, ⟨b2, h2⟩, h3, h4⟩ := h
  exact ⟨⟨b1, Grow.only h1 ho (fun h => h)⟩, ⟨b2, Grow.only h2 ho (fun h => h)⟩, h3, h4⟩
theorem Pair15.push1 (h : Pair15 B w v1 v2 xs ys) (hB : B ≤ w.heap.size) (hg : Own13 w' v' b' zs) (ho : Only (fun k => v1.ownBlock = some k) w w') (hs : v'.ownBlock = some b') (hb : v1.ownBlock = some b ∨ (v1.ownBlock = none ∧ w.heap.size ≤ b)) (hb' : b' = b ∨ w.heap.size ≤ b') : Pair15 B w' v' v2 zs ys := by
  obtain ⟨_, ⟨b2, h2⟩, h3, h4⟩ := h
  have hcase : v1.ownBlock = some b' ∨ w.heap.size ≤ b' := by
    rcases hb' with rfl | h9
    · rcases hb with h8 | h8
      · exact .inl h8
      · exact .inr h8.2
    · exact .inr h9
  refine ⟨⟨b', hg⟩, ⟨b2, Grow.keep14 h2 ho (fun k hk e => (h3 k e).2 hk)⟩, fun k hk => ?_, h4⟩
  rw [hs] at hk
  injection hk with hk
  subst hk
  rcases hcase with h9 | h9
  · exact h3 _ h9
  · refine ⟨by omega, fun e => ?_⟩
    have := Grow.low14 h2 e
    omega
theorem Pair15.push2 (h : Pair15 B w v1 v2 xs ys) (hB : B ≤ w.heap.size) (hg : Own13 w' v' b' zs) (ho : Only (fun k => v2.ownBlock = some k) w w') (hs : v'.ownBlock = some b') (hb : v2.ownBlock = some b ∨ (v2.ownBlock = none ∧ w.heap.size ≤ b)) (hb' : b' = b ∨ w.heap.size ≤ b') : Pair15 B w' v1 v' xs zs := by
  obtain ⟨⟨b1, h1⟩, _, h3, h4⟩ := h
  have hcase : v2.ownBlock = some b' ∨ w.heap.size ≤ b' := by
    rcases hb' with rfl | h9
    · rcases hb with h8 | h8
      · exact .inl h8
      · exact .inr h8.2
    · exact .inr h9
  refine ⟨⟨b1, Grow.keep14 h1 ho (fun k hk e => (h3 k hk).2 e)⟩, ⟨b', hg⟩, fun k hk => ⟨(h3 k hk).1, fun e => ?_⟩, fun k hk => ?_⟩
  · rw [hs] at e
    injection e with e
    subst e
    rcases hcase with h9 | h9
    · exact (h3 _ hk).2 h9
    · have := Grow.low14 h1 hk
      omega
  · rw [hs] at hk
    injection hk with hk
    subst hk
    rcases hcase with h9 | h9
    · exact h4 _ h9
    · omega
/-- The cells of a list. -/
theorem sl_news {P : Nat → Prop} {ao : Option Addr} {n cap : Nat} {l : List Int} (h : SlOf P 1 intE w (.slice ao n cap) l) : (∀ j u, (l.map (Value.int .i64))[j]? = some u → ∃ a, ao = some a ∧ w.cell? (a.add j) = some u) ∧ ∀ u ∈ l.map (Value.int .i64), u.oneCell' = true := by
  constructor
  · intro j u hj
    rw [List.getElem?_map] at hj
    cases hx : l[j]? with
    | none => rw [hx] at hj; cases hj
    | some x =>
      rw [hx] at hj
      have hj' : Value.int .i64 x = u := by simpa using hj
      obtain ⟨ao', cap', h1, _, b2, off, h3⟩ := h
      obtain ⟨h4, _, h5⟩ := h3 j x hx
      injection h1 with h1 _ _
      refine ⟨⟨b2, off, none⟩, h1.trans h4, ?_⟩
      rw [show (⟨b2, off, none⟩ : Addr).add j = ⟨b2, off + j * 1, none⟩ by unfold Addr.add; split <;> simp_all, ← hj']
      exact h5.1
  · intro u hu
    obtain ⟨x, _, rfl⟩ := List.mem_map.1 hu
    rfl
end

set_option maxRecDepth 100000 in
set_option maxHeartbeats 2000000 in
theorem has15 {R : Nat → Option Value} {L : Nat} (w : World) (M bt n cap : Nat) (s : Sim14) (h : Mods R L w M bt n cap s) (t : Int) : Calls Tryz.prog 86 #[.pointer (some ⟨M, 0, none⟩), .int .i64 t] w fun e w' => e = .returned (.bool (decide (0 ≤ t ∧ t < n))) ∧ w' = w := by
  obtain ⟨hc1, hc2, e2, _⟩ := h.cells
  have hn := h.size
  clear h
  obtain ⟨V, hV⟩ : ∃ V, decide (0 ≤ t ∧ t < (n : Int)) = V := ⟨_, rfl⟩
  rw [hV]
  have HV := hid hV
  clear hV
  go_enter Tryz.func86, Tryz.ntmps86
  by_cases h0 : 0 ≤ t
  · by_cases h1 : t < (n : Int)
    · have hv : V = true := by rw [← HV.out]; exact decide_eq_true ⟨h0, h1⟩
      subst hv
      clear HV
      go_wp2_with fail
      go_ret
      exact ⟨by first | rfl | simp, rfl⟩
    · have hv : V = false := by rw [← HV.out]; exact decide_eq_false (fun h => h1 h.2)
      subst hv
      clear HV
      go_wp2_with fail
      go_ret
      exact ⟨by first | rfl | simp, rfl⟩
  · have hv : V = false := by rw [← HV.out]; exact decide_eq_false (fun h => h0 h.1)
    subst hv
    clear HV
    go_wp2_with fail
    go_ret
    exact ⟨by first | rfl | simp, rfl⟩

set_option maxRecDepth 100000 in
set_option maxHeartbeats 2000000 in
theorem fixed15 {R : Nat → Option Value} {L : Nat} (w : World) (M bt n cap : Nat) (s : Sim14) (hd : Nat → Nat) (h : Mods R L w M bt n cap s) (hH : Held15 R n hd) (t : Int) : Calls Tryz.prog 48 #[.pointer (some ⟨M, 0, none⟩), .int .i64 t] w fun e w' => e = .returned (.bool (fxM n s hd t)) ∧ w' = w := by
  have HAS := hid (has15 w M bt n cap s h t)
  obtain ⟨hc1, hc2, e2, hth⟩ := h.cells
  have hn := h.size
  by_cases ht : 0 ≤ t ∧ t < (n : Int)
  · obtain ⟨i, rfl⟩ : ∃ i : Nat, t = (i : Int) := ⟨t.toNat, by omega⟩
    have hi : i < n := by omega
    rw [decide_eq_true ht] at HAS
    rw [fxM_in hi]
    obtain ⟨k0, _, _, _⟩ := hth i hi
    obtain ⟨ao, c, hR, hc3, hc4⟩ := hH i hi
    obtain ⟨k11, _⟩ := h.cell (t := i) (i := 11) (by decide) (by decide) (by decide) hR
    clear h hH hth ht hR
    by_cases h0 : s.st i = 0
    · rw [decide_eq_true h0, Bool.true_and]
      rw [h0] at k0
      clear h0
      by_cases h1 : 0 < hd i
      · rw [decide_eq_true h1]
        have h2 : (0 : Int) < (hd i : Int) := by omega
        go_enter Tryz.func48, Tryz.ntmps48
        go_wp2_with fail
        refine HAS.out.mono ?_
        rintro e w1 ⟨rfl, rfl⟩
        clear HAS
        go_wp2_with fail
        go_ret
        exact ⟨by first | rfl | simp [h1], rfl⟩
      · rw [decide_eq_false h1]
        have h2 : hd i = 0 := by omega
        rw [h2] at k11 hc3
        clear h1 h2
        go_enter Tryz.func48, Tryz.ntmps48
        go_wp2_with fail
        refine HAS.out.mono ?_
        rintro e w1 ⟨rfl, rfl⟩
        clear HAS
        go_wp2_with fail
        go_ret
        exact ⟨by first | rfl | simp, rfl⟩
    · rw [decide_eq_false h0, Bool.false_and]
      have hb : (s.st i == 0) = false := beq_eq_false_iff_ne.2 h0
      clear h0 k11
      go_enter Tryz.func48, Tryz.ntmps48
      go_wp2_with fail
      refine HAS.out.mono ?_
      rintro e w1 ⟨rfl, rfl⟩
      clear HAS
      go_wp2_with fail
      go_ret
      exact ⟨rfl, rfl⟩
  · rw [decide_eq_false ht] at HAS
    rw [fxM_out ht]
    clear h hH hth ht
    go_enter Tryz.func48, Tryz.ntmps48
    go_wp2_with fail
    refine HAS.out.mono ?_
    rintro e w1 ⟨rfl, rfl⟩
    clear HAS
    go_wp2_with fail
    go_ret
    exact ⟨rfl, rfl⟩
set_option maxRecDepth 100000 in
set_option maxHeartbeats 2000000 in
theorem should15 {R : Nat → Option Value} {L : Nat} (w : World) (M bt n cap : Nat) (s : Sim14) (hd : Nat → Nat) (h : Mods R L w M bt n cap s) (hH : Held15 R n hd) (hlen : (ordN s.qs 16).length ≤ 1000) (hq : ∀ p, p < 16 → ∀ x ∈ s.qs p, -9223372036854775808 ≤ x ∧ x ≤ 9223372036854775807) (a c1 : Int) (ha : -9223372036854775808 ≤ a ∧ a ≤ 9223372036854775807) (hc1 : -9223372036854775808 ≤ c1 ∧ c1 ≤ 9223372036854775807) (hS : ShouldM (ordN s.qs 16) (fxM n s hd) a c1) :
    Calls Tryz.prog 15 #[.pointer (some ⟨M, 0, none⟩), .agg #[.int .i64 a, .int .i64 c1]] w fun e w' => e = .returned (.bool true) ∧ Only (fun _ => False) w w' := by
  have hW : ∃ W z, W = w.alloc (.cells #[.int .i64 a, .int .i64 c1] 29) ∧ z = w.heap.size ∧ Only (fun _ => False) w W ∧ W.heap[z]? = some (.cells #[.int .i64 a, .int .i64 c1] 29) := ⟨_, _, rfl, rfl, (Only.refl _ _).alloc _, heap_new _ _⟩
  obtain ⟨W, z, hWe, hze, hoW, hbz⟩ := hW
  have HO := hid hoW
  have HMO : Hid (∀ wx, Only (fun _ => False) W wx → Mods R L wx M bt n cap s) := fun wx ho => (h.only hoW (fun h => h) (fun h => h) (fun _ _ h => h)).only ho (fun h => h) (fun h => h) (fun _ _ h => h)
  have HH := hid hH
  have HC : Hid (∀ wx, Only (fun _ => False) W wx → ∀ j : Nat, j < 2 → ∃ c, [a, c1][j]? = some c ∧ wx.cell? ⟨z, j, none⟩ = some (.int .i64 c)) := fun wx ho j hj => by
    have h9 := (ho.block z (lt_of_block hbz) (fun h => h)).trans hbz
    match j, hj with
    | 0, _ => exact ⟨a, rfl, cell_of_block h9 0⟩
    | 1, _ => exact ⟨c1, rfl, cell_of_block h9 1⟩
  have HS := hid hS
  have HLEN := hid hlen
  have HQ := hid hq
  have HAB : Hid (∀ x ∈ [a, c1], -9223372036854775808 ≤ x ∧ x ≤ 9223372036854775807) := fun x hx => by
    simp only [List.mem_cons, List.not_mem_nil, or_false] at hx
    rcases hx with rfl | rfl
    · exact ha
    · exact hc1
  obtain ⟨fx, hfx⟩ : ∃ fx, fxM n s hd = fx := ⟨_, rfl⟩
  have HFX : Hid (∀ wx t, Only (fun _ => False) W wx → Calls Tryz.prog 48 #[.pointer (some ⟨M, 0, none⟩), .int .i64 t] wx fun e w' => e = .returned (.bool (fx t)) ∧ w' = wx) := fun wx t ho => by
    have h9 := fixed15 wx M bt n cap s hd (HMO.out wx ho) hH t
    rw [hfx] at h9
    exact h9
  have HFN : Hid (∀ t, fx t = true → 0 ≤ t) := fun t ht => by
    by_cases h0 : 0 ≤ t ∧ t < (n : Int)
    · exact h0.1
    · rw [← hfx, fxM_out h0] at ht
      cases ht
  rw [hfx] at HS
  clear h hH hoW hbz hS hlen hq ha hc1 hfx
  go_enter Tryz.func15, Tryz.ntmps15
  go_upto_region 1 with fail
  rw [← hWe, ← hze]
  clear hWe hze
  go_wp2_with fail
  go_loopw [5, 6, 10] (fun vf va i wx => ∃ j : Nat, i = .int .i64 (j : Int) ∧ j ≤ 2 ∧ Pair15 W.heap.size wx va vf (([a, c1].take j).filter (fun t => decide (0 ≤ t))) (([a, c1].take j).filter fx) ∧ Only (fun _ => False) W wx) (fun _ _ i _ => 2 - (intOf i).toNat)
  case atStart => exact ⟨0, rfl, by decide, ⟨⟨0, Grow.nil _ _ _ _⟩, ⟨0, Grow.nil _ _ _ _⟩, fun k hk => (by cases hk), fun k hk => (by cases hk)⟩, Only.refl _ _⟩
  case round =>
    obtain ⟨j, rfl, hj, hp, hox⟩ := hrel
    have HP := hid hp
    have HX := hid hox
    obtain ⟨bA, hoA⟩ := hp.o1
    obtain ⟨bF, hoF⟩ := hp.o2
    obtain ⟨aA, cA, rfl, _⟩ := Grow.shape hoA
    obtain ⟨aF, cF, rfl, _⟩ := Grow.shape hoF
    obtain ⟨XA, hXA⟩ : ∃ X, ([a, c1].take j).filter (fun t => decide (0 ≤ t)) = X := ⟨_, rfl⟩
    obtain ⟨XF, hXF⟩ : ∃ X, ([a, c1].take j).filter fx = X := ⟨_, rfl⟩
    have hlA : XA.length ≤ 2 := by rw [← hXA]; exact Nat.le_trans (List.length_filter_le _ _) (Nat.le_trans (List.length_take_le _ _) hj)
    have hlF : XF.length ≤ 2 := by rw [← hXF]; exact Nat.le_trans (List.length_filter_le _ _) (Nat.le_trans (List.length_take_le _ _) hj)
    have HXA := hid hXA
    have HXF := hid hXF
    rw [hXA, hXF] at HP ⊢
    obtain ⟨nA, hnA⟩ : ∃ nA, XA.length = nA := ⟨_, rfl⟩
    obtain ⟨nF, hnF⟩ : ∃ nF, XF.length = nF := ⟨_, rfl⟩
    have HNA := hid hnA
    have HNF := hid hnF
    rw [hnA] at hlA HP ⊢
    rw [hnF] at hlF HP ⊢
    clear hp hox hoA hoF hXA hXF hnA hnF
    by_cases hlt : (j : Int) < 2
    · obtain ⟨c, hc, hcell⟩ := HC.out wr HX.out j (by omega)
      have HTK := hid (take_two hc)
      clear hc
      by_cases h0 : 0 ≤ c
      · have HA1 : Hid (([a, c1].take (j + 1)).filter (fun t => decide (0 ≤ t)) = XA ++ [c]) := by
          show _ = _
          rw [HTK.out, List.filter_append, HXA.out]
          simp [h0]
        have HPA := hid (HP.out.still ((Only.refl (fun _ => False) _).alloc (.cells #[.int .i64 c] 3)))
        obtain ⟨b1, hown1⟩ := HPA.out.o1
        obtain ⟨b2, hg2, hb2⟩ := Grow.spot14 hown1
        rw [HNA.out] at hg2
        have HG2 := hid hg2
        have HB2 := hid hb2
        clear hown1 hg2 hb2
        go_wp2_with (at_builtin; refine wpList_append_grown _ rfl (.tmp 17) (.tmp 21) 30 rfl 3 _ 1 8 Tryz.underlying30 infoInt13 rfl (by decide) (.slice aA nA cA) b2 nA ((XA).map (Value.int .i64)) rfl HG2.out ⟨_, 0, none⟩ 1 1 [.int .i64 c] rfl (by decide) rfl (news_of_block (heap_new _ (.cells #[.int .i64 c] 3))) (one_int13 _) (by unfold maxLen; omega) (by omega) ?_)
        intro b' cap' wp h1 h2 h30
        have h3 : b' = b2 ∨ (wr.alloc (.cells #[.int .i64 c] 3)).heap.size ≤ b' := by first | exact h30 | (rw [World.size_alloc]; exact h30)
        have HG3 : Hid (Own13 wp (.slice (some ⟨b', 0, none⟩) (nA + 1 : Nat) cap') b' (XA ++ [c])) := by
          show Grow 3 1 _ _ _ _ _
          rw [List.length_append, List.length_singleton, HNA.out, List.map_append]
          exact h1
        have HP2 := hid (HPA.out.push1 (Nat.le_trans HX.out.size (by simp)) HG3.out h2 rfl HB2.out h3)
        have HX2 : Hid (Only (fun _ => False) W wp) := (HX.out.alloc (.cells #[.int .i64 c] 3)).chain h2 (fun i hi e => by have := (HPA.out.s1 i e).1; omega)
        obtain ⟨c2, hc2, hcell2⟩ := HC.out wp HX2.out j (by omega)
        obtain rfl : c2 = c := by
          have h9 := take_two hc2
          rw [HTK.out] at h9
          have h8 := List.append_cancel_left h9
          injection h8 with h8
          exact h8.symm
        clear h1 h2 h3 h30 HG2 HB2 HPA HP HG3 hcell hc2
        go_wp2_with fail
        refine (HFX.out wp c2 HX2.out).mono ?_
        rintro e wq ⟨rfl, rfl⟩
        clear hcell2
        cases hfc : fx c2
        · have HF1 : Hid (([a, c1].take (j + 1)).filter fx = XF) := by
            show _ = _
            rw [HTK.out, List.filter_append, HXF.out]
            simp [hfc]
          have HE : Hid (Pair15 W.heap.size wq (.slice (some ⟨b', 0, none⟩) (nA + 1 : Nat) cap') (.slice aF nF cF) (([a, c1].take (j + 1)).filter (fun t => decide (0 ≤ t))) (([a, c1].take (j + 1)).filter fx)) := by
            rw [HA1.out, HF1.out]
            exact HP2.out
          clear HP2
          go_wp2_with fail
          go_roundw
          case rel => exact ⟨j + 1, by go_num, by omega, HE.out, HX2.out⟩
          case measure => simp [intOf]; omega
        · have HF1 : Hid (([a, c1].take (j + 1)).filter fx = XF ++ [c2]) := by
            show _ = _
            rw [HTK.out, List.filter_append, HXF.out]
            simp [hfc]
          clear hfc
          have HPB := hid (HP2.out.still ((Only.refl (fun _ => False) _).alloc (.cells #[.int .i64 c2] 3)))
          obtain ⟨b3, hown3⟩ := HPB.out.o2
          obtain ⟨b4, hg4, hb4⟩ := Grow.spot14 hown3
          rw [HNF.out] at hg4
          have HG4 := hid hg4
          have HB4 := hid hb4
          obtain ⟨cc, hcc, hcell3⟩ := HC.out wq HX2.out j (by omega)
          obtain rfl : cc = c2 := by
            have h9 := take_two hcc
            rw [HTK.out] at h9
            have h8 := List.append_cancel_left h9
            injection h8 with h8
            exact h8.symm
          clear hown3 hg4 hb4 hcc
          go_wp2_with (at_builtin; refine wpList_append_grown _ rfl (.tmp 28) (.tmp 32) 30 rfl 3 _ 1 8 Tryz.underlying30 infoInt13 rfl (by decide) (.slice aF nF cF) b4 nF (XF.map (Value.int .i64)) rfl HG4.out ⟨_, 0, none⟩ 1 1 [.int .i64 cc] rfl (by decide) rfl (news_of_block (heap_new _ (.cells #[.int .i64 cc] 3))) (one_int13 _) (by unfold maxLen; omega) (by omega) ?_)
          intro b'' cap'' wr2 h1 h2 h30
          have h3 : b'' = b4 ∨ (wq.alloc (.cells #[.int .i64 cc] 3)).heap.size ≤ b'' := by first | exact h30 | (rw [World.size_alloc]; exact h30)
          have HG5 : Hid (Own13 wr2 (.slice (some ⟨b'', 0, none⟩) (nF + 1 : Nat) cap'') b'' (XF ++ [cc])) := by
            show Grow 3 1 _ _ _ _ _
            rw [List.length_append, List.length_singleton, HNF.out, List.map_append]
            exact h1
          have HP3 := hid (HPB.out.push2 (Nat.le_trans HX2.out.size (by simp)) HG5.out h2 rfl HB4.out h3)
          have HX3 : Hid (Only (fun _ => False) W wr2) := (HX2.out.alloc (.cells #[.int .i64 cc] 3)).chain h2 (fun i hi e => by have := HPB.out.s2 i e; omega)
          have HE : Hid (Pair15 W.heap.size wr2 (.slice (some ⟨b', 0, none⟩) (nA + 1 : Nat) cap') (.slice (some ⟨b'', 0, none⟩) (nF + 1 : Nat) cap'') (([a, c1].take (j + 1)).filter (fun t => decide (0 ≤ t))) (([a, c1].take (j + 1)).filter fx)) := by
            rw [HA1.out, HF1.out]
            exact HP3.out
          clear h1 h2 h3 h30 HG4 HB4 HPB HP2 HG5 HP3 hcell3
          go_wp2_with fail
          go_roundw
          case rel => exact ⟨j + 1, by go_num, by omega, HE.out, HX3.out⟩
          case measure => simp [intOf]; omega
      · have HA1 : Hid (([a, c1].take (j + 1)).filter (fun t => decide (0 ≤ t)) = XA) := by
          show _ = _
          rw [HTK.out, List.filter_append, HXA.out]
          simp [h0]
        go_wp2_with fail
        refine (HFX.out wr c HX.out).mono ?_
        rintro e wq ⟨rfl, rfl⟩
        cases hfc : fx c
        · have HF1 : Hid (([a, c1].take (j + 1)).filter fx = XF) := by
            show _ = _
            rw [HTK.out, List.filter_append, HXF.out]
            simp [hfc]
          have HE : Hid (Pair15 W.heap.size wq (.slice aA nA cA) (.slice aF nF cF) (([a, c1].take (j + 1)).filter (fun t => decide (0 ≤ t))) (([a, c1].take (j + 1)).filter fx)) := by
            rw [HA1.out, HF1.out]
            exact HP.out
          clear HP
          go_wp2_with fail
          go_roundw
          case rel => exact ⟨j + 1, by go_num, by omega, HE.out, HX.out⟩
          case measure => simp [intOf]; omega
        · exact absurd (HFN.out _ hfc) (by omega)
    · have hj2 : j = 2 := by omega
      subst hj2
      have HXA2 : Hid ([a, c1].filter (fun t => decide (0 ≤ t)) = XA) := HXA.out
      have HXF2 : Hid ([a, c1].filter fx = XF) := HXF.out
      have hss := HS.out
      unfold ShouldM at hss
      rw [HXA2.out, HXF2.out] at hss
      obtain ⟨⟨hl1, hl2⟩, hl3⟩ := hss
      obtain ⟨BB, hBB⟩ : ∃ BB, best2 (ordN s.qs 16) XF = BB := ⟨_, rfl⟩
      rw [hBB] at hl1 hl3
      have HBB := hid hBB
      have HL1 := hid hl1
      have HL2 := hid hl2
      have HL3 := hid hl3
      have HFS : Hid (∃ g, SlOf (fun k => k = g) 1 intE wr (.slice aF nF cF) XF) := by
        obtain ⟨g, hg⟩ := HP.out.o2
        exact ⟨g, Own13.sl hg (fun x hx => by rw [← HXF2.out] at hx; exact HAB.out x (List.mem_filter.1 hx).1)⟩
      have HBE : Hid (∀ wx, Only (fun _ => False) wr wx → Calls Tryz.prog 49 #[.pointer (some ⟨M, 0, none⟩), .int .i64 (2 - (nF : Int)), .slice aF nF cF] wx fun e w' => ∃ v b, e = .returned v ∧ Own13 w' v b BB ∧ wx.heap.size ≤ b ∧ Only (fun _ => False) wx w') := fun wx ho => by
        obtain ⟨g, hg⟩ := HFS.out
        have h9 := best13 wx M s.qs (2 - (nF : Int)) (.slice aF nF cF) XF (HMO.out wx (HX.out.chain ho (fun _ _ h => h))).lst HLEN.out HQ.out (hg.only (stay_int ho (fun _ _ h => h)))
        have e : bestF (2 - (nF : Int)) XF [] (ordN s.qs 16) = BB := by rw [← HBB.out, ← HNF.out]; rfl
        rw [e] at h9
        exact h9
      clear hl1 hl2 hl3 hBB HXA HXF
      go_wp2_with fail
      refine (HBE.out wr (Only.refl _ _)).mono ?_
      rintro e w5 ⟨vB, bB, rfl, hownB, hbB, ho5⟩
      obtain ⟨aB, cB, rfl, _⟩ := Grow.shape hownB
      obtain ⟨nB, hnB⟩ : ∃ nB, BB.length = nB := ⟨_, rfl⟩
      have HNB := hid hnB
      have HFS5 := hid (HFS.out.choose_spec.only (stay_int ho5 (fun _ _ h => h)))
      have HP5 := hid (HP.out.still ho5)
      have HX5 := hid (HX.out.chain ho5 (fun _ _ h => h))
      have HNWS := hid (sl_news HFS5.out)
      have HGB : Hid (Grow 3 1 w5 (.slice aB nB cB) bB nB (BB.map (Value.int .i64))) := by
        have h9 := hownB
        unfold Own13 at h9
        rw [hnB] at h9
        exact h9
      have HBL : Hid (wr.heap.size ≤ bB) := hbB
      have HOR : Hid (Only (fun _ => False) wr w5) := ho5
      have hB1 : nA = nB + nF := by
        have h9 := HL1.out
        rw [List.length_append, HNA.out, HNB.out, HNF.out] at h9
        exact h9
      have hnB2 : nB ≤ 2 := by omega
      have HBS := hid hB1
      rw [hnB]
      clear hownB hbB ho5 hnB HBE hB1
      go_wp2_with (at_builtin; refine wpList_append_any _ rfl (.tmp 40) (.tmp 41) 30 rfl 3 _ 1 8 Tryz.underlying30 infoInt13 rfl (by decide) (.slice aB nB cB) bB nB (BB.map (Value.int .i64)) rfl HGB.out aF nF cF (XF.map (Value.int .i64)) rfl (by rw [List.length_map, HNF.out, Nat.mul_one]) HNWS.out.1 HNWS.out.2 (by unfold maxLen; omega) (by omega) ?_)
      intro vW bW w6 h1 h2 h3
      have HOW : Hid (Own13 w6 vW bW (BB ++ XF)) := by
        show Grow 3 1 _ _ _ _ _
        rw [List.length_append, HNB.out, HNF.out, List.map_append]
        exact h1
      have HX6 : Hid (Only (fun _ => False) W w6) := HX5.out.chain h2 (fun i hi e => by
        have e1 := HGB.out.spot i e
        have e2 := HBL.out
        have e3 := HX.out.size
        omega)
      have HA6 : Hid (∃ bA, Own13 w6 (.slice aA nA cA) bA XA) := by
        obtain ⟨bA, hA⟩ := HP5.out.o1
        obtain ⟨bA2, hA2⟩ := HP.out.o1
        exact ⟨bA, Grow.keep14 hA h2 (fun k hk e => by
          have e1 := HGB.out.spot k e
          have e2 := HBL.out
          have e3 := Grow.low14 hA2 hk
          omega)⟩
      have HBD : Hid (∀ x ∈ BB ++ XF, -9223372036854775808 ≤ x ∧ x ≤ 9223372036854775807) := fun x hx => by
        rcases List.mem_append.1 hx with hx | hx
        · rw [← HBB.out] at hx
          rcases best_mem15 _ _ hx with hx | hx
          · cases hx
          · rw [ordN_all] at hx
            obtain ⟨q, hq, hx⟩ := tail_mem15 _ _ hx
            exact HQ.out q hq x hx
        · rw [← HXF2.out] at hx
          exact HAB.out x (List.mem_filter.1 hx).1
      have HSW := hid (Own13.sl HOW.out HBD.out)
      obtain ⟨aW, cW, rfl, _⟩ := Grow.shape HOW.out
      have hlW : (BB ++ XF).length = nA := by rw [List.length_append, HNB.out, HNF.out]; exact HBS.out.symm
      rw [hlW] at HSW ⊢
      have HXM : Hid (∀ x ∈ XA, x ∈ BB ++ XF) := fun x hx => by
        rw [← HXA2.out] at hx
        obtain ⟨k1, k2⟩ := List.mem_filter.1 hx
        exact HL3.out x k1 (of_decide_eq_true k2)
      have hself : ((nA : Int) != (nA : Int)) = false := by simp
      have HFIN : Hid (∀ wz, Only (fun _ => False) w6 wz → Only (fun _ => False) w wz) := fun wz ho => HO.out.chain (HX6.out.chain ho (fun _ _ h => h)) (fun _ _ h => h)
      have HA7 : Hid (∀ wz, Only (fun _ => False) w6 wz → ∀ j : Nat, j < nA → ∃ x bq, XA[j]? = some x ∧ aA = some ⟨bq, 0, none⟩ ∧ wz.cell? ⟨bq, j, none⟩ = some (.int .i64 x)) := fun wz ho j hj => by
        obtain ⟨bA, hA⟩ := HA6.out
        have hA' := Grow.only hA ho (fun h => h)
        obtain ⟨cp, hv, _, _, hc⟩ := Grow.cells hA' (by rw [HNA.out]; omega)
        injection hv with hv _ _
        have hx : XA[j]? = some (XA[j]'(by rw [HNA.out]; exact hj)) := List.getElem?_eq_getElem _
        exact ⟨_, bA, hx, hv, hc j _ (by rw [List.getElem?_map, hx]; rfl)⟩
      have HSW7 : Hid (∀ wz, Only (fun _ => False) w6 wz → SlOf (fun k => k = bW) 1 intE wz (.slice aW nA cW) (BB ++ XF)) := fun wz ho => HSW.out.only (stay_int ho (fun _ _ h => h))
      clear h1 h2 h3 hlW HOW HSW HGB HNWS HFS5 HP5 HP HBS
      go_wp2_with fail
      by_cases hA2 : nA = 2
      · subst hA2
        obtain ⟨x0, bq, hx0, rfl, q0⟩ := HA7.out w6 (Only.refl _ _) 0 (by decide)
        obtain ⟨x1, bq1, hx1, hbq, q1⟩ := HA7.out w6 (Only.refl _ _) 1 (by decide)
        injection hbq with hbq
        injection hbq with hbq _ _
        subst hbq
        have hne : (x0 == x1) = false := by
          have e9 : XA = [a, c1] := by
            have h9 := HXA2.out
            rw [filter_two] at h9
            have h8 := HNA.out
            rw [← h9] at h8 ⊢
            cases da : decide (0 ≤ a) <;> cases db : decide (0 ≤ c1) <;> simp [da, db] at h8 ⊢
          have ha0 : 0 ≤ a := by
            have h9 := HXA2.out
            rw [e9] at h9
            have h8 : a ∈ [a, c1].filter (fun t => decide (0 ≤ t)) := by rw [h9]; exact List.mem_cons_self ..
            exact of_decide_eq_true (List.mem_filter.1 h8).2
          rw [e9] at hx0 hx1
          injection hx0 with hx0
          injection hx1 with hx1
          rw [← hx0, ← hx1]
          exact beq_eq_false_iff_ne.2 (fun e => HL2.out ⟨e, ha0⟩)
        have hself2 : ((2 : Int) != (2 : Int)) = false := by decide
        have hself3 : (((2 : Nat) : Int) == (2 : Int)) = true := by decide
        have hself4 : (((2 : Nat) : Int) != ((2 : Nat) : Int)) = false := by decide
        clear hx0 hx1 hself
        go_quiet (fail)
        obtain ⟨Y, hY⟩ : ∃ Y, w6.drewN nq = Y := ⟨_, rfl⟩
        have HY : Hid (Only (fun _ => False) w6 Y) := by rw [← hY]; exact only_drewN (Only.refl _ _) nq
        rw [hY]
        clear hY q0 q1 hne hself2 hself3 hself4
        go_wp2_with fail
        go_loopw [64] (fun i wx => ∃ j : Nat, i = .int .i64 (j : Int) ∧ j ≤ 2 ∧ wx = Y) (fun i _ => 2 - (intOf i).toNat)
        case atStart => exact ⟨0, rfl, Nat.zero_le _, rfl⟩
        case round =>
          obtain ⟨j, rfl, hj, rfl⟩ := hrel
          by_cases hlt : (j : Int) < (2 : Int)
          · obtain ⟨x, bx, hx, hbx, hcx⟩ := HA7.out wr HY.out j (by omega)
            have HXX : Hid ((BB ++ XF).contains x = true) := by
              show _ = _
              rw [List.contains_iff_mem]
              exact HXM.out x (List.mem_of_getElem? hx)
            injection hbx with hbx; injection hbx with hbx _ _; subst hbx
            clear hx
            go_wp2_with fail
            refine (has13 _ _ (BB ++ XF) x (HSW7.out _ HY.out)).mono ?_
            rintro e w9 ⟨rfl, rfl⟩
            rw [HXX.out]
            clear hcx
            go_wp2_with fail
            go_roundw
            case rel => exact ⟨j + 1, by go_num, by omega, trivial⟩
            case measure => simp [intOf]; omega
          · go_wp2_with fail
            go_ret
            exact ⟨rfl, HFIN.out _ HY.out⟩
      · have hne2 : ((nA : Int) == 2) = false := beq_eq_false_iff_ne.2 (by omega)
        go_quiet (fail)
        obtain ⟨Y, hY⟩ : ∃ Y, w6.drewN nq = Y := ⟨_, rfl⟩
        have HY : Hid (Only (fun _ => False) w6 Y) := by rw [← hY]; exact only_drewN (Only.refl _ _) nq
        rw [hY]
        clear hY hne2 hself
        go_wp2_with fail
        go_loopw [64] (fun i wx => ∃ j : Nat, i = .int .i64 (j : Int) ∧ j ≤ nA ∧ wx = Y) (fun i _ => nA - (intOf i).toNat)
        case atStart => exact ⟨0, rfl, Nat.zero_le _, rfl⟩
        case round =>
          obtain ⟨j, rfl, hj, rfl⟩ := hrel
          by_cases hlt : (j : Int) < (nA : Int)
          · obtain ⟨x, bx, hx, hbx, hcx⟩ := HA7.out wr HY.out j (by omega)
            have HXX : Hid ((BB ++ XF).contains x = true) := by
              show _ = _
              rw [List.contains_iff_mem]
              exact HXM.out x (List.mem_of_getElem? hx)
            subst hbx
            clear hx
            go_wp2_with fail
            refine (has13 _ _ (BB ++ XF) x (HSW7.out _ HY.out)).mono ?_
            rintro e w9 ⟨rfl, rfl⟩
            rw [HXX.out]
            clear hcx
            go_wp2_with fail
            go_roundw
            case rel => exact ⟨j + 1, by go_num, by omega, trivial⟩
            case measure => simp [intOf]; omega
          · go_wp2_with fail
            go_ret
            exact ⟨rfl, HFIN.out _ HY.out⟩
end Go.Proofs.YtmcmjcaigipoaaaGreat

/-
  What the trees of delta's calls do alone, over words that hold a timers' list. Conditions: the nodes are those of septumlaw07, the head is 2. No program is named here.
-/
import Derived.Test.YtaoobegfgpfncaaRing7
namespace Go.Sept
open Go.RowKit

theorem next_none {xs : List Int} {h n : Int} (e : valA xs n = h) : (nextT h n).alone xs = ((0, false), xs, 1) := by
  have e0 : (nextT h n).alone xs = ((if (false || (valA xs n == h)) = true then (0, false) else (valA xs n, true)), xs, 1) := rfl
  rw [e0, e]
  simp
theorem next_some {xs : List Int} {h n m : Int} (e : valA xs n = m) (hm : m ≠ h) : (nextT h n).alone xs = ((m, true), xs, 1) := by
  have e0 : (nextT h n).alone xs = ((if (false || (valA xs n == h)) = true then (0, false) else (valA xs n, true)), xs, 1) := rfl
  rw [e0, e]
  simp [hm]
theorem load_alone (xs : List Int) (a : Int) : (loadT a).alone xs = (valA xs a, xs, 1) := rfl
theorem store_alone (xs : List Int) (a v : Int) : (storeT a v).alone xs = ((), setA xs a v, 1) := rfl
theorem add_alone (xs : List Int) (a v : Int) : (addT a v).alone xs = (valA xs a, setA xs a (wrap64 (valA xs a + v)), 1) := rfl
theorem join_alone (xs : List Int) (b n : Int) : (joinT b n).alone xs = ((), setA (setA xs b n) (wrap64 (n + 1)) b, 2) := rfl

theorem seek_alone {xs : List Int} {t : Int} (ht : Small t) : ∀ {L : List Tm} {k : Nat} {a b : Int}, Chain xs a b L → L.length ≤ k → Fine L → Small b → ∃ c, (seekT 2 k a (t - b)).alone xs = (((spot t b L).1, t - (spot t b L).2, true), xs, c)
  | [], 0, a, b, h, _, _, _ => ⟨1 + 0, Tree.alone_then (next_none h.1) (Tree.alone_ret _ _)⟩
  | [], k + 1, a, b, h, _, _, _ => by
    refine ⟨1 + 0, ?_⟩
    rw [seekT_succ]
    refine Tree.alone_then (next_none h.1) ?_
    rw [if_neg (fun e => by cases e)]
    exact Tree.alone_ret _ _
  | x :: L, 0, a, b, _, hk, _, _ => absurd hk (by simp)
  | x :: L, k + 1, a, b, h, hk, hf, hb => by
    obtain ⟨h1, h2, h3, h4⟩ := h
    have hx := hf x (List.mem_cons_self ..)
    have hn : x.1 ≠ 2 := by have := hx.1; unfold IsNode at this; omega
    have hw : wrap64 (x.1 + 2) = x.1 + 2 := by have := hx.1; unfold IsNode at this; exact w64 _ (by omega) (by omega)
    rw [seekT_succ, spot]
    by_cases hlt : t < x.2
    · rw [if_pos hlt]
      refine ⟨1 + (1 + 0), Tree.alone_then (next_some h1 hn) ?_⟩
      rw [if_pos rfl]
      refine Tree.alone_then (load_alone _ _) ?_
      simp only
      rw [hw, h3, if_pos (by omega)]
      exact Tree.alone_ret _ _
    · rw [if_neg hlt]
      obtain ⟨c, ih⟩ := seek_alone ht (k := k) h4 (by simpa using hk) (fun y hy => hf y (List.mem_cons_of_mem _ hy)) hx.2
      refine ⟨1 + (1 + c), Tree.alone_then (next_some h1 hn) ?_⟩
      rw [if_pos rfl]
      refine Tree.alone_then (load_alone _ _) ?_
      simp only
      have e : wrap64 (t - b - (x.2 - b)) = t - x.2 := by
        have := hx.2
        unfold Small at *
        rw [w64 _ (by omega) (by omega)]
        omega
      rw [hw, h3, if_neg (by omega), e]
      exact ih

/-- Words that hold a timers' list. -/
structure Ring (xs : List Int) (L : List Tm) : Prop where
  len : xs.length = 60
  chain : Chain xs 2 0 L
  fine : Fine L
  apart : Apart L

theorem spot_val {xs : List Int} {t : Int} : ∀ {L : List Tm} {a b : Int}, Chain xs a b L → (spot t b L).1 = 2 ∨ ∃ x ∈ L, valA xs ((spot t b L).1 + 2) = x.2 - (spot t b L).2
  | [], _, _, _ => .inl rfl
  | x :: L, a, b, h => by
    rw [spot]
    split
    · exact .inr ⟨x, List.mem_cons_self .., h.2.2.1⟩
    · rcases spot_val (t := t) h.2.2.2 with h | ⟨y, hy, e⟩
      · exact .inl h
      · exact .inr ⟨y, List.mem_cons_of_mem _ hy, e⟩
theorem small0 : Small 0 := ⟨by decide, by decide⟩

theorem Ring.insert {xs : List Int} {L : List Tm} {n t : Int} (h : Ring xs L) (hl : L.length ≤ 26) (hn : IsNode n) (ho : Out n L) (ht : Small t) : ∃ ys c, (dInsertT 2 n t 26).alone xs = ((), ys, c) ∧ Ring ys (ins n t L) := by
  obtain ⟨c, hs⟩ := seek_alone ht h.chain hl h.fine small0
  rw [Int.sub_zero] at hs
  have s1 := spot_in (t := t) (L := L) (b := 0)
  have s2 := spot_prev (t := t) h.chain
  have s3 := spot_small (t := t) h.fine small0
  have q1 : (spot t 0 L).1 = 2 ∨ (IsNode (spot t 0 L).1 ∧ (spot t 0 L).1 ≠ n) := by
    rcases s1 with s1 | ⟨y, hy, e⟩
    · exact .inl s1
    · exact .inr ⟨e ▸ (h.fine y hy).1, e ▸ ho y hy⟩
  have q2 : valA xs ((spot t 0 L).1 + 1) = 2 ∨ IsNode (valA xs ((spot t 0 L).1 + 1)) := by
    rcases s2 with s2 | ⟨y, hy, e⟩
    · exact .inl s2
    · exact .inr (e ▸ (h.fine y hy).1)
  have q3 : (spot t 0 L).1 = 2 ∨ (-1152921504606846976 ≤ valA xs ((spot t 0 L).1 + 2) ∧ valA xs ((spot t 0 L).1 + 2) ≤ 1152921504606846976) := by
    rcases spot_val (t := t) h.chain with h9 | ⟨y, hy, e⟩
    · exact .inl h9
    · have := (h.fine y hy).2
      unfold Small at this s3
      exact .inr ⟨by omega, by omega⟩
  obtain ⟨nx, hnx⟩ : ∃ nx, (spot t 0 L).1 = nx := ⟨_, rfl⟩
  obtain ⟨b, hb⟩ : ∃ b, (spot t 0 L).2 = b := ⟨_, rfl⟩
  obtain ⟨p, hp⟩ : ∃ p, valA xs (nx + 1) = p := ⟨_, rfl⟩
  have key : ∀ ys, ys.length = 60 → Laid xs ys n t nx b p → Ring ys (ins n t L) := fun ys hy hlaid =>
    ⟨hy, h.chain.ins hn h.fine h.apart ho (fun y hy e => by have := (h.fine y hy).1; unfold IsNode at this; omega) (by unfold IsNode at hn; omega) (.inl rfl) (by rw [hnx, hb, hp]; exact hlaid), h.fine.ins hn ht, h.apart.ins ho⟩
  rw [hnx, hb] at hs
  rw [hnx] at q1 q2 q3
  rw [hb] at s3
  rw [hp] at q2
  have hlen := h.len
  unfold IsNode Small at *
  have w1 : wrap64 (nx + 1) = nx + 1 := w64 _ (by omega) (by omega)
  have w2 : wrap64 (n + 1) = n + 1 := w64 _ (by omega) (by omega)
  have w3 : wrap64 (n + 2) = n + 2 := w64 _ (by omega) (by omega)
  have w4 : wrap64 (nx + 2) = nx + 2 := w64 _ (by omega) (by omega)
  have w5 : wrap64 (-(t - b)) = -(t - b) := w64 _ (by omega) (by omega)
  -- the words behind Ahead and the Store
  obtain ⟨zs, hzs⟩ : ∃ zs, zs = setA (setA (setA (setA (setA xs p n) (n + 1) p) n nx) (nx + 1) n) (n + 2) (t - b) := ⟨_, rfl⟩
  have lzs : zs.length = 60 := by rw [hzs]; simp only [length_setA]; exact hlen
  have hv : ∀ c, valA zs c = if c = n + 2 then t - b else if c = nx + 1 then n else if c = n then nx else if c = n + 1 then p else if c = p then n else valA xs c := by
    intro c
    rw [hzs, valA_setA (by omega) (by simp only [length_setA]; omega), valA_setA (by omega) (by simp only [length_setA]; omega), valA_setA (by omega) (by simp only [length_setA]; omega), valA_setA (by omega) (by simp only [length_setA]; omega), valA_setA (by omega) (by omega)]
  have ha : (aheadT nx n).alone xs = ((), setA (setA (setA (setA xs p n) (n + 1) p) n nx) (nx + 1) n, 5) := by
    have e : (aheadT nx n).alone xs = ((), setA (setA (setA (setA xs (valA xs (wrap64 (nx + 1))) n) (wrap64 (n + 1)) (valA xs (wrap64 (nx + 1)))) n nx) (wrap64 (nx + 1)) n, 5) := rfl
    rw [e, w1, w2, hp]
  by_cases h2 : nx = 2
  · refine ⟨zs, c + (5 + (1 + 0)), ?_, key zs lzs fun c => ?_⟩
    · refine Tree.alone_then hs ?_
      rw [layT, if_pos rfl]
      refine Tree.alone_then ha (Tree.alone_then (store_alone _ _ _) ?_)
      rw [if_pos h2, w3, hzs]
      exact Tree.alone_ret _ _
    · rw [if_neg (fun e => e.1 h2)]
      exact hv c
  · have e5 : valA zs (nx + 2) = valA xs (nx + 2) := by
      rw [hv]
      repeat' split
      all_goals omega
    have hbig : -1152921504606846976 ≤ valA xs (nx + 2) ∧ valA xs (nx + 2) ≤ 1152921504606846976 := q3.resolve_left h2
    refine ⟨setA zs (nx + 2) (valA xs (nx + 2) - (t - b)), c + (5 + (1 + (1 + 0))), ?_, key _ (by rw [length_setA]; exact lzs) fun c => ?_⟩
    · refine Tree.alone_then hs ?_
      rw [layT, if_pos rfl]
      refine Tree.alone_then ha (Tree.alone_then (store_alone _ _ _) ?_)
      rw [if_neg h2, w3, ← hzs]
      refine Tree.alone_then (add_alone _ _ _) ?_
      simp only
      rw [w4, w5, e5, w64 _ (by omega) (by omega)]
      exact Tree.alone_ret _ _
    · rw [valA_setA (by omega) (by omega)]
      by_cases hc : c = nx + 2
      · subst hc
        rw [if_pos rfl, if_pos ⟨h2, rfl⟩]
      · rw [if_neg hc, if_neg (fun e => hc e.2)]
        exact hv c

theorem Ring.first {xs : List Int} {L : List Tm} {x : Tm} (h : Ring xs (x :: L)) : valA xs (x.1 + 2) = x.2 := by
  have := h.chain.2.2.1
  omega

theorem Ring.remove {xs : List Int} {L : List Tm} {x : Tm} (h : Ring xs (x :: L)) : ∃ ys c, (dRemoveT 2 x.1).alone xs = ((), ys, c) ∧ Ring ys L := by
  obtain ⟨h1, h2, h3, h4⟩ := h.chain
  obtain ⟨n, l⟩ := x
  simp only at h1 h2 h3 h4
  have hn := (h.fine _ (List.mem_cons_self ..)).1
  have hls := (h.fine _ (List.mem_cons_self ..)).2
  have hap := h.apart
  have hlen := h.len
  have hfL : Fine L := fun y hy => h.fine y (List.mem_cons_of_mem _ hy)
  simp only at hn hls
  have hn' := hn
  unfold IsNode at hn
  have w1 : wrap64 (n + 1) = n + 1 := w64 _ (by omega) (by omega)
  have w2 : wrap64 (n + 2) = n + 2 := w64 _ (by omega) (by omega)
  have hr : ∀ (zs : List Int) (m : Int), m = 2 ∨ (10 ≤ m ∧ m ≤ 37) → zs.length = 60 → valA zs n = m → valA zs (n + 1) = 2 → ((removeT n).bind fun _ => storeT (wrap64 (n + 2)) 0).alone zs = ((), setA (setA (setA (setA (setA zs 2 m) (m + 1) 2) n n) (n + 1) n) (n + 2) 0, 7) := by
    intro zs m hm lz z1 z2
    have e : ((removeT n).bind fun _ => storeT (wrap64 (n + 2)) 0).alone zs = ((), setA (setA (setA (setA (setA zs (valA zs (wrap64 (n + 1))) (valA zs n)) (wrap64 (valA zs n + 1)) (valA zs (wrap64 (n + 1)))) n n) (wrap64 (n + 1)) n) (wrap64 (n + 2)) 0, 7) := rfl
    rw [e, w1, w2, z1, z2, w64 (m + 1) (by omega) (by omega)]
  have hd : (loadT (wrap64 (n + 2))).alone xs = (l, xs, 1) := by
    rw [load_alone, w2, h3, Int.sub_zero]
  cases L with
  | nil =>
    have e1 : valA xs n = 2 := h4.1
    refine ⟨setA (setA (setA (setA (setA xs 2 2) (2 + 1) 2) n n) (n + 1) n) (n + 2) 0, 1 + (1 + 7), Tree.alone_then hd (Tree.alone_then (next_none e1) ?_), ?_⟩
    · rw [if_neg (fun e => by cases e), Tree.alone_up]
      exact hr xs 2 (.inl rfl) hlen e1 h2
    · refine ⟨by simp only [length_setA]; exact hlen, ⟨?_, ?_⟩, hfL, trivial⟩
      · rw [valA_setA (by omega) (by simp only [length_setA]; omega), valA_setA (by omega) (by simp only [length_setA]; omega), valA_setA (by omega) (by simp only [length_setA]; omega), valA_setA (by omega) (by simp only [length_setA]; omega), valA_setA (by omega) (by omega)]
        repeat' split
        all_goals omega
      · rw [valA_setA (by omega) (by simp only [length_setA]; omega), valA_setA (by omega) (by simp only [length_setA]; omega), valA_setA (by omega) (by simp only [length_setA]; omega), valA_setA (by omega) (by simp only [length_setA]; omega)]
        repeat' split
        all_goals omega
  | cons y L =>
    obtain ⟨m, l2⟩ := y
    obtain ⟨g1, g2, g3, g4⟩ := h4
    simp only at g1 g2 g3 g4
    have hm := (hfL _ (List.mem_cons_self ..)).1
    have hl2 := (hfL _ (List.mem_cons_self ..)).2
    have hmn : m ≠ n := hap.1 _ (List.mem_cons_self ..)
    simp only at hm hl2
    unfold IsNode at hm
    unfold Small at hls hl2
    have w4 : wrap64 (m + 2) = m + 2 := w64 _ (by omega) (by omega)
    obtain ⟨zs, hzs⟩ : ∃ zs, zs = setA xs (m + 2) l2 := ⟨_, rfl⟩
    have lzs : zs.length = 60 := by rw [hzs, length_setA]; exact hlen
    have hv : ∀ c, valA zs c = if c = m + 2 then l2 else valA xs c := fun c => by rw [hzs, valA_setA (by omega) (by omega)]
    have ha : (addT (wrap64 (m + 2)) l).alone xs = (l2 - l, zs, 1) := by
      rw [add_alone, w4, g3, w64 _ (by omega) (by omega), hzs, Int.sub_add_cancel]
    have v1 : valA zs n = m := by
      rw [hv]
      split <;> omega
    have v2 : valA zs (n + 1) = 2 := by
      rw [hv]
      split <;> omega
    refine ⟨setA (setA (setA (setA (setA zs 2 m) (m + 1) 2) n n) (n + 1) n) (n + 2) 0, 1 + (1 + (1 + 7)), Tree.alone_then hd (Tree.alone_then (next_some g1 (by omega)) ?_), ?_⟩
    · rw [if_pos rfl]
      exact Tree.alone_then ha (hr zs m (.inr ⟨by omega, by omega⟩) lzs v1 v2)
    · have hu : ∀ c, valA (setA (setA (setA (setA (setA zs 2 m) (m + 1) 2) n n) (n + 1) n) (n + 2) 0) c = if c = n + 2 then 0 else if c = n + 1 then n else if c = n then n else if c = m + 1 then 2 else if c = 2 then m else if c = m + 2 then l2 else valA xs c := by
        intro c
        rw [valA_setA (by omega) (by simp only [length_setA]; omega), valA_setA (by omega) (by simp only [length_setA]; omega), valA_setA (by omega) (by simp only [length_setA]; omega), valA_setA (by omega) (by simp only [length_setA]; omega), valA_setA (by omega) (by omega), hv]
      refine ⟨by simp only [length_setA]; exact lzs, ⟨?_, ?_, ?_, g4.keep ?_ ?_ ?_⟩, hfL, hap.2⟩
      · rw [hu]; repeat' split
        all_goals omega
      · simp only
        rw [hu]; repeat' split
        all_goals omega
      · simp only
        rw [hu]; repeat' split
        all_goals omega
      · rw [hu]; repeat' split
        all_goals omega
      · rw [hu]; repeat' split
        all_goals omega
      · intro y hy
        have k1 := (hfL y (List.mem_cons_of_mem _ hy)).1
        have k2 := hap.1 y (List.mem_cons_of_mem _ hy)
        have k3 := hap.2.1 y hy
        simp only at k2 k3
        unfold IsNode at k1
        refine ⟨?_, ?_, ?_⟩
        · rw [hu]; repeat' split
          all_goals omega
        · rw [hu]; repeat' split
          all_goals omega
        · rw [hu]; repeat' split
          all_goals omega

theorem Ring.due {xs : List Int} (h : Ring xs []) : (dDueT 2).alone xs = ((0, false), xs, 1) := by
  refine Tree.alone_then (i := 1) (j := 0) (next_none h.chain.1) ?_
  rw [if_neg (fun e => by cases e)]
  exact Tree.alone_ret _ _
end Go.Sept

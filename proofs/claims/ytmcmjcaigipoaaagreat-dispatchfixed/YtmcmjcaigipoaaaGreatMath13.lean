/-
  Threads' fields in the words that Boot leaves, as plain mathematics; and frame.Run of a Get, or a Set, beside a plan. Conditions: nothing is wrong with the partition.
-/
import Derived.Test.YtmcmjcaigipoaaaGreatMath12d
import Derived.Test.YtmcmjcaigipoaaaGreatBody13
namespace Go.Sept
open Go.RowKit

theorem start_zero (k n m : Nat) (hk : k = 16) (c : Int) (hc : 43 ≤ c) : valA (startX k n m) c = 0 := by
  have e : startX k n m = setA (setA (aft (headsT 8 k) (setA (List.replicate (43 + m + n * 24 + m * 24) 0) 8 0)) 41 41) (wrap64 (41 + 1)) 41 := by
    rw [← aft_init, ← aft_join]
    rfl
  obtain ⟨_, h2⟩ := heads_words k (setA (List.replicate (43 + m + n * 24 + m * 24) 0) 8 0) (by omega) (by rw [length_setA, List.length_replicate]; omega)
  rw [e, v64 (41 + 1) ⟨by omega, by omega⟩, val_other _ (by omega), val_other _ (by omega), h2 c (by omega), val_other _ (by omega), val_zeros]

theorem core_keep (L : List Int) (c : Int) : ∀ (cs : List Int) (x : Int × Int × Bool) (xs : List Int), (∀ k ∈ cs, c ≠ k) → valA (aft (coreT L cs x) xs) c = valA xs c := by
  intro cs
  induction cs with
  | nil => intro x xs _; rfl
  | cons k r ih =>
    intro x xs h
    cases hx : x.2.2 with
    | false => rw [aft_core_no _ _ _ _ _ hx]
    | true =>
      rw [aft_core_yes _ _ _ _ _ hx, ih _ _ (fun k' hk => h k' (List.mem_cons_of_mem _ hk)), val_other _ (h k (List.mem_cons_self ..))]
theorem cores_keep (L xs : List Int) (c : Int) (h3 : c ≠ 3) (h5 : c ≠ 5) : valA (aft (coresT L [3, 5]) xs) c = valA xs c := by
  rw [aft_cores]
  refine core_keep L c _ _ _ (fun k hk => ?_)
  simp only [List.mem_cons, List.not_mem_nil, or_false] at hk
  rcases hk with rfl | rfl
  · exact h3
  · exact h5

theorem thr_field {pt : Pt} {N m : Nat} {xs : List Int} (h : QInv N m 0 (fun _ => []) xs) (hpr : ∀ x ∈ pt.ths, 0 ≤ x.prio ∧ x.prio ≤ 15) (hN2 : N ≤ 4000) : ∀ T : Nat, T ≤ pt.ths.length → 43 + m + T * 24 ≤ N →
    (∀ (t : Nat) (d : Int), 0 ≤ d → d < 24 → T ≤ t → valA (thrX pt m T xs) (nodeA m (t : Int) + d) = valA xs (nodeA m (t : Int) + d)) ∧
    (∀ (t : Nat) (x : Th) (d : Int), t < T → pt.ths[t]? = some x → 5 ≤ d → d < 24 → valA (thrX pt m T xs) (nodeA m (t : Int) + d) = if d = 6 ∨ d = 7 then x.prio else valA xs (nodeA m (t : Int) + d)) := by
  intro T
  induction T with
  | zero => exact fun _ _ => ⟨fun _ _ _ _ _ => rfl, fun t x d ht => absurd ht (Nat.not_lt_zero _)⟩
  | succ T ih =>
    intro hT hN
    obtain ⟨i1, i2⟩ := ih (by omega) (by omega)
    have hi := thr_inv h hpr hN2 T (by omega) (by omega)
    have hx : pt.ths[T]? = some pt.ths[T] := List.getElem?_eq_getElem (by omega)
    obtain ⟨hp0, hp1⟩ := hpr _ (List.getElem_mem (by omega : T < pt.ths.length))
    obtain ⟨p, hp⟩ : ∃ p : Nat, pt.ths[T].prio = (p : Int) := ⟨pt.ths[T].prio.toNat, by omega⟩
    have e1 : thrX pt m (T + 1) xs = aft (thrT (nodeA m (T : Int)) (p : Int)) (thrX pt m T xs) := by
      rw [thrX, hx, ← hp]
      rfl
    have hp16 : p < 16 := by omega
    obtain ⟨k, hk, hk2, _⟩ := hi.bit
    obtain ⟨b, hb⟩ : ∃ b, lastOf (hdA p) ((rdyN pt.ths T p).map (nodeA m)) = b := ⟨_, rfl⟩
    have hH : hdA p = 9 + 2 * (p : Int) := rfl
    have hbc : b = hdA p ∨ ∃ j : Int, b = nodeA m j ∧ 0 ≤ j ∧ j < T := by
      rcases last_or (m := m) (p := p) (qs := rdyN pt.ths T) with h9 | ⟨j, hj, h9⟩
      · exact .inl (hb.symm.trans h9)
      · exact .inr ⟨j, hb.symm.trans h9, (hi.mem p hp16).2 j hj⟩
    have hbr : (9 ≤ b ∧ b ≤ 39) ∨ (∃ j : Int, b = 43 + (m : Int) + j * 24 ∧ 0 ≤ j ∧ j < T) := by
      rcases hbc with e | ⟨j, e, h1, h2⟩
      · left; omega
      · right; exact ⟨j, by rw [e]; rfl, h1, h2⟩
    have hb0 : 0 ≤ b ∧ b < 43 + (m : Int) + (T : Int) * 24 ∧ b ≠ 8 := by
      rcases hbr with h9 | ⟨j, h9, _, _⟩ <;> omega
    obtain ⟨_, hw⟩ := thr_words hi.len hp16 (by omega) (hb ▸ hi.lst p hp16) ⟨hb0.1, hb0.2.1⟩ hk hk2 hb0.2.2 hN2
    have hA : ∀ t : Int, nodeA m t = 43 + (m : Int) + t * 24 := fun _ => rfl
    rw [e1]
    have keep : ∀ (t : Nat) (d : Int), t ≠ T → 0 ≤ d → d < 24 → (t < T → 5 ≤ d) → valA (aft (thrT (nodeA m (T : Int)) (p : Int)) (thrX pt m T xs)) (nodeA m (t : Int) + d) = valA (thrX pt m T xs) (nodeA m (t : Int) + d) := by
      intro t d hne h0 h1 h2
      have hbn : nodeA m (t : Int) + d ≠ b := by
        rw [hA]
        rcases hbr with h9 | ⟨j, h9, _, _⟩
        · omega
        · by_cases hlt : t < T
          · have := h2 hlt; omega
          · omega
      rw [hw, hH]
      rw [hA, hA] at *
      rw [if_neg (by omega), if_neg (by omega), if_neg (by omega), if_neg (by omega), if_neg hbn, if_neg (by omega), if_neg (by omega), if_neg (by omega), if_neg (by omega)]
    refine ⟨fun t d h0 h1 ht => ?_, fun t x d ht hxt h5 h24 => ?_⟩
    · rw [keep t d (by omega) h0 h1 (fun h9 => by omega)]
      exact i1 t d h0 h1 (by omega)
    · by_cases e : t = T
      · subst e
        rw [hx] at hxt
        injection hxt with hxt
        subst hxt
        have h9 := i1 t d (by omega) h24 (Nat.le_refl _)
        rw [hw, hH, ← h9, hp]
        have hbn : nodeA m (t : Int) + d ≠ b := by rw [hA]; omega
        rw [if_neg (by rw [hA]; omega), if_neg (by rw [hA]; omega), if_neg (by omega), if_neg (by omega), if_neg hbn]
        by_cases d7 : d = 7
        · rw [if_pos (by omega), if_pos (by omega)]
        · rw [if_neg (by omega)]
          by_cases d6 : d = 6
          · rw [if_pos (by omega), if_pos (by omega)]
          · rw [if_neg (by omega), if_neg (by omega), if_neg (by omega), if_neg (by omega)]
      · rw [keep t d e (by omega) h24 (fun _ => h5)]
        exact i2 t x d (by omega) hxt h5 h24

/-- A thread's fields behind Boot. -/
theorem boot_field {pt : Pt} (h : partW pt = 0) (t : Nat) (x : Th) (ht : pt.ths[t]? = some x) (d : Int) (h5 : 5 ≤ d) (h24 : d < 24) :
    valA (bootX 16 [3, 5] pt pt.ths.length pt.obs.length) (43 + (pt.obs.length : Int) + (t : Int) * 24 + d) = if d = 6 ∨ d = 7 then x.prio else 0 := by
  obtain ⟨⟨hn1, hn6⟩, hm8, hths, hobs⟩ := part_parts h
  have hob : ∀ (o : Nat) (x : Ob), pt.obs[o]? = some x → x.size.toNat ≤ 16 := fun o x hx => by
    have h8 := of_decide_eq_true (List.all_eq_true.1 hobs x (List.mem_of_getElem? hx))
    omega
  have hpr : ∀ x ∈ pt.ths, 0 ≤ x.prio ∧ x.prio ≤ 15 := fun x hx => by
    have h8 := of_decide_eq_true (List.all_eq_true.1 hths x hx)
    exact ⟨h8.1, h8.2.1⟩
  have htl : t < pt.ths.length := (List.getElem?_eq_some_iff.1 ht).1
  have hk := fun c hc => objX_keep pt.ths.length pt.obs.length (by omega) hob pt.obs.length (startX 16 pt.ths.length pt.obs.length) (by omega) (by omega) c hc
  have h0 := start_inv 16 pt.ths.length pt.obs.length rfl
  have h1 := h0.same (ys := objX pt pt.ths.length pt.obs.length pt.obs.length (startX 16 pt.ths.length pt.obs.length)) (by rw [length_objX, length_startX]) (fun c hc => hk c (by omega))
  have h2 := (thr_field h1 hpr (by omega) pt.ths.length (Nat.le_refl _) (by omega)).2 t x d htl ht h5 h24
  have hc : 43 + (pt.obs.length : Int) + (t : Int) * 24 + d < 43 + (pt.obs.length : Int) + (pt.ths.length : Int) * 24 := by omega
  have e1 : nodeA pt.obs.length (t : Int) + d = 43 + (pt.obs.length : Int) + (t : Int) * 24 + d := rfl
  rw [e1, hk _ hc, start_zero 16 _ _ rfl _ (by omega)] at h2
  rw [← h2]
  exact cores_keep _ _ _ (by omega) (by omega)

theorem get_ans (n m : Nat) (t f : Int) (xs : List Int) : ((getT n m t f).alone xs).1 = if fieldV n m t f < 0 then 0 else valA xs (fieldV n m t f) := by
  unfold getT
  split
  · rw [Tree.alone_ret]
  · rfl
theorem get_aft (n m : Nat) (t f : Int) (xs : List Int) : ((getT n m t f).alone xs).2.1 = xs := by
  unfold getT
  split
  · rw [Tree.alone_ret]
  · rfl
theorem set_aft (n m : Nat) (t f v : Int) (xs : List Int) : ((setT n m t f v).alone xs).2.1 = if fieldV n m t f < 0 then xs else setA xs (fieldV n m t f) v := by
  unfold setT
  split
  · rw [Tree.alone_ret]
  · rfl
theorem fieldV_in {n m : Nat} {t f : Int} (h0 : 0 ≤ t) (h1 : t < n) (h2 : 0 ≤ f) (h3 : f < 19) : fieldV n m t f = 43 + (m : Int) + t * 24 + (5 + f) := by
  rw [fieldV, if_pos ⟨h2, h3⟩, tplaceV, if_pos ⟨h0, h1⟩]
end Go.Sept

namespace Go.Proofs.YtmcmjcaigipoaaaGreat
open Go.RowKit Go.Sept
theorem ThIs.low {Q : Nat → Prop} {w : World} {cs : Array Value} {n m : Nat} (h : ThIs Q w cs n m) : ThIs (fun k => k < w.heap.size) w cs n m := by
  obtain ⟨h1, h2, ta, oa, za, zb, zc, zd, e, h3⟩ := h
  exact ⟨h1, h2, ta, oa, za, zb, zc, zd, e, h3.low (fun _ _ _ h => ⟨Cel.lt h.1, h⟩)⟩

/-- A partition's memory xs, whose plan lies in blocks below L. -/
structure Mid13 (V w : World) (cs : Array Value) (n m g r : Nat) (xs : List Int) : Prop where
  th : ThIs (fun k => k < V.heap.size) w cs n m
  mem : MemIs 130 w g r xs
  hg : V.heap.size ≤ g
  hr : V.heap.size ≤ r
  pos : 0 < xs.length
  only : Only (fun _ => False) V w
theorem Mid13.keep {V w w' : World} {cs : Array Value} {n m g r : Nat} {xs : List Int} (h : Mid13 V w cs n m g r xs) (ho : Only (fun _ => False) w w') : Mid13 V w' cs n m g r xs :=
  ⟨h.th.only ho (fun _ _ h => h), h.mem.only ho (fun h => h) (fun h => h), h.hg, h.hr, h.pos, h.only.chain ho (fun _ _ h => h)⟩

end Go.Proofs.YtmcmjcaigipoaaaGreat

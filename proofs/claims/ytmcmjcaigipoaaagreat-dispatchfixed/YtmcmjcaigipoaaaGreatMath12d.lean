/-
  The queue in words behind all of Boot's bodies, and what the cores' body leaves, as plain mathematics. Conditions: nothing is wrong with the partition.
-/
import Derived.Test.YtmcmjcaigipoaaaGreatMath12a
import Derived.Test.YtmcmjcaigipoaaaGreatQueue13
namespace Go.Sept
open Go.RowKit

theorem aft_heads_succ (r : Nat) (xs : List Int) : aft (headsT 8 (r + 1)) xs = aft (headsT 8 r) (setA (setA xs (headA 8 (15 - (r : Int))) (headA 8 (15 - (r : Int)))) (wrap64 (headA 8 (15 - (r : Int)) + 1)) (headA 8 (15 - (r : Int)))) := by
  rw [headsT_succ, aft_bind, aft_join]
theorem heads_words : ∀ (r : Nat) (xs : List Int), r ≤ 16 → 43 ≤ xs.length → (∀ p, 16 - r ≤ p → p < 16 → valA (aft (headsT 8 r) xs) (hdA p) = hdA p ∧ valA (aft (headsT 8 r) xs) (hdA p + 1) = hdA p) ∧ ∀ a : Int, a < 9 + 2 * (16 - (r : Int)) ∨ 41 ≤ a → valA (aft (headsT 8 r) xs) a = valA xs a := by
  intro r
  induction r with
  | zero =>
    intro xs _ _
    exact ⟨fun p h1 h2 => by omega, fun a _ => rfl⟩
  | succ r ih =>
    intro xs hr hx
    have e1 : (15 : Int) - (r : Int) = ((15 - r : Nat) : Int) := by omega
    rw [aft_heads_succ, e1, head_hd (15 - r) (by omega)]
    obtain ⟨H, hH⟩ : ∃ H, hdA (15 - r) = H := ⟨_, rfl⟩
    have hHe : H = 9 + 2 * ((15 - r : Nat) : Int) := hH.symm
    rw [hH, v64 (H + 1) ⟨by omega, by omega⟩]
    obtain ⟨ys, hys⟩ : ∃ ys, setA (setA xs H H) (H + 1) H = ys := ⟨_, rfl⟩
    have hyl : ys.length = xs.length := by rw [← hys, length_setA, length_setA]
    have hyv : ∀ c, valA ys c = if c = H + 1 then H else if c = H then H else valA xs c := fun c => by
      rw [← hys, val_set (by omega) (by rw [length_setA]; omega), val_set (by omega) (by omega)]
    rw [hys]
    obtain ⟨h1, h2⟩ := ih ys (by omega) (by omega)
    refine ⟨fun p hp hp2 => ?_, fun a ha => ?_⟩
    · by_cases e : p = 15 - r
      · subst e
        rw [hH, h2 H (by omega), h2 (H + 1) (by omega), hyv, hyv, if_neg (by omega), if_pos rfl, if_pos rfl]
        exact ⟨rfl, rfl⟩
      · exact h1 p (by omega) hp2
    · rw [h2 a (by omega), hyv, if_neg (by omega), if_neg (by omega)]
theorem aft_init (k : Nat) (xs : List Int) : aft (qInitT 8 k) xs = aft (headsT 8 k) (setA xs 8 0) := by
  unfold qInitT
  rw [aft_bind, aft_store]
theorem val_zeros (N : Nat) (a : Int) : valA (List.replicate N 0) a = 0 := by
  unfold valA
  split
  · simp [List.getD_eq_getElem?_getD, List.getElem?_replicate]
    split <;> rfl
  · rfl
theorem start_inv (k n m : Nat) (hk : k = 16) : QInv (43 + m + n * 24 + m * 24) m 0 (fun _ => []) (startX k n m) := by
  have e : startX k n m = setA (setA (aft (headsT 8 k) (setA (List.replicate (43 + m + n * 24 + m * 24) 0) 8 0)) 41 41) (wrap64 (41 + 1)) 41 := by
    rw [← aft_init, ← aft_join]
    rfl
  have hl := length_startX k n m
  obtain ⟨h1, h2⟩ := heads_words k (setA (List.replicate (43 + m + n * 24 + m * 24) 0) 8 0) (by omega) (by rw [length_setA, List.length_replicate]; omega)
  have hv : ∀ c, c ≠ 41 → c ≠ 42 → valA (startX k n m) c = valA (aft (headsT 8 k) (setA (List.replicate (43 + m + n * 24 + m * 24) 0) 8 0)) c := fun c c1 c2 => by
    rw [e, v64 (41 + 1) ⟨by omega, by omega⟩, val_other _ (by omega), val_other _ c1]
  have h0 : ∀ c, valA (setA (List.replicate (43 + m + n * 24 + m * 24) 0) 8 0) c = 0 := fun c => by
    by_cases e8 : c = 8
    · subst e8
      rw [val_set (by omega) (by rw [List.length_replicate]; omega), if_pos rfl]
    · rw [val_other _ e8, val_zeros]
  subst hk
  refine ⟨hl, fun a ha => ?_, fun p hp => ?_, fun p hp => ?_, ⟨0, ?_, by decide, fun p hp => by simp⟩, fun p hp => ⟨List.nodup_nil, fun j hj => by simp at hj⟩, fun p q j _ _ hj => by simp at hj⟩
  · rw [hv a (by omega) (by omega), h2 a (by omega), h0]
  · show valA _ _ = _
    have hh : hdA p = 9 + 2 * (p : Int) := rfl
    rw [hv _ (by omega) (by omega)]
    exact (h1 p (by omega) hp).1
  · have hh : hdA p = 9 + 2 * (p : Int) := rfl
    rw [hv _ (by omega) (by omega)]
    exact (h1 p (by omega) hp).2
  · rw [hv 8 (by omega) (by omega), h2 8 (by omega), h0]
    rfl

/-- Words ahead of what is set up stay. -/
theorem inits_keep : ∀ (s : Nat) (j a c : Int) (xs : List Int), 0 ≤ j → j + s ≤ 200 → 0 ≤ a → a ≤ 5000 → c < a → valA (aft (initsT a s j) xs) c = valA xs c := by
  intro s
  induction s with
  | zero =>
    intro j a c xs h1 h2 h3 h4 h5
    show valA (setA xs (wrap64 (a + j)) 0) c = _
    rw [v64 (a + j) ⟨by omega, by omega⟩, val_other _ (by omega)]
  | succ s ih =>
    intro j a c xs h1 h2 h3 h4 h5
    rw [initsT_succ, aft_bind, aft_store, ih (j + 1) a c _ (by omega) (by omega) h3 h4 h5, v64 (a + j) ⟨by omega, by omega⟩, val_other _ (by omega)]
theorem aft_obj (a k : Int) (s : Nat) (xs : List Int) : aft (objT a k s) xs = aft (if k = 4 then initsT (a + 4) s 0 else .ret ()) (setA (setA (setA (setA xs a a) (wrap64 (a + 1)) a) (a + 2) (a + 2)) (wrap64 (a + 2 + 1)) (a + 2)) := by
  unfold objT
  refine (aft_bind _ _ _).trans ((aft_bind _ _ _).trans ?_)
  rw [aft_join, aft_join]
theorem obj_keep {a k c : Int} {s : Nat} (xs : List Int) (h0 : 0 ≤ a) (h1 : a ≤ 3000) (hs : s ≤ 16) (hc : c < a) : valA (aft (objT a k s) xs) c = valA xs c := by
  rw [aft_obj, v64 (a + 1) ⟨by omega, by omega⟩, v64 (a + 2 + 1) ⟨by omega, by omega⟩]
  have h9 : ∀ ys, valA (aft (if k = 4 then initsT (a + 4) s 0 else (.ret () : Tree Unit (s + 1))) ys) c = valA ys c := fun ys => by
    split
    · exact inits_keep s 0 (a + 4) c ys (by omega) (by omega) (by omega) (by omega) (by omega)
    · rw [aft_ret]
  rw [h9, val_other _ (by omega), val_other _ (by omega), val_other _ (by omega), val_other _ (by omega)]
theorem objX_some {pt : Pt} {n m j : Nat} {o : Ob} (xs : List Int) (h : pt.obs[j]? = some o) : objX pt n m (j + 1) xs = aft (objT (43 + (m : Int) + (n : Int) * 24 + (j : Int) * 24) o.kind o.size.toNat) (objX pt n m j xs) := by
  rw [objX, h]
  rfl
theorem objX_none {pt : Pt} {n m j : Nat} (xs : List Int) (h : pt.obs[j]? = none) : objX pt n m (j + 1) xs = objX pt n m j xs := by
  rw [objX, h]
theorem objX_keep {pt : Pt} (n m : Nat) (hn : n ≤ 20) (hob : ∀ (o : Nat) (x : Ob), pt.obs[o]? = some x → x.size.toNat ≤ 16) : ∀ (j : Nat) (xs : List Int), j ≤ 20 → m ≤ 20 → ∀ c : Int, c < 43 + (m : Int) + (n : Int) * 24 → valA (objX pt n m j xs) c = valA xs c := by
  intro j
  induction j with
  | zero => intro xs _ _ c _; rfl
  | succ j ih =>
    intro xs hj hm c hc
    cases ho : pt.obs[j]? with
    | some o =>
      rw [objX_some xs ho, obj_keep (objX pt n m j xs) (by omega) (by omega) (hob j o ho) (by omega)]
      exact ih xs (by omega) hm c hc
    | none =>
      rw [objX_none xs ho]
      exact ih xs (by omega) hm c hc
/-- Nothing of the queue turns. -/
theorem QInv.same {N m : Nat} {xs ys : List Int} (h : QInv N m 0 (fun _ => []) xs) (hl : ys.length = N) (hv : ∀ c : Int, c < 43 + (m : Int) → valA ys c = valA xs c) : QInv N m 0 (fun _ => []) ys := by
  refine ⟨hl, fun a ha => (hv a (by omega)).trans (h.zero a ha), fun p hp => ?_, fun p hp => ?_, ?_, h.mem, h.one⟩
  · exact (hv _ (by unfold hdA; omega)).trans (h.chn p hp)
  · exact (hv _ (by unfold hdA; omega)).trans (h.lst p hp)
  · obtain ⟨k, h1, h2, h3⟩ := h.bit
    exact ⟨k, (hv 8 (by omega)).trans h1, h2, h3⟩
theorem thr_inv {pt : Pt} {N m : Nat} {xs : List Int} (h : QInv N m 0 (fun _ => []) xs) (hpr : ∀ x ∈ pt.ths, 0 ≤ x.prio ∧ x.prio ≤ 15) (hN2 : N ≤ 4000) : ∀ t, t ≤ pt.ths.length → 43 + m + t * 24 ≤ N → QInv N m t (rdyN pt.ths t) (thrX pt m t xs) := by
  intro t
  induction t with
  | zero => intro _ _; exact h
  | succ t ih =>
    intro ht hN
    have hi := ih (by omega) (by omega)
    have hx : pt.ths[t]? = some pt.ths[t] := List.getElem?_eq_getElem (by omega)
    obtain ⟨hp0, hp1⟩ := hpr _ (List.getElem_mem (by omega : t < pt.ths.length))
    obtain ⟨p, hp⟩ : ∃ p : Nat, pt.ths[t].prio = (p : Int) := ⟨pt.ths[t].prio.toNat, by omega⟩
    have h9 := hi.step (p := p) (by omega) (by omega) hN2
    have e1 : thrX pt m (t + 1) xs = aft (thrT (nodeA m (t : Int)) (p : Int)) (thrX pt m t xs) := by
      rw [thrX, hx, ← hp]
      rfl
    have e2 : rdyN pt.ths (t + 1) = fun q => if q = p then rdyN pt.ths t p ++ [(t : Int)] else rdyN pt.ths t q := by
      funext q
      rw [rdyN, hx]
      by_cases e : q = p
      · subst e
        rw [if_pos (by rw [Option.map_some, hp]), if_pos rfl]
      · rw [if_neg (by rw [Option.map_some, hp]; intro h9; injection h9 with h9; exact e (by omega)), if_neg e]
    rw [e1, e2]
    exact h9
end Go.Sept

/-
  Who runs on which core behind Boot, as plain mathematics. Conditions: nothing is wrong with the partition.
-/
namespace Go.Sept
open Go.RowKit

/-- The lists below a priority, the most urgent one first. -/
def tailL (qs : Nat → List Int) : Nat → List Int
  | 0 => []
  | l + 1 => qs l ++ tailL qs l
theorem ordN_tail (qs : Nat → List Int) : ∀ r, r ≤ 16 → ordN qs r ++ tailL qs (16 - r) = tailL qs 16 := by
  intro r
  induction r with
  | zero => intro _; rfl
  | succ r ih =>
    intro hr
    have e : 16 - r = (16 - (r + 1)) + 1 := by omega
    have h9 := ih (by omega)
    rw [e, tailL, ← List.append_assoc] at h9
    rw [ordN, show 15 - r = 16 - (r + 1) by omega]
    exact h9
theorem ordN_all (qs : Nat → List Int) : ordN qs 16 = tailL qs 16 := by
  have h := ordN_tail qs 16 (Nat.le_refl _)
  rw [Nat.sub_self, tailL, List.append_nil] at h
  exact h
theorem tail_top (qs : Nat → List Int) (P : Nat) : ∀ l, P < l → (∀ p, P < p → p < l → qs p = []) → tailL qs l = qs P ++ tailL qs P := by
  intro l
  induction l with
  | zero => intro h; omega
  | succ l ih =>
    intro h hz
    rw [tailL]
    by_cases e : l = P
    · rw [e]
    · rw [hz l (by omega) (by omega), List.nil_append]
      exact ih (by omega) (fun p h1 h2 => hz p h1 (by omega))
theorem tail_nil (qs : Nat → List Int) : ∀ l, (∀ p, p < l → qs p = []) → tailL qs l = [] := by
  intro l
  induction l with
  | zero => intro _; rfl
  | succ l ih =>
    intro hz
    rw [tailL, hz l (by omega), List.nil_append]
    exact ih (fun p h => hz p (by omega))

/-- What is read of the queue. -/
structure QRead (m : Nat) (qs : Nat → List Int) (xs : List Int) : Prop where
  chn : ∀ p, p < 16 → NodeCh xs (hdA p) ((qs p).map (nodeA m)) (hdA p)
  bit : ∃ k : Nat, valA xs 8 = k ∧ k < 65536 ∧ ∀ p, p < 16 → k.testBit p = !(qs p).isEmpty
  pos : ∀ p, p < 16 → ∀ j ∈ qs p, 0 ≤ j
theorem QInv.read {N m t : Nat} {qs : Nat → List Int} {xs : List Int} (h : QInv N m t qs xs) : QRead m qs xs := ⟨h.chn, h.bit, fun p hp j hj => ((h.mem p hp).2 j hj).1⟩
theorem QRead.set {m : Nat} {qs : Nat → List Int} {xs : List Int} (h : QRead m qs xs) {a : Int} (ha : a < 8) (v : Int) : QRead m qs (setA xs a v) := by
  refine ⟨fun p hp => chn_keep _ _ _ (h.chn p hp) fun b hb => val_other v ?_, ?_, h.pos⟩
  · rcases hb with e | e
    · rw [e]; unfold hdA; omega
    · obtain ⟨j, hj, e⟩ := List.mem_map.1 e
      have := h.pos p hp j hj
      rw [← e]
      unfold nodeA
      omega
  · obtain ⟨k, h1, h2, h3⟩ := h.bit
    exact ⟨k, (val_other v (by omega)).trans h1, h2, h3⟩
theorem empty_of {l : List Int} (h : (!l.isEmpty) = false) : l = [] := by
  cases l with
  | nil => rfl
  | cons x r => simp at h

theorem ans_below (l : Int) (xs : List Int) : ans (belowT 8 l) xs = if heldV (valA xs 8) l = 0 then (0, 0, false) else if valA xs (headA 8 (prioV (valA xs 8) l)) = headA 8 (prioV (valA xs 8) l) then (0, 0, false) else (valA xs (headA 8 (prioV (valA xs 8) l)), prioV (valA xs 8) l, true) := by
  unfold belowT
  rw [ans_bind, ans_load, aft_load]
  by_cases h : heldV (valA xs 8) l = 0
  · rw [if_pos h, if_pos h, ans_ret]
  · rw [if_neg h, if_neg h, ans_bind, ans_next, aft_next, ans_ret]
    by_cases h2 : valA xs (headA 8 (prioV (valA xs 8) l)) = headA 8 (prioV (valA xs 8) l)
    · rw [if_pos h2, if_pos h2]
      rfl
    · rw [if_neg h2, if_neg h2]
      rfl
theorem QRead.below {m : Nat} {qs : Nat → List Int} {xs : List Int} (h : QRead m qs xs) (l : Nat) (hl : l ≤ 16) : (tailL qs l = [] ∧ ans (belowT 8 (l : Int)) xs = (0, 0, false)) ∨
    ∃ P j rest, P < l ∧ qs P = j :: rest ∧ tailL qs l = j :: (rest ++ tailL qs P) ∧ ans (belowT 8 (l : Int)) xs = (nodeA m j, (P : Int), true) := by
  obtain ⟨k, hk, hk2, hb⟩ := h.bit
  obtain ⟨p1, p2⟩ := prio_bits k l hk2 hl
  rw [ans_below, hk]
  by_cases h0 : heldV (k : Int) (l : Int) = 0
  · left
    rw [if_pos h0]
    refine ⟨tail_nil qs l fun p hp => empty_of ?_, rfl⟩
    rw [← hb p (by omega)]
    exact p1.1 h0 p hp
  · right
    obtain ⟨P, e1, e2, e3, e4⟩ := p2 h0
    rw [if_neg h0, e1, head_hd P (by omega)]
    have hne := (hb P (by omega)).symm.trans e3
    cases hq : qs P with
    | nil => rw [hq] at hne; simp at hne
    | cons j rest =>
      have hc := h.chn P (by omega)
      rw [hq] at hc
      have hv : valA xs (hdA P) = nodeA m j := hc.1
      have hj := h.pos P (by omega) j (by rw [hq]; exact List.mem_cons_self ..)
      rw [hv, if_neg (by unfold nodeA hdA; omega)]
      refine ⟨P, j, rest, e2, hq, ?_, rfl⟩
      rw [tail_top qs P l e2 (fun p h1 h2 => empty_of (by rw [← hb p (by omega)]; exact e4 p h1 h2)), hq]
      rfl
/-- The one behind the first one. -/
theorem QRead.after {m : Nat} {qs : Nat → List Int} {xs : List Int} (h : QRead m qs xs) {P : Nat} {j : Int} {rest : List Int} (hP : P < 16) (hq : qs P = j :: rest) : (rest ++ tailL qs P = [] ∧ (ans (qAfterT 8 (nodeA m j) (P : Int)) xs).2.2 = false) ∨
    ∃ i r2 P2, rest ++ tailL qs P = i :: r2 ∧ 0 ≤ i ∧ (∃ q, q < 16 ∧ i ∈ qs q) ∧ ans (qAfterT 8 (nodeA m j) (P : Int)) xs = (nodeA m i, P2, true) := by
  have hc := h.chn P hP
  rw [hq] at hc
  have hc2 : NodeCh xs (nodeA m j) (rest.map (nodeA m)) (hdA P) := hc.2
  have e0 : ans (qAfterT 8 (nodeA m j) (P : Int)) xs = if valA xs (nodeA m j) = hdA P then ans (belowT 8 (P : Int)) xs else (valA xs (nodeA m j), (P : Int), true) := by
    unfold qAfterT
    rw [if_pos ⟨by omega, by omega⟩, ans_bind, ans_next, aft_next, head_hd P hP]
    by_cases h2 : valA xs (nodeA m j) = hdA P
    · rw [if_pos h2, if_pos h2]
      rfl
    · rw [if_neg h2, if_neg h2, if_pos rfl, ans_ret]
  rw [e0]
  cases rest with
  | nil =>
    have hv : valA xs (nodeA m j) = hdA P := hc2
    rw [if_pos hv, List.nil_append]
    rcases h.below P (by omega) with ⟨h1, h2⟩ | ⟨P2, i, r, h1, h2, h3, h4⟩
    · left
      exact ⟨h1, by rw [h2]⟩
    · right
      exact ⟨i, r ++ tailL qs P2, P2, h3, h.pos P2 (by omega) i (by rw [h2]; exact List.mem_cons_self ..), ⟨P2, by omega, by rw [h2]; exact List.mem_cons_self ..⟩, h4⟩
  | cons i r =>
    right
    have hv : valA xs (nodeA m j) = nodeA m i := hc2.1
    have hi := h.pos P hP i (by rw [hq]; exact List.mem_cons_of_mem _ (List.mem_cons_self ..))
    rw [hv, if_neg (by unfold nodeA hdA; omega)]
    exact ⟨i, r ++ tailL qs P, P, rfl, hi, ⟨P, hP, by rw [hq]; exact List.mem_cons_of_mem _ (List.mem_cons_self ..)⟩, rfl⟩

theorem aft_core_nil (L : List Int) (x : Int × Int × Bool) (xs : List Int) : aft (coreT L [] x) xs = xs := rfl
theorem aft_core_no (L : List Int) (c : Int) (r : List Int) (x : Int × Int × Bool) (xs : List Int) (h : x.2.2 = false) : aft (coreT L (c :: r) x) xs = xs := by
  unfold coreT
  rw [if_neg (by rw [h]; decide)]
  exact aft_ret _ _
theorem aft_core_yes (L : List Int) (c : Int) (r : List Int) (x : Int × Int × Bool) (xs : List Int) (h : x.2.2 = true) : aft (coreT L (c :: r) x) xs = aft (coreT L r (ans (qAfterT 8 x.1 x.2.1) (setA xs c (idxL L x.1 + 1)))) (setA xs c (idxL L x.1 + 1)) := by
  rw [coreT, if_pos h]
  refine (aft_bind _ _ _).trans ((aft_bind _ _ _).trans ?_)
  rw [aft_store, aft_after]
theorem aft_cores (L cs xs : List Int) : aft (coresT L cs) xs = aft (coreT L cs (ans (belowT 8 16) xs)) xs := by
  unfold coresT
  refine (aft_bind _ _ _).trans ?_
  rw [aft_below]
theorem idx_node {n m : Nat} {j : Int} (h0 : 0 ≤ j) (h1 : j < n) : idxL (thAts n m) (nodeA m j) = j := by
  obtain ⟨i, rfl⟩ : ∃ i : Nat, j = (i : Int) := ⟨j.toNat, by omega⟩
  have hi : i < n := by omega
  have e : (thAts n m)[i]? = some (nodeA m (i : Int)) := stepsL_at _ _ _ _ hi
  have hmem : nodeA m (i : Int) ∈ thAts n m := List.mem_of_getElem? e
  unfold idxL
  rw [if_pos hmem]
  have hlt := List.idxOf_lt_length_iff.2 hmem
  have e2 := List.getElem_idxOf hlt
  have hl : (thAts n m).length = n := length_stepsL _ _ _
  have e3 : (thAts n m)[(thAts n m).idxOf (nodeA m (i : Int))]? = some (nodeA m (((thAts n m).idxOf (nodeA m (i : Int)) : Nat) : Int)) := stepsL_at _ _ _ _ (by omega)
  rw [List.getElem?_eq_getElem hlt, e2] at e3
  injection e3 with e3
  have := node_inj e3
  omega
/-- A core's word. -/
def coreV (L : List Int) (i : Nat) : Int := match L[i]? with
  | some j => j + 1
  | none => 0

theorem cores_words {N n m : Nat} {qs : Nat → List Int} {xs : List Int} (h : QInv N m n qs xs) (hN : 43 ≤ N) : (∀ a : Int, ((0 ≤ a ∧ a < 8) ∧ a ≠ 3 ∧ a ≠ 5) ∨ (43 ≤ a ∧ a < 43 + m) → valA (aft (coresT (thAts n m) [3, 5]) xs) a = 0) ∧
    valA (aft (coresT (thAts n m) [3, 5]) xs) 3 = coreV (tailL qs 16) 0 ∧ valA (aft (coresT (thAts n m) [3, 5]) xs) 5 = coreV (tailL qs 16) 1 := by
  have hl := h.len
  have hr := h.read
  rw [aft_cores]
  rcases hr.below 16 (Nat.le_refl _) with ⟨h1, h2⟩ | ⟨P, j, rest, h1, h2, h3, h4⟩
  · rw [show ((16 : Nat) : Int) = 16 from rfl] at h2
    rw [h2, aft_core_no _ _ _ _ _ rfl, h1]
    exact ⟨fun a ha => h.zero a (by omega), h.zero 3 (by omega), h.zero 5 (by omega)⟩
  · rw [show ((16 : Nat) : Int) = 16 from rfl] at h4
    have hj := (h.mem P (by omega)).2 j (by rw [h2]; exact List.mem_cons_self ..)
    rw [h4, aft_core_yes _ _ _ _ _ rfl, h3]
    simp only
    rw [idx_node hj.1 hj.2]
    have hr2 := hr.set (a := 3) (by omega) (j + 1)
    have hv3 : ∀ c, valA (setA xs 3 (j + 1)) c = if c = 3 then j + 1 else valA xs c := fun c => val_set (by omega) (by omega) _ _
    rcases hr2.after (by omega) h2 with ⟨k1, k2⟩ | ⟨i, r2, P2, k1, k2, ⟨q, k3, k4⟩, k5⟩
    · rw [aft_core_no _ _ _ _ _ k2, k1]
      refine ⟨fun a ha => ?_, ?_, ?_⟩
      · rw [hv3, if_neg (by omega)]
        exact h.zero a (by omega)
      · rw [hv3, if_pos rfl]
        rfl
      · rw [hv3, if_neg (by omega)]
        exact h.zero 5 (by omega)
    · have hi := (h.mem q k3).2 i k4
      rw [k5, aft_core_yes _ _ _ _ _ rfl, aft_core_nil, k1]
      simp only
      rw [idx_node hi.1 hi.2]
      have hv5 : ∀ c, valA (setA (setA xs 3 (j + 1)) 5 (i + 1)) c = if c = 5 then i + 1 else valA (setA xs 3 (j + 1)) c := fun c => val_set (by omega) (by rw [length_setA]; omega) _ _
      refine ⟨fun a ha => ?_, ?_, ?_⟩
      · rw [hv5, if_neg (by omega), hv3, if_neg (by omega)]
        exact h.zero a (by omega)
      · rw [hv5, if_neg (by omega), hv3, if_pos rfl]
        rfl
      · rw [hv5, if_pos rfl]
        rfl

/-- Each word that PlanBoots asks for. -/
theorem boot_words {pt : Pt} (h : partW pt = 0) : (∀ a : Int, ((0 ≤ a ∧ a < 8) ∧ a ≠ 3 ∧ a ≠ 5) ∨ (43 ≤ a ∧ a < 43 + (pt.obs.length : Int)) → valA (bootX 16 [3, 5] pt pt.ths.length pt.obs.length) a = 0) ∧
    valA (bootX 16 [3, 5] pt pt.ths.length pt.obs.length) 3 = coreV (ordN (rdyN pt.ths pt.ths.length) 16) 0 ∧ valA (bootX 16 [3, 5] pt pt.ths.length pt.obs.length) 5 = coreV (ordN (rdyN pt.ths pt.ths.length) 16) 1 := by
  obtain ⟨⟨hn1, hn6⟩, hm8, hths, hobs⟩ := part_parts h
  have hob : ∀ (o : Nat) (x : Ob), pt.obs[o]? = some x → x.size.toNat ≤ 16 := fun o x hx => by
    have h8 := of_decide_eq_true (List.all_eq_true.1 hobs x (List.mem_of_getElem? hx))
    omega
  have hpr : ∀ x ∈ pt.ths, 0 ≤ x.prio ∧ x.prio ≤ 15 := fun x hx => by
    have h8 := of_decide_eq_true (List.all_eq_true.1 hths x hx)
    exact ⟨h8.1, h8.2.1⟩
  have h0 := start_inv 16 pt.ths.length pt.obs.length rfl
  have h1 := h0.same (ys := objX pt pt.ths.length pt.obs.length pt.obs.length (startX 16 pt.ths.length pt.obs.length)) (by rw [length_objX, length_startX]) (fun c hc => objX_keep pt.ths.length pt.obs.length (by omega) hob pt.obs.length _ (by omega) (by omega) c (by omega))
  have h2 := thr_inv h1 hpr (by omega) pt.ths.length (Nat.le_refl _) (by omega)
  rw [ordN_all]
  exact cores_words h2 (by omega)
end Go.Sept

/-
  A partition's memory against the model: its queue, and each thread's state and priority, as plain mathematics; and what is read of the queue, one behind the other. Conditions: as each says.
-/
import Derived.Test.YtmcmjcaigipoaaaGreatRings14
import Derived.Test.YtmcmjcaigipoaaaGreatModel14
namespace Go.Sept
open Go.RowKit

/-- What the model keeps, whatever is done. -/
structure SimOk (n : Nat) (m : Sim14) : Prop where
  pr : ∀ t, t < n → m.pr t < 16
  mem : ∀ p, ∀ j ∈ m.qs p, ∃ t : Nat, j = (t : Int) ∧ t < n ∧ m.st t = 0 ∧ m.pr t = p
  has : ∀ t, t < n → m.st t = 0 → (t : Int) ∈ m.qs (m.pr t)
  nod : ∀ p, (m.qs p).Nodup
theorem nodup_len : ∀ (n : Nat) (l : List Int), l.Nodup → (∀ j ∈ l, 0 ≤ j ∧ j < n) → l.length ≤ n := by
  intro n
  induction n with
  | zero =>
    intro l _ h
    cases l with
    | nil => exact Nat.le_refl _
    | cons x r => have := h x (List.mem_cons_self ..); omega
  | succ n ih =>
    intro l hn h
    have h9 := ih (l.filter (fun y => y != (n : Int))) (hn.filter _) (fun j hj => by
      obtain ⟨h1, h2⟩ := List.mem_filter.1 hj
      have := h j h1
      have : j ≠ n := bne_iff_ne.1 h2
      omega)
    have h8 : l.length ≤ (l.filter (fun y => y != (n : Int))).length + 1 := by
      by_cases hm : (n : Int) ∈ l
      · obtain ⟨A, B, rfl⟩ := List.append_of_mem hm
        have e := butL_cut hn
        unfold butL at e
        rw [e]
        simp
        omega
      · rw [List.filter_eq_self.2 (fun a ha => bne_iff_ne.2 (fun e => hm (by have e' : a = (n : Int) := e; rw [← e']; exact ha)))]
        omega
    omega
theorem SimOk.len {n : Nat} {m : Sim14} (h : SimOk n m) (p : Nat) : (m.qs p).length ≤ n := by
  refine nodup_len n _ (h.nod p) (fun j hj => ?_)
  obtain ⟨t, rfl, ht, _, _⟩ := h.mem p j hj
  omega
theorem butL_mem {L : List Int} {x j : Int} : j ∈ butL L x ↔ j ∈ L ∧ j ≠ x := by
  unfold butL
  rw [List.mem_filter]
  simp
theorem butL_nodup {L : List Int} (x : Int) (h : L.Nodup) : (butL L x).Nodup := h.filter _

theorem SimOk.ready {n : Nat} {m : Sim14} (h : SimOk n m) {t : Nat} (ht : t < n) (h0 : m.st t ≠ 0) : SimOk n (m.ready t) := by
  have hno : ∀ p, (t : Int) ∉ m.qs p := fun p hp => by
    obtain ⟨i, hi, _, hs, _⟩ := h.mem p _ hp
    exact h0 (by rw [show t = i by omega]; exact hs)
  refine ⟨h.pr, fun p j hj => ?_, fun i hi hs => ?_, fun p => ?_⟩
  · simp only [Sim14.ready, putL, updF] at hj ⊢
    by_cases e : p = m.pr t
    · rw [if_pos e] at hj
      rcases List.mem_append.1 hj with hj | hj
      · obtain ⟨i, hi, h1, h2, h3⟩ := h.mem _ _ hj
        refine ⟨i, hi, h1, ?_, by rw [e]; exact h3⟩
        split
        · rfl
        · exact h2
      · rw [List.mem_singleton] at hj
        exact ⟨t, hj, ht, if_pos rfl, e.symm⟩
    · rw [if_neg e] at hj
      obtain ⟨i, hi, h1, h2, h3⟩ := h.mem _ _ hj
      refine ⟨i, hi, h1, ?_, h3⟩
      split
      · rfl
      · exact h2
  · simp only [Sim14.ready, putL, updF] at hs ⊢
    by_cases e : i = t
    · subst e
      rw [if_pos rfl]
      simp
    · rw [if_neg e] at hs
      have h9 := h.has i hi hs
      split
      · rename_i e2
        rw [← e2]
        exact List.mem_append_left _ h9
      · exact h9
  · simp only [Sim14.ready, putL]
    split
    · refine List.nodup_append.2 ⟨h.nod _, by simp, fun a ha c hc => ?_⟩
      rw [List.mem_singleton] at hc
      rw [hc]
      exact fun e => hno _ (e ▸ ha)
    · exact h.nod p

theorem SimOk.unready {n : Nat} {m : Sim14} (h : SimOk n m) {t : Nat} {x : Int} (hx : x ≠ 0) : SimOk n (m.unready t x) := by
  refine ⟨h.pr, fun p j hj => ?_, fun i hi hs => ?_, fun p => ?_⟩
  · simp only [Sim14.unready, putL, updF] at hj ⊢
    by_cases e : p = m.pr t
    · rw [if_pos e] at hj
      obtain ⟨hj1, hj2⟩ := butL_mem.1 hj
      obtain ⟨i, hi, h1, h2, h3⟩ := h.mem _ _ hj1
      exact ⟨i, hi, h1, by rw [if_neg (fun e9 => hj2 (by rw [hi, e9]))]; exact h2, by rw [e]; exact h3⟩
    · rw [if_neg e] at hj
      obtain ⟨i, hi, h1, h2, h3⟩ := h.mem _ _ hj
      exact ⟨i, hi, h1, by rw [if_neg (fun e9 => e (by rw [← h3, e9]))]; exact h2, h3⟩
  · simp only [Sim14.unready, putL, updF] at hs ⊢
    by_cases e : i = t
    · subst e
      rw [if_pos rfl] at hs
      exact absurd hs hx
    · rw [if_neg e] at hs
      have h9 := h.has i hi hs
      split
      · rename_i e2
        rw [← e2]
        exact butL_mem.2 ⟨h9, by omega⟩
      · exact h9
  · simp only [Sim14.unready, putL]
    split
    · exact butL_nodup _ (h.nod _)
    · exact h.nod p

theorem SimOk.change {n : Nat} {m : Sim14} (h : SimOk n m) {t q : Nat} (ht : t < n) (hq : q < 16) (first : Bool) : SimOk n (m.change t q first) := by
  obtain ⟨Q, hQ⟩ : ∃ Q, (if m.st t = 0 then putL (putL m.qs (m.pr t) (butL (m.qs (m.pr t)) (t : Int))) q (if first = true then (t : Int) :: putL m.qs (m.pr t) (butL (m.qs (m.pr t)) (t : Int)) q else putL m.qs (m.pr t) (butL (m.qs (m.pr t)) (t : Int)) q ++ [(t : Int)]) else m.qs) = Q := ⟨_, rfl⟩
  have hm : ∀ p j, j ∈ Q p ↔ (m.st t = 0 ∧ j = (t : Int) ∧ p = q) ∨ (j ∈ m.qs p ∧ j ≠ (t : Int)) := by
    intro p j
    rw [← hQ]
    by_cases h0 : m.st t = 0
    · rw [if_pos h0]
      have h1 : ∀ p', j ∈ putL m.qs (m.pr t) (butL (m.qs (m.pr t)) (t : Int)) p' ↔ j ∈ m.qs p' ∧ j ≠ (t : Int) := fun p' => by
        unfold putL
        by_cases e : p' = m.pr t
        · rw [if_pos e, butL_mem, e]
        · rw [if_neg e]
          constructor
          · intro hj
            refine ⟨hj, fun e9 => e ?_⟩
            obtain ⟨i, hi, _, _, h3⟩ := h.mem _ _ hj
            rw [← h3, show i = t by omega]
          · exact fun hj => hj.1
      generalize putL m.qs (m.pr t) (butL (m.qs (m.pr t)) (t : Int)) = X at h1 ⊢
      unfold putL
      by_cases e : p = q
      · subst e
        rw [if_pos rfl]
        cases first
        · rw [if_neg (by decide), List.mem_append, List.mem_singleton, h1]
          constructor
          · rintro (hj | hj)
            · exact .inr hj
            · exact .inl ⟨h0, hj, rfl⟩
          · rintro (⟨_, hj, _⟩ | hj)
            · exact .inr hj
            · exact .inl hj
        · rw [if_pos rfl, List.mem_cons, h1]
          constructor
          · rintro (hj | hj)
            · exact .inl ⟨h0, hj, rfl⟩
            · exact .inr hj
          · rintro (⟨_, hj, _⟩ | hj)
            · exact .inl hj
            · exact .inr hj
      · rw [if_neg e, h1]
        constructor
        · exact fun hj => .inr hj
        · rintro (⟨_, _, e9⟩ | hj)
          · exact absurd e9 e
          · exact hj
    · rw [if_neg h0]
      constructor
      · intro hj
        refine .inr ⟨hj, fun e9 => h0 ?_⟩
        obtain ⟨i, hi, _, h2, _⟩ := h.mem _ _ hj
        rw [show t = i by omega]
        exact h2
      · rintro (⟨e9, _⟩ | hj)
        · exact absurd e9 h0
        · exact hj.1
  have hnd : ∀ p, (Q p).Nodup := by
    intro p
    rw [← hQ]
    by_cases h0 : m.st t = 0
    · rw [if_pos h0]
      have h1 : ∀ p', (putL m.qs (m.pr t) (butL (m.qs (m.pr t)) (t : Int)) p').Nodup ∧ (t : Int) ∉ putL m.qs (m.pr t) (butL (m.qs (m.pr t)) (t : Int)) p' := fun p' => by
        unfold putL
        by_cases e : p' = m.pr t
        · rw [if_pos e]
          exact ⟨butL_nodup _ (h.nod _), fun e9 => (butL_mem.1 e9).2 rfl⟩
        · rw [if_neg e]
          refine ⟨h.nod _, fun hj => e ?_⟩
          obtain ⟨i, hi, _, _, h3⟩ := h.mem _ _ hj
          rw [← h3, show i = t by omega]
      generalize putL m.qs (m.pr t) (butL (m.qs (m.pr t)) (t : Int)) = X at h1 ⊢
      unfold putL
      by_cases e : p = q
      · rw [if_pos e]
        cases first
        · rw [if_neg (by decide)]
          refine List.nodup_append.2 ⟨(h1 q).1, by simp, fun a ha c hc => ?_⟩
          rw [List.mem_singleton] at hc
          rw [hc]
          exact fun e9 => (h1 q).2 (e9 ▸ ha)
        · rw [if_pos rfl]
          exact List.nodup_cons.2 ⟨(h1 q).2, (h1 q).1⟩
      · rw [if_neg e]
        exact (h1 p).1
    · rw [if_neg h0]
      exact h.nod p
  refine ⟨fun i hi => ?_, fun p j hj => ?_, fun i hi hs => ?_, fun p => ?_⟩
  · simp only [Sim14.change, updF]
    split
    · exact hq
    · exact h.pr i hi
  · simp only [Sim14.change] at hj ⊢
    rw [hQ] at hj
    rcases (hm p j).1 hj with ⟨h0, rfl, rfl⟩ | ⟨h1, h2⟩
    · exact ⟨t, rfl, ht, h0, if_pos rfl⟩
    · obtain ⟨i, hi, h3, h4, h5⟩ := h.mem _ _ h1
      refine ⟨i, hi, h3, h4, ?_⟩
      unfold updF
      rw [if_neg (fun e => h2 (by rw [hi, e]))]
      exact h5
  · simp only [Sim14.change] at hs ⊢
    rw [hQ, hm]
    unfold updF
    by_cases e : i = t
    · subst e
      rw [if_pos rfl]
      exact .inl ⟨hs, rfl, rfl⟩
    · rw [if_neg e]
      exact .inr ⟨h.has i hi hs, by omega⟩
  · simp only [Sim14.change]
    rw [hQ]
    exact hnd p
theorem Sim14.yield_change (m : Sim14) (t : Nat) : (m.yield t).qs = (m.change t (m.pr t) false).qs ∧ (m.yield t).st = (m.change t (m.pr t) false).st ∧ (m.yield t).pr = (m.change t (m.pr t) false).pr := by
  refine ⟨?_, rfl, ?_⟩
  · simp only [Sim14.yield, Sim14.change]
    split
    · rw [if_neg (by decide)]
      rw [show putL m.qs (m.pr t) (butL (m.qs (m.pr t)) (t : Int)) (m.pr t) = butL (m.qs (m.pr t)) (t : Int) from if_pos rfl]
    · rfl
  · funext i
    simp only [Sim14.yield, Sim14.change, updF]
    split
    · rename_i e
      rw [e]
    · rfl
theorem SimOk.yield {n : Nat} {m : Sim14} (h : SimOk n m) {t : Nat} (ht : t < n) : SimOk n (m.yield t) := by
  have h9 := h.change ht (h.pr t ht) false
  obtain ⟨e1, e2, e3⟩ := m.yield_change t
  exact ⟨by rw [e3]; exact h9.pr, by rw [e1, e2, e3]; exact h9.mem, by rw [e1, e2, e3]; exact h9.has, by rw [e1]; exact h9.nod⟩
/-- Whatever op is done. -/
theorem SimOk.op {n : Nat} {m : Sim14} (h : SimOk n m) (o : Op14) : SimOk n (doM n m o).2 := by
  unfold doM
  by_cases h1 : o.t < 0 ∨ (n : Int) ≤ o.t
  · rw [if_pos h1]; exact h
  · rw [if_neg h1]
    have ht : o.t.toNat < n := by omega
    by_cases k0 : o.k = 0
    · rw [if_pos k0]
      by_cases s0 : m.st o.t.toNat = 0
      · rw [if_pos s0]; exact h
      · rw [if_neg s0]; exact h.ready ht s0
    · rw [if_neg k0]
      by_cases k1 : o.k = 1
      · rw [if_pos k1]
        by_cases s0 : m.st o.t.toNat = 0
        · rw [if_pos s0]
          by_cases hs : 1 ≤ o.s ∧ o.s ≤ 3
          · simp only [if_pos hs]; exact h.unready (by omega)
          · simp only [if_neg hs]; exact h
        · rw [if_neg s0]; exact h
      · rw [if_neg k1]
        by_cases k2 : o.k = 2
        · rw [if_pos k2]
          by_cases hp : 0 ≤ o.p ∧ o.p ≤ 15
          · simp only [if_pos hp]; exact h.change ht (by omega) _
          · simp only [if_neg hp]; exact h
        · rw [if_neg k2]; exact h.yield ht

/-- A partition's memory of n threads and mo objects: the lists of its queue, and each thread's state and priority. -/
structure Raw14 (N n mo : Nat) (st : Nat → Int) (pr : Nat → Nat) (qs : Nat → List Int) (xs : List Int) : Prop where
  ring : QRing N n mo qs xs
  st : ∀ t, t < n → valA xs (nodeA mo (t : Int) + 5) = st t
  pr : ∀ t, t < n → valA xs (nodeA mo (t : Int) + 7) = (pr t : Int)
section
variable {N n mo : Nat} {st : Nat → Int} {pr : Nat → Nat} {qs : Nat → List Int} {xs ys : List Int}
theorem Raw14.field_at (h : Raw14 N n mo st pr qs xs) {t : Nat} (ht : t < n) {d : Int} (h0 : 2 ≤ d) (h1 : d < 24) : QElse n mo (nodeA mo (t : Int) + d) ∧ 0 ≤ nodeA mo (t : Int) + d ∧ nodeA mo (t : Int) + d < xs.length := by
  have hr := h.ring.room
  have hl := h.ring.len
  refine ⟨QElse.field (by omega) h0 h1, ?_, ?_⟩ <;> (unfold nodeA; omega)
/-- A call of the queue's. -/
theorem Raw14.queue (h : Raw14 N n mo st pr qs xs) {qs' : Nat → List Int} (hr : QRing N n mo qs' ys) (hk : ∀ c, QElse n mo c → valA ys c = valA xs c) : Raw14 N n mo st pr qs' ys :=
  ⟨hr, fun t ht => (hk _ (h.field_at ht (by decide) (by decide)).1).trans (h.st t ht), fun t ht => (hk _ (h.field_at ht (by decide) (by decide)).1).trans (h.pr t ht)⟩
theorem Raw14.setState (h : Raw14 N n mo st pr qs xs) {t : Nat} (ht : t < n) (x : Int) : Raw14 N n mo (updF st t x) pr qs (setA xs (nodeA mo (t : Int) + 5) x) := by
  obtain ⟨h1, h2, h3⟩ := h.field_at ht (d := 5) (by decide) (by decide)
  refine ⟨h.ring.set h1 x, fun i hi => ?_, fun i hi => ?_⟩
  · rw [val_set h2 h3]
    unfold updF
    by_cases e : i = t
    · rw [if_pos e, if_pos (by rw [e])]
    · rw [if_neg e, if_neg (by unfold nodeA; omega)]
      exact h.st i hi
  · rw [val_set h2 h3, if_neg (by unfold nodeA; omega)]
    exact h.pr i hi
theorem Raw14.setPrio (h : Raw14 N n mo st pr qs xs) {t : Nat} (ht : t < n) (x : Nat) : Raw14 N n mo st (updF pr t x) qs (setA xs (nodeA mo (t : Int) + 7) (x : Int)) := by
  obtain ⟨h1, h2, h3⟩ := h.field_at ht (d := 7) (by decide) (by decide)
  refine ⟨h.ring.set h1 (x : Int), fun i hi => ?_, fun i hi => ?_⟩
  · rw [val_set h2 h3, if_neg (by unfold nodeA; omega)]
    exact h.st i hi
  · rw [val_set h2 h3]
    unfold updF
    by_cases e : i = t
    · rw [if_pos e, if_pos (by rw [e])]
    · rw [if_neg e, if_neg (by unfold nodeA; omega)]
      exact h.pr i hi
theorem putL_updQ (qs : Nat → List Int) (p : Nat) (L : List Int) : putL qs p L = updQ qs p L := rfl
theorem Raw14.add (h : Raw14 N n mo st pr qs xs) (hN : N ≤ 4000) {p t : Nat} (hp : p < 16) (ht : t < n) (hno : ∀ q, q < 16 → (t : Int) ∉ qs q) : Raw14 N n mo st pr (putL qs p (qs p ++ [(t : Int)])) (aft (qAddT 8 (nodeA mo (t : Int)) (p : Int)) xs) := by
  obtain ⟨h1, h2⟩ := h.ring.add hp (j := (t : Int)) (by omega) (by omega) hN hno
  exact h.queue h1 h2
theorem Raw14.front (h : Raw14 N n mo st pr qs xs) (hN : N ≤ 4000) {p t : Nat} (hp : p < 16) (ht : t < n) (hno : ∀ q, q < 16 → (t : Int) ∉ qs q) : Raw14 N n mo st pr (putL qs p ((t : Int) :: qs p)) (aft (qFrontT 8 (nodeA mo (t : Int)) (p : Int)) xs) := by
  obtain ⟨h1, h2⟩ := h.ring.front hp (j := (t : Int)) (by omega) (by omega) hN hno
  exact h.queue h1 h2
theorem Raw14.drop (h : Raw14 N n mo st pr qs xs) (hN : N ≤ 4000) {p t : Nat} (hp : p < 16) (hm : (t : Int) ∈ qs p) : Raw14 N n mo st pr (putL qs p (butL (qs p) (t : Int))) (aft (qDropT 8 (nodeA mo (t : Int)) (p : Int)) xs) := by
  obtain ⟨A, B, e⟩ := List.append_of_mem hm
  have hn := (h.ring.mem p hp).1
  obtain ⟨h1, h2⟩ := h.ring.drop hp e hN
  rw [e] at hn
  rw [show butL (qs p) (t : Int) = A ++ B by rw [e]; exact butL_cut hn]
  exact h.queue h1 h2
end

/-- At the beginning. -/
def sim0 (pt : Pt) : Sim14 := ⟨fun _ => 0, fun t => match pt.ths[t]? with | some x => x.prio.toNat | none => 0, rdyN pt.ths pt.ths.length⟩
theorem rdyN_has (ths : List Th) (hpr : ∀ x ∈ ths, 0 ≤ x.prio ∧ x.prio ≤ 15) : ∀ t, t ≤ ths.length → ∀ (q : Nat) (j : Int), j ∈ rdyN ths t q ↔ ∃ (i : Nat) (x : Th), j = (i : Int) ∧ i < t ∧ ths[i]? = some x ∧ x.prio.toNat = q := by
  intro t
  induction t with
  | zero => exact fun _ q j => ⟨fun h => by simp [rdyN] at h, fun ⟨i, x, _, h, _⟩ => absurd h (Nat.not_lt_zero _)⟩
  | succ t ih =>
    intro ht q j
    have hx : ths[t]? = some ths[t] := List.getElem?_eq_getElem (by omega)
    have h0 := hpr _ (List.getElem_mem (by omega : t < ths.length))
    rw [rdyN, hx]
    have he : (some ths[t]).map Th.prio = some (q : Int) ↔ ths[t].prio.toNat = q := by
      rw [Option.map_some]
      constructor
      · intro h; injection h with h; omega
      · intro h; congr 1; omega
    by_cases e : ths[t].prio.toNat = q
    · rw [if_pos (he.2 e), List.mem_append, List.mem_singleton, ih (by omega)]
      constructor
      · rintro (⟨i, x, h1, h2, h3, h4⟩ | h1)
        · exact ⟨i, x, h1, by omega, h3, h4⟩
        · exact ⟨t, _, h1, by omega, hx, e⟩
      · rintro ⟨i, x, h1, h2, h3, h4⟩
        by_cases e2 : i = t
        · exact .inr (by rw [h1, e2])
        · exact .inl ⟨i, x, h1, by omega, h3, h4⟩
    · rw [if_neg (fun h => e (he.1 h)), ih (by omega)]
      constructor
      · rintro ⟨i, x, h1, h2, h3, h4⟩
        exact ⟨i, x, h1, by omega, h3, h4⟩
      · rintro ⟨i, x, h1, h2, h3, h4⟩
        by_cases e2 : i = t
        · subst e2
          rw [hx] at h3
          injection h3 with h3
          subst h3
          exact absurd h4 e
        · exact ⟨i, x, h1, by omega, h3, h4⟩
theorem rdyN_nodup (ths : List Th) (q : Nat) : ∀ t, (rdyN ths t q).Nodup := by
  intro t
  induction t with
  | zero => exact List.nodup_nil
  | succ t ih =>
    rw [rdyN]
    split
    · refine List.nodup_append.2 ⟨ih, by simp, fun a ha c hc => ?_⟩
      rw [List.mem_singleton] at hc
      have := rdyN_lt14 _ _ _ _ ha
      omega
    · exact ih
theorem sim0_ok {pt : Pt} (hpr : ∀ x ∈ pt.ths, 0 ≤ x.prio ∧ x.prio ≤ 15) : SimOk pt.ths.length (sim0 pt) := by
  refine ⟨fun t ht => ?_, fun p j hj => ?_, fun t ht _ => ?_, fun p => rdyN_nodup _ _ _⟩
  · have hx : pt.ths[t]? = some pt.ths[t] := List.getElem?_eq_getElem ht
    have h0 := hpr _ (List.getElem_mem ht)
    simp only [sim0, hx]
    omega
  · obtain ⟨i, x, h1, h2, h3, h4⟩ := (rdyN_has _ hpr _ (Nat.le_refl _) p j).1 hj
    refine ⟨i, h1, h2, rfl, ?_⟩
    simp only [sim0, h3]
    exact h4
  · have hx : pt.ths[t]? = some pt.ths[t] := List.getElem?_eq_getElem ht
    refine (rdyN_has _ hpr _ (Nat.le_refl _) _ _).2 ⟨t, _, rfl, ht, hx, ?_⟩
    simp only [sim0, hx]
theorem boot_raw {pt : Pt} (h : partW pt = 0) : Raw14 (43 + pt.obs.length + pt.ths.length * 24 + pt.obs.length * 24) pt.ths.length pt.obs.length (sim0 pt).st (sim0 pt).pr (sim0 pt).qs (bootX 16 [3, 5] pt pt.ths.length pt.obs.length) := by
  obtain ⟨_, _, hths, _⟩ := part_parts h
  refine ⟨boot_ring h, fun t ht => ?_, fun t ht => ?_⟩
  · have h9 := boot_field h t _ (List.getElem?_eq_getElem ht) 5 (by decide) (by decide)
    rw [if_neg (by decide)] at h9
    exact h9
  · have hx : pt.ths[t]? = some pt.ths[t] := List.getElem?_eq_getElem ht
    have h9 := boot_field h t _ hx 7 (by decide) (by decide)
    rw [if_pos (by decide)] at h9
    have h8 := of_decide_eq_true (List.all_eq_true.1 hths _ (List.getElem_mem ht))
    have e : valA (bootX 16 [3, 5] pt pt.ths.length pt.obs.length) (nodeA pt.obs.length (t : Int) + 7) = pt.ths[t].prio := h9
    rw [e]
    simp only [sim0, hx]
    omega

/-- The one behind whichever one. -/
theorem QRead.next {m : Nat} {qs : Nat → List Int} {xs : List Int} (h : QRead m qs xs) {P : Nat} {j : Int} {A rest : List Int} (hP : P < 16) (hq : qs P = A ++ j :: rest) : (rest ++ tailL qs P = [] ∧ (ans (qAfterT 8 (nodeA m j) (P : Int)) xs).2.2 = false) ∨
    ∃ (i : Int) (P2 : Nat) (A2 r2 : List Int), rest ++ tailL qs P = i :: (r2 ++ tailL qs P2) ∧ P2 < 16 ∧ qs P2 = A2 ++ i :: r2 ∧ ans (qAfterT 8 (nodeA m j) (P : Int)) xs = (nodeA m i, (P2 : Int), true) := by
  have hc := h.chn P hP
  rw [hq, List.map_append, List.map_cons] at hc
  have hc2 : NodeCh xs (nodeA m j) (rest.map (nodeA m)) (hdA P) := by
    have cut : ∀ (L : List Int) (a : Int), NodeCh xs a (L ++ nodeA m j :: rest.map (nodeA m)) (hdA P) → NodeCh xs (nodeA m j) (rest.map (nodeA m)) (hdA P) := by
      intro L
      induction L with
      | nil => exact fun a h => h.2
      | cons x r ih => exact fun a h => ih x h.2
    exact cut _ _ hc
  have e0 : ans (qAfterT 8 (nodeA m j) (P : Int)) xs = if valA xs (nodeA m j) = hdA P then ans (belowT 8 (P : Int)) xs else (valA xs (nodeA m j), (P : Int), true) := by
    unfold qAfterT
    rw [if_pos ⟨by omega, by omega⟩, ans_bind, ans_next, aft_next, head_hd P hP]
    by_cases h2 : valA xs (nodeA m j) = hdA P
    · rw [if_pos h2, if_pos h2]
      rfl
    · rw [if_neg h2, if_neg h2, if_pos rfl, ans_ret]
  rw [e0]
  cases rest with
  | nil =>
    have hv : valA xs (nodeA m j) = hdA P := hc2
    rw [if_pos hv, List.nil_append]
    rcases h.below P (by omega) with ⟨h1, h2⟩ | ⟨P2, i, r, h1, h2, h3, h4⟩
    · left
      exact ⟨h1, by rw [h2]⟩
    · right
      exact ⟨i, P2, [], r, h3, by omega, h2, h4⟩
  | cons i r =>
    right
    have hv : valA xs (nodeA m j) = nodeA m i := hc2.1
    have hi := h.pos P hP i (by rw [hq]; simp)
    rw [hv, if_neg (by unfold nodeA hdA; omega)]
    exact ⟨i, P, A ++ [j], r, rfl, hP, by rw [hq]; simp, rfl⟩
end Go.Sept

/-
  Copying a list, cell by cell: what the cells of a slice are, and that they read as the same wherever they stand. Conditions: none.
-/
import Derived.Test.YtmcmjcaigipoaaaGreatCfg11
import Derived.Test.YtmcmjcaigipoaaaGreatTake11
namespace Go.Sept
open Go.RowKit

/-- What lies at a place by E are sz cells, which lie by E' wherever they stand, in each world of Q. -/
def Whole {α : Type} (sz : Nat) (E : World → Nat → Nat → α → Prop) (w : World) (E' : World → Nat → Nat → α → Prop) (Q : World → Prop) : Prop :=
  ∀ b o x, E w b o x → ∃ us : List Value, us.length = sz ∧ (∀ j u, us[j]? = some u → w.cell? ⟨b, o + j, none⟩ = some u) ∧ (∀ u ∈ us, u.oneCell' = true) ∧ ∀ w' b' o', Q w' → (∀ j u, us[j]? = some u → w'.cell? ⟨b', o' + j, none⟩ = some u) → E' w' b' o' x

theorem whole_win (w : World) : Whole 2 winE w winE (fun _ => True) := fun b o x h => by
  refine ⟨[.int .i64 x.part, .int .i64 x.ticks], rfl, ?_, by intro u hu; simp at hu; rcases hu with rfl | rfl <;> rfl, fun w' b' o' _ hc => ⟨⟨hc 0 _ rfl, h.1.2⟩, ⟨hc 1 _ rfl, h.2.2⟩⟩⟩
  intro j u hj
  match j, hj with
  | 0, hj => injection hj with hj; subst hj; exact h.1.1
  | 1, hj => injection hj with hj; subst hj; exact h.2.1
theorem whole_chn (w : World) : Whole 4 chnE w chnE (fun _ => True) := fun b o x h => by
  refine ⟨[.int .i64 x.src, .int .i64 x.out, .int .i64 x.dst, .int .i64 x.inn], rfl, ?_, by intro u hu; simp at hu; rcases hu with rfl | rfl | rfl | rfl <;> rfl, fun w' b' o' _ hc => ⟨⟨hc 0 _ rfl, h.1.2⟩, ⟨hc 1 _ rfl, h.2.1.2⟩, ⟨hc 2 _ rfl, h.2.2.1.2⟩, ⟨hc 3 _ rfl, h.2.2.2.2⟩⟩⟩
  intro j u hj
  match j, hj with
  | 0, hj => injection hj with hj; subst hj; exact h.1.1
  | 1, hj => injection hj with hj; subst hj; exact h.2.1.1
  | 2, hj => injection hj with hj; subst hj; exact h.2.2.1.1
  | 3, hj => injection hj with hj; subst hj; exact h.2.2.2.1
theorem whole_ob (w : World) : Whole 3 obE w obE (fun _ => True) := fun b o x h => by
  refine ⟨[.int .i64 x.kind, .int .i64 x.size, .bool x.prio], rfl, ?_, by intro u hu; simp at hu; rcases hu with rfl | rfl | rfl <;> rfl, fun w' b' o' _ hc => ⟨⟨hc 0 _ rfl, h.1.2⟩, ⟨hc 1 _ rfl, h.2.1.2⟩, hc 2 _ rfl⟩⟩
  intro j u hj
  match j, hj with
  | 0, hj => injection hj with hj; subst hj; exact h.1.1
  | 1, hj => injection hj with hj; subst hj; exact h.2.1.1
  | 2, hj => injection hj with hj; subst hj; exact h.2.2
theorem whole_int (w : World) : Whole 1 intE w intE (fun _ => True) := fun b o x h => by
  refine ⟨[.int .i64 x], rfl, ?_, by intro u hu; simp at hu; rw [hu]; rfl, fun w' b' o' _ hc => ⟨hc 0 _ rfl, h.2⟩⟩
  intro j u hj
  match j, hj with
  | 0, hj => injection hj with hj; subst hj; exact h.1
/-- Calls: their words stay where they are. -/
theorem whole_cl (P P' : Nat → Prop) (w : World) : Whole 6 (clE P) w (clE P') (fun w' => ∀ v l, SlOf P 1 intE w v l → SlOf P' 1 intE w' v l) := fun b o x h => by
  obtain ⟨h1, h2, h3, h4, ⟨v, h5, h6⟩, h7⟩ := h
  obtain ⟨ao, cap, hv, _⟩ := h6.shape
  refine ⟨[.int .i64 x.kind, .int .i64 x.handle, .int .i64 x.a, .int .i64 x.b, v, .int .i64 x.timeout], rfl, ?_, by intro u hu; simp at hu; rcases hu with rfl | rfl | rfl | rfl | rfl | rfl <;> first | rfl | (rw [hv]; rfl), fun w' b' o' hQ hc => ⟨⟨hc 0 _ rfl, h1.2⟩, ⟨hc 1 _ rfl, h2.2⟩, ⟨hc 2 _ rfl, h3.2⟩, ⟨hc 3 _ rfl, h4.2⟩, ⟨v, hc 4 _ rfl, hQ v _ h6⟩, ⟨hc 5 _ rfl, h7.2⟩⟩⟩
  intro j u hj
  match j, hj with
  | 0, hj => injection hj with hj; subst hj; exact h1.1
  | 1, hj => injection hj with hj; subst hj; exact h2.1
  | 2, hj => injection hj with hj; subst hj; exact h3.1
  | 3, hj => injection hj with hj; subst hj; exact h4.1
  | 4, hj => injection hj with hj; subst hj; exact h5
  | 5, hj => injection hj with hj; subst hj; exact h7.1

theorem app_get {xs ys : List Value} {j : Nat} {u : Value} (h : (xs ++ ys)[j]? = some u) : j < xs.length ∧ xs[j]? = some u ∨ xs.length ≤ j ∧ ys[j - xs.length]? = some u := by
  by_cases hj : j < xs.length
  · rw [List.getElem?_append_left hj] at h
    exact .inl ⟨hj, h⟩
  · rw [List.getElem?_append_right (by omega)] at h
    exact .inr ⟨by omega, h⟩

/-- The cells of a slice. -/
theorem news_of {α : Type} {P : Nat → Prop} {sz : Nat} {E E' : World → Nat → Nat → α → Prop} {Q : World → Prop} {w : World} {ao : Option Addr} {n cap : Nat} {l : List α} (h : SlOf P sz E w (.slice ao n cap) l) (hw : Whole sz E w E' Q) :
    ∃ news : List Value, news.length = l.length * sz ∧ (∀ j u, news[j]? = some u → ∃ a, ao = some a ∧ w.cell? (a.add j) = some u) ∧ (∀ u ∈ news, u.oneCell' = true) ∧ ∀ w' b', Q w' → (∀ j u, news[j]? = some u → w'.cell? ⟨b', j, none⟩ = some u) → ∀ i x, l[i]? = some x → E' w' b' (i * sz) x := by
  obtain ⟨ao', cap', h1, _, b, off, h3⟩ := h
  injection h1 with h4 _ _
  subst h4
  have key : ∀ m, m ≤ l.length → ∃ news : List Value, news.length = m * sz ∧ (∀ j u, news[j]? = some u → ao = some ⟨b, off, none⟩ ∧ w.cell? ⟨b, off + j, none⟩ = some u) ∧ (∀ u ∈ news, u.oneCell' = true) ∧ ∀ w' b', Q w' → (∀ j u, news[j]? = some u → w'.cell? ⟨b', j, none⟩ = some u) → ∀ i x, i < m → l[i]? = some x → E' w' b' (i * sz) x := by
    intro m
    induction m with
    | zero => exact fun _ => ⟨[], by simp, fun j u hj => by simp at hj, (fun u hu => by simp at hu), fun _ _ _ _ i x hi => by omega⟩
    | succ m ih =>
      intro hm
      obtain ⟨news, n1, n2, n3, n4⟩ := ih (by omega)
      have hx : l[m]? = some l[m] := List.getElem?_eq_getElem (by omega)
      obtain ⟨k1, _, k3⟩ := h3 m _ hx
      obtain ⟨us, u1, u2, u3, u4⟩ := hw b (off + m * sz) _ k3
      refine ⟨news ++ us, by rw [List.length_append, n1, u1, Nat.succ_mul], fun j u hj => ?_, fun u hu => ?_, fun w' b' hQ hc i x hi hxi => ?_⟩
      · rcases app_get hj with ⟨_, hj⟩ | ⟨hl, hj⟩
        · exact n2 j u hj
        · refine ⟨k1, ?_⟩
          have := u2 _ u hj
          rw [n1] at this hl
          rwa [Nat.add_assoc, Nat.add_sub_cancel' hl] at this
      · rcases List.mem_append.1 hu with hu | hu
        · exact n3 u hu
        · exact u3 u hu
      · by_cases e : i < m
        · refine n4 w' b' hQ (fun j u hj => hc j u ?_) i x e hxi
          rw [List.getElem?_append_left (List.getElem?_eq_some_iff.1 hj).1]
          exact hj
        · have : i = m := by omega
          subst this
          rw [hx] at hxi
          injection hxi with hxi
          subst hxi
          refine u4 w' b' (i * sz) hQ (fun j u hj => hc _ u ?_)
          rw [List.getElem?_append_right (by omega), n1, Nat.add_sub_cancel_left]
          exact hj
  obtain ⟨news, n1, n2, n3, n4⟩ := key l.length (Nat.le_refl _)
  refine ⟨news, n1, fun j u hj => ?_, n3, fun w' b' hQ hc i x hx => n4 w' b' hQ hc i x (List.getElem?_eq_some_iff.1 hx).1 hx⟩
  obtain ⟨k1, k2⟩ := n2 j u hj
  refine ⟨_, k1, ?_⟩
  have e : (⟨b, off, none⟩ : Addr).add j = ⟨b, off + j, none⟩ := by unfold Addr.add; split <;> simp_all
  rw [e]
  exact k2

/-- What a slice of its own holds, as its type tells. -/
theorem Grow.tsl {α : Type} {G : Nat → TypeId → Prop} {T : TypeId} {sz : Nat} {E : World → Nat → Nat → α → Prop} {w : World} {v : Value} {b : Nat} {l : List α} {cells : List Value} (h : Grow T sz w v b l.length cells) (hG : 0 < l.length → G b T) (hE : (∀ j u, cells[j]? = some u → w.cell? ⟨b, j, none⟩ = some u) → ∀ i x, l[i]? = some x → E w b (i * sz) x) : TSl G T sz E w v l := by
  obtain ⟨ao, cap, hv, hc, hm⟩ := h.shape
  unfold maxLen at hm
  refine ⟨ao, cap, hv, ⟨hc, by omega⟩, b, fun i x hx => ?_⟩
  have h0 : 0 < l.length := Nat.lt_of_le_of_lt (Nat.zero_le _) (List.getElem?_eq_some_iff.1 hx).1
  obtain ⟨cap', hv', _, _, hcs⟩ := h.cells h0
  rw [hv] at hv'
  injection hv' with h1 _ _
  refine ⟨h1, hG h0, ?_, hE hcs i x hx⟩
  rcases h.own.2 with ⟨e1, e2⟩ | ⟨g, cap2, cur, e1, _, hg, _⟩
  · omega
  · have e : g = b := h.spot g (by rw [e1]; rfl)
    subst e
    exact ⟨cur, hg⟩
end Go.Sept

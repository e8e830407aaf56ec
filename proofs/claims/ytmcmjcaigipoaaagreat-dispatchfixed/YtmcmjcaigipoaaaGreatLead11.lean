/-
  Whether channels lead from one partition to another, as plain mathematics, and septumref11.Leads. Conditions: none.
-/
import Derived.Test.YtmcmjcaigipoaaaGreatRef11
import Derived.Deep.RegionHeld
namespace Go.Sept
/-- Channels lead from a to b: b is in each set that has a, and is shut under the channels. -/
def LeadsTo (l : List Chn) (a b : Int) : Prop := ∀ S : Int → Prop, S a → (∀ x ∈ l, S x.src → S x.dst) → S b
theorem LeadsTo.refl (l : List Chn) (a : Int) : LeadsTo l a a := fun _ h _ => h
theorem LeadsTo.trans {l : List Chn} {a b c : Int} (h : LeadsTo l a b) (k : LeadsTo l b c) : LeadsTo l a c := fun S ha hS => k S (h S ha hS) hS
theorem LeadsTo.step {l : List Chn} {a : Int} {x : Chn} (h : LeadsTo l a x.src) (hx : x ∈ l) : LeadsTo l a x.dst := fun S ha hS => hS x hx (h S ha hS)

/-- What was reached so far, of which the first j are done. -/
structure Lv (l : List Chn) (f t : Int) (j : Nat) (rs : List Int) : Prop where
  first : f ∈ rs
  reach : ∀ x ∈ rs, LeadsTo l f x
  past : ∀ a x, a < j → rs[a]? = some x → x ≠ t
  shut : ∀ a x, a < j → rs[a]? = some x → ∀ ch ∈ l, ch.src = x → ch.dst ∈ rs
  room : rs.length + (l.filter fun ch => !rs.contains ch.dst).length ≤ 1 + l.length
theorem Lv.start (l : List Chn) (f t : Int) : Lv l f t 0 [f] :=
  ⟨by simp, fun x hx => by rw [List.mem_singleton.1 hx]; exact LeadsTo.refl _ _, fun a x ha => absurd ha (Nat.not_lt_zero _), fun a x ha => absurd ha (Nat.not_lt_zero _), by
    have := List.length_filter_le (fun ch : Chn => !([f] : List Int).contains ch.dst) l
    simp only [List.length_singleton]
    omega⟩
theorem filter_less {α : Type} {l : List α} {p q : α → Bool} (h : ∀ x ∈ l, q x = true → p x = true) {x : α} (hx : x ∈ l) (hp : p x = true) (hq : q x = false) : (l.filter q).length < (l.filter p).length := by
  induction l with
  | nil => cases hx
  | cons y r ih =>
    have hle : ∀ r : List α, (∀ x ∈ r, q x = true → p x = true) → (r.filter q).length ≤ (r.filter p).length := by
      intro r hr
      induction r with
      | nil => exact Nat.le_refl _
      | cons z s ihs =>
        have i1 := ihs (fun x hx => hr x (List.mem_cons_of_mem _ hx))
        have i2 := hr z (List.mem_cons_self ..)
        rw [List.filter_cons, List.filter_cons]
        cases hqz : q z
        · cases p z
          · simpa using i1
          · simp only [if_true, List.length_cons]
            simp
            omega
        · rw [i2 hqz]
          simpa using i1
    rw [List.filter_cons, List.filter_cons]
    rcases List.mem_cons.1 hx with rfl | hx
    · have i1 := hle r (fun x hx => h x (List.mem_cons_of_mem _ hx))
      rw [hp, hq]
      simp
      omega
    · have i1 := ih (fun x hx => h x (List.mem_cons_of_mem _ hx)) hx
      have i2 := h y (List.mem_cons_self ..)
      cases hqz : q y
      · cases p y
        · simpa using i1
        · simp
          omega
      · rw [i2 hqz]
        simpa using i1
theorem Lv.more {l : List Chn} {f t : Int} {j : Nat} {rs : List Int} (h : Lv l f t j rs) (hj : j ≤ rs.length) {ch : Chn} (hc : ch ∈ l) (hs : ch.src ∈ rs) (hn : rs.contains ch.dst = false) : Lv l f t j (rs ++ [ch.dst]) := by
  have hold : ∀ a x, a < j → (rs ++ [ch.dst])[a]? = some x → rs[a]? = some x := fun a x ha hx => by
    rw [List.getElem?_append_left (by omega)] at hx
    exact hx
  refine ⟨List.mem_append_left _ h.first, fun x hx => ?_, fun a x ha hx => h.past a x ha (hold a x ha hx), fun a x ha hx c hc he => List.mem_append_left _ (h.shut a x ha (hold a x ha hx) c hc he), ?_⟩
  · rcases List.mem_append.1 hx with hx | hx
    · exact h.reach x hx
    · rw [List.mem_singleton.1 hx]
      exact (h.reach _ hs).step hc
  · have h1 := h.room
    have h2 : (l.filter fun c => !(rs ++ [ch.dst]).contains c.dst).length < (l.filter fun c => !rs.contains c.dst).length := by
      refine filter_less (fun x _ hx => ?_) hc (by rw [hn]; rfl) (by simp)
      cases hr : rs.contains x.dst with
      | false => rfl
      | true =>
        rw [List.contains_iff_mem] at hr
        have h3 : (rs ++ [ch.dst]).contains x.dst = true := by
          rw [List.contains_iff_mem]
          exact List.mem_append_left _ hr
        rw [h3] at hx
        cases hx
    rw [List.length_append, List.length_singleton]
    omega
theorem Lv.next {l : List Chn} {f t : Int} {j : Nat} {rs : List Int} (h : Lv l f t j rs) {x : Int} (hx : rs[j]? = some x) (ht : x ≠ t) (hs : ∀ ch ∈ l, ch.src = x → ch.dst ∈ rs) : Lv l f t (j + 1) rs := by
  refine ⟨h.first, h.reach, fun a y ha hy => ?_, fun a y ha hy => ?_, h.room⟩
  · by_cases e : a = j
    · subst e
      rw [hx] at hy
      injection hy with hy
      subst hy
      exact ht
    · exact h.past a y (by omega) hy
  · by_cases e : a = j
    · subst e
      rw [hx] at hy
      injection hy with hy
      subst hy
      exact hs
    · exact h.shut a y (by omega) hy
theorem Lv.no {l : List Chn} {f t : Int} {j : Nat} {rs : List Int} (h : Lv l f t j rs) (hj : rs.length ≤ j) : ¬ LeadsTo l f t := by
  intro hr
  have ht : t ∈ rs := hr (fun x => x ∈ rs) h.first (fun ch hc hs => by
    obtain ⟨i, hi, he⟩ := List.getElem_of_mem hs
    exact h.shut i _ (by omega) (List.getElem?_eq_getElem hi) ch hc he.symm)
  obtain ⟨i, hi, he⟩ := List.getElem_of_mem ht
  exact h.past i t (by omega) (by rw [List.getElem?_eq_getElem hi, he]) rfl
end Go.Sept

namespace Go.Proofs.YtmcmjcaigipoaaaGreat
open Go.RowKit Go.Sept

/-- It answers whether X. -/
def Tells (e : Ending) (X : Prop) : Prop := ∃ b : Bool, e = .returned (.bool b) ∧ (b = true ↔ X)
theorem tells_yes {X : Prop} (h : X) : Tells (.returned (.bool true)) X := ⟨true, rfl, fun _ => h, fun _ => rfl⟩
theorem tells_no {X : Prop} (h : ¬ X) : Tells (.returned (.bool false)) X := ⟨false, rfl, (fun e => Bool.noConfusion e), fun e => absurd e h⟩

theorem infoInt11 : (Tryz.prog.info? 3).map (fun i => (i.zero, i.size, i.bytes)) = some (some (.int .i64 0), 1, 8) := by kernel_rfl
theorem one_int11 (x : Int) : ∀ u ∈ [Value.int .i64 x], u.oneCell' = true := by
  intro u hu
  rw [List.mem_singleton] at hu
  subst hu
  rfl
/-- A slice of ints of its own. -/
def Own3 (w : World) (v : Value) (b : Nat) (xs : List Int) : Prop := Grow 3 1 w v b xs.length (xs.map (Value.int .i64))
theorem Own3.ints {w : World} {v : Value} {b : Nat} {xs : List Int} (h : Own3 w v b xs) : ∃ ao cap, v = .slice ao xs.length cap ∧ IntsIs w ao xs ∧ xs.length ≤ 9223372036854775807 := by
  by_cases h0 : 0 < xs.length
  · obtain ⟨cap, h1, h2, h3, h4⟩ := Grow.cells h h0
    unfold maxLen at h3
    refine ⟨_, cap, h1, ⟨b, 0, fun i x hx => ⟨rfl, ?_⟩⟩, by omega⟩
    rw [Nat.zero_add]
    exact h4 i _ (by rw [List.getElem?_map, hx]; rfl)
  · obtain ⟨ao, cap, h1, _⟩ := Grow.shape h
    exact ⟨ao, cap, h1, ⟨0, 0, fun i x hx => by rw [show xs = [] from List.length_eq_zero_iff.1 (by omega)] at hx; simp at hx⟩, by omega⟩

end Go.Proofs.YtmcmjcaigipoaaaGreat

/-
  A step of a Get, or a Set, of no such thread or field: no access. Conditions: the plan is one that Of makes; all of it lies in blocks that are not the same.
-/
import Derived.Test.YtabdlbmdbceemaaMath13
import Derived.Test.YtabdlbmdbceemaaSame
namespace Go.Sept
theorem getT_ret {n m : Nat} {t f : Int} (h : fieldV n m t f < 0) : getT n m t f = Tree.ret 0 := if_pos h
theorem setT_ret {n m : Nat} {t f v : Int} (h : fieldV n m t f < 0) : setT n m t f v = Tree.ret () := if_pos h
theorem fieldV_out {n m : Nat} {t f : Int} (h : ¬ (0 ≤ t ∧ t < n ∧ 0 ≤ f ∧ f < 19)) : fieldV n m t f = -1 := by
  unfold fieldV tplaceV
  by_cases h1 : 0 ≤ f ∧ f < 19
  · rw [if_pos h1, if_neg (by omega)]
  · rw [if_neg h1]
end Go.Sept
namespace Go.Proofs.Ytabdlbmdbceemaa
open Go.RowKit Go.Sept

/-- Two frames over a memory, beside a plan in blocks below V's, and two bodies' blocks. -/
structure Odd13 (V w : World) (n m : Nat) (ta oa za zb : Option Addr) (zc zd : Nat) (t f v : Int) (p q F1 l1 F2 l2 U1 U2 : Nat) (s1 s2 : FrSt) (xs : List Int) : Prop where
  th : ThIs (fun k => k < V.heap.size) w (planCs n m ta oa (.slice za n zc) (.slice zb m zd)) n m
  mem : MemIs 74 w p q xs
  fr1 : FrameIs w F1 l1 s1
  fr2 : FrameIs w F2 l2 s2
  x : w.heap[U1]? = some (act13O n m ta oa za zb zc zd t f v true 0)
  y : w.heap[U2]? = some (act13O n m ta oa za zb zc zd t f 0 false 0)
  only : Only (fun _ => False) V w
  low : V.heap.size ≤ p ∧ V.heap.size ≤ q ∧ V.heap.size ≤ F1 ∧ V.heap.size ≤ l1 ∧ V.heap.size ≤ F2 ∧ V.heap.size ≤ l2 ∧ V.heap.size ≤ U1 ∧ V.heap.size ≤ U2
  ap : (F1 ≠ p ∧ F1 ≠ q ∧ l1 ≠ p ∧ l1 ≠ q) ∧ (F2 ≠ p ∧ F2 ≠ q ∧ l2 ≠ p ∧ l2 ≠ q) ∧ (F1 ≠ F2 ∧ F1 ≠ l2 ∧ l1 ≠ F2 ∧ l1 ≠ l2)
  au : (U1 ≠ p ∧ U1 ≠ q ∧ U1 ≠ F1 ∧ U1 ≠ l1 ∧ U1 ≠ F2 ∧ U1 ≠ l2) ∧ (U2 ≠ p ∧ U2 ≠ q ∧ U2 ≠ F1 ∧ U2 ≠ l1 ∧ U2 ≠ F2 ∧ U2 ≠ l2) ∧ U1 ≠ U2
  ll : l1 < w.heap.size ∧ l2 < w.heap.size
section
variable {V w w' : World} {n m : Nat} {ta oa za zb : Option Addr} {zc zd : Nat} {t f v : Int} {p q F1 l1 F2 l2 U1 U2 : Nat} {s1 s2 : FrSt} {xs : List Int}
theorem Odd13.keep (h : Odd13 V w n m ta oa za zb zc zd t f v p q F1 l1 F2 l2 U1 U2 s1 s2 xs) (ho : Only (fun _ => False) w w') : Odd13 V w' n m ta oa za zb zc zd t f v p q F1 l1 F2 l2 U1 U2 s1 s2 xs :=
  ⟨h.th.only ho (fun _ _ h => h), h.mem.only ho (fun h => h) (fun h => h), h.fr1.only ho (fun h => h) (fun h => h), h.fr2.only ho (fun h => h) (fun h => h), (ho.block _ (lt_of_block h.x) (fun h => h)).trans h.x, (ho.block _ (lt_of_block h.y) (fun h => h)).trans h.y, h.only.chain ho (fun _ _ h => h), h.low, h.ap, h.au, by have := h.ll; have := ho.size; omega⟩

theorem Odd13.step1 (h : Odd13 V w n m ta oa za zb zc zd t f v p q F1 l1 F2 l2 U1 U2 (fresh (some ⟨p, 0, none⟩)) s2 xs) (hf : fieldV n m t f < 0) (hx : 0 < xs.length) :
    Calls Try.prog 19 #[.pointer (some ⟨F1, 0, none⟩), .int .i64 0, bodyV 16 (ptrV U1)] w fun e w' => ∃ s1' l1', e = .returned (.bool true) ∧ s1'.log = [] ∧ Odd13 V w' n m ta oa za zb zc zd t f v p q F1 l1' F2 l2 U1 U2 s1' s2 xs := by
  have hz := h.only.size
  have hN : Near (besideK (readK U1 (act13O n m ta oa za zb zc zd t f v true 0)) (thBag (planCs n m ta oa (.slice za n zc) (.slice zb m zd)) n m (fun k => k < V.heap.size))) w F1 l1 p q (fresh (some ⟨p, 0, none⟩)) xs := by
    refine ⟨⟨h.fr1, .inl ⟨rfl, h.mem⟩, lt_of_block h.mem.head, h.mem.row.lt, h.ll.1, h.ap.1.1, h.ap.1.2.1, h.ap.1.2.2.1, h.ap.1.2.2.2⟩, ⟨h.x, h.th, fun k hk => Nat.lt_of_lt_of_le hk hz⟩, fun k hk => ?_⟩
    rcases hk with hk | hk
    · have e : k = U1 := hk
      subst e
      exact ⟨h.au.1.2.2.1, h.au.1.2.2.2.1, h.au.1.1, h.au.1.2.1⟩
    · have e : k < V.heap.size := hk
      have hlw := h.low
      exact ⟨by omega, by omega, by omega, by omega⟩
  refine ((act13_set (fun k => k < V.heap.size) U1 n m ta oa za zb zc zd t f v 0).step_end w F1 l1 p q _ xs 0 hN rfl rfl (by show 0 + 3 ≤ 6000; decide) (x := ()) (by rw [setT_ret hf]; exact Tree.after_ret _)).mono ?_
  rintro e w' ⟨s', rfl, ⟨lb', hn', hl', ho', _⟩, g1, g2, g3, g4⟩
  have ho : Only (fun k => k = F1 ∨ k = l1 ∨ k = q) w w' := ho'.mono (fun k _ e => by
    rcases e with e | e | e | e
    · exact .inl e
    · exact .inr (.inl e)
    · exact .inr (.inr e)
    · exact e.elim)
  have hm0 : Holds 74 w' (.pointer s'.mp) p q xs := hn'.fm.mem
  rw [g2] at hm0
  have hm : MemIs 74 w' p q xs := holds_mem hm0 hx
  have n1 : ¬ (F2 = F1 ∨ F2 = l1 ∨ F2 = q) := fun e => by
    rcases e with e | e | e
    · exact h.ap.2.2.1 e.symm
    · exact h.ap.2.2.2.2.1 e.symm
    · exact h.ap.2.1.2.1 e
  have n2 : ¬ (l2 = F1 ∨ l2 = l1 ∨ l2 = q) := fun e => by
    rcases e with e | e | e
    · exact h.ap.2.2.2.1 e.symm
    · exact h.ap.2.2.2.2.2 e.symm
    · exact h.ap.2.1.2.2.2 e
  have n3 : ¬ (U2 = F1 ∨ U2 = l1 ∨ U2 = q) := fun e => by
    rcases e with e | e | e
    · exact h.au.2.1.2.2.1 e
    · exact h.au.2.1.2.2.2.1 e
    · exact h.au.2.1.2.1 e
  have f2 : FrameIs w' F2 l2 s2 := h.fr2.only ho n1 n2
  have y2 : w'.heap[U2]? = some (act13O n m ta oa za zb zc zd t f 0 false 0) := (ho.block U2 (lt_of_block h.y) n3).trans h.y
  have o2 : Only (fun _ => False) V w' := h.only.chain ho (fun i hi e => by
    have hlw := h.low
    have e' : i = F1 ∨ i = l1 ∨ i = q := e
    omega)
  have hnl := hn'.fm.ll
  have hll2 : l2 < w'.heap.size := Nat.lt_of_lt_of_le h.ll.2 ho.size
  have hge : ∀ k, k < w.heap.size → k ≠ l1 → lb' ≠ k := fun k hk hne e => by
    rcases hl' with h9 | h9
    · exact hne (e.symm.trans h9)
    · omega
  exact ⟨s', lb', rfl, g1, hn'.pre.2.1, hm, hn'.fm.frame, f2, hn'.pre.1, y2, o2, by have hlw := h.low; omega,
    ⟨⟨h.ap.1.1, h.ap.1.2.1, hge p (lt_of_block h.mem.head) h.ap.1.2.2.1.symm, hge q h.mem.row.lt h.ap.1.2.2.2.symm⟩, h.ap.2.1, h.ap.2.2.1, h.ap.2.2.2.1, hge F2 h.fr2.lt h.ap.2.2.2.2.1.symm, hge l2 h.ll.2 h.ap.2.2.2.2.2.symm⟩,
    ⟨⟨h.au.1.1, h.au.1.2.1, h.au.1.2.2.1, (hge U1 (lt_of_block h.x) h.au.1.2.2.2.1).symm, h.au.1.2.2.2.2.1, h.au.1.2.2.2.2.2⟩, ⟨h.au.2.1.1, h.au.2.1.2.1, h.au.2.1.2.2.1, (hge U2 (lt_of_block h.y) h.au.2.1.2.2.2.1).symm, h.au.2.1.2.2.2.2.1, h.au.2.1.2.2.2.2.2⟩, h.au.2.2⟩, hnl, hll2⟩

theorem Odd13.step2 (h : Odd13 V w n m ta oa za zb zc zd t f v p q F1 l1 F2 l2 U1 U2 s1 (fresh (some ⟨p, 0, none⟩)) xs) (hf : fieldV n m t f < 0) (hx : 0 < xs.length) :
    Calls Try.prog 19 #[.pointer (some ⟨F2, 0, none⟩), .int .i64 0, bodyV 16 (ptrV U2)] w fun e w' => ∃ s2' l2', e = .returned (.bool true) ∧ s2'.log = [] ∧ Odd13 V w' n m ta oa za zb zc zd t f v p q F1 l1 F2 l2' U1 U2 s1 s2' xs := by
  have hz := h.only.size
  have hN : Near (besideK (cellK U2 (fun g => act13O n m ta oa za zb zc zd t f 0 false g)) (thBag (planCs n m ta oa (.slice za n zc) (.slice zb m zd)) n m (fun k => k < V.heap.size))) w F2 l2 p q (fresh (some ⟨p, 0, none⟩)) xs := by
    refine ⟨⟨h.fr2, .inl ⟨rfl, h.mem⟩, lt_of_block h.mem.head, h.mem.row.lt, h.ll.2, h.ap.2.1.1, h.ap.2.1.2.1, h.ap.2.1.2.2.1, h.ap.2.1.2.2.2⟩, ⟨⟨0, h.y⟩, h.th, fun k hk => Nat.lt_of_lt_of_le hk hz⟩, fun k hk => ?_⟩
    rcases hk with hk | hk
    · have e : k = U2 := hk
      subst e
      exact ⟨h.au.2.1.2.2.2.2.1, h.au.2.1.2.2.2.2.2, h.au.2.1.1, h.au.2.1.2.1⟩
    · have e : k < V.heap.size := hk
      have hlw := h.low
      exact ⟨by omega, by omega, by omega, by omega⟩
  refine ((act13_get (fun k => k < V.heap.size) U2 n m (by have hlw := h.low; omega) ta oa za zb zc zd t f 0).step_end w F2 l2 p q _ xs 0 hN rfl rfl (by show 0 + 3 ≤ 6000; decide) (x := 0) (by rw [getT_ret hf]; exact Tree.after_ret _)).mono ?_
  rintro e w' ⟨s', rfl, ⟨lb', hn', hl', ho', hpost⟩, g1, g2, g3, g4⟩
  have ho : Only (fun k => k = F2 ∨ k = l2 ∨ k = q ∨ k = U2) w w' := ho'
  have hm0 : Holds 74 w' (.pointer s'.mp) p q xs := hn'.fm.mem
  rw [g2] at hm0
  have hm : MemIs 74 w' p q xs := holds_mem hm0 hx
  have n1 : ¬ (F1 = F2 ∨ F1 = l2 ∨ F1 = q ∨ F1 = U2) := fun e => by
    rcases e with e | e | e | e
    · exact h.ap.2.2.1 e
    · exact h.ap.2.2.2.1 e
    · exact h.ap.1.2.1 e
    · exact h.au.2.1.2.2.1 e.symm
  have n2 : ¬ (l1 = F2 ∨ l1 = l2 ∨ l1 = q ∨ l1 = U2) := fun e => by
    rcases e with e | e | e | e
    · exact h.ap.2.2.2.2.1 e
    · exact h.ap.2.2.2.2.2 e
    · exact h.ap.1.2.2.2 e
    · exact h.au.2.1.2.2.2.1 e.symm
  have n3 : ¬ (U1 = F2 ∨ U1 = l2 ∨ U1 = q ∨ U1 = U2) := fun e => by
    rcases e with e | e | e | e
    · exact h.au.1.2.2.2.2.1 e
    · exact h.au.1.2.2.2.2.2 e
    · exact h.au.1.2.1 e
    · exact h.au.2.2 e
  have f1 : FrameIs w' F1 l1 s1 := h.fr1.only ho n1 n2
  have x2 : w'.heap[U1]? = some (act13O n m ta oa za zb zc zd t f v true 0) := (ho.block U1 (lt_of_block h.x) n3).trans h.x
  have y2 : w'.heap[U2]? = some (act13O n m ta oa za zb zc zd t f 0 false 0) := hpost
  have o2 : Only (fun _ => False) V w' := h.only.chain ho (fun i hi e => by
    have hlw := h.low
    have e' : i = F2 ∨ i = l2 ∨ i = q ∨ i = U2 := e
    omega)
  have hnl := hn'.fm.ll
  have hll1 : l1 < w'.heap.size := Nat.lt_of_lt_of_le h.ll.1 ho.size
  have hge : ∀ k, k < w.heap.size → k ≠ l2 → lb' ≠ k := fun k hk hne e => by
    rcases hl' with h9 | h9
    · exact hne (e.symm.trans h9)
    · omega
  exact ⟨s', lb', rfl, g1, hn'.pre.2.1, hm, f1, hn'.fm.frame, x2, y2, o2, by have hlw := h.low; omega,
    ⟨h.ap.1, ⟨h.ap.2.1.1, h.ap.2.1.2.1, hge p (lt_of_block h.mem.head) h.ap.2.1.2.2.1.symm, hge q h.mem.row.lt h.ap.2.1.2.2.2.symm⟩, h.ap.2.2.1, (hge F1 h.fr1.lt h.ap.2.2.2.1).symm, h.ap.2.2.2.2.1, (hge l1 h.ll.1 h.ap.2.2.2.2.2).symm⟩,
    ⟨⟨h.au.1.1, h.au.1.2.1, h.au.1.2.2.1, h.au.1.2.2.2.1, h.au.1.2.2.2.2.1, (hge U1 (lt_of_block h.x) h.au.1.2.2.2.2.2).symm⟩, ⟨h.au.2.1.1, h.au.2.1.2.1, h.au.2.1.2.2.1, h.au.2.1.2.2.2.1, h.au.2.1.2.2.2.2.1, (hge U2 (lt_of_block h.y) h.au.2.1.2.2.2.2.2).symm⟩, h.au.2.2⟩, hll1, hnl⟩
end

theorem words_zero13 (k : Nat) (hk : 0 < k) (hk2 : k ≤ 4000) (w : World) (p q : Nat) (h : MemIs 74 w p q (List.replicate k 0)) :
    Calls Try.prog 22 #[.pointer (some ⟨p, 0, none⟩)] w fun e w' => ∃ b, e = .returned (.slice (some ⟨b, 0, none⟩) k k) ∧ RowIs w' b (List.replicate k 0) ∧ w.heap.size ≤ b ∧ Only (fun _ => False) w w' := by
  have h9 := words_rel_pos w p q _ h (by rw [List.length_replicate]; exact hk) (by rw [List.length_replicate]; exact hk2)
  rw [List.length_replicate] at h9
  exact h9
theorem same_zero13 (k : Nat) (hk2 : k ≤ 4000) (w : World) (b1 b2 : Nat) (h1 : RowIs w b1 (List.replicate k 0)) (h2 : RowIs w b2 (List.replicate k 0)) :
    Calls Try.prog 21 #[.slice (some ⟨b1, 0, none⟩) k k, .slice (some ⟨b2, 0, none⟩) k k] w fun e w' => e = .returned (.bool true) ∧ Only (fun _ => False) w w' := by
  have h9 := same_words w (some ⟨b1, 0, none⟩) (some ⟨b2, 0, none⟩) k k b1 b2 (List.replicate k 0) h1.sees h2.sees (by rw [List.length_replicate]; omega)
  rw [List.length_replicate] at h9
  refine h9.mono ?_
  rintro e w' ⟨rfl, n, rfl⟩
  exact ⟨rfl, only_drewN (Only.refl _ _) n⟩
theorem made_row13 (k : Nat) (w : World) : RowIs (w.alloc (.cells (madeCells #[.int .i64 0] k) 2)) w.heap.size (List.replicate k 0) := by
  unfold RowIs
  rw [heap_new, madeCells_zero]
end Go.Proofs.Ytabdlbmdbceemaa

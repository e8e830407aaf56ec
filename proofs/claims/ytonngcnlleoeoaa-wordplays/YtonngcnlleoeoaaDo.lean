/-
  septumlaw01.do: one access of both memories: each is as the access leaves it; where both held the same the answer is true. Conditions: the second pointer is not nil; the two memories share no block.
-/
import Derived.Test.YtonngcnlleoeoaaAlike
import Derived.Deep.RegionHeld
namespace Go.Proofs.Ytonngcnlleoeoaa
open Go.RowKit Go.Sept

/-- What an access leaves of the numbers. -/
def afterA (k a x y : Int) (xs : List Int) : List Int :=
  if k = 0 then xs else if k = 1 then setA xs a x else if k = 2 then setA xs a (wrap64 (valA xs a + x)) else swapA xs a x y
theorem length_afterA (k a x y : Int) (xs : List Int) : (afterA k a x y xs).length = xs.length := by
  unfold afterA
  split
  · rfl
  · split
    · exact length_setA _ _ _
    · split
      · exact length_setA _ _ _
      · exact length_swapA _ _ _ _

/-- The value of an Op. -/
def opV (k a x y : Int) : Value := .agg #[.int .u8 k, .int .i64 a, .int .i64 x, .int .i64 y]

/-- What a walk of 'do' is told of both memories. -/
structure Both (w : World) (v1 v2 : Value) (p1 q1 p2 q2 : Nat) (xs ys : List Int) : Prop where
  one : Holds 47 w v1 p1 q1 xs
  two : Holds 35 w v2 p2 q2 ys
  notNil : v2 ≠ .pointer none
  lp1 : p1 < w.heap.size
  lq1 : q1 < w.heap.size
  lp2 : p2 < w.heap.size
  lq2 : q2 < w.heap.size
  n1 : p2 ≠ q1
  n2 : q2 ≠ q1
  n3 : p1 ≠ q2

theorem Both.only {w w' : World} {v1 v2 : Value} {p1 q1 p2 q2 : Nat} {xs ys : List Int} (h : Both w v1 v2 p1 q1 p2 q2 xs ys) (ho : Only (fun _ => False) w w') : Both w' v1 v2 p1 q1 p2 q2 xs ys :=
  ⟨h.one.only ho (fun h => h) (fun h => h), h.two.only ho (fun h => h) (fun h => h), h.notNil, Nat.lt_of_lt_of_le h.lp1 ho.size, Nat.lt_of_lt_of_le h.lq1 ho.size, Nat.lt_of_lt_of_le h.lp2 ho.size, Nat.lt_of_lt_of_le h.lq2 ho.size, h.n1, h.n2, h.n3⟩
/-- Behind a call that turned the first memory alone. -/
theorem Both.first {w w' : World} {v1 v2 : Value} {p1 q1 p2 q2 : Nat} {xs xs' ys : List Int} (h : Both w v1 v2 p1 q1 p2 q2 xs ys) (h1 : Holds 47 w' v1 p1 q1 xs') (ho : Only (· = q1) w w') : Both w' v1 v2 p1 q1 p2 q2 xs' ys :=
  ⟨h1, h.two.only ho h.n1 h.n2, h.notNil, Nat.lt_of_lt_of_le h.lp1 ho.size, Nat.lt_of_lt_of_le h.lq1 ho.size, Nat.lt_of_lt_of_le h.lp2 ho.size, Nat.lt_of_lt_of_le h.lq2 ho.size, h.n1, h.n2, h.n3⟩
/-- Behind a call that turned the second memory alone. -/
theorem Both.second {w w' : World} {v1 v2 : Value} {p1 q1 p2 q2 : Nat} {xs ys ys' : List Int} (h : Both w v1 v2 p1 q1 p2 q2 xs ys) (h2 : Holds 35 w' v2 p2 q2 ys') (ho : Only (· = q2) w w') : Both w' v1 v2 p1 q1 p2 q2 xs ys' :=
  ⟨h.one.only ho h.n3 (fun e => h.n2 e.symm), h2, h.notNil, Nat.lt_of_lt_of_le h.lp1 ho.size, Nat.lt_of_lt_of_le h.lq1 ho.size, Nat.lt_of_lt_of_le h.lp2 ho.size, Nat.lt_of_lt_of_le h.lq2 ho.size, h.n1, h.n2, h.n3⟩

/-- The Op as it lies in a box. -/
def BoxIs (w : World) (b : Nat) (k a x y : Int) : Prop := w.heap[b]? = some (.cells #[.int .u8 k, .int .i64 a, .int .i64 x, .int .i64 y] 30)
theorem BoxIs.only {w w' : World} {b : Nat} {k a x y : Int} {S : Nat → Prop} (h : BoxIs w b k a x y) (ho : Only S w w') (hb : ¬ S b) : BoxIs w' b k a x y := (ho.block b (lt_of_block h) hb).trans h
theorem BoxIs.cells {w : World} {b : Nat} {k a x y : Int} (h : BoxIs w b k a x y) :
    w.cell? ⟨b, 0, none⟩ = some (.int .u8 k) ∧ w.cell? ⟨b, 1, none⟩ = some (.int .i64 a) ∧ w.cell? ⟨b, 2, none⟩ = some (.int .i64 x) ∧ w.cell? ⟨b, 3, none⟩ = some (.int .i64 y) :=
  ⟨cell_of_block h 0, cell_of_block h 1, cell_of_block h 2, cell_of_block h 3⟩

/-- What 'do' leaves. -/
def DoLeaves (w : World) (v1 v2 : Value) (p1 q1 p2 q2 : Nat) (xs ys : List Int) (k a x y : Int) (e : Ending) (w' : World) : Prop :=
  (∃ r, e = .returned (.bool r) ∧ (xs = ys → r = true)) ∧ Both w' v1 v2 p1 q1 p2 q2 (afterA k a x y xs) (afterA k a x y ys) ∧ Only (fun b => b = q1 ∨ b = q2) w w'

set_option maxHeartbeats 1000000 in
theorem do_load (w : World) (v1 v2 : Value) (p1 q1 p2 q2 : Nat) (xs ys : List Int) (h : Both w v1 v2 p1 q1 p2 q2 xs ys) (a x y : Int) :
    Calls Try.prog 11 #[v1, v2, opV 0 a x y] w (DoLeaves w v1 v2 p1 q1 p2 q2 xs ys 0 a x y) := by
  unfold opV
  have hO : Only (fun _ => False) w (w.alloc (.cells #[.int .u8 0, .int .i64 a, .int .i64 x, .int .i64 y] 30)) := (Only.refl _ _).alloc _
  have hB := h.only hO
  have HF : Hid (Both (w.alloc (.cells #[.int .u8 0, .int .i64 a, .int .i64 x, .int .i64 y] 30)) v1 v2 p1 q1 p2 q2 (afterA 0 a x y xs) (afterA 0 a x y ys) ∧ Only (fun b => b = q1 ∨ b = q2) w (w.alloc (.cells #[.int .u8 0, .int .i64 a, .int .i64 x, .int .i64 y] 30))) :=
    ⟨by unfold afterA; simpa using hB, hO.mono (fun _ _ h => h.elim)⟩
  clear hO h
  go_enter Try.func11, Try.ntmps11
  go_wp2_with fail
  refine (load_rel _ _ _ _ _ hB.one _).mono ?_
  rintro e w1 ⟨rfl, rfl⟩
  go_wp2_with fail
  refine (ref_load_rel _ _ _ _ _ hB.two hB.notNil _).mono ?_
  rintro e w1 ⟨rfl, rfl⟩
  go_wp2
  all_goals
    go_ret
    refine ⟨⟨_, rfl, ?_⟩, HF.out⟩
    rintro rfl
  · simp
  · exact absurd rfl ‹¬ valA xs a = valA xs a›

/-- The box of 'do'. -/
def boxed (w : World) (k a x y : Int) : World := w.alloc (.cells #[.int .u8 k, .int .i64 a, .int .i64 x, .int .i64 y] 30)
theorem boxed_box (w : World) (k a x y : Int) : BoxIs (boxed w k a x y) w.heap.size k a x y := heap_new _ _
theorem boxed_only (w : World) (k a x y : Int) : Only (fun _ => False) w (boxed w k a x y) := (Only.refl _ _).alloc _

set_option maxHeartbeats 1000000 in
theorem do_add (w : World) (v1 v2 : Value) (p1 q1 p2 q2 : Nat) (xs ys : List Int) (h : Both w v1 v2 p1 q1 p2 q2 xs ys) (a x y : Int) :
    Calls Try.prog 11 #[v1, v2, opV 2 a x y] w (DoLeaves w v1 v2 p1 q1 p2 q2 xs ys 2 a x y) := by
  unfold opV
  have hO : Only (fun _ => False) w (boxed w 2 a x y) := boxed_only _ _ _ _ _
  have hX : BoxIs (boxed w 2 a x y) w.heap.size 2 a x y := boxed_box _ _ _ _ _
  have hB := h.only hO
  have l1 := h.lq1
  have l2 := h.lq2
  clear h
  unfold boxed at hO hX hB
  go_enter Try.func11, Try.ntmps11
  go_wp2_with fail
  refine (add_rel _ _ _ _ _ hB.one _ _).mono ?_
  rintro e w1 ⟨rfl, hh1, ho1⟩
  have hX1 := hX.only ho1 (by omega)
  have hB1 := hB.first hh1 ho1
  obtain ⟨c0, c1, c2, c3⟩ := hX1.cells
  have hO1 := hO.mono (T := fun b => b = q1 ∨ b = q2) (fun _ _ h => h.elim) |>.chain ho1 (fun _ _ e => .inl e)
  clear hX hB hh1 hO ho1
  go_wp2_with fail
  refine (ref_add_rel _ _ _ _ _ hB1.two hB1.notNil _ _).mono ?_
  rintro e w2 ⟨rfl, hh2, ho2⟩
  have hB2 := hB1.second hh2 ho2
  have hO2 := hO1.chain ho2 (fun _ _ e => .inr e)
  have HF : Hid (Both w2 v1 v2 p1 q1 p2 q2 (afterA 2 a x y xs) (afterA 2 a x y ys) ∧ Only (fun b => b = q1 ∨ b = q2) w w2) :=
    ⟨by unfold afterA; simpa using hB2, hO2⟩
  clear hX1 hB1 hB2 hO1 hO2 hh2 ho2 c0 c1 c2 c3
  go_wp2
  all_goals
    go_ret
    refine ⟨⟨_, rfl, ?_⟩, HF.out⟩
    rintro rfl
  · simp
  · exact absurd rfl ‹¬ valA xs a = valA xs a›

set_option maxHeartbeats 1000000 in
theorem do_swap (w : World) (v1 v2 : Value) (p1 q1 p2 q2 : Nat) (xs ys : List Int) (h : Both w v1 v2 p1 q1 p2 q2 xs ys) (k a x y : Int) (k0 : (k == 0) = false) (k1 : (k == 1) = false) (k2 : (k == 2) = false) :
    Calls Try.prog 11 #[v1, v2, opV k a x y] w (DoLeaves w v1 v2 p1 q1 p2 q2 xs ys k a x y) := by
  unfold opV
  have hO : Only (fun _ => False) w (boxed w k a x y) := boxed_only _ _ _ _ _
  have hX : BoxIs (boxed w k a x y) w.heap.size k a x y := boxed_box _ _ _ _ _
  have hB := h.only hO
  have l1 := h.lq1
  have l2 := h.lq2
  have HA : Hid (∀ zs, afterA k a x y zs = swapA zs a x y) := by
    intro zs
    simp only [beq_eq_false_iff_ne] at k0 k1 k2
    unfold afterA
    rw [if_neg k0, if_neg k1, if_neg k2]
  clear h
  unfold boxed at hO hX hB
  go_enter Try.func11, Try.ntmps11
  go_wp2_with fail
  refine (swap_rel _ _ _ _ _ hB.one _ _ _).mono ?_
  rintro e w1 ⟨rfl, hh1, ho1⟩
  have hX1 := hX.only ho1 (by omega)
  have hB1 := hB.first hh1 ho1
  obtain ⟨c0, c1, c2, c3⟩ := hX1.cells
  have hO1 := hO.mono (T := fun b => b = q1 ∨ b = q2) (fun _ _ h => h.elim) |>.chain ho1 (fun _ _ e => .inl e)
  clear hX hB hh1 hO ho1
  go_wp2_with fail
  refine (ref_swap_rel _ _ _ _ _ hB1.two hB1.notNil _ _ _).mono ?_
  rintro e w2 ⟨rfl, hh2, ho2⟩
  have hB2 := hB1.second hh2 ho2
  have hO2 := hO1.chain ho2 (fun _ _ e => .inr e)
  have HF : Hid (Both w2 v1 v2 p1 q1 p2 q2 (afterA k a x y xs) (afterA k a x y ys) ∧ Only (fun b => b = q1 ∨ b = q2) w w2) :=
    ⟨by rw [HA.out, HA.out]; exact hB2, hO2⟩
  clear hX1 hB1 hB2 hO1 hO2 hh2 ho2 c0 c1 c2 c3
  go_wp2
  all_goals
    go_ret
    refine ⟨⟨_, rfl, ?_⟩, HF.out⟩
    rintro rfl
  · simp
  · exact absurd rfl ‹¬ hitA xs a x = hitA xs a x›

set_option maxHeartbeats 1000000 in
theorem do_store (w : World) (v1 v2 : Value) (p1 q1 p2 q2 : Nat) (xs ys : List Int) (h : Both w v1 v2 p1 q1 p2 q2 xs ys) (a x y : Int) :
    Calls Try.prog 11 #[v1, v2, opV 1 a x y] w (DoLeaves w v1 v2 p1 q1 p2 q2 xs ys 1 a x y) := by
  unfold opV
  have hO : Only (fun _ => False) w (boxed w 1 a x y) := boxed_only _ _ _ _ _
  have hX : BoxIs (boxed w 1 a x y) w.heap.size 1 a x y := boxed_box _ _ _ _ _
  have hB := h.only hO
  have l1 := h.lq1
  have l2 := h.lq2
  clear h
  unfold boxed at hO hX hB
  go_enter Try.func11, Try.ntmps11
  go_wp2_with fail
  have hBd : Both (w.alloc (.cells #[.int .u8 1, .int .i64 a, .int .i64 x, .int .i64 y] 30)).drew v1 v2 p1 q1 p2 q2 xs ys := hB.only (Only.refl _ _).drew
  have hXd : BoxIs (w.alloc (.cells #[.int .u8 1, .int .i64 a, .int .i64 x, .int .i64 y] 30)).drew w.heap.size 1 a x y := hX
  have hOd : Only (fun b => b = q1 ∨ b = q2) w (w.alloc (.cells #[.int .u8 1, .int .i64 a, .int .i64 x, .int .i64 y] 30)).drew := (hO.mono (T := fun b => b = q1 ∨ b = q2) (fun _ _ h => h.elim)).drew
  obtain ⟨_, c1, c2, _⟩ := hX.cells
  clear hB hX hO
  go_region_held (fun w' => w'.cell? ⟨w.heap.size, 1, none⟩ = some (.int .i64 a) ∧ w'.cell? ⟨w.heap.size, 2, none⟩ = some (.int .i64 x)) (go_keep)
    (first
      | (go_at_call 15; refine (sto_rel _ _ p1 q1 xs ?_ _ _).mono ?_; exact hBd.one; rintro e w1 ⟨rfl, hh1, ho1⟩; have hB1 := hBd.first hh1 ho1; have hO1 := hOd.chain ho1 (fun _ _ e => .inl e); obtain ⟨_, d1, d2, _⟩ := (hXd.only ho1 (by omega)).cells)
      | (go_at_call 18; refine (ref_sto_rel _ _ p2 q2 ys ?_ ?_ _ _).mono ?_; exact hB1.two; exact hB1.notNil; rintro e w2 ⟨rfl, hh2, ho2⟩; have hB2 := hB1.second hh2 ho2; have hO2 := hO1.chain ho2 (fun _ _ e => .inr e); obtain ⟨_, f1, f2, _⟩ := ((hXd.only ho1 (by omega)).only ho2 (by omega)).cells))
  have HF : Hid (Both w2 v1 v2 p1 q1 p2 q2 (afterA 1 a x y xs) (afterA 1 a x y ys) ∧ Only (fun b => b = q1 ∨ b = q2) w w2) := ⟨by unfold afterA; simpa using hB2, hO2⟩
  clear hB1 hB2 hO1 hO2 hh1 hh2 ho1 ho2 hBd hXd hOd
  go_wp2
  go_ret
  refine ⟨⟨_, rfl, ?_⟩, HF.out⟩
  rintro rfl
  simp

theorem do_any (w : World) (v1 v2 : Value) (p1 q1 p2 q2 : Nat) (xs ys : List Int) (h : Both w v1 v2 p1 q1 p2 q2 xs ys) (k a x y : Int) :
    Calls Try.prog 11 #[v1, v2, opV k a x y] w (DoLeaves w v1 v2 p1 q1 p2 q2 xs ys k a x y) := by
  by_cases k0 : k = 0
  · subst k0
    exact do_load w v1 v2 p1 q1 p2 q2 xs ys h a x y
  · by_cases k1 : k = 1
    · subst k1
      exact do_store w v1 v2 p1 q1 p2 q2 xs ys h a x y
    · by_cases k2 : k = 2
      · subst k2
        exact do_add w v1 v2 p1 q1 p2 q2 xs ys h a x y
      · exact do_swap w v1 v2 p1 q1 p2 q2 xs ys h k a x y (beq_eq_false_iff_ne.2 k0) (beq_eq_false_iff_ne.2 k1) (beq_eq_false_iff_ne.2 k2)
end Go.Proofs.Ytonngcnlleoeoaa

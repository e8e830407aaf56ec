/-
  RingSizes: for every two numbers the law answers true: of a size that is none nothing is done. Conditions: none.
-/
import Derived.Test.YtdoihlnipajniaaAwake8
import Derived.Test.YtdoihlnipajniaaOpens
import Derived.Test.YtdoihlnipajniaaSame
import Derived.Deep.RegionHeld
import Derived.Laws.NewBlocks
namespace Go.Proofs.Ytdoihlnipajniaa.ringSizes
open Go.Sept Go.RowKit Go.ChangeShapes Go.WideShapes Go.ChangeAt Go.Joins Go.Deep

theorem own : ownKnob Try.prog.godebug = none := by kernel_rfl
theorem laidOut : laidOutB Try.prog = true := by kernel_rfl

/-- What is there, behind each part of the law's last line. -/
structure Still (w0 W : World) (p q z : Nat) (c v : Int) : Prop where
  mem : MemIs 49 W p q (List.replicate 30 0)
  x : W.heap[z]? = some (act8O 0 c v 0 false 0)
  y : W.heap[z + 1]? = some (act8O 1 c 0 0 false 0)
  only : Only (fun _ => False) w0 W
theorem Still.keep {w0 W W' : World} {p q z : Nat} {c v : Int} (h : Still w0 W p q z c v) (ho : Only (fun _ => False) W W') : Still w0 W' p q z c v :=
  ⟨h.mem.only ho (fun h => h) (fun h => h), (ho.block z (lt_of_block h.x) (fun h => h)).trans h.x, (ho.block _ (lt_of_block h.y) (fun h => h)).trans h.y, h.only.chain ho (fun _ _ h => h)⟩
theorem Still.cells {w0 W : World} {p q z : Nat} {c v : Int} (h : Still w0 W p q z c v) : W.cell? ⟨z, 4, none⟩ = some (.bool false) ∧ W.cell? ⟨z + 1, 4, none⟩ = some (.bool false) ∧ W.cell? ⟨z + 1, 3, none⟩ = some (.int .i64 0) :=
  ⟨Sept.cell_of_block h.x 4, Sept.cell_of_block h.y 4, Sept.cell_of_block h.y 3⟩
theorem words_zero (w : World) (p q : Nat) (h : MemIs 49 w p q (List.replicate 30 0)) :
    Calls Try.prog 16 #[.pointer (some ⟨p, 0, none⟩)] w fun e w' => ∃ b, e = .returned (.slice (some ⟨b, 0, none⟩) 30 30) ∧ RowIs w' b (List.replicate 30 0) ∧ w.heap.size ≤ b ∧ Only (fun _ => False) w w' :=
  words_rel_pos w p q _ h (by decide) (by decide)
theorem same_zero (w : World) (b1 b2 : Nat) (h1 : RowIs w b1 (List.replicate 30 0)) (h2 : RowIs w b2 (List.replicate 30 0)) :
    Calls Try.prog 14 #[.slice (some ⟨b1, 0, none⟩) 30 30, .slice (some ⟨b2, 0, none⟩) 30 30] w fun e w' => e = .returned (.bool true) ∧ Only (fun _ => False) w w' := by
  refine (same_words w (some ⟨b1, 0, none⟩) (some ⟨b2, 0, none⟩) 30 30 b1 b2 (List.replicate 30 0) h1.sees h2.sees (by decide)).mono ?_
  rintro e w' ⟨rfl, n, rfl⟩
  exact ⟨rfl, only_drewN (Only.refl _ _) n⟩
theorem made_row (w : World) : RowIs (w.alloc (.cells (madeCells #[.int .i64 0] 30) 2)) w.heap.size (List.replicate 30 0) := by
  unfold RowIs
  rw [heap_new, madeCells_zero]
theorem Still.made {w0 W W' : World} {p q z : Nat} {c v : Int} {o : Obj} (h : Still w0 W p q z c v) (ho : Only (fun _ => False) (W.alloc o) W') : Still w0 W' p q z c v :=
  h.keep (((Only.refl (fun _ => False) W).alloc o).chain ho (fun _ _ h => h))

set_option maxRecDepth 100000 in
set_option maxHeartbeats 1000000 in
theorem walk_in (c v : Int) (w : World) (h1 : 1 ≤ c) (h2 : c ≤ 16) :
    Calls Try.prog 5 #[.int .i64 c, .int .i64 v] w fun e w' => e = .returned (.bool true) ∧ Below w.heap.size w w' := by
  have HW : Hid (∀ w : World, _) := fun w => ringWords_in w c h1 h2
  have hc : 2 + c = c + 2 := by omega
  have HC := hid hc
  clear hc
  go_enter Try.func5, Try.ntmps5
  go_wp2_with fail
  refine (awake8_any _).mono ?_
  rintro e w1 ⟨rfl, hb1⟩
  have HB := hid hb1
  clear hb1
  go_wp2_with fail
  refine (HW.out _).mono ?_
  rintro e w2 ⟨rfl, rfl⟩
  rw [HC.out]
  go_wp2_with fail
  go_ret
  exact ⟨by simp, HB.out⟩

set_option maxRecDepth 100000 in
set_option maxHeartbeats 4000000 in
theorem walk_low (c v : Int) (w : World) (h : c < 1) :
    Calls Try.prog 5 #[.int .i64 c, .int .i64 v] w fun e w' => e = .returned (.bool true) ∧ Below w.heap.size w w' := by
  have hmf : ∀ (fn : Fn) (first cap : Array Value) (w : World), (Instr.makeFunc fn first cap).run Try.prog w = .ok (.func fn first cap) w := fun _ _ _ _ => rfl
  have hmk : ∀ w : World, (Instr.makeSlice 28 (.int .i64 30) (.int .i64 30)).run Try.prog w = _ := make_words 30 (by omega)
  have HW : Hid (∀ w : World, _) := fun w => ringWords_out w c (.inl h)
  have HPut := hid (put_idle 3 c v (.inl h))
  have HGet := hid (get_idle 3 c (.inl h))
  have k1 : ¬ 1 ≤ c := by omega
  clear h
  go_enter Try.func5, Try.ntmps5
  go_wp2_with fail
  refine (awake8_any _).mono ?_
  rintro e w1 ⟨rfl, hb1⟩
  have HB := hid (Only.of_below hb1 (fun _ => False))
  clear hb1
  go_wp2_with fail
  refine (new_rel _ _).mono ?_
  rintro e w2 ⟨p, q, rfl, hm, hp, hq, ho2⟩
  rw [show clampN 30 = 30 from clamp_nat 30 (by decide)] at hm
  have hW : ∃ W z, W = (w2.alloc (act8O 0 c v 0 false 0)).alloc (act8O 1 c 0 0 false 0) ∧ z = w2.heap.size ∧ Still w W p q z c v ∧ p < z ∧ q < z ∧ w.heap.size ≤ p ∧ w.heap.size ≤ q ∧ w.heap.size ≤ z := by
    have z1 := HB.out.size
    have z2 := ho2.size
    exact ⟨_, _, rfl, rfl, ⟨(hm.alloc _).alloc _, (Below.heap_alloc _ _ _ (by simp)).trans (heap_new _ _), new_at _ _ _ (by simp), ((HB.out.chain ho2 (fun _ _ h => h)).alloc _).alloc _⟩, lt_of_block hm.head, hm.row.lt, by omega, by omega, by omega⟩
  obtain ⟨W, z, hWe, hze, hS, zp, zq, zwp, zwq, zwz⟩ := hW
  have HS := hid (hS.keep ((Only.refl _ W).drew))
  obtain ⟨c1, c2, c3⟩ := hS.cells
  clear hm ho2 hp hq hS HB
  simp only [act8O] at hWe
  go_wp2_with fail
  rw [← hWe, ← hze]
  clear hWe hze
  go_region_held (fun w' => w'.cell? ⟨z, 4, none⟩ = some (.bool false) ∧ w'.cell? ⟨z + 1, 4, none⟩ = some (.bool false) ∧ w'.cell? ⟨z + 1, 3, none⟩ = some (.int .i64 0)) (go_keep)
    (first
      | (go_at_call 15; refine (HW.out _).mono ?_; rintro e w3 ⟨rfl, rfl⟩)
      | (go_at_call 10; refine (run_turns (act8_put z c v _ (by decide) HPut.out) _ p q _ 5000 false HS.out.mem HS.out.x (by omega) (by omega) (by decide) (by decide) (by decide) (by decide) (by decide)).mono ?_; rintro e w4 ⟨rfl, hm4, hx4, ho4⟩
         have HS4 : Hid (Still w w4 p q z c v) := ⟨hm4, hx4, (ho4.block _ (lt_of_block HS.out.y) (by omega)).trans HS.out.y, HS.out.only.chain ho4 (fun i hi e => by omega)⟩
         obtain ⟨d1, d2, d3⟩ := HS4.out.cells; clear hm4 hx4 ho4 HS HPut)
      | (go_at_call 10; refine (run_turns (act8_get (z + 1) c 0 _ (by decide) HGet.out) _ p q _ 5000 (0, false) HS4.out.mem HS4.out.y (by omega) (by omega) (by decide) (by decide) (by decide) (by decide) (by decide)).mono ?_; rintro e w5 ⟨rfl, hm5, hx5, ho5⟩
         have HS5 : Hid (Still w w5 p q z c v) := ⟨hm5, (ho5.block _ (lt_of_block HS4.out.x) (by omega)).trans HS4.out.x, hx5, HS4.out.only.chain ho5 (fun i hi e => by omega)⟩
         obtain ⟨f1, f2, f3⟩ := HS5.out.cells; clear hm5 hx5 ho5 HS4 HGet)
      | (go_at_call 16; refine (words_zero _ p q HS5.out.mem).mono ?_; rintro e w6 ⟨b6, rfl, hr6, hb6, ho6⟩
         have HS6 := hid (HS5.out.keep ho6); have HR6 := hid hr6
         obtain ⟨g1, g2, g3⟩ := HS6.out.cells; clear hr6 hb6 ho6)
      | (go_at_call 16; refine (words_zero _ p q (HS5.out.mem.alloc _)).mono ?_; rintro e w6 ⟨b6, rfl, hr6, hb6, ho6⟩
         have HS6 := hid (HS5.out.made ho6); have HR6 := hid hr6; have HR7 := hid ((made_row w5).only ho6 (fun h => h))
         obtain ⟨g1, g2, g3⟩ := HS6.out.cells; clear hr6 hb6 ho6)
      | (go_at_call 14; refine (same_zero _ _ _ HR6.out HR7.out).mono ?_; rintro e w8 ⟨rfl, ho8⟩
         have HS8 := hid (HS6.out.keep ho8)
         obtain ⟨i1, i2, i3⟩ := HS8.out.cells; clear ho8)
      | (go_at_call 14; refine (same_zero _ _ _ (HR6.out.only ((Only.refl (fun _ => False) _).alloc _) (fun h => h)) (made_row _)).mono ?_; rintro e w8 ⟨rfl, ho8⟩
         have HS8 := hid (HS6.out.made ho8)
         obtain ⟨i1, i2, i3⟩ := HS8.out.cells; clear ho8))
  all_goals
    go_wp2_with fail
    go_ret
    exact ⟨rfl, HS8.out.only.below (Nat.le_refl _) (fun _ _ h => h)⟩

set_option maxRecDepth 100000 in
set_option maxHeartbeats 4000000 in
theorem walk_high (c v : Int) (w : World) (h : 16 < c) :
    Calls Try.prog 5 #[.int .i64 c, .int .i64 v] w fun e w' => e = .returned (.bool true) ∧ Below w.heap.size w w' := by
  have hmf : ∀ (fn : Fn) (first cap : Array Value) (w : World), (Instr.makeFunc fn first cap).run Try.prog w = .ok (.func fn first cap) w := fun _ _ _ _ => rfl
  have hmk : ∀ w : World, (Instr.makeSlice 28 (.int .i64 30) (.int .i64 30)).run Try.prog w = _ := make_words 30 (by omega)
  have HW : Hid (∀ w : World, _) := fun w => ringWords_out w c (.inr h)
  have HPut := hid (put_idle 3 c v (.inr h))
  have HGet := hid (get_idle 3 c (.inr h))
  have k1 : 1 ≤ c := by omega
  have k2 : ¬ c ≤ 16 := by omega
  clear h
  go_enter Try.func5, Try.ntmps5
  go_wp2_with fail
  refine (awake8_any _).mono ?_
  rintro e w1 ⟨rfl, hb1⟩
  have HB := hid (Only.of_below hb1 (fun _ => False))
  clear hb1
  go_wp2_with fail
  refine (new_rel _ _).mono ?_
  rintro e w2 ⟨p, q, rfl, hm, hp, hq, ho2⟩
  rw [show clampN 30 = 30 from clamp_nat 30 (by decide)] at hm
  have hW : ∃ W z, W = (w2.alloc (act8O 0 c v 0 false 0)).alloc (act8O 1 c 0 0 false 0) ∧ z = w2.heap.size ∧ Still w W p q z c v ∧ p < z ∧ q < z ∧ w.heap.size ≤ p ∧ w.heap.size ≤ q ∧ w.heap.size ≤ z := by
    have z1 := HB.out.size
    have z2 := ho2.size
    exact ⟨_, _, rfl, rfl, ⟨(hm.alloc _).alloc _, (Below.heap_alloc _ _ _ (by simp)).trans (heap_new _ _), new_at _ _ _ (by simp), ((HB.out.chain ho2 (fun _ _ h => h)).alloc _).alloc _⟩, lt_of_block hm.head, hm.row.lt, by omega, by omega, by omega⟩
  obtain ⟨W, z, hWe, hze, hS, zp, zq, zwp, zwq, zwz⟩ := hW
  have HS := hid (hS.keep ((Only.refl _ W).drew))
  obtain ⟨c1, c2, c3⟩ := hS.cells
  clear hm ho2 hp hq hS HB
  simp only [act8O] at hWe
  go_wp2_with fail
  rw [← hWe, ← hze]
  clear hWe hze
  go_region_held (fun w' => w'.cell? ⟨z, 4, none⟩ = some (.bool false) ∧ w'.cell? ⟨z + 1, 4, none⟩ = some (.bool false) ∧ w'.cell? ⟨z + 1, 3, none⟩ = some (.int .i64 0)) (go_keep)
    (first
      | (go_at_call 15; refine (HW.out _).mono ?_; rintro e w3 ⟨rfl, rfl⟩)
      | (go_at_call 10; refine (run_turns (act8_put z c v _ (by decide) HPut.out) _ p q _ 5000 false HS.out.mem HS.out.x (by omega) (by omega) (by decide) (by decide) (by decide) (by decide) (by decide)).mono ?_; rintro e w4 ⟨rfl, hm4, hx4, ho4⟩
         have HS4 : Hid (Still w w4 p q z c v) := ⟨hm4, hx4, (ho4.block _ (lt_of_block HS.out.y) (by omega)).trans HS.out.y, HS.out.only.chain ho4 (fun i hi e => by omega)⟩
         obtain ⟨d1, d2, d3⟩ := HS4.out.cells; clear hm4 hx4 ho4 HS HPut)
      | (go_at_call 10; refine (run_turns (act8_get (z + 1) c 0 _ (by decide) HGet.out) _ p q _ 5000 (0, false) HS4.out.mem HS4.out.y (by omega) (by omega) (by decide) (by decide) (by decide) (by decide) (by decide)).mono ?_; rintro e w5 ⟨rfl, hm5, hx5, ho5⟩
         have HS5 : Hid (Still w w5 p q z c v) := ⟨hm5, (ho5.block _ (lt_of_block HS4.out.x) (by omega)).trans HS4.out.x, hx5, HS4.out.only.chain ho5 (fun i hi e => by omega)⟩
         obtain ⟨f1, f2, f3⟩ := HS5.out.cells; clear hm5 hx5 ho5 HS4 HGet)
      | (go_at_call 16; refine (words_zero _ p q HS5.out.mem).mono ?_; rintro e w6 ⟨b6, rfl, hr6, hb6, ho6⟩
         have HS6 := hid (HS5.out.keep ho6); have HR6 := hid hr6
         obtain ⟨g1, g2, g3⟩ := HS6.out.cells; clear hr6 hb6 ho6)
      | (go_at_call 16; refine (words_zero _ p q (HS5.out.mem.alloc _)).mono ?_; rintro e w6 ⟨b6, rfl, hr6, hb6, ho6⟩
         have HS6 := hid (HS5.out.made ho6); have HR6 := hid hr6; have HR7 := hid ((made_row w5).only ho6 (fun h => h))
         obtain ⟨g1, g2, g3⟩ := HS6.out.cells; clear hr6 hb6 ho6)
      | (go_at_call 14; refine (same_zero _ _ _ HR6.out HR7.out).mono ?_; rintro e w8 ⟨rfl, ho8⟩
         have HS8 := hid (HS6.out.keep ho8)
         obtain ⟨i1, i2, i3⟩ := HS8.out.cells; clear ho8)
      | (go_at_call 14; refine (same_zero _ _ _ (HR6.out.only ((Only.refl (fun _ => False) _).alloc _) (fun h => h)) (made_row _)).mono ?_; rintro e w8 ⟨rfl, ho8⟩
         have HS8 := hid (HS6.out.made ho8)
         obtain ⟨i1, i2, i3⟩ := HS8.out.cells; clear ho8))
  all_goals
    go_wp2_with fail
    go_ret
    exact ⟨rfl, HS8.out.only.below (Nat.le_refl _) (fun _ _ h => h)⟩

theorem walk (c v : Int) (w : World) :
    Calls Try.prog 5 #[.int .i64 c, .int .i64 v] w fun e w' => e = .returned (.bool true) ∧ Below w.heap.size w w' := by
  by_cases h1 : c < 1
  · exact walk_low c v w h1
  · by_cases h2 : 16 < c
    · exact walk_high c v w h2
    · exact walk_in c v w (by omega) (by omega)

set_option maxRecDepth 100000 in
theorem lifted (os : Os) (started : os.Started) (H : Type) (enc : TypeId × Value → H) :
    ReturnsInHanded {} Try.checked os 5 .any (Rows.ringSizesSpec.pre6 enc Try.prog Try.f5 Rows.ringSizesRow.domain false) (Rows.ringSizesSpec.post enc Try.prog Try.f5 false true false false) := by
  refine returnsInHanded_of_change (C := Try.checked) own started (by kernel_rfl) Try.func5
    (ChangeSpec.witness6 (enc := enc) (C := Try.checked) false ⟨#[], #[.int .i64 0, .int .i64 0], []⟩ 8 (by kernel_rfl) (by kernel_rfl) (by kernel_rfl) (by kernel_rfl)) ?_
  intro W base args ds gs before hval0 hW hcnd _
  have hval : ∀ (j : Nat) t v, Try.f5.params[j]? = some t → args[j]? = some v → Value.okWide Try.prog W .any base t v := hval0
  have hW' := hW
  obtain ⟨p, q, hA0, hV, rfl, hfz, hnd⟩ := hW
  have hA : DataW.TrodAll enc Try.prog W 0 (fun _ => true) true Try.f5.params.toList args.toList ds p := hA0
  rw [Try.params5] at hA hval
  obtain ⟨v0, vs0, d0, ds0, p0, q0, hargs, rfl, rfl, h0, r0⟩ := trodAll_cons hA
  obtain ⟨v1, vs1, d1, ds1, p1, q1, rfl, rfl, rfl, h1, r1⟩ := trodAll_cons r0
  obtain ⟨rfl, rfl, rfl⟩ := trodAll_nil r1
  obtain rfl : args = #[v0, v1] := by cases args; simp_all
  obtain ⟨a0, rfl, rfl, rfl, w0⟩ := open_int Try.underlying3 (hval 0 3 v0 rfl rfl) h0
  obtain ⟨a1, rfl, rfl, rfl, w1⟩ := open_int Try.underlying2 (hval 1 2 v1 rfl rfl) h1
  refine (walk a0 a1 W).mono fun e W' ⟨he, hg⟩ => ?_
  subst he
  exact ⟨_, rfl, post_law 2 4 laidOut (by kernel_rfl) rfl rfl rfl Try.underlying4 (fun l hl => by match l, hl with | [_, _], _ => rfl) hW' hg⟩

theorem over : Rows.ringSizesRow.holds Try.pinned (OpenSpec.ofChange Rows.ringSizesSpec) :=
  OpenClaim.holds_of_wide 5 Try.f5 rfl rfl rfl rfl rfl rfl rfl ⟨rfl, rfl, rfl, rfl, rfl⟩ rfl rfl rfl rfl rfl (by kernel_rfl) Try.func5 (by kernel_rfl)
    (of_decide_eq_true (by kernel_rfl)) (by unfold Func.isWrapper; first | (rw [if_pos (by decide +kernel)]; kernel_rfl) | (rw [if_neg (by decide +kernel)]; exact ⟨rfl, rfl⟩))
    (fun os started H enc _ => lifted os started H enc)

theorem proved : Rows.RingSizesSaid := over
#print axioms proved
end Go.Proofs.Ytdoihlnipajniaa.ringSizes

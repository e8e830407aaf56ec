/-
  BlockSizes: for every three numbers the law answers true: of a number of blocks that can't be nothing is done. Conditions: none.
-/
import Derived.Test.YtipimcpkgcekcaaAwake9
import Derived.Test.YtipimcpkgcekcaaOpens
import Derived.Test.YtipimcpkgcekcaaSame
import Derived.Deep.RegionHeld
import Derived.Laws.NewBlocks
namespace Go.Proofs.Ytipimcpkgcekcaa.blockSizes
open Go.Sept Go.RowKit Go.ChangeShapes Go.WideShapes Go.ChangeAt Go.Joins Go.Deep

theorem own : ownKnob Try.prog.godebug = none := by kernel_rfl
theorem laidOut : laidOutB Try.prog = true := by kernel_rfl

/-- What is there, behind each part of the law's last line. -/
structure Still (w0 W : World) (p q z : Nat) (k c v : Int) : Prop where
  mem : MemIs 37 W p q (List.replicate 30 0)
  x : W.heap[z]? = some (act9O k c v 0 false)
  only : Only (fun _ => False) w0 W
theorem Still.keep {w0 W W' : World} {p q z : Nat} {k c v : Int} (h : Still w0 W p q z k c v) (ho : Only (fun _ => False) W W') : Still w0 W' p q z k c v :=
  ⟨h.mem.only ho (fun h => h) (fun h => h), (ho.block z (lt_of_block h.x) (fun h => h)).trans h.x, h.only.chain ho (fun _ _ h => h)⟩
theorem Still.cells {w0 W : World} {p q z : Nat} {k c v : Int} (h : Still w0 W p q z k c v) : W.cell? ⟨z, 4, none⟩ = some (.bool false) ∧ W.cell? ⟨z, 3, none⟩ = some (.int .i64 0) :=
  ⟨Sept.cell_of_block h.x 4, Sept.cell_of_block h.x 3⟩
theorem words_zero (w : World) (p q : Nat) (h : MemIs 37 w p q (List.replicate 30 0)) :
    Calls Try.prog 10 #[.pointer (some ⟨p, 0, none⟩)] w fun e w' => ∃ b, e = .returned (.slice (some ⟨b, 0, none⟩) 30 30) ∧ RowIs w' b (List.replicate 30 0) ∧ w.heap.size ≤ b ∧ Only (fun _ => False) w w' :=
  words_rel_pos w p q _ h (by decide) (by decide)
theorem same_zero (w : World) (b1 b2 : Nat) (h1 : RowIs w b1 (List.replicate 30 0)) (h2 : RowIs w b2 (List.replicate 30 0)) :
    Calls Try.prog 9 #[.slice (some ⟨b1, 0, none⟩) 30 30, .slice (some ⟨b2, 0, none⟩) 30 30] w fun e w' => e = .returned (.bool true) ∧ Only (fun _ => False) w w' := by
  refine (same_words w (some ⟨b1, 0, none⟩) (some ⟨b2, 0, none⟩) 30 30 b1 b2 (List.replicate 30 0) h1.sees h2.sees (by decide)).mono ?_
  rintro e w' ⟨rfl, n, rfl⟩
  exact ⟨rfl, only_drewN (Only.refl _ _) n⟩
theorem made_row (w : World) : RowIs (w.alloc (.cells (madeCells #[.int .i64 0] 30) 2)) w.heap.size (List.replicate 30 0) := by
  unfold RowIs
  rw [heap_new, madeCells_zero]
theorem Still.made {w0 W W' : World} {p q z : Nat} {k c v : Int} {o : Obj} (h : Still w0 W p q z k c v) (ho : Only (fun _ => False) (W.alloc o) W') : Still w0 W' p q z k c v :=
  h.keep (((Only.refl (fun _ => False) W).alloc o).chain ho (fun _ _ h => h))

/-- Whichever call it is: with a number of blocks that can't be it does nothing. -/
theorem run_idle (w0 w : World) (p q z : Nat) (k c v : Int) (h : c < 1 ∨ 16 < c) (hS : Still w0 w p q z k c v) (hp : p < z) (hq : q < z) (h0q : w0.heap.size ≤ q) (h0z : w0.heap.size ≤ z) :
    Calls Try.prog 7 #[.pointer (some ⟨p, 0, none⟩), bodyV 8 (ptrV z), .int .i64 5000] w fun e w' => e = .returned (.bool true) ∧ Still w0 w' p q z k c v := by
  by_cases k0 : k = 0
  · subst k0
    refine (run_turns (act9_take z c v _ (by decide) (take_idle 2 c h)) w p q _ 5000 (0, false) hS.mem hS.x (by omega) (by omega) (by decide) (by decide) (by decide) (by decide) (by decide)).mono ?_
    rintro e w4 ⟨rfl, hm4, hx4, ho4⟩
    exact ⟨rfl, hm4, hx4, hS.only.chain ho4 (fun i hi e => by omega)⟩
  by_cases k1 : k = 1
  · subst k1
    refine (run_turns (act9_give z c v _ (by decide) (give_idle 2 c v h)) w p q _ 5000 false hS.mem hS.x (by omega) (by omega) (by decide) (by decide) (by decide) (by decide) (by decide)).mono ?_
    rintro e w4 ⟨rfl, hm4, hx4, ho4⟩
    exact ⟨rfl, hm4, hx4, hS.only.chain ho4 (fun i hi e => by omega)⟩
  by_cases k2 : k = 2
  · subst k2
    refine (run_turns (act9_free z c v _ (by decide) (free_idle 2 c v h)) w p q _ 5000 false hS.mem hS.x (by omega) (by omega) (by decide) (by decide) (by decide) (by decide) (by decide)).mono ?_
    rintro e w4 ⟨rfl, hm4, hx4, ho4⟩
    exact ⟨rfl, hm4, hx4, hS.only.chain ho4 (fun i hi e => by omega)⟩
  · refine (run_reads (act9_init z k c v k0 k1 k2 _ (by decide) (init_idle 2 c h)) w p q _ 5000 hS.mem hS.x (by omega) (by omega) (by decide) (by decide) (by decide) (by decide) (by decide)).mono ?_
    rintro e w4 ⟨rfl, hm4, ho4⟩
    exact ⟨rfl, hm4, (ho4.block _ (lt_of_block hS.x) (by omega)).trans hS.x, hS.only.chain ho4 (fun i hi e => by omega)⟩

set_option maxRecDepth 100000 in
set_option maxHeartbeats 1000000 in
theorem walk_in (c v k : Int) (w : World) (h1 : 1 ≤ c) (h2 : c ≤ 16) :
    Calls Try.prog 3 #[.int .i64 c, .int .i64 v, .int .u8 k] w fun e w' => e = .returned (.bool true) ∧ Below w.heap.size w w' := by
  have HW : Hid (∀ w : World, _) := fun w => blockWords_in w c h1 h2
  go_enter Try.func3, Try.ntmps3
  go_wp2_with fail
  refine (awake9_any _).mono ?_
  rintro e w1 ⟨rfl, hb1⟩
  have HB := hid hb1
  clear hb1
  go_wp2_with fail
  refine (HW.out _).mono ?_
  rintro e w2 ⟨rfl, rfl⟩
  go_wp2_with fail
  go_ret
  exact ⟨by simp, HB.out⟩

set_option maxRecDepth 100000 in
set_option maxHeartbeats 4000000 in
theorem walk_low (c v k : Int) (w : World) (h : c < 1) :
    Calls Try.prog 3 #[.int .i64 c, .int .i64 v, .int .u8 k] w fun e w' => e = .returned (.bool true) ∧ Below w.heap.size w w' := by
  have hmf : ∀ (fn : Fn) (first cap : Array Value) (w : World), (Instr.makeFunc fn first cap).run Try.prog w = .ok (.func fn first cap) w := fun _ _ _ _ => rfl
  have hmk : ∀ w : World, (Instr.makeSlice 32 (.int .i64 30) (.int .i64 30)).run Try.prog w = _ := make_words 30 (by omega)
  have HW : Hid (∀ w : World, _) := fun w => blockWords_out w c (.inl h)
  have HR : Hid (∀ (w0 w : World) (p q z : Nat) (k : Int), _) := fun w0 w p q z k => run_idle w0 w p q z k c v (.inl h)
  have k1 : ¬ 1 ≤ c := by omega
  clear h
  go_enter Try.func3, Try.ntmps3
  go_wp2_with fail
  refine (awake9_any _).mono ?_
  rintro e w1 ⟨rfl, hb1⟩
  have HB := hid (Only.of_below hb1 (fun _ => False))
  clear hb1
  go_wp2_with fail
  refine (new_rel _ _).mono ?_
  rintro e w2 ⟨p, q, rfl, hm, hp, hq, ho2⟩
  rw [show clampN 30 = 30 from clamp_nat 30 (by decide)] at hm
  have hW : ∃ W z k4, W = w2.alloc (act9O (k.tmod 4) c v 0 false) ∧ z = w2.heap.size ∧ k4 = k.tmod 4 ∧ Still w W p q z k4 c v ∧ p < z ∧ q < z ∧ w.heap.size ≤ p ∧ w.heap.size ≤ q ∧ w.heap.size ≤ z := by
    have z1 := HB.out.size
    have z2 := ho2.size
    exact ⟨_, _, _, rfl, rfl, rfl, ⟨hm.alloc _, heap_new _ _, (HB.out.chain ho2 (fun _ _ h => h)).alloc _⟩, lt_of_block hm.head, hm.row.lt, by omega, by omega, by omega⟩
  obtain ⟨W, z, k4, hWe, hze, hke, hS, zp, zq, zwp, zwq, zwz⟩ := hW
  have HS := hid (hS.keep ((Only.refl _ W).drew))
  obtain ⟨c1, c2⟩ := hS.cells
  clear hm ho2 hp hq hS HB hke
  simp only [act9O] at hWe
  go_wp2_with fail
  rw [← hWe, ← hze]
  clear hWe hze
  go_region_held (fun w' => w'.cell? ⟨z, 4, none⟩ = some (.bool false) ∧ w'.cell? ⟨z, 3, none⟩ = some (.int .i64 0)) (go_keep)
    (first
      | (go_at_call 5; refine (HW.out _).mono ?_; rintro e w3 ⟨rfl, rfl⟩)
      | (go_at_call 7; refine (HR.out w _ p q z k4 HS.out zp zq zwq zwz).mono ?_; rintro e w5 ⟨rfl, hs5⟩
         have HS5 := hid hs5
         obtain ⟨f1, f2⟩ := HS5.out.cells; clear hs5 HS HR)
      | (go_at_call 10; refine (words_zero _ p q HS5.out.mem).mono ?_; rintro e w6 ⟨b6, rfl, hr6, hb6, ho6⟩
         have HS6 := hid (HS5.out.keep ho6); have HR6 := hid hr6
         obtain ⟨g1, g2⟩ := HS6.out.cells; clear hr6 hb6 ho6)
      | (go_at_call 10; refine (words_zero _ p q (HS5.out.mem.alloc _)).mono ?_; rintro e w6 ⟨b6, rfl, hr6, hb6, ho6⟩
         have HS6 := hid (HS5.out.made ho6); have HR6 := hid hr6; have HR7 := hid ((made_row w5).only ho6 (fun h => h))
         obtain ⟨g1, g2⟩ := HS6.out.cells; clear hr6 hb6 ho6)
      | (go_at_call 9; refine (same_zero _ _ _ HR6.out HR7.out).mono ?_; rintro e w8 ⟨rfl, ho8⟩
         have HS8 := hid (HS6.out.keep ho8)
         obtain ⟨i1, i2⟩ := HS8.out.cells; clear ho8)
      | (go_at_call 9; refine (same_zero _ _ _ (HR6.out.only ((Only.refl (fun _ => False) _).alloc _) (fun h => h)) (made_row _)).mono ?_; rintro e w8 ⟨rfl, ho8⟩
         have HS8 := hid (HS6.out.made ho8)
         obtain ⟨i1, i2⟩ := HS8.out.cells; clear ho8))
  all_goals
    go_wp2_with fail
    go_ret
    exact ⟨rfl, HS8.out.only.below (Nat.le_refl _) (fun _ _ h => h)⟩

set_option maxRecDepth 100000 in
set_option maxHeartbeats 4000000 in
theorem walk_high (c v k : Int) (w : World) (h : 16 < c) :
    Calls Try.prog 3 #[.int .i64 c, .int .i64 v, .int .u8 k] w fun e w' => e = .returned (.bool true) ∧ Below w.heap.size w w' := by
  have hmf : ∀ (fn : Fn) (first cap : Array Value) (w : World), (Instr.makeFunc fn first cap).run Try.prog w = .ok (.func fn first cap) w := fun _ _ _ _ => rfl
  have hmk : ∀ w : World, (Instr.makeSlice 32 (.int .i64 30) (.int .i64 30)).run Try.prog w = _ := make_words 30 (by omega)
  have HW : Hid (∀ w : World, _) := fun w => blockWords_out w c (.inr h)
  have HR : Hid (∀ (w0 w : World) (p q z : Nat) (k : Int), _) := fun w0 w p q z k => run_idle w0 w p q z k c v (.inr h)
  have k1 : 1 ≤ c := by omega
  have k2 : ¬ c ≤ 16 := by omega
  clear h
  go_enter Try.func3, Try.ntmps3
  go_wp2_with fail
  refine (awake9_any _).mono ?_
  rintro e w1 ⟨rfl, hb1⟩
  have HB := hid (Only.of_below hb1 (fun _ => False))
  clear hb1
  go_wp2_with fail
  refine (new_rel _ _).mono ?_
  rintro e w2 ⟨p, q, rfl, hm, hp, hq, ho2⟩
  rw [show clampN 30 = 30 from clamp_nat 30 (by decide)] at hm
  have hW : ∃ W z k4, W = w2.alloc (act9O (k.tmod 4) c v 0 false) ∧ z = w2.heap.size ∧ k4 = k.tmod 4 ∧ Still w W p q z k4 c v ∧ p < z ∧ q < z ∧ w.heap.size ≤ p ∧ w.heap.size ≤ q ∧ w.heap.size ≤ z := by
    have z1 := HB.out.size
    have z2 := ho2.size
    exact ⟨_, _, _, rfl, rfl, rfl, ⟨hm.alloc _, heap_new _ _, (HB.out.chain ho2 (fun _ _ h => h)).alloc _⟩, lt_of_block hm.head, hm.row.lt, by omega, by omega, by omega⟩
  obtain ⟨W, z, k4, hWe, hze, hke, hS, zp, zq, zwp, zwq, zwz⟩ := hW
  have HS := hid (hS.keep ((Only.refl _ W).drew))
  obtain ⟨c1, c2⟩ := hS.cells
  clear hm ho2 hp hq hS HB hke
  simp only [act9O] at hWe
  go_wp2_with fail
  rw [← hWe, ← hze]
  clear hWe hze
  go_region_held (fun w' => w'.cell? ⟨z, 4, none⟩ = some (.bool false) ∧ w'.cell? ⟨z, 3, none⟩ = some (.int .i64 0)) (go_keep)
    (first
      | (go_at_call 5; refine (HW.out _).mono ?_; rintro e w3 ⟨rfl, rfl⟩)
      | (go_at_call 7; refine (HR.out w _ p q z k4 HS.out zp zq zwq zwz).mono ?_; rintro e w5 ⟨rfl, hs5⟩
         have HS5 := hid hs5
         obtain ⟨f1, f2⟩ := HS5.out.cells; clear hs5 HS HR)
      | (go_at_call 10; refine (words_zero _ p q HS5.out.mem).mono ?_; rintro e w6 ⟨b6, rfl, hr6, hb6, ho6⟩
         have HS6 := hid (HS5.out.keep ho6); have HR6 := hid hr6
         obtain ⟨g1, g2⟩ := HS6.out.cells; clear hr6 hb6 ho6)
      | (go_at_call 10; refine (words_zero _ p q (HS5.out.mem.alloc _)).mono ?_; rintro e w6 ⟨b6, rfl, hr6, hb6, ho6⟩
         have HS6 := hid (HS5.out.made ho6); have HR6 := hid hr6; have HR7 := hid ((made_row w5).only ho6 (fun h => h))
         obtain ⟨g1, g2⟩ := HS6.out.cells; clear hr6 hb6 ho6)
      | (go_at_call 9; refine (same_zero _ _ _ HR6.out HR7.out).mono ?_; rintro e w8 ⟨rfl, ho8⟩
         have HS8 := hid (HS6.out.keep ho8)
         obtain ⟨i1, i2⟩ := HS8.out.cells; clear ho8)
      | (go_at_call 9; refine (same_zero _ _ _ (HR6.out.only ((Only.refl (fun _ => False) _).alloc _) (fun h => h)) (made_row _)).mono ?_; rintro e w8 ⟨rfl, ho8⟩
         have HS8 := hid (HS6.out.made ho8)
         obtain ⟨i1, i2⟩ := HS8.out.cells; clear ho8))
  all_goals
    go_wp2_with fail
    go_ret
    exact ⟨rfl, HS8.out.only.below (Nat.le_refl _) (fun _ _ h => h)⟩

theorem walk (c v k : Int) (w : World) :
    Calls Try.prog 3 #[.int .i64 c, .int .i64 v, .int .u8 k] w fun e w' => e = .returned (.bool true) ∧ Below w.heap.size w w' := by
  by_cases h1 : c < 1
  · exact walk_low c v k w h1
  · by_cases h2 : 16 < c
    · exact walk_high c v k w h2
    · exact walk_in c v k w (by omega) (by omega)

set_option maxRecDepth 100000 in
theorem lifted (os : Os) (started : os.Started) (H : Type) (enc : TypeId × Value → H) :
    ReturnsInHanded {} Try.checked os 3 .any (Rows.blockSizesSpec.pre6 enc Try.prog Try.f3 Rows.blockSizesRow.domain false) (Rows.blockSizesSpec.post enc Try.prog Try.f3 false true false false) := by
  refine returnsInHanded_of_change (C := Try.checked) own started (by kernel_rfl) Try.func3
    (ChangeSpec.witness6 (enc := enc) (C := Try.checked) false ⟨#[], #[.int .i64 0, .int .i64 0, .int .u8 0], []⟩ 8 (by kernel_rfl) (by kernel_rfl) (by kernel_rfl) (by kernel_rfl)) ?_
  intro W base args ds gs before hval0 hW hcnd _
  have hval : ∀ (j : Nat) t v, Try.f3.params[j]? = some t → args[j]? = some v → Value.okWide Try.prog W .any base t v := hval0
  have hW' := hW
  obtain ⟨p, q, hA0, hV, rfl, hfz, hnd⟩ := hW
  have hA : DataW.TrodAll enc Try.prog W 0 (fun _ => true) true Try.f3.params.toList args.toList ds p := hA0
  rw [Try.params3] at hA hval
  obtain ⟨v0, vs0, d0, ds0, p0, q0, hargs, rfl, rfl, h0, r0⟩ := trodAll_cons hA
  obtain ⟨v1, vs1, d1, ds1, p1, q1, rfl, rfl, rfl, h1, r1⟩ := trodAll_cons r0
  obtain ⟨v2, vs2, d2, ds2, p2, q2, rfl, rfl, rfl, h2, r2⟩ := trodAll_cons r1
  obtain ⟨rfl, rfl, rfl⟩ := trodAll_nil r2
  obtain rfl : args = #[v0, v1, v2] := by cases args; simp_all
  obtain ⟨a0, rfl, rfl, rfl, w0⟩ := open_int Try.underlying3 (hval 0 3 v0 rfl rfl) h0
  obtain ⟨a1, rfl, rfl, rfl, w1⟩ := open_int Try.underlying3 (hval 1 3 v1 rfl rfl) h1
  obtain ⟨a2, rfl, rfl, rfl, w2⟩ := open_int Try.underlying5 (hval 2 5 v2 rfl rfl) h2
  refine (walk a0 a1 a2 W).mono fun e W' ⟨he, hg⟩ => ?_
  subst he
  exact ⟨_, rfl, post_law 3 4 laidOut (by kernel_rfl) rfl rfl rfl Try.underlying4 (fun l hl => by match l, hl with | [_, _, _], _ => rfl) hW' hg⟩

theorem over : Rows.blockSizesRow.holds Try.pinned (OpenSpec.ofChange Rows.blockSizesSpec) :=
  OpenClaim.holds_of_wide 3 Try.f3 rfl rfl rfl rfl rfl rfl rfl ⟨rfl, rfl, rfl, rfl, rfl⟩ rfl rfl rfl rfl rfl (by kernel_rfl) Try.func3 (by kernel_rfl)
    (of_decide_eq_true (by kernel_rfl)) (by unfold Func.isWrapper; first | (rw [if_pos (by decide +kernel)]; kernel_rfl) | (rw [if_neg (by decide +kernel)]; exact ⟨rfl, rfl⟩))
    (fun os started H enc _ => lifted os started H enc)

theorem proved : Rows.BlockSizesSaid := over
#print axioms proved
end Go.Proofs.Ytipimcpkgcekcaa.blockSizes

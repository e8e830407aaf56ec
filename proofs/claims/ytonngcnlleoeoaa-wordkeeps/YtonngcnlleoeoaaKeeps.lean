/-
  WordKeeps: for every access and every v the law answers true: what Words answered stays, and what is done to it changes nothing; its arguments read as they did. Conditions: none.
-/
import Derived.Test.YtonngcnlleoeoaaDo
import Derived.Test.YtonngcnlleoeoaaLift
import Derived.Lib.SmallJoins
import Derived.OpenShut
namespace Go.Proofs.Ytonngcnlleoeoaa.wordKeeps
open Go.Sept Go.RowKit Go.ChangeShapes Go.WideShapes Go.ChangeAt Go.Joins

theorem own : ownKnob Try.prog.godebug = none := by kernel_rfl
theorem laidOut : laidOutB Try.prog = true := by kernel_rfl

set_option maxHeartbeats 1000000 in
theorem walk (k a x y v : Int) (w : World) :
    Calls Try.prog 5 #[opV k a x y, .int .i64 v] w fun e w' => e = .returned (.bool true) ∧ Below w.heap.size w w' := by
  have hX : BoxIs (boxed w k a x y) w.heap.size k a x y := boxed_box _ _ _ _ _
  have hO : Only (fun _ => False) w (boxed w k a x y) := boxed_only _ _ _ _ _
  unfold opV
  unfold boxed at hX hO
  go_enter Try.func5, Try.ntmps5
  go_wp2_with fail
  refine (awake_any _).mono ?_
  rintro e w1 ⟨rfl, hb1⟩
  have ho1 := Only.of_below hb1 (fun _ => False)
  have hX1 := hX.only ho1 (fun h => h)
  have hO1 := hO.chain ho1 (fun _ _ h => h)
  clear hX hO ho1 hb1
  go_wp2_with fail
  refine (new_rel _ _).mono ?_
  rintro e w2 ⟨p, q, rfl, hm2, hp, hq, ho2⟩
  rw [show clampN 3 = 3 from clamp_nat 3 (by decide)] at hm2
  have hs1 : w.heap.size < w1.heap.size := lt_of_block hX1
  have hX2 := hX1.only ho2 (fun h => h)
  have hO2 := hO1.chain ho2 (fun _ _ h => h)
  clear hX1 ho2 hO1
  go_wp2_with fail
  refine (store_rel _ _ _ _ hm2 1 (by decide) v).mono ?_
  rintro e w3 ⟨rfl, hm3, ho3⟩
  have hX3 := hX2.only ho3 (by omega)
  have hO3 := hO2.chain ho3 (fun i hi e => by omega)
  clear hX2 ho3 hO2 hm2
  have hm3' : MemIs 47 w3 p q [0, v, 0] := hm3
  clear hm3
  go_wp2_with fail
  refine (words_rel_pos _ _ _ _ hm3' (by simp) (by simp)).mono ?_
  rintro e w4 ⟨b4, rfl, hr4, hb4, ho4⟩
  have hm4 := hm3'.only ho4 (fun h => h) (fun h => h)
  have hX4 := hX3.only ho4 (fun h => h)
  have hO4 := hO3.chain ho4 (fun _ _ h => h)
  have l1 : p < w3.heap.size := lt_of_block hm3'.head
  have l2 : q < w3.heap.size := hm3'.row.lt
  clear hX3 ho4 hO3 hm3'
  go_wp2_with fail
  refine (words_rel_pos _ _ _ _ hm4 (by simp) (by simp)).mono ?_
  rintro e w5 ⟨b5, rfl, hr5, hb5, ho5⟩
  have hm5 := hm4.only ho5 (fun h => h) (fun h => h)
  have hX5 := hX4.only ho5 (fun h => h)
  have hO5 := hO4.chain ho5 (fun _ _ h => h)
  have hr4' := hr4.only ho5 (fun h => h)
  have l4 : b4 < w4.heap.size := hr4.lt
  have l5 : w.heap.size < w4.heap.size := lt_of_block hX4
  clear hX4 ho5 hO4 hm4 hr4
  -- the store into the second copy
  have hc5 : w5.cell? ⟨b5, 1, none⟩ = some (.int .i64 v) := hr5.cell 1 (by simp)
  have hf5 := hr5.frozen 1
  have hS : Only (· = b5) w5 (w5.setCell ⟨b5, 1, none⟩ (.int .i64 (wrap64 (v + 1)))) := (Only.refl (· = b5) w5).setCell (p := ⟨b5, 1, none⟩) (.inr rfl) _
  have hm6 := hm5.only hS (by omega) (by omega)
  have hX6 := hX5.only hS (by omega)
  have hr6 := hr4'.only hS (by omega)
  have hO6 := hO5.chain hS (fun i hi e => by omega)
  clear hm5 hX5 hO5 hr4' hr5 hS
  go_wp2_with fail
  refine (load_yes _ _ _ _ hm6 1 (by simp)).mono ?_
  rintro e w6 ⟨rfl, rfl⟩
  go_wp2_with fail
  generalize w5.setCell ⟨b5, 1, none⟩ (.int .i64 (wrap64 (v + 1))) = w6 at *
  have hmd : MemIs 47 w6.drew p q [0, v, 0] := hm6.only (Only.refl (fun _ => False) _).drew (fun h => h) (fun h => h)
  have hXd : BoxIs w6.drew w.heap.size k a x y := hX6
  have hrd : RowIs w6.drew b4 [0, v, 0] := hr6
  have hOd := hO6.drew
  obtain ⟨c0, c1, c2, c3⟩ := hX6.cells
  have lp : p < w6.drew.heap.size := lt_of_block hmd.head
  have lq : q < w6.drew.heap.size := hmd.row.lt
  have lb : b4 < w6.drew.heap.size := hrd.lt
  have lw : w.heap.size < w6.drew.heap.size := lt_of_block hXd
  have nb : b4 ≠ q := by omega
  have nw : w.heap.size < q := by omega
  have hpq := hmd.ne
  clear hm6 hX6 hr6 hO6 hc5 hf5 hb4 hb5 l1 l2 l4 l5 hs1
  go_region_held (fun w' => w'.cell? ⟨w.heap.size, 0, none⟩ = some (.int .u8 k) ∧ w'.cell? ⟨w.heap.size, 1, none⟩ = some (.int .i64 a) ∧ w'.cell? ⟨w.heap.size, 2, none⟩ = some (.int .i64 x) ∧ w'.cell? ⟨w.heap.size, 3, none⟩ = some (.int .i64 y)) (go_keep)
    (first
      | (go_at_call 10; refine (ref_new_rel _ _).mono ?_; rintro e w7 ⟨p7, q7, rfl, hm7, hp7, hq7, ho7⟩; have hX7 := hXd.only ho7 (fun h => h); have hm7' := hmd.only ho7 (fun h => h) (fun h => h); have hr7 := hrd.only ho7 (fun h => h); have hO7 := hOd.chain ho7 (fun _ _ h => h); obtain ⟨d0, d1, d2, d3⟩ := hX7.cells)
      | (go_at_call 11; refine (do_any _ _ _ p q p7 q7 [0, v, 0] (List.replicate (clampN 3) 0) ?_ k a x y).mono ?_; exact ⟨.inl ⟨rfl, hm7'⟩, .inl ⟨rfl, hm7⟩, by simp, lt_of_block hm7'.head, hm7'.row.lt, lt_of_block hm7.head, hm7.row.lt, by omega, by omega, by omega⟩; rintro e w8 ⟨⟨r, rfl, _⟩, hB8, ho8⟩; have hX8 := hX7.only ho8 (by omega); have hr8 := hr7.only ho8 (by omega); have hO8 := hO7.chain ho8 (fun i hi e => by omega); obtain ⟨f0, f1, f2, f3⟩ := hX8.cells))
  have hd0 : w8.cell? ⟨b4, 0, none⟩ = some (.int .i64 0) := hr8.cell 0 (by simp)
  have hd1 : w8.cell? ⟨b4, 1, none⟩ = some (.int .i64 v) := hr8.cell 1 (by simp)
  have hd2 : w8.cell? ⟨b4, 2, none⟩ = some (.int .i64 0) := hr8.cell 2 (by simp)
  have hF : Hid (Below w.heap.size w w8) := hO8.below (Nat.le_refl _) (fun _ _ h => h)
  clear hX7 hm7' hr7 hO7 hX8 hr8 hO8 hB8 ho8 ho7 hm7 hmd hXd hrd hOd
  go_wp2
  go_ret
  exact ⟨rfl, hF.out⟩

set_option maxRecDepth 100000 in
theorem lifted (os : Os) (started : os.Started) (H : Type) (enc : TypeId × Value → H) :
    ReturnsInHanded {} Try.checked os 5 .any (Rows.wordKeepsSpec.pre6 enc Try.prog Try.f5 Rows.wordKeepsRow.domain false) (Rows.wordKeepsSpec.post enc Try.prog Try.f5 false true false false) := by
  refine returnsInHanded_of_change (C := Try.checked) own started (by kernel_rfl) Try.func5
    (ChangeSpec.witness6 (enc := enc) (C := Try.checked) false ⟨#[], #[.agg #[.int .u8 0, .int .i64 0, .int .i64 0, .int .i64 0], .int .i64 0], []⟩ 8 (by kernel_rfl) (by kernel_rfl) (by kernel_rfl) (by kernel_rfl)) ?_
  intro W base args ds gs before hval0 hW hcnd _
  have hval : ∀ (j : Nat) t v, Try.f5.params[j]? = some t → args[j]? = some v → Value.okWide Try.prog W .any base t v := hval0
  have hW' := hW
  obtain ⟨p, q, hA0, hV, rfl, hfz, hnd⟩ := hW
  have hA : DataW.TrodAll enc Try.prog W 0 (fun _ => true) true Try.f5.params.toList args.toList ds p := hA0
  rw [Try.params5] at hA hval
  obtain ⟨v0, vs0, d0, ds0, p0, q0, hargs, rfl, rfl, h0, r0⟩ := trodAll_cons hA
  obtain ⟨v1, vs1, d1, ds1, p1, q1, rfl, rfl, rfl, h1, r1⟩ := trodAll_cons r0
  obtain ⟨rfl, rfl, rfl⟩ := trodAll_nil r1
  obtain rfl : args = #[v0, v1] := by cases args; simp_all
  obtain ⟨v, rfl, rfl, rfl, _⟩ := open_int Try.underlying2 (hval 1 2 v1 rfl rfl) h1
  obtain ⟨k, a, x, y, rfl⟩ : ∃ k a x y, v0 = opV k a x y := by
    obtain ⟨c0, c1, c2, c3, y0, y1, y2, y3, m, rfl, _, _, hy0, hy1, hy2, hy3⟩ := open_agg4 Try.underlying30 (by kernel_rfl) (by kernel_rfl) (hval 0 30 v0 rfl rfl) h0
    obtain ⟨k, e0, _, _⟩ := DataW.trod_int Try.underlying5 hy0
    obtain ⟨a, e1, _, _⟩ := DataW.trod_int Try.underlying3 hy1
    obtain ⟨x, e2, _, _⟩ := DataW.trod_int Try.underlying2 hy2
    obtain ⟨y, e3, _, _⟩ := DataW.trod_int Try.underlying2 hy3
    simp at e0 e1 e2 e3
    subst e0 e1 e2 e3
    exact ⟨k, a, x, y, rfl⟩
  refine (walk k a x y v W).mono fun e W' ⟨he, hg⟩ => ?_
  subst he
  exact ⟨_, rfl, post_law 2 4 laidOut (by kernel_rfl) rfl rfl rfl Try.underlying4 (fun l hl => by match l, hl with | [_, _], _ => rfl) hW' hg⟩

theorem over : Rows.wordKeepsRow.holds Try.pinned (OpenSpec.ofChange Rows.wordKeepsSpec) :=
  OpenClaim.holds_of_wide 5 Try.f5 rfl rfl rfl rfl rfl rfl rfl ⟨rfl, rfl, rfl, rfl, rfl⟩ rfl rfl rfl rfl rfl (by kernel_rfl) Try.func5 (by kernel_rfl)
    (of_decide_eq_true (by kernel_rfl)) (by unfold Func.isWrapper; first | (rw [if_pos (by decide +kernel)]; kernel_rfl) | (rw [if_neg (by decide +kernel)]; exact ⟨rfl, rfl⟩))
    (fun os started H enc _ => lifted os started H enc)

theorem proved : Rows.WordKeepsSaid := over
#print axioms proved
end Go.Proofs.Ytonngcnlleoeoaa.wordKeeps

/-
  WordNil: for every access the law answers true: a nil memory has no words; its argument reads as it did. Conditions: none.
-/
import Derived.Test.YtonngcnlleoeoaaDo
import Derived.Test.YtonngcnlleoeoaaLift
import Derived.Lib.SmallJoins
import Derived.OpenShut
namespace Go.Proofs.Ytonngcnlleoeoaa.wordNil
open Go.Sept Go.RowKit Go.ChangeShapes Go.WideShapes Go.ChangeAt Go.Joins

theorem own : ownKnob Try.prog.godebug = none := by kernel_rfl
theorem laidOut : laidOutB Try.prog = true := by kernel_rfl

set_option maxHeartbeats 1000000 in
theorem walk (k a x y : Int) (w : World) :
    Calls Try.prog 6 #[opV k a x y] w fun e w' => e = .returned (.bool true) ∧ Below w.heap.size w w' := by
  have hX : BoxIs (boxed w k a x y) w.heap.size k a x y := boxed_box _ _ _ _ _
  have hO : Only (fun _ => False) w (boxed w k a x y) := boxed_only _ _ _ _ _
  unfold opV
  unfold boxed at hX hO
  go_enter Try.func6, Try.ntmps6
  go_wp2_with fail
  refine (awake_any _).mono ?_
  rintro e w1 ⟨rfl, hb1⟩
  have ho1 := Only.of_below hb1 (fun _ => False)
  have hX1 := hX.only ho1 (fun h => h)
  have hO1 := hO.chain ho1 (fun _ _ h => h)
  clear hX hO ho1 hb1
  obtain ⟨c0, c1, c2, c3⟩ := hX1.cells
  have hs1 : w.heap.size < w1.heap.size := lt_of_block hX1
  have hE : (w1.alloc (.cells #[.slice none 0 0] 35)).heap[w1.heap.size]? = some (.cells #[.slice none 0 0] 35) := heap_new _ _
  have hB : Both (w1.alloc (.cells #[.slice none 0 0] 35)) (.pointer none) (.pointer (some ⟨w1.heap.size, 0, none⟩)) w.heap.size w.heap.size w1.heap.size w1.heap.size [] [] :=
    ⟨.inr (.inl ⟨rfl, rfl⟩), .inr (.inr ⟨rfl, rfl, hE⟩), by simp, by simp; omega, by simp; omega, by simp, by simp, by omega, by omega, by omega⟩
  have hO2 : Only (fun _ => False) w (w1.alloc (.cells #[.slice none 0 0] 35)) := hO1.alloc _
  clear hE hO1 hX1
  go_wp2_with fail
  refine (do_any _ _ _ _ _ _ _ _ _ hB k a x y).mono ?_
  rintro e w2 ⟨⟨r, rfl, hr⟩, hB2, ho2⟩
  obtain rfl := hr rfl
  have hF : Hid (Below w.heap.size w w2) := (hO2.chain ho2 (fun i hi e => by omega)).below (Nat.le_refl _) (fun _ _ h => h)
  have hL : LenIs 47 w2 (.pointer none) 0 := ⟨0, 0, [], .inr (.inl ⟨rfl, rfl⟩), rfl⟩
  clear hB hB2 ho2 hO2 c0 c1 c2 c3
  go_wp2_with (first | (go_at_call 14; refine (len_any _ _ _ hL).mono ?_; rintro e w' ⟨rfl, rfl⟩) | (go_at_call 13; refine (words_none _ _ hL).mono ?_; rintro e w' ⟨rfl, rfl⟩))
  go_ret
  exact ⟨rfl, hF.out⟩

set_option maxRecDepth 100000 in
theorem lifted (os : Os) (started : os.Started) (H : Type) (enc : TypeId × Value → H) :
    ReturnsInHanded {} Try.checked os 6 .any (Rows.wordNilSpec.pre6 enc Try.prog Try.f6 Rows.wordNilRow.domain false) (Rows.wordNilSpec.post enc Try.prog Try.f6 false true false false) := by
  refine returnsInHanded_of_change (C := Try.checked) own started (by kernel_rfl) Try.func6
    (ChangeSpec.witness6 (enc := enc) (C := Try.checked) false ⟨#[], #[.agg #[.int .u8 0, .int .i64 0, .int .i64 0, .int .i64 0]], []⟩ 8 (by kernel_rfl) (by kernel_rfl) (by kernel_rfl) (by kernel_rfl)) ?_
  intro W base args ds gs before hval0 hW hcnd _
  have hval : ∀ (j : Nat) t v, Try.f6.params[j]? = some t → args[j]? = some v → Value.okWide Try.prog W .any base t v := hval0
  have hW' := hW
  obtain ⟨p, q, hA0, hV, rfl, hfz, hnd⟩ := hW
  have hA : DataW.TrodAll enc Try.prog W 0 (fun _ => true) true Try.f6.params.toList args.toList ds p := hA0
  rw [Try.params6] at hA hval
  obtain ⟨v0, vs0, d0, ds0, p0, q0, hargs, rfl, rfl, h0, r0⟩ := trodAll_cons hA
  obtain ⟨rfl, rfl, rfl⟩ := trodAll_nil r0
  obtain rfl : args = #[v0] := by cases args; simp_all
  obtain ⟨k, a, x, y, rfl⟩ : ∃ k a x y, v0 = opV k a x y := by
    obtain ⟨c0, c1, c2, c3, y0, y1, y2, y3, m, rfl, _, _, hy0, hy1, hy2, hy3⟩ := open_agg4 Try.underlying30 (by kernel_rfl) (by kernel_rfl) (hval 0 30 v0 rfl rfl) h0
    obtain ⟨k, e0, _, _⟩ := DataW.trod_int Try.underlying5 hy0
    obtain ⟨a, e1, _, _⟩ := DataW.trod_int Try.underlying3 hy1
    obtain ⟨x, e2, _, _⟩ := DataW.trod_int Try.underlying2 hy2
    obtain ⟨y, e3, _, _⟩ := DataW.trod_int Try.underlying2 hy3
    simp at e0 e1 e2 e3
    subst e0 e1 e2 e3
    exact ⟨k, a, x, y, rfl⟩
  refine (walk k a x y W).mono fun e W' ⟨he, hg⟩ => ?_
  subst he
  exact ⟨_, rfl, post_law 1 4 laidOut (by kernel_rfl) rfl rfl rfl Try.underlying4 (fun l hl => by match l, hl with | [_], _ => rfl) hW' hg⟩

theorem over : Rows.wordNilRow.holds Try.pinned (OpenSpec.ofChange Rows.wordNilSpec) :=
  OpenClaim.holds_of_wide 6 Try.f6 rfl rfl rfl rfl rfl rfl rfl ⟨rfl, rfl, rfl, rfl, rfl⟩ rfl rfl rfl rfl rfl (by kernel_rfl) Try.func6 (by kernel_rfl)
    (of_decide_eq_true (by kernel_rfl)) (by unfold Func.isWrapper; first | (rw [if_pos (by decide +kernel)]; kernel_rfl) | (rw [if_neg (by decide +kernel)]; exact ⟨rfl, rfl⟩))
    (fun os started H enc _ => lifted os started H enc)

theorem proved : Rows.WordNilSaid := over
#print axioms proved
end Go.Proofs.Ytonngcnlleoeoaa.wordNil

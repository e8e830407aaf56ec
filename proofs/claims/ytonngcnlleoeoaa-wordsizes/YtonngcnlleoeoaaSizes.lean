/-
  WordSizes: for every n the law answers true: a new memory has as many words as may be, all 0; its argument reads as it did. Conditions: none.
-/
import Derived.Test.YtonngcnlleoeoaaRel
import Derived.Test.YtonngcnlleoeoaaLift
import Derived.OpenShut
namespace Go.Proofs.Ytonngcnlleoeoaa.wordSizes
open Go.Sept Go.RowKit Go.ChangeShapes Go.WideShapes Go.ChangeAt

theorem own : ownKnob Try.prog.godebug = none := by kernel_rfl
theorem laidOut : laidOutB Try.prog = true := by kernel_rfl

theorem cases_n (a0 : Int) : (a0 < 0 ∧ clampN a0 = 0) ∨ (∃ m : Nat, m ≤ 4000 ∧ a0 = m ∧ clampN a0 = m) ∨ (4000 < a0 ∧ clampN a0 = 4000) := by
  by_cases h : a0 < 0
  · exact .inl ⟨h, by unfold clampN; omega⟩
  · by_cases h1 : a0 ≤ 4000
    · exact .inr (.inl ⟨a0.toNat, by omega, by omega, by unfold clampN; omega⟩)
    · exact .inr (.inr ⟨by omega, by unfold clampN; omega⟩)

set_option maxHeartbeats 1000000 in
/-- What is left behind Words, as a slice of k zeros. -/
theorem walk (a0 : Int) (w : World) :
    Calls Try.prog 4 #[.int .i64 a0] w fun e w' => e = .returned (.bool true) ∧ Below w.heap.size w w' := by
  obtain ⟨k, hk⟩ : ∃ k, k = clampN a0 := ⟨_, rfl⟩
  have hk4 : k ≤ 4000 := by rw [hk]; exact clamp_le a0
  have hcs := cases_n a0
  rw [← hk] at hcs
  have HC : Hid ((a0 < 0 ∧ k = 0) ∨ (∃ m : Nat, m ≤ 4000 ∧ a0 = m ∧ k = m) ∨ (4000 < a0 ∧ k = 4000)) := hcs
  have HK : Hid (k = clampN a0) := hk
  clear hcs hk
  go_enter Try.func4, Try.ntmps4
  go_wp2_with fail
  refine (awake_any _).mono ?_
  rintro e w1 ⟨rfl, hb1⟩
  go_wp2_with fail
  refine (new_rel _ _).mono ?_
  rintro e w2 ⟨p, q, rfl, hm, hp, hq, ho2⟩
  rw [← HK.out] at hm
  go_wp2_with fail
  refine (words_rel _ _ _ _ hm (by simpa using hk4)).mono ?_
  rintro e w3 ⟨v, b, rfl, hs, hb, ho3⟩
  have hm3 : MemIs 47 w3 p q (List.replicate k 0) := hm.only ho3 (fun h => h) (fun h => h)
  have hB : Hid (Below w.heap.size w w3) := hb1.trans (((ho2.chain ho3 (fun _ _ h => h)).below (Nat.le_refl _) (fun _ _ h => h)).mono hb1.size)
  have hL : LenIs 47 w3 (.pointer (some ⟨p, 0, none⟩)) k := ⟨p, q, _, .inl ⟨rfl, hm3⟩, by simp⟩
  obtain ⟨ao, hv, hcell⟩ : ∃ ao, v = .slice ao k k ∧ ∀ i, i < k → ao = some ⟨b, 0, none⟩ ∧ w3.cell? ⟨b, i, none⟩ = some (.int .i64 0) := by
    rcases hs.shape with ⟨hx, rfl⟩ | rfl
    · have : k = 0 := by simpa using hx
      subst this
      exact ⟨none, rfl, fun i hi => by omega⟩
    · refine ⟨some ⟨b, 0, none⟩, by simp, fun i hi => ⟨rfl, ?_⟩⟩
      rcases hs.row with hx | hr
      · have : k = 0 := by simpa using hx
        omega
      · have := hr.cell i (by simpa using hi)
        simpa [hi] using this
  rw [hv]
  clear hv hs hm hm3 ho2 ho3 hb1 hp hq hb HK
  go_wp2_with fail
  go_loop [14] (fun i => ∃ j : Nat, j ≤ k ∧ i = .int .i64 j) (fun i => k - (intOf i).toNat)
  case atStart => exact ⟨0, Nat.zero_le _, rfl⟩
  case round =>
    obtain ⟨j, hj, rfl⟩ := hrel
    by_cases hlt : j < k
    · obtain ⟨rfl, hc⟩ := hcell j hlt
      clear hcell
      go_wp2_with fail
      go_round
      case rel => exact ⟨j + 1, by omega, by go_num⟩
      case measure => simp [intOf]; omega
    · clear hcell
      rcases HC.out with ⟨h0, hk0⟩ | ⟨m, h0, h1, hk0⟩ | ⟨h0, hk0⟩
      · have hk1 : ((k : Int) == 0) = true := by simp [hk0]
        clear hk0 HC
        go_wp2_with (go_at_call 14; refine (len_any _ _ _ hL).mono ?_; rintro e w' ⟨rfl, rfl⟩)
        go_ret
        exact ⟨rfl, hB.out⟩
      · subst hk0 h1
        clear HC
        go_wp2_with (go_at_call 14; refine (len_any _ _ _ hL).mono ?_; rintro e w' ⟨rfl, rfl⟩)
        go_ret
        exact ⟨rfl, hB.out⟩
      · have hk1 : ((k : Int) == 4000) = true := by simp [hk0]
        clear hk0 HC
        go_wp2_with (go_at_call 14; refine (len_any _ _ _ hL).mono ?_; rintro e w' ⟨rfl, rfl⟩)
        go_ret
        exact ⟨rfl, hB.out⟩

set_option maxRecDepth 100000 in
theorem lifted (os : Os) (started : os.Started) (H : Type) (enc : TypeId × Value → H) :
    ReturnsInHanded {} Try.checked os 4 .any (Rows.wordSizesSpec.pre6 enc Try.prog Try.f4 Rows.wordSizesRow.domain false) (Rows.wordSizesSpec.post enc Try.prog Try.f4 false true false false) := by
  refine returnsInHanded_of_change (C := Try.checked) own started (by kernel_rfl) Try.func4
    (ChangeSpec.witness6 (enc := enc) (C := Try.checked) false ⟨#[], #[.int .i64 0], []⟩ 8 (by kernel_rfl) (by kernel_rfl) (by kernel_rfl) (by kernel_rfl)) ?_
  intro W base args ds gs before hval0 hW hcnd _
  have hval : ∀ (j : Nat) t v, Try.f4.params[j]? = some t → args[j]? = some v → Value.okWide Try.prog W .any base t v := hval0
  have hW' := hW
  obtain ⟨p, q, hA0, hV, rfl, hfz, hnd⟩ := hW
  have hA : DataW.TrodAll enc Try.prog W 0 (fun _ => true) true Try.f4.params.toList args.toList ds p := hA0
  rw [Try.params4] at hA hval
  obtain ⟨v0, vs0, d0, ds0, p0, q0, hargs, rfl, rfl, h0, r0⟩ := trodAll_cons hA
  obtain ⟨rfl, rfl, rfl⟩ := trodAll_nil r0
  obtain rfl : args = #[v0] := by cases args; simp_all
  obtain ⟨a0, rfl, rfl, rfl, w0⟩ := open_int Try.underlying3 (hval 0 3 v0 rfl rfl) h0
  refine (walk a0 W).mono fun e W' ⟨he, hg⟩ => ?_
  subst he
  exact ⟨_, rfl, post_law 1 4 laidOut (by kernel_rfl) rfl rfl rfl Try.underlying4 (fun l hl => by match l, hl with | [_], _ => rfl) hW' hg⟩

theorem over : Rows.wordSizesRow.holds Try.pinned (OpenSpec.ofChange Rows.wordSizesSpec) :=
  OpenClaim.holds_of_wide 4 Try.f4 rfl rfl rfl rfl rfl rfl rfl ⟨rfl, rfl, rfl, rfl, rfl⟩ rfl rfl rfl rfl rfl (by kernel_rfl) Try.func4 (by kernel_rfl)
    (of_decide_eq_true (by kernel_rfl)) (by unfold Func.isWrapper; first | (rw [if_pos (by decide +kernel)]; kernel_rfl) | (rw [if_neg (by decide +kernel)]; exact ⟨rfl, rfl⟩))
    (fun os started H enc _ => lifted os started H enc)

theorem proved : Rows.WordSizesSaid := over
#print axioms proved
end Go.Proofs.Ytonngcnlleoeoaa.wordSizes

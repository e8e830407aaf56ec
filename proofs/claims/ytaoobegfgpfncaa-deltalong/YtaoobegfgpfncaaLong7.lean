/-
  DeltaLong: for every list of numbers the law answers true: up to ten timers of any lengths come in the order of their lengths. Conditions: none.
-/
import Derived.Test.YtaoobegfgpfncaaAwake7
import Derived.Test.YtaoobegfgpfncaaTimers7
import Derived.Test.YtaoobegfgpfncaaOpens
import Derived.BigQuiet
namespace Go.Proofs.Ytaoobegfgpfncaa.deltaLong
open Go.Sept Go.RowKit Go.ChangeShapes Go.WideShapes Go.ChangeAt Go.Joins Go.Deep

theorem own : ownKnob Try.prog.godebug = none := by kernel_rfl
theorem laidOut : laidOutB Try.prog = true := by kernel_rfl

set_option maxRecDepth 100000 in
set_option maxHeartbeats 1000000 in
theorem walk_out (ta : Option Addr) (L tc : Nat) (w : World) (hL : 10 < L) (hm : L ≤ 9223372036854775807) :
    Calls Try.prog 3 #[.slice ta L tc] w fun e w' => e = .returned (.bool true) ∧ Below w.heap.size w w' := by
  have hlt : (10 : Int) < L := by omega
  go_enter Try.func3, Try.ntmps3
  go_wp2_with fail
  refine (awake7_any _).mono ?_
  rintro e w1 ⟨rfl, hb1⟩
  have HB := hid hb1
  clear hb1
  go_wp2_with fail
  refine (awake7_any _).mono ?_
  rintro e w2 ⟨rfl, hb2⟩
  have hF : Hid (Below w.heap.size w w2) := ((Only.of_below HB.out (fun _ => False)).chain (Only.of_below hb2 (fun _ => False)) (fun _ _ h => h)).below (Nat.le_refl _) (fun _ _ h => h)
  clear HB hb2
  go_wp2_with fail
  go_ret
  exact ⟨rfl, hF.out⟩

set_option maxHeartbeats 400000 in
theorem addr_rel (w : World) (m : Nat) (hm : m < 10) : Calls Try.prog 6 #[.int .i64 (m : Int)] w fun e w' => e = .returned (.int .i64 (10 + 3 * (m : Int))) ∧ w' = w := by
  go_enter Try.func6, Try.ntmps6
  go_wp2
  go_ret
  refine ⟨?_, rfl⟩
  first | rfl | go_num

/-- What stands between the rounds. -/
structure Play (w wx : World) (T p q : Nat) (M : List Tm) (xs : List Int) : Prop where
  tm : TimersIs wx T (T + 1) M
  mem : MemIs 60 wx p q xs
  ring : Ring xs M
  only : Only (fun _ => False) w wx
theorem Play.keep {w W W' : World} {T p q : Nat} {M : List Tm} {xs : List Int} (h : Play w W T p q M xs) (ho : Only (fun _ => False) W W') : Play w W' T p q M xs :=
  ⟨h.tm.only ho (fun h => h) (fun _ _ h => h), h.mem.only ho (fun h => h) (fun h => h), h.ring, h.only.chain ho (fun _ _ h => h)⟩
/-- The nodes are the first ones. -/
def Early (j : Nat) (M : List Tm) : Prop := ∀ x ∈ M, x.1 < 10 + 3 * (j : Int)

set_option maxRecDepth 100000 in
set_option maxHeartbeats 2000000 in
theorem walk_in (ta : Option Addr) (tc : Nat) (l : List Int) (V : Nat) (w : World) (hl : l.length ≤ 10) (hS : SeesOf .u64 w ta l V) (hu : ∀ x ∈ l, 0 ≤ x ∧ x < 18446744073709551616) :
    Calls Try.prog 3 #[.slice ta l.length tc] w fun e w' => e = .returned (.bool true) ∧ Below w.heap.size w w' := by
  have hmf : ∀ (fn : Fn) (first cap : Array Value) (w : World), (Instr.makeFunc fn first cap).run Try.prog w = .ok (.func fn first cap) w := fun _ _ _ _ => rfl
  have hl10 : ¬ (10 : Int) < l.length := by omega
  have HSe := hid hS
  have HU := hid hu
  clear hS hu
  go_enter Try.func3, Try.ntmps3
  go_wp2_with fail
  refine (awake7_any _).mono ?_
  rintro e w1 ⟨rfl, hb1⟩
  have HB := hid (Only.of_below hb1 (fun _ => False))
  clear hb1
  go_wp2_with fail
  refine (made7_rel _).mono ?_
  rintro e w2 ⟨p, q, rfl, hm2, hp2, hq2, ho2⟩
  have hW : ∃ W T, W = w2.alloc (.cells #[.slice none 0 0] 29) ∧ T = w2.heap.size ∧ Play w W T p q [] tm0 ∧ p < T ∧ q < T ∧ w.heap.size ≤ p ∧ w.heap.size ≤ q ∧ w.heap.size ≤ T := by
    have z := HB.out.size
    have z2 := ho2.size
    exact ⟨_, _, rfl, rfl, ⟨TimersIs.made (heap_new _ _), hm2.alloc _, ring0, (HB.out.chain ho2 (fun _ _ h => h)).alloc _⟩, lt_of_block hm2.head, hm2.row.lt, by omega, by omega, by omega⟩
  obtain ⟨W, T, hWe, hTe, hP, zp, zq, zwp, zwq, zwT⟩ := hW
  have HP := hid hP
  clear hm2 hp2 hq2 ho2 hP HB
  go_wp2_with fail
  rw [← hWe, ← hTe]
  clear hWe hTe
  go_loopw [25] (fun i wx => ∃ (j : Nat) (M : List Tm) (xs : List Int), i = .int .i64 (j : Int) ∧ j ≤ l.length ∧ Play w wx T p q M xs ∧ M.length = j ∧ Early j M) (fun i _ => l.length - (intOf i).toNat)
  case atStart => exact ⟨0, [], tm0, rfl, Nat.zero_le _, HP.out, rfl, fun _ h => (List.not_mem_nil h).elim⟩
  case round =>
    obtain ⟨j, M, xs, rfl, hj, hP, hM, hE⟩ := hrel
    clear HP
    by_cases hlt : (j : Int) < l.length
    · have hj10 : j < 10 := by omega
      obtain ⟨v, hv⟩ : ∃ v, v = l.getD j 0 := ⟨_, rfl⟩
      have hvb : 0 ≤ v ∧ v < 18446744073709551616 := by
        rw [hv, List.getD_eq_getElem?_getD, List.getElem?_eq_getElem (by omega)]
        exact HU.out _ (List.getElem_mem _)
      obtain ⟨off, hta, cv⟩ : ∃ off, ta = some ⟨V, off, none⟩ ∧ wr.cell? ⟨V, off + j, none⟩ = some (.int .u64 v) := by
        rcases HSe.out.only hP.only (fun _ h => h) with h0 | ⟨off, h1, h2⟩
        · rw [h0] at hlt; simp at hlt; omega
        · exact ⟨off, h1, by rw [hv]; exact h2 j (by omega)⟩
      subst hta
      have HP := hid hP
      have HE := hid hE
      obtain ⟨aa, haa⟩ : ∃ aa : Int, 10 + 3 * (j : Int) = aa := ⟨_, rfl⟩
      have HAD : Hid (∀ w : World, Calls Try.prog 6 #[.int .i64 (j : Int)] w fun e w' => e = .returned (.int .i64 aa) ∧ w' = w) := fun w => by
        rw [← haa]
        exact addr_rel w j hj10
      have HAA := hid haa
      have HVV := hid hv
      clear hP hE haa hv
      go_wp2_with fail
      go_region_held (fun w' => w'.cell? ⟨V, off + j, none⟩ = some (.int .u64 v)) (go_keep)
        (first | (go_at_call 6; refine (HAD.out _).mono ?_; rintro e w4 ⟨rfl, rfl⟩))
      obtain ⟨tk, htk⟩ : ∃ tk, IntKind.i64.wrap (v / 16) = tk := ⟨_, rfl⟩
      have hts : Small tk := by
        rw [← htk, IntKind.wrap_i64]
        unfold Small
        omega
      have hW : ∃ W z, W = (wr.alloc (act7O 0 aa tk (0, false))).drew ∧ z = wr.heap.size ∧ Play w W T p q M xs ∧ W.heap[z]? = some (act7O 0 aa tk (0, false)) ∧ T < z :=
        ⟨_, _, rfl, rfl, HP.out.keep (((Only.refl (fun _ => False) wr).alloc _).drew), heap_new _ _, HP.out.tm.lt⟩
      obtain ⟨W2, z, hWe, hze, hP2, hz2, zT⟩ := hW
      have HP2 := hid (hP2.keep ((Only.refl (fun _ => False) W2).drew))
      have HZ := hid hz2
      have HTS := hid hts
      have c1 : W2.cell? ⟨z, 1, none⟩ = some (.int .i64 aa) := Sept.cell_of_block hz2 1
      have c2 : W2.cell? ⟨z, 2, none⟩ = some (.int .i64 tk) := Sept.cell_of_block hz2 2
      simp only [act7O] at hWe
      rw [htk, ← hWe, ← hze]
      clear htk hWe hze hts hz2 hP2 HP cv hvb HVV HAD
      go_wp2_with fail
      go_region_held (fun w' => w'.cell? ⟨z, 1, none⟩ = some (.int .i64 aa) ∧ w'.cell? ⟨z, 2, none⟩ = some (.int .i64 tk)) (go_keep)
        (first | (go_at_call 7; refine (tInsert_rel _ T (T + 1) M aa tk HP2.out.tm HP2.out.tm.lt (by omega)).mono ?_; rintro e w5 ⟨rfl, ht5, ho5⟩; have HT5 := hid ht5; have HO5 := hid ho5; have hb5 : w5.heap[z]? = some (act7O 0 aa tk (0, false)) := (ho5.block z (lt_of_block HZ.out) (by omega)).trans HZ.out; have HZ5 := hid hb5; have d1 : w5.cell? ⟨z, 1, none⟩ = some (.int .i64 aa) := Sept.cell_of_block hb5 1; have d2 : w5.cell? ⟨z, 2, none⟩ = some (.int .i64 tk) := Sept.cell_of_block hb5 2; clear ht5 ho5 hb5))
      clear c1 c2 d1 d2
      have HM5 := hid (HP2.out.mem.only HO5.out (by omega) (by omega))
      obtain ⟨ys, c, hal, hring⟩ := HP2.out.ring.insert (n := aa) (t := tk) (by omega) (by have := HAA.out; unfold IsNode; omega) (fun x hx e => by have := HE.out x hx; have := HAA.out; omega) HTS.out
      have HAL := hid hal
      have HR := hid hring
      have HOO := hid (HP2.out.only.chain HO5.out (fun i hi e => by omega))
      have HXL : Hid (0 < xs.length) := by show 0 < _; rw [HP2.out.ring.len]; decide
      clear hal hring HP2 HO5 HZ
      go_wp2_with fail
      refine (run_reads (act7_0 z aa tk (0, false) HTS.out.1) _ p q xs 5000 HM5.out HZ5.out (by omega) (by omega) (by decide) (by decide) (by decide) (by decide) HXL.out).mono ?_
      rintro e w6 ⟨rfl, hm6, ho6⟩
      have HP6 : Hid (Play w w6 T p q (ins aa tk M) ys) := by
        rw [HAL.out] at hm6
        exact ⟨HT5.out.only ho6 (by omega) (fun c hc e => by have e' : c = q := e; omega), hm6, HR.out, HOO.out.chain ho6 (fun i hi e => by omega)⟩
      have HE6 : Hid (Early (j + 1) (ins aa tk M)) := fun x hx => by
        have := HAA.out
        rcases mem_ins hx with rfl | hx
        · show aa < _
          omega
        · have := HE.out x hx
          omega
      clear hm6 ho6 HT5 HM5 HR HOO HAL HZ5
      go_wp2_with fail
      go_roundw
      case rel => exact ⟨j + 1, ins aa tk M, ys, by go_num, by omega, HP6.out, by rw [length_ins, hM], HE6.out⟩
      case measure => simp [intOf]; omega
    · obtain rfl : j = l.length := by omega
      have HP := hid hP
      clear hP hE HSe HU
      go_wp2_with fail
      go_loopw [56] (fun i wx => ∃ (k : Nat) (M : List Tm) (xs : List Int), i = .int .i64 (k : Int) ∧ k ≤ l.length ∧ Play w wx T p q M xs ∧ M.length + k = l.length) (fun i _ => l.length - (intOf i).toNat)
      case atStart => exact ⟨0, M, xs, rfl, Nat.zero_le _, HP.out, by omega⟩
      case round =>
        obtain ⟨k, M, xs, rfl, hk, hP, hM⟩ := hrel
        clear HP
        by_cases hlt2 : (k : Int) < l.length
        · cases M with
          | nil => simp at hM; omega
          | cons x M =>
            obtain ⟨x1, x2⟩ := x
            obtain ⟨ao, cap, hcap, hcells⟩ := hP.tm.cells
            obtain ⟨cT, _, cX⟩ := hcells _ (Only.refl _ _)
            obtain ⟨b, hao, cx0, cx1⟩ := cX 0 (by simp)
            subst hao
            have cx0 : wr.cell? ⟨b, 0, none⟩ = some (.int .i64 x1) := by simpa using cx0
            have cx1 : wr.cell? ⟨b, 1, none⟩ = some (.int .i64 x2) := by simpa using cx1
            have hlen : (0 : Int) < ((x1, x2) :: M).length := by simp
            have hxn := (hP.ring.fine (x1, x2) (List.mem_cons_self ..)).1
            have hx1 : 10 ≤ x1 ∧ x1 ≤ 37 := ⟨hxn.1, hxn.2.1⟩
            obtain ⟨er, her⟩ : ∃ er, er = errA xs (x1 + 2) := ⟨_, rfl⟩
            have HLD : Hid (Calls Try.prog 10 #[.pointer (some ⟨p, 0, none⟩), .int .i64 (x1 + 2)] wr fun e w' => e = .returned (.tuple #[.int .i64 x2, .int .i64 er]) ∧ w' = wr) := by
              have h9 := load_rel wr _ p q xs (.inl ⟨rfl, hP.mem⟩) (x1 + 2)
              rw [show valA xs (x1 + 2) = x2 from hP.ring.first, ← her] at h9
              exact h9
            have HP := hid hP
            clear hP hcells cX hxn her
            go_wp2_with fail
            refine HLD.out.mono ?_
            rintro e w4 ⟨rfl, hw4⟩
            rw [hw4]
            clear hw4
            have hW : ∃ W z, W = wr.alloc (act7O 1 x1 0 (0, false)) ∧ z = wr.heap.size ∧ Play w W T p q ((x1, x2) :: M) xs ∧ W.heap[z]? = some (act7O 1 x1 0 (0, false)) ∧ T < z :=
              ⟨_, _, rfl, rfl, HP.out.keep ((Only.refl (fun _ => False) wr).alloc _), heap_new _ _, HP.out.tm.lt⟩
            obtain ⟨W2, z, hWe, hze, hP2, hz2, zT⟩ := hW
            have HP2 := hid hP2
            have HZ := hid hz2
            simp only [act7O] at hWe
            clear hP2 hz2 HP HLD
            go_wp2_with fail
            rw [← hWe, ← hze]
            clear hWe hze cT cx0 cx1
            refine (tRemove_rel _ T (T + 1) _ x1 HP2.out.tm HP2.out.tm.lt (by omega)).mono ?_
            rintro e w5 ⟨rfl, ht5, ho5⟩
            have hless : less x1 ((x1, x2) :: M) = M := by
              rw [less, if_pos rfl]
              exact less_out HP2.out.ring.apart.1
            rw [hless] at ht5
            have HT5 := hid ht5
            have HM5 := hid (HP2.out.mem.only ho5 (by omega) (by omega))
            have HZ5 := hid ((ho5.block z (lt_of_block HZ.out) (by omega)).trans HZ.out)
            obtain ⟨ys, c, hal, hring⟩ := HP2.out.ring.remove
            have HAL := hid hal
            have HR := hid hring
            have HOO := hid (HP2.out.only.chain ho5 (fun i hi e => by omega))
            have HXL : Hid (0 < xs.length) := by show 0 < _; rw [HP2.out.ring.len]; decide
            clear hal hring HP2 ho5 HZ ht5 hless
            go_wp2_with fail
            refine (run_reads (act7_1 z x1 0 (0, false)) _ p q xs 5000 HM5.out HZ5.out (by omega) (by omega) (by decide) (by decide) (by decide) (by decide) HXL.out).mono ?_
            rintro e w6 ⟨rfl, hm6, ho6⟩
            have HP6 : Hid (Play w w6 T p q M ys) := by
              rw [HAL.out] at hm6
              exact ⟨HT5.out.only ho6 (by omega) (fun c hc e => by have e' : c = q := e; omega), hm6, HR.out, HOO.out.chain ho6 (fun i hi e => by omega)⟩
            have hM' : M.length + 1 + k = l.length := by simpa using hM
            clear hm6 ho6 HT5 HM5 HR HOO HAL HZ5
            go_wp2_with fail
            go_roundw
            case rel => exact ⟨k + 1, M, ys, by go_num, by omega, HP6.out, by omega⟩
            case measure => simp [intOf]; omega
        · obtain rfl : k = l.length := by omega
          obtain rfl : M = [] := List.length_eq_zero_iff.1 (by omega)
          have hW : ∃ W z, W = wr.alloc (act7O 3 0 0 (0, false)) ∧ z = wr.heap.size ∧ Play w W T p q [] xs ∧ W.heap[z]? = some (act7O 3 0 0 (0, false)) ∧ T < z :=
            ⟨_, _, rfl, rfl, hP.keep ((Only.refl (fun _ => False) wr).alloc _), heap_new _ _, hP.tm.lt⟩
          obtain ⟨W2, z, hWe, hze, hP2, hz2, zT⟩ := hW
          have HP2 := hid hP2
          have HZ := hid hz2
          simp only [act7O] at hWe
          clear hP2 hz2 hP
          go_wp2_with fail
          rw [← hWe, ← hze]
          clear hWe hze
          refine (run_turns (act7_3 z 0 0) _ p q xs 5000 (0, false) HP2.out.mem HZ.out (by omega) (by omega) (by decide) (by decide) (by decide) (by decide) (by rw [HP2.out.ring.len]; decide)).mono ?_
          rintro e w5 ⟨rfl, _, hz5, ho5⟩
          rw [HP2.out.ring.due] at hz5
          have c4 : w5.cell? ⟨z, 4, none⟩ = some (.bool false) := Sept.cell_of_block hz5 4
          have HO5 : Hid (Only (fun _ => False) w w5) := HP2.out.only.chain ho5 (fun i hi e => by rcases e with e | e <;> omega)
          clear hz5 ho5 HP2 HZ
          go_wp2_with fail
          go_ret
          exact ⟨rfl, HO5.out.below (Nat.le_refl _) (fun _ _ h => h)⟩

theorem walk (ta : Option Addr) (tc : Nat) (l : List Int) (V : Nat) (w : World) (hmx : l.length ≤ 9223372036854775807) (hS : SeesOf .u64 w ta l V) (hu : ∀ x ∈ l, 0 ≤ x ∧ x < 18446744073709551616) :
    Calls Try.prog 3 #[.slice ta l.length tc] w fun e w' => e = .returned (.bool true) ∧ Below w.heap.size w w' := by
  by_cases h : 10 < l.length
  · exact walk_out ta _ tc w h hmx
  · exact walk_in ta tc l V w (by omega) hS hu

set_option maxRecDepth 100000 in
theorem lifted (os : Os) (started : os.Started) (H : Type) (enc : TypeId × Value → H) :
    ReturnsInHanded {} Try.checked os 3 .any (Rows.deltaLongSpec.pre6 enc Try.prog Try.f3 Rows.deltaLongRow.domain false) (Rows.deltaLongSpec.post enc Try.prog Try.f3 false true false false) := by
  refine returnsInHanded_of_change (C := Try.checked) own started (by kernel_rfl) Try.func3
    (ChangeSpec.witness6 (enc := enc) (C := Try.checked) false ⟨#[], #[.slice none 0 0], []⟩ 8 (by kernel_rfl) (by kernel_rfl) (by kernel_rfl) (by kernel_rfl)) ?_
  intro W base args ds gs before hval0 hW hcnd _
  have hval : ∀ (j : Nat) t v, Try.f3.params[j]? = some t → args[j]? = some v → Value.okWide Try.prog W .any base t v := hval0
  have hW' := hW
  obtain ⟨p, q, hA0, hV, rfl, hfz, hnd⟩ := hW
  have hA : DataW.TrodAll enc Try.prog W 0 (fun _ => true) true Try.f3.params.toList args.toList ds p := hA0
  rw [Try.params3] at hA hval
  obtain ⟨v0, vs0, d0, ds0, p0, q0, hargs, rfl, rfl, h0, r0⟩ := trodAll_cons hA
  obtain ⟨rfl, rfl, rfl⟩ := trodAll_nil r0
  obtain rfl : args = #[v0] := by cases args; simp_all
  obtain ⟨ta, L, tc, rfl⟩ := okWide_slice Try.underlying22 (hval 0 22 v0 rfl rfl)
  obtain ⟨l, V, rfl, hS, hwf, hmx⟩ := open_sees Try.underlying22 Try.underlying32 (by kernel_rfl) h0
  refine (walk ta tc l V W hmx hS (fun x hx => ⟨(bounds_u64 (hwf x hx)).1, Int.lt_of_le_of_lt (bounds_u64 (hwf x hx)).2 (by decide)⟩)).mono fun e W' ⟨he, hg⟩ => ?_
  subst he
  exact ⟨_, rfl, post_law 1 4 laidOut (by kernel_rfl) rfl rfl rfl Try.underlying4 (fun l hl => by match l, hl with | [_], _ => rfl) hW' hg⟩

theorem over : Rows.deltaLongRow.holds Try.pinned (OpenSpec.ofChange Rows.deltaLongSpec) :=
  OpenClaim.holds_of_wide 3 Try.f3 rfl rfl rfl rfl rfl rfl rfl ⟨rfl, rfl, rfl, rfl, rfl⟩ rfl rfl rfl rfl rfl (by kernel_rfl) Try.func3 (by kernel_rfl)
    (of_decide_eq_true (by kernel_rfl)) (by unfold Func.isWrapper; first | (rw [if_pos (by decide +kernel)]; kernel_rfl) | (rw [if_neg (by decide +kernel)]; exact ⟨rfl, rfl⟩))
    (fun os started H enc _ => lifted os started H enc)

theorem proved : Rows.DeltaLongSaid := over
#print axioms proved
end Go.Proofs.Ytaoobegfgpfncaa.deltaLong

/-
  WordApart: for every n, list and access the law answers true: an access of one word changes no other one; its arguments read as they did. Conditions: none.
-/
import Derived.Test.YtonngcnlleoeoaaDo
import Derived.Test.YtonngcnlleoeoaaLift
import Derived.Lib.SmallJoins
import Derived.OpenShut
namespace Go.Proofs.Ytonngcnlleoeoaa.wordApart
open Go.Sept Go.RowKit Go.ChangeShapes Go.WideShapes Go.ChangeAt Go.Joins

theorem own : ownKnob Try.prog.godebug = none := by kernel_rfl
theorem laidOut : laidOutB Try.prog = true := by kernel_rfl

/-- Words, told of every pointer. -/
theorem words_hold (w : World) (v : Value) (p q : Nat) (xs : List Int) (h : Holds 47 w v p q xs) (h1 : xs.length ≤ 4000) :
    Calls Try.prog 13 #[v] w fun e w' => ∃ u b, e = .returned u ∧ SliceIs w' u b xs ∧ w.heap.size ≤ b ∧ Only (fun _ => False) w w' := by
  by_cases h0 : xs = []
  · subst h0
    refine (words_none w _ ⟨p, q, [], h, rfl⟩).mono ?_
    rintro e w' ⟨rfl, rfl⟩
    exact ⟨_, w'.heap.size, rfl, ⟨.inl ⟨rfl, rfl⟩, .inl rfl⟩, Nat.le_refl _, Only.refl _ _⟩
  · obtain ⟨rfl, hm⟩ := holds_pos h (n := 0) (List.length_pos_iff.2 h0)
    exact words_rel w p q xs hm h1

theorem SliceIs.onlyIf {w w' : World} {v : Value} {b : Nat} {xs : List Int} {S : Nat → Prop} (h : SliceIs w v b xs) (ho : Only S w w') (hb : b < w.heap.size → ¬ S b) : SliceIs w' v b xs :=
  ⟨h.shape, by
    rcases h.row with h | h
    · exact .inl h
    · exact .inr (h.only ho (hb h.lt))⟩

theorem slice_two {w w1 w2 : World} {v : Value} {b : Nat} {xs : List Int} {T : Nat → Prop} (h : SliceIs w v b xs) (ho : Only (fun _ => False) w w1) (ho' : Only T w1 w2) (hT : b < w.heap.size → ¬ T b) : SliceIs w2 v b xs :=
  ⟨h.shape, by
    rcases h.row with h | h
    · exact .inl h
    · exact .inr ((h.only ho (fun h => h)).only ho' (hT h.lt))⟩

theorem setA_other (xs : List Int) (a x : Int) (j : Nat) (hj : (j : Int) ≠ a) : (setA xs a x).getD j 0 = xs.getD j 0 := by
  rcases okA_cases xs a with ⟨ho, _⟩ | ⟨ho, n, rfl, hn⟩
  · simp [setA, ho]
  · rw [setA, if_pos ho, Int.toNat_natCast]
    have : n ≠ j := by omega
    simp [List.getElem?_set_ne this]
theorem afterA_other (k a x y : Int) (xs : List Int) (j : Nat) (hj : (j : Int) ≠ a) : (afterA k a x y xs).getD j 0 = xs.getD j 0 := by
  unfold afterA
  split
  · rfl
  · split
    · exact setA_other _ _ _ _ hj
    · split
      · exact setA_other _ _ _ _ hj
      · unfold swapA
        split
        · exact setA_other _ _ _ _ hj
        · rfl

/-- What the walk is told of a list of int64 that came in. -/
def ListIs (w : World) (ao : Option Addr) (len : Nat) (zs : List Int) : Prop := ∃ b off, ∀ i, i < len → ao = some ⟨b, off, none⟩ ∧ w.cell? ⟨b, off + i, none⟩ = some (.int .i64 (zs.getD i 0))

set_option maxHeartbeats 1000000 in
theorem walk_long (n k a x y : Int) (ao : Option Addr) (len cap : Nat) (w : World) (hlen : 300 < len) (hm : len ≤ 9223372036854775807) :
    Calls Try.prog 7 #[.int .u8 n, .slice ao len cap, opV k a x y] w fun e w' => e = .returned (.bool true) ∧ Below w.heap.size w w' := by
  have hO : Only (fun _ => False) w (boxed w k a x y) := boxed_only _ _ _ _ _
  unfold opV
  unfold boxed at hO
  have hlen' : (300 : Int) < len := by omega
  go_enter Try.func7, Try.ntmps7
  go_wp2_with fail
  refine (awake_any _).mono ?_
  rintro e w1 ⟨rfl, hb1⟩
  go_wp2_with fail
  refine (awake_any _).mono ?_
  rintro e w2 ⟨rfl, hb2⟩
  have hF : Hid (Below w.heap.size w w2) := ((hO.chain (Only.of_below hb1 (fun _ => False)) (fun _ _ h => h)).chain (Only.of_below hb2 (fun _ => False)) (fun _ _ h => h)).below (Nat.le_refl _) (fun _ _ h => h)
  clear hO hb1 hb2
  go_wp2
  go_ret
  exact ⟨rfl, hF.out⟩

set_option maxHeartbeats 1000000 in
theorem walk_short (m : Nat) (k a x y : Int) (ao : Option Addr) (len cap : Nat) (zs : List Int) (w : World) (hm : m ≤ 255) (hlen : len ≤ 300) (hl : ListIs w ao len zs) :
    Calls Try.prog 7 #[.int .u8 m, .slice ao len cap, opV k a x y] w fun e w' => e = .returned (.bool true) ∧ Below w.heap.size w w' := by
  have hX : BoxIs (boxed w k a x y) w.heap.size k a x y := boxed_box _ _ _ _ _
  have hO : Only (fun _ => False) w (boxed w k a x y) := boxed_only _ _ _ _ _
  unfold opV
  unfold boxed at hX hO
  have hlen' : ¬ (300 : Int) < len := by omega
  have HL : Hid (ListIs w ao len zs) := hl
  clear hl
  go_enter Try.func7, Try.ntmps7
  go_wp2_with fail
  refine (awake_any _).mono ?_
  rintro e w1 ⟨rfl, hb1⟩
  have ho1 := Only.of_below hb1 (fun _ => False)
  have hX1 := hX.only ho1 (fun h => h)
  have hO1 := hO.chain ho1 (fun _ _ h => h)
  have hs1 : w.heap.size < w1.heap.size := lt_of_block hX1
  clear hX hO ho1 hb1
  go_wp2_with fail
  refine (new_rel _ _).mono ?_
  rintro e w2 ⟨p, q, rfl, hm2, hp, hq, ho2⟩
  rw [clamp_nat m (by omega)] at hm2
  have hX2 := hX1.only ho2 (fun h => h)
  have hO2 := hO1.chain ho2 (fun _ _ h => h)
  clear hX1 ho2 hO1
  have HX2 : Hid (BoxIs w2 w.heap.size k a x y) := hX2
  have HM2 : Hid (MemIs 47 w2 p q (List.replicate m 0)) := hm2
  clear hX2 hm2
  go_wp2_with fail
  go_loopw [25] (fun i wr => ∃ (j : Nat) (xs : List Int), j ≤ len ∧ i = .int .i64 j ∧ xs.length = m ∧ Holds 47 wr (.pointer (some ⟨p, 0, none⟩)) p q xs ∧ Only (· = q) w2 wr) (fun i _ => len - (intOf i).toNat)
  case atStart => exact ⟨0, List.replicate m 0, Nat.zero_le _, rfl, by simp, .inl ⟨rfl, HM2.out⟩, Only.refl _ _⟩
  case round =>
    obtain ⟨j, xs, hj, rfl, hxl, hmr, hor⟩ := hrel
    have HXL : Hid (xs.length = m) := hxl
    clear hxl
    by_cases hlt : j < len
    · obtain ⟨b, off, hcell⟩ := HL.out
      obtain ⟨rfl, hc⟩ := hcell j hlt
      have hbl : b < w.heap.size := World.block_lt_of_cell? _ _ hc
      have hc' : wr.cell? ⟨b, off + j, none⟩ = some (.int .i64 (zs.getD j 0)) := by
        have hT := hO2.chain hor (fun i hi e => by omega)
        rw [World.cell?_of_block (hT.block b hbl (fun h => h))]
        exact hc
      clear hc hcell HL
      generalize zs.getD j 0 = z at hc'
      go_wp2_with fail
      refine (sto_rel _ _ _ _ _ hmr _ _).mono ?_
      rintro e w3 ⟨rfl, hh3, ho3⟩
      have HR : Hid ((setA xs j z).length = m ∧ Holds 47 w3 (.pointer (some ⟨p, 0, none⟩)) p q (setA xs j z) ∧ Only (· = q) w2 w3) := ⟨(length_setA _ _ _).trans HXL.out, hh3, hor.trans ho3⟩
      clear hh3 ho3 hmr hor hc' HXL
      go_wp2_with fail
      go_roundw
      case rel => exact ⟨j + 1, _, by omega, by go_num, HR.out.1, HR.out.2.1, HR.out.2.2⟩
      case measure => simp [intOf]; omega
    · clear HL
      have lp : p < w2.heap.size := lt_of_block HM2.out.head
      have lq : q < w2.heap.size := HM2.out.row.lt
      have npq := HM2.out.ne
      have lw : w.heap.size < w2.heap.size := lt_of_block HX2.out
      have hX3 : BoxIs wr w.heap.size k a x y := HX2.out.only hor (by omega)
      have hO3 := hO2.chain hor (fun i hi e => by omega)
      have hz3 := hor.size
      clear hor hO2 HX2 HM2
      go_wp2_with fail
      refine (words_hold _ _ _ _ _ hmr (by have := HXL.out; omega)).mono ?_
      rintro e w4 ⟨u1, b1, rfl, hs4, hb4, ho4⟩
      have hm4 := hmr.only ho4 (fun h => h) (fun h => h)
      have hX4 := hX3.only ho4 (fun h => h)
      have hO4 := hO3.chain ho4 (fun _ _ h => h)
      have hz4 := ho4.size
      clear hX3 ho4 hO3 hmr
      go_wp2_with fail
      have hmd : Holds 47 w4.drew (.pointer (some ⟨p, 0, none⟩)) p q xs := hm4.only (Only.refl (fun _ => False) _).drew (fun h => h) (fun h => h)
      have hXd : BoxIs w4.drew w.heap.size k a x y := hX4
      have hsd : SliceIs w4.drew u1 b1 xs := hs4.only (Only.refl (fun _ => False) _).drew (fun h => h)
      have hOd := hO4.drew
      have lpd : p < w4.drew.heap.size := by simp; omega
      have lqd : q < w4.drew.heap.size := by simp; omega
      have lwd : w.heap.size < w4.drew.heap.size := by simp; omega
      obtain ⟨c0, c1, c2, c3⟩ := hX4.cells
      have nbq : b1 ≠ q := by omega
      clear hm4 hX4 hs4 hO4 hz3 hz4 hb4
      go_region_held (fun w' => w'.cell? ⟨w.heap.size, 0, none⟩ = some (.int .u8 k) ∧ w'.cell? ⟨w.heap.size, 1, none⟩ = some (.int .i64 a) ∧ w'.cell? ⟨w.heap.size, 2, none⟩ = some (.int .i64 x) ∧ w'.cell? ⟨w.heap.size, 3, none⟩ = some (.int .i64 y)) (go_keep)
        (first
          | (go_at_call 10; refine (ref_new_rel _ _).mono ?_; rintro e w7 ⟨p7, q7, rfl, hm7, hp7, hq7, ho7⟩; have hz7 := ho7.size; have hX7 := hXd.only ho7 (fun h => h); have hm7' := hmd.only ho7 (fun h => h) (fun h => h); have hs7 := fun (T : Nat → Prop) (w8 : World) (ho : Only T w7 w8) (hT : b1 < w4.drew.heap.size → ¬ T b1) => slice_two hsd ho7 ho hT; have hO7 := hOd.chain ho7 (fun _ _ h => h); obtain ⟨d0, d1, d2, d3⟩ := hX7.cells)
          | (go_at_call 11; refine (do_any _ _ _ p q p7 q7 xs (List.replicate (clampN 0) 0) ?_ k a x y).mono ?_; exact ⟨hm7', .inl ⟨rfl, hm7⟩, by simp, by omega, by omega, lt_of_block hm7.head, hm7.row.lt, by omega, by omega, by omega⟩; rintro e w8 ⟨⟨r, rfl, _⟩, hB8, ho8⟩; have hX8 := hX7.only ho8 (by omega); have hs8 := hs7 _ _ ho8 (by intro hlt; omega); have hO8 := hO7.chain ho8 (fun i hi e => by omega); obtain ⟨f0, f1, f2, f3⟩ := hX8.cells))
      have hB9 := hB8.one
      clear hX7 hm7' hs7 hO7 hm7 hmd hXd hsd hOd ho7 ho8 hB8 d0 d1 d2 d3 c0 c1 c2 c3
      go_wp2_with fail
      refine (words_hold _ _ _ _ _ hB9 (by rw [length_afterA]; have := HXL.out; omega)).mono ?_
      rintro e w9 ⟨u2, b2, rfl, hs9, hb9, ho9⟩
      have hs9' := hs8.only ho9 (fun h => h)
      have hX9 := hX8.only ho9 (fun h => h)
      have hF : Hid (Below w.heap.size w w9) := (hO8.chain ho9 (fun _ _ h => h)).below (Nat.le_refl _) (fun _ _ h => h)
      obtain ⟨ao1, hu1, hc1⟩ := sliceIs_parts hs9'
      obtain ⟨ao2, hu2, hc2⟩ := sliceIs_parts hs9
      rw [length_afterA] at hu2 hc2
      obtain ⟨_, ca, _, _⟩ := hX9.cells
      have H1 : Hid (∀ i, i < xs.length → ao1 = some ⟨b1, 0, none⟩ ∧ w9.cell? ⟨b1, i, none⟩ = some (.int .i64 (xs.getD i 0))) := hc1
      have H2 : Hid (∀ i, i < xs.length → ao2 = some ⟨b2, 0, none⟩ ∧ w9.cell? ⟨b2, i, none⟩ = some (.int .i64 ((afterA k a x y xs).getD i 0))) := hc2
      have hxm : xs.length ≤ 255 := by have := HXL.out; omega
      rw [hu1, hu2]
      clear hu1 hu2 hc1 hc2 hs9 hs9' hX9 hO8 ho9 hB9 hs8 hX8 HXL hb9 f0 f1 f2 f3
      go_wp2_with fail
      go_loopw [46] (fun i wr2 => ∃ j : Nat, j ≤ xs.length ∧ i = .int .i64 j ∧ ∃ n, wr2 = w9.drewN n) (fun i _ => xs.length - (intOf i).toNat)
      case atStart => exact ⟨0, Nat.zero_le _, rfl, 0, rfl⟩
      case round =>
        obtain ⟨j2, hj2, rfl, n, rfl⟩ := hrel
        by_cases hlt2 : j2 < xs.length
        · have hlt2' : (j2 : Int) < xs.length := by omega
          obtain ⟨rfl, hd1⟩ := H1.out j2 hlt2
          obtain ⟨rfl, hd2⟩ := H2.out j2 hlt2
          by_cases hja : (j2 : Int) = a
          · have hg : ((j2 : Int) != a) = false := by simp [hja]
            clear hja H1 H2 hd1 hd2
            go_wp2_with fail
            go_quiet (fail)
            go_wp2_with fail
            go_roundw
            case rel => exact ⟨j2 + 1, by omega, by go_num, _, rfl⟩
            case measure => simp [intOf]; omega
          · rw [afterA_other k a x y xs j2 hja] at hd2
            have hg : ((j2 : Int) != a) = true := by rw [bne_iff_ne]; exact hja
            clear hja H1 H2
            generalize xs.getD j2 0 = z at hd1 hd2
            go_wp2_with fail
            go_quiet (fail)
            go_wp2_with fail
            go_roundw
            case rel => exact ⟨j2 + 1, by omega, by go_num, _, rfl⟩
            case measure => simp [intOf]; omega
        · clear H1 H2
          go_wp2_with fail
          go_ret
          exact ⟨by simp, hF.out.os, hF.out.tape, hF.out.output, hF.out.size, hF.out.block⟩

theorem walk (m : Nat) (k a x y : Int) (ao : Option Addr) (len cap : Nat) (zs : List Int) (w : World) (hm : m ≤ 255) (hlen : len ≤ 9223372036854775807) (hl : ListIs w ao len zs) :
    Calls Try.prog 7 #[.int .u8 m, .slice ao len cap, opV k a x y] w fun e w' => e = .returned (.bool true) ∧ Below w.heap.size w w' := by
  by_cases h : 300 < len
  · exact walk_long m k a x y ao len cap w h hlen
  · exact walk_short m k a x y ao len cap zs w hm (by omega) hl

set_option maxRecDepth 100000 in
theorem lifted (os : Os) (started : os.Started) (H : Type) (enc : TypeId × Value → H) :
    ReturnsInHanded {} Try.checked os 7 .any (Rows.wordApartSpec.pre6 enc Try.prog Try.f7 Rows.wordApartRow.domain false) (Rows.wordApartSpec.post enc Try.prog Try.f7 false true false false) := by
  refine returnsInHanded_of_change (C := Try.checked) own started (by kernel_rfl) Try.func7
    (ChangeSpec.witness6 (enc := enc) (C := Try.checked) false ⟨#[], #[.int .u8 0, .slice none 0 0, .agg #[.int .u8 0, .int .i64 0, .int .i64 0, .int .i64 0]], []⟩ 8 (by kernel_rfl) (by kernel_rfl) (by kernel_rfl) (by kernel_rfl)) ?_
  intro W base args ds gs before hval0 hW hcnd _
  have hval : ∀ (j : Nat) t v, Try.f7.params[j]? = some t → args[j]? = some v → Value.okWide Try.prog W .any base t v := hval0
  have hW' := hW
  obtain ⟨p, q, hA0, hV, rfl, hfz, hnd⟩ := hW
  have hA : DataW.TrodAll enc Try.prog W 0 (fun _ => true) true Try.f7.params.toList args.toList ds p := hA0
  rw [Try.params7] at hA hval
  obtain ⟨v0, vs0, d0, ds0, p0, q0, hargs, rfl, rfl, h0, r0⟩ := trodAll_cons hA
  obtain ⟨v1, vs1, d1, ds1, p1, q1, rfl, rfl, rfl, h1, r1⟩ := trodAll_cons r0
  obtain ⟨v2, vs2, d2, ds2, p2, q2, rfl, rfl, rfl, h2, r2⟩ := trodAll_cons r1
  obtain ⟨rfl, rfl, rfl⟩ := trodAll_nil r2
  obtain rfl : args = #[v0, v1, v2] := by cases args; simp_all
  obtain ⟨n, rfl, rfl, rfl, wn⟩ := open_int Try.underlying5 (hval 0 5 v0 rfl rfl) h0
  obtain ⟨m, rfl, hm⟩ : ∃ m : Nat, n = m ∧ m ≤ 255 := by
    have := bounds_u8 wn
    exact ⟨n.toNat, by omega, by omega⟩
  obtain ⟨ao, len, cap, rfl⟩ := okWide_slice Try.underlying32 (hval 1 32 v1 rfl rfl)
  obtain ⟨zs, hl, hlen⟩ : ∃ zs, ListIs W ao len zs ∧ len ≤ 9223372036854775807 := by
    obtain ⟨fuel, hf⟩ := h1
    rcases open_ints Try.underlying32 Try.underlying2 (by kernel_rfl) hf with ⟨hcs, _⟩ | ⟨x, l, c, zs, hcs, _, hl, hm, hz, _, hcell, hwz⟩
    · simp [Value.cells] at hcs
      obtain ⟨rfl, rfl, rfl⟩ := hcs
      exact ⟨[], ⟨0, 0, fun i hi => by omega⟩, by omega⟩
    · simp [Value.cells] at hcs
      obtain ⟨rfl, rfl, rfl⟩ := hcs
      unfold maxLen at hm
      refine ⟨zs, ?_, by omega⟩
      obtain ⟨b, off, spot⟩ := x
      refine ⟨b, off, fun i hi => ?_⟩
      have hz' : zs.length = cap := by simpa using hz
      have hc0 := hcell 0 (by omega)
      have hspot : spot = none := by simpa [Addr.add] using World.cell?_spot hc0
      subst hspot
      refine ⟨rfl, ?_⟩
      have hci := hcell i (by omega)
      have e : Addr.add ⟨b, off, none⟩ i = ⟨b, off + i, none⟩ := by simp only [Addr.add]; split <;> simp_all
      rw [e] at hci
      exact hci
  obtain ⟨k, a, x, y, rfl⟩ : ∃ k a x y, v2 = opV k a x y := by
    obtain ⟨c0, c1, c2, c3, y0, y1, y2, y3, m, rfl, _, _, hy0, hy1, hy2, hy3⟩ := open_agg4 Try.underlying30 (by kernel_rfl) (by kernel_rfl) (hval 2 30 v2 rfl rfl) h2
    obtain ⟨k, e0, _, _⟩ := DataW.trod_int Try.underlying5 hy0
    obtain ⟨a, e1, _, _⟩ := DataW.trod_int Try.underlying3 hy1
    obtain ⟨x, e2, _, _⟩ := DataW.trod_int Try.underlying2 hy2
    obtain ⟨y, e3, _, _⟩ := DataW.trod_int Try.underlying2 hy3
    simp at e0 e1 e2 e3
    subst e0 e1 e2 e3
    exact ⟨k, a, x, y, rfl⟩
  refine (walk m k a x y ao len cap zs W hm hlen hl).mono fun e W' ⟨he, hg⟩ => ?_
  subst he
  exact ⟨_, rfl, post_law 3 4 laidOut (by kernel_rfl) rfl rfl rfl Try.underlying4 (fun l hl => by match l, hl with | [_, _, _], _ => rfl) hW' hg⟩

theorem over : Rows.wordApartRow.holds Try.pinned (OpenSpec.ofChange Rows.wordApartSpec) :=
  OpenClaim.holds_of_wide 7 Try.f7 rfl rfl rfl rfl rfl rfl rfl ⟨rfl, rfl, rfl, rfl, rfl⟩ rfl rfl rfl rfl rfl (by kernel_rfl) Try.func7 (by kernel_rfl)
    (of_decide_eq_true (by kernel_rfl)) (by unfold Func.isWrapper; first | (rw [if_pos (by decide +kernel)]; kernel_rfl) | (rw [if_neg (by decide +kernel)]; exact ⟨rfl, rfl⟩))
    (fun os started H enc _ => lifted os started H enc)

theorem proved : Rows.WordApartSaid := over
#print axioms proved
end Go.Proofs.Ytonngcnlleoeoaa.wordApart

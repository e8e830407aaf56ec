/-
  WordPlays: for every n and every list of accesses the law answers true: each answer, and all words, are the document's; its arguments read as they did. Conditions: none.
-/
import Derived.Test.YtonngcnlleoeoaaDo
import Derived.Test.YtonngcnlleoeoaaLift
import Derived.Lib.SmallJoins
import Derived.Deep.Slices
import Derived.OpenShut
namespace Go.Proofs.Ytonngcnlleoeoaa.wordPlays
open Go.Sept Go.RowKit Go.ChangeShapes Go.WideShapes Go.ChangeAt Go.Joins Go.Deep

theorem own : ownKnob Try.prog.godebug = none := by kernel_rfl
theorem laidOut : laidOutB Try.prog = true := by kernel_rfl

/-- Words, told of every pointer. -/
theorem words_hold (w : World) (v : Value) (p q : Nat) (xs : List Int) (h : Holds 47 w v p q xs) (h1 : xs.length ≤ 4000) :
    Calls Try.prog 13 #[v] w fun e w' => ∃ u b, e = .returned u ∧ SliceIs w' u b xs ∧ w.heap.size ≤ b ∧ Only (fun _ => False) w w' := by
  by_cases h0 : xs = []
  · subst h0
    refine (words_none w _ ⟨p, q, [], h, rfl⟩).mono ?_
    rintro e w' ⟨rfl, rfl⟩
    exact ⟨_, w'.heap.size, rfl, ⟨.inl ⟨rfl, rfl⟩, .inl rfl⟩, Nat.le_refl _, Only.refl _ _⟩
  · obtain ⟨rfl, hm⟩ := holds_pos h (n := 0) (List.length_pos_iff.2 h0)
    exact words_rel w p q xs hm h1

/-- What the walk is told of a list of accesses that came in. -/
def OpsAre (w : World) (ao : Option Addr) (len : Nat) : Prop := ∃ b off, ∀ i, i < len → ao = some ⟨b, off, none⟩ ∧ ∃ k a x y, w.cell? ⟨b, off + i * 4, none⟩ = some (.int .u8 k) ∧ w.cell? ⟨b, off + i * 4 + 1, none⟩ = some (.int .i64 a) ∧ w.cell? ⟨b, off + i * 4 + 2, none⟩ = some (.int .i64 x) ∧ w.cell? ⟨b, off + i * 4 + 3, none⟩ = some (.int .i64 y)

theorem slice_of_holds {w : World} {v : Value} {p q m : Nat} {xs : List Int} (h : Holds 35 w v p q xs) (hx : xs.length = m) : SliceIs w (.slice (some ⟨q, 0, none⟩) m m) q xs := by
  refine ⟨.inr (by rw [hx]), ?_⟩
  by_cases h0 : xs = []
  · exact .inl h0
  · exact .inr (holds_pos h (n := 0) (List.length_pos_iff.2 h0)).2.row

/-- What stays while a round goes on: the access that is done, and the second memory's head. -/
def Stays (w : World) (b o p2 q2 m : Nat) (k a x y : Int) : Prop :=
  w.cell? ⟨b, o, none⟩ = some (.int .u8 k) ∧ w.cell? ⟨b, o + 1, none⟩ = some (.int .i64 a) ∧ w.cell? ⟨b, o + 2, none⟩ = some (.int .i64 x) ∧ w.cell? ⟨b, o + 3, none⟩ = some (.int .i64 y) ∧ w.cell? ⟨p2, 0, none⟩ = some (.slice (some ⟨q2, 0, none⟩) m m)
theorem Stays.only {w w' : World} {b o p2 q2 m : Nat} {k a x y : Int} {S : Nat → Prop} (h : Stays w b o p2 q2 m k a x y) (ho : Only S w w') (hb : ¬ S b) (hp : ¬ S p2) : Stays w' b o p2 q2 m k a x y := by
  obtain ⟨h0, h1, h2, h3, h4⟩ := h
  have e1 := ho.block b (World.block_lt_of_cell? _ _ h0) hb
  have e2 := ho.block p2 (World.block_lt_of_cell? _ _ h4) hp
  exact ⟨(World.cell?_of_block e1).trans h0, (World.cell?_of_block e1).trans h1, (World.cell?_of_block e1).trans h2, (World.cell?_of_block e1).trans h3, (World.cell?_of_block e2).trans h4⟩

set_option maxHeartbeats 1000000 in
theorem walk_long (n : Int) (ao : Option Addr) (len cap : Nat) (w : World) (hlen : 300 < len) (hm : len ≤ 9223372036854775807) :
    Calls Try.prog 3 #[.int .u8 n, .slice ao len cap] w fun e w' => e = .returned (.bool true) ∧ Below w.heap.size w w' := by
  have hlen' : (300 : Int) < len := by omega
  go_enter Try.func3, Try.ntmps3
  go_wp2_with fail
  refine (awake_any _).mono ?_
  rintro e w1 ⟨rfl, hb1⟩
  go_wp2_with fail
  refine (awake_any _).mono ?_
  rintro e w2 ⟨rfl, hb2⟩
  have hF : Hid (Below w.heap.size w w2) := hb1.trans (hb2.mono hb1.size)
  clear hb1 hb2
  go_wp2
  go_ret
  exact ⟨rfl, hF.out⟩

set_option maxHeartbeats 1000000 in
theorem walk_short (m : Nat) (ao : Option Addr) (len cap : Nat) (w : World) (hm : m ≤ 255) (hlen : len ≤ 300) (hl : OpsAre w ao len) :
    Calls Try.prog 3 #[.int .u8 m, .slice ao len cap] w fun e w' => e = .returned (.bool true) ∧ Below w.heap.size w w' := by
  have hlen' : ¬ (300 : Int) < len := by omega
  have HL : Hid (OpsAre w ao len) := hl
  clear hl
  go_enter Try.func3, Try.ntmps3
  go_wp2_with fail
  refine (awake_any _).mono ?_
  rintro e w1 ⟨rfl, hb1⟩
  have hO1 := Only.of_below hb1 (fun _ => False)
  have hs1 := hb1.size
  clear hb1
  go_wp2_with fail
  refine (new_rel _ _).mono ?_
  rintro e w2 ⟨p1, q1, rfl, hm2, hp1, hq1, ho2⟩
  have hO2 := hO1.chain ho2 (fun _ _ h => h)
  go_wp2_with fail
  refine (ref_new_rel _ _).mono ?_
  rintro e w3 ⟨p2, q2, rfl, hn3, hp2, hq2, ho3⟩
  have hO3 := hO2.chain ho3 (fun _ _ h => h)
  have hm3 := hm2.only ho3 (fun h => h) (fun h => h)
  rw [clamp_nat m (by omega)] at hm3 hn3
  have l1 : p1 < w2.heap.size := lt_of_block hm2.head
  have l2 : q1 < w2.heap.size := hm2.row.lt
  have hz3 := ho3.size
  have hB3 : Both w3 (.pointer (some ⟨p1, 0, none⟩)) (.pointer (some ⟨p2, 0, none⟩)) p1 q1 p2 q2 (List.replicate m 0) (List.replicate m 0) :=
    ⟨.inl ⟨rfl, hm3⟩, .inl ⟨rfl, hn3⟩, by simp, by omega, by omega, lt_of_block hn3.head, hn3.row.lt, by omega, by omega, by omega⟩
  have HB : Hid (Both w3 (.pointer (some ⟨p1, 0, none⟩)) (.pointer (some ⟨p2, 0, none⟩)) p1 q1 p2 q2 (List.replicate m 0) (List.replicate m 0)) := hB3
  have HH : Hid (w3.heap[p2]? = some (.cells #[.slice (some ⟨q2, 0, none⟩) m m] 35)) := by
    have := hn3.head
    rw [List.length_replicate] at this
    exact this
  have np : p2 ≠ q2 := hn3.ne
  have hq1' : w.heap.size ≤ q1 := by omega
  have hq2' : w.heap.size ≤ q2 := by have := hO2.size; omega
  clear hB3 hm3 hn3 hm2 ho3 ho2 hO2 hO1 l1 l2 hz3 hp1 hp2 hq1 hq2 hs1
  go_wp2_with fail
  go_loopw [24] (fun i wr => ∃ (j : Nat) (xs : List Int), j ≤ len ∧ i = .int .i64 j ∧ xs.length = m ∧ Both wr (.pointer (some ⟨p1, 0, none⟩)) (.pointer (some ⟨p2, 0, none⟩)) p1 q1 p2 q2 xs xs ∧ wr.heap[p2]? = some (.cells #[.slice (some ⟨q2, 0, none⟩) m m] 35) ∧ Only (fun b => b = q1 ∨ b = q2) w3 wr) (fun i _ => len - (intOf i).toNat)
  case atStart => exact ⟨0, List.replicate m 0, Nat.zero_le _, rfl, by simp, HB.out, HH.out, Only.refl _ _⟩
  case round =>
    obtain ⟨j, xs, hj, rfl, hxl, hBr, hHr, hor⟩ := hrel
    have HXL : Hid (xs.length = m) := hxl
    clear hxl
    by_cases hlt : j < len
    · obtain ⟨b, off, hcell⟩ := HL.out
      obtain ⟨rfl, k, a, x, y, c0, c1, c2, c3⟩ := hcell j hlt
      have hbl : b < w.heap.size := World.block_lt_of_cell? _ _ c0
      have hT := hO3.chain hor (fun i hi e => by omega)
      have hblk := hT.block b hbl (fun h => h)
      have d0 : wr.cell? ⟨b, off + j * 4, none⟩ = some (.int .u8 k) := (World.cell?_of_block hblk).trans c0
      have d1 : wr.cell? ⟨b, off + j * 4 + 1, none⟩ = some (.int .i64 a) := (World.cell?_of_block hblk).trans c1
      have d2 : wr.cell? ⟨b, off + j * 4 + 2, none⟩ = some (.int .i64 x) := (World.cell?_of_block hblk).trans c2
      have d3 : wr.cell? ⟨b, off + j * 4 + 3, none⟩ = some (.int .i64 y) := (World.cell?_of_block hblk).trans c3
      have dh : wr.cell? ⟨p2, 0, none⟩ = some (.slice (some ⟨q2, 0, none⟩) m m) := Go.Sept.cell_of_block hHr 0
      have hlt' : (j : Int) < len := by omega
      have hSd : Stays wr.drew b (off + j * 4) p2 q2 m k a x y := ⟨d0, d1, d2, d3, dh⟩
      have hBd := hBr.only (Only.refl (fun _ => False) wr).drew
      have hHd : wr.drew.heap[p2]? = some (.cells #[.slice (some ⟨q2, 0, none⟩) m m] 35) := hHr
      have hod := hor.drew
      have nb1 : b ≠ q1 := by omega
      have nb2 : b ≠ q2 := by omega
      have np1 : p2 ≠ q1 := hBr.n1
      clear hcell HL c0 c1 c2 c3 hblk hBr hHr hor hT
      go_wp2_with fail
      go_region_held (fun w' => w'.cell? ⟨b, off + j * 4, none⟩ = some (.int .u8 k) ∧ w'.cell? ⟨b, off + j * 4 + 1, none⟩ = some (.int .i64 a) ∧ w'.cell? ⟨b, off + j * 4 + 2, none⟩ = some (.int .i64 x) ∧ w'.cell? ⟨b, off + j * 4 + 3, none⟩ = some (.int .i64 y) ∧ w'.cell? ⟨p2, 0, none⟩ = some (.slice (some ⟨q2, 0, none⟩) m m)) (go_keep)
        (first
          | (go_at_call 11; refine (do_any _ _ _ p1 q1 p2 q2 xs xs ?_ k a x y).mono ?_; exact hBd; rintro e w4 ⟨⟨r, rfl, hr⟩, hB4, ho4⟩; obtain rfl := hr rfl; have hS4 := hSd.only ho4 (by omega) (by omega); have hH4 := (ho4.block p2 (lt_of_block hHd) (by omega)).trans hHd; have ho4' := hod.trans ho4; obtain ⟨f0, f1, f2, f3, f4⟩ := hS4)
          | (go_at_call 13; refine (words_hold _ _ p1 q1 (afterA k a x y xs) ?_ ?_).mono ?_; exact hB4.one; (rw [length_afterA]; have := HXL.out; omega); rintro e w5 ⟨u, bu, rfl, hs5, hb5, ho5⟩; have hS5 := (hSd.only ho4 (by omega) (by omega)).only ho5 (fun h => h) (fun h => h); have hB5 := hB4.only ho5; have hH5 := (ho5.block p2 (lt_of_block hH4) (fun h => h)).trans hH4; have ho5' := ho4'.trans (ho5.mono (fun _ _ h => h.elim)); obtain ⟨g0, g1, g2, g3, g4⟩ := hS5)
          | (go_at_call 12; refine (ref_words_same _ _ _ bu q2 (afterA k a x y xs) ?_ ?_ ?_).mono ?_; exact hs5; exact slice_of_holds hB5.two ((length_afterA _ _ _ _ _).trans HXL.out); (rw [length_afterA]; have := HXL.out; omega); rintro e w6 ⟨rfl, ho6⟩; have hS6 := ((hSd.only ho4 (by omega) (by omega)).only ho5 (fun h => h) (fun h => h)).only ho6 (fun h => h) (fun h => h); have hB6 := hB5.only ho6; have hH6 := (ho6.block p2 (lt_of_block hH5) (fun h => h)).trans hH5; have ho6' := ho5'.trans (ho6.mono (fun _ _ h => h.elim)); obtain ⟨i0, i1, i2, i3, i4⟩ := hS6))
      have HR : Hid ((afterA k a x y xs).length = m ∧ Both w6 (.pointer (some ⟨p1, 0, none⟩)) (.pointer (some ⟨p2, 0, none⟩)) p1 q1 p2 q2 (afterA k a x y xs) (afterA k a x y xs) ∧ w6.heap[p2]? = some (.cells #[.slice (some ⟨q2, 0, none⟩) m m] 35) ∧ Only (fun b => b = q1 ∨ b = q2) w3 w6) :=
        ⟨(length_afterA _ _ _ _ _).trans HXL.out, hB6, hH6, ho6'⟩
      clear hB4 ho4 hH4 ho4' hB5 ho5 hH5 ho5' hs5 hB6 ho6 hH6 ho6' hSd hBd hHd hod f0 f1 f2 f3 f4 g0 g1 g2 g3 g4 i0 i1 i2 i3 i4 d0 d1 d2 d3 dh HXL hr
      go_wp2_with fail
      go_roundw
      case rel => exact ⟨j + 1, _, by omega, by go_num, HR.out.1, HR.out.2.1, HR.out.2.2.1, HR.out.2.2.2⟩
      case measure => simp [intOf]; omega
    · clear HL
      have hF : Hid (Below w.heap.size w wr) := (hO3.chain hor (fun i hi e => by omega)).below (Nat.le_refl _) (fun _ _ h => h)
      have hL : LenIs 47 wr (.pointer (some ⟨p1, 0, none⟩)) m := ⟨p1, q1, xs, hBr.one, HXL.out.symm⟩
      clear hor hBr hHr HXL hO3
      go_wp2_with (go_at_call 14; refine (len_any _ _ _ hL).mono ?_; rintro e w' ⟨rfl, rfl⟩)
      go_ret
      exact ⟨by simp, hF.out⟩

theorem walk (m : Nat) (ao : Option Addr) (len cap : Nat) (w : World) (hm : m ≤ 255) (hlen : len ≤ 9223372036854775807) (hl : OpsAre w ao len) :
    Calls Try.prog 3 #[.int .u8 m, .slice ao len cap] w fun e w' => e = .returned (.bool true) ∧ Below w.heap.size w w' := by
  by_cases h : 300 < len
  · exact walk_long m ao len cap w h hlen
  · exact walk_short m ao len cap w hm (by omega) hl

set_option maxRecDepth 100000 in
theorem lifted (os : Os) (started : os.Started) (H : Type) (enc : TypeId × Value → H) :
    ReturnsInHanded {} Try.checked os 3 .any (Rows.wordPlaysSpec.pre6 enc Try.prog Try.f3 Rows.wordPlaysRow.domain false) (Rows.wordPlaysSpec.post enc Try.prog Try.f3 false true false false) := by
  refine returnsInHanded_of_change (C := Try.checked) own started (by kernel_rfl) Try.func3
    (ChangeSpec.witness6 (enc := enc) (C := Try.checked) false ⟨#[], #[.int .u8 0, .slice none 0 0], []⟩ 8 (by kernel_rfl) (by kernel_rfl) (by kernel_rfl) (by kernel_rfl)) ?_
  intro W base args ds gs before hval0 hW hcnd _
  have hval : ∀ (j : Nat) t v, Try.f3.params[j]? = some t → args[j]? = some v → Value.okWide Try.prog W .any base t v := hval0
  have hW' := hW
  obtain ⟨p, q, hA0, hV, rfl, hfz, hnd⟩ := hW
  have hA : DataW.TrodAll enc Try.prog W 0 (fun _ => true) true Try.f3.params.toList args.toList ds p := hA0
  rw [Try.params3] at hA hval
  obtain ⟨v0, vs0, d0, ds0, p0, q0, hargs, rfl, rfl, h0, r0⟩ := trodAll_cons hA
  obtain ⟨v1, vs1, d1, ds1, p1, q1, rfl, rfl, rfl, h1, r1⟩ := trodAll_cons r0
  obtain ⟨rfl, rfl, rfl⟩ := trodAll_nil r1
  obtain rfl : args = #[v0, v1] := by cases args; simp_all
  obtain ⟨n, rfl, rfl, rfl, wn⟩ := open_int Try.underlying5 (hval 0 5 v0 rfl rfl) h0
  obtain ⟨m, rfl, hm⟩ : ∃ m : Nat, n = m ∧ m ≤ 255 := by
    have := bounds_u8 wn
    exact ⟨n.toNat, by omega, by omega⟩
  obtain ⟨ao, len, cap, rfl⟩ := okWide_slice Try.underlying22 (hval 1 22 v1 rfl rfl)
  obtain ⟨hl, hlen⟩ : OpsAre W ao len ∧ len ≤ 9223372036854775807 := by
    obtain ⟨fuel, hf⟩ := h1
    rcases open_slice Try.underlying22 hf with ⟨hcs, _⟩ | ⟨x, l, c, mm, nn, D, Pl, hcs, _, hl, hmx, hmm, _, hel⟩
    · simp [Value.cells] at hcs
      obtain ⟨rfl, rfl, rfl⟩ := hcs
      exact ⟨⟨0, 0, fun i hi => by omega⟩, by omega⟩
    · simp [Value.cells] at hcs
      obtain ⟨rfl, rfl, rfl⟩ := hcs
      unfold maxLen at hmx
      refine ⟨?_, by omega⟩
      have hmm' : mm = cap := by simpa using hmm
      have hC : Try.prog.cellsOf 30 = 4 := by kernel_rfl
      rw [hC] at hel
      obtain ⟨b, off, spot⟩ := x
      have key : ∀ i, i < len → ∃ k a x y, W.cell? (Addr.add ⟨b, off, spot⟩ (i * 4)) = some (.int .u8 k) ∧ W.cell? (Addr.add ⟨b, off, spot⟩ (i * 4 + 1)) = some (.int .i64 a) ∧ W.cell? (Addr.add ⟨b, off, spot⟩ (i * 4 + 2)) = some (.int .i64 x) ∧ W.cell? (Addr.add ⟨b, off, spot⟩ (i * 4 + 3)) = some (.int .i64 y) := by
        intro i hi
        obtain ⟨cs', hcs, ht⟩ := hel i (by omega)
        obtain ⟨_, hln, hcl⟩ := World.cells?_some hcs
        obtain ⟨y0, y1, y2, y3, n0, _, _, t0, t1, t2, t3⟩ := trod_struct4 Try.underlying30 ht
        match cs', hln with
        | [e0, e1, e2, e3], _ =>
          have z0 := hcl 0 (by omega)
          have z1 := hcl 1 (by omega)
          have z2 := hcl 2 (by omega)
          have z3 := hcl 3 (by omega)
          rw [Go.Deep.add_add] at z0 z1 z2 z3
          obtain ⟨k, u0, _, _⟩ := DataW.trod_int Try.underlying5 t0
          obtain ⟨a, u1, _, _⟩ := DataW.trod_int Try.underlying3 t1
          obtain ⟨x, u2, _, _⟩ := DataW.trod_int Try.underlying2 t2
          obtain ⟨y, u3, _, _⟩ := DataW.trod_int Try.underlying2 t3
          have hc5 : Try.prog.cellsOf 5 = 1 := by kernel_rfl
          have hc3 : Try.prog.cellsOf 3 = 1 := by kernel_rfl
          have hc2 : Try.prog.cellsOf 2 = 1 := by kernel_rfl
          simp [hc5, hc3, hc2] at u0 u1 u2 u3
          subst u0 u1 u2 u3
          exact ⟨k, a, x, y, by simpa using z0, by simpa using z1, by simpa using z2, by simpa using z3⟩
      refine ⟨b, off, fun i hi => ?_⟩
      obtain ⟨k0, _, _, _, z0, _⟩ := key 0 (by omega)
      have hspot : spot = none := by simpa [Addr.add] using World.cell?_spot z0
      subst hspot
      refine ⟨rfl, ?_⟩
      obtain ⟨k, a, x, y, z0, z1, z2, z3⟩ := key i hi
      have e : ∀ n, Addr.add ⟨b, off, none⟩ n = ⟨b, off + n, none⟩ := by intro n; simp only [Addr.add]; split <;> simp_all
      rw [e] at z0 z1 z2 z3
      exact ⟨k, a, x, y, z0, z1, z2, z3⟩
  refine (walk m ao len cap W hm hlen hl).mono fun e W' ⟨he, hg⟩ => ?_
  subst he
  exact ⟨_, rfl, post_law 2 4 laidOut (by kernel_rfl) rfl rfl rfl Try.underlying4 (fun l hl => by match l, hl with | [_, _], _ => rfl) hW' hg⟩

theorem over : Rows.wordPlaysRow.holds Try.pinned (OpenSpec.ofChange Rows.wordPlaysSpec) :=
  OpenClaim.holds_of_wide 3 Try.f3 rfl rfl rfl rfl rfl rfl rfl ⟨rfl, rfl, rfl, rfl, rfl⟩ rfl rfl rfl rfl rfl (by kernel_rfl) Try.func3 (by kernel_rfl)
    (of_decide_eq_true (by kernel_rfl)) (by unfold Func.isWrapper; first | (rw [if_pos (by decide +kernel)]; kernel_rfl) | (rw [if_neg (by decide +kernel)]; exact ⟨rfl, rfl⟩))
    (fun os started H enc _ => lifted os started H enc)

theorem proved : Rows.WordPlaysSaid := over
#print axioms proved
end Go.Proofs.Ytonngcnlleoeoaa.wordPlays

/-
  SeqBack: for every list of numbers and every place the law answers true: what is written alone is read, in as many accesses as the document says; of as many words as can not be, nothing is done. Conditions: none.
-/
import Derived.Test.YtcafpdnbceoekaaAwake4
import Derived.Test.YtcafpdnbceoekaaOpens
import Derived.BigQuiet
namespace Go.Proofs.Ytcafpdnbceoekaa.seqBack
open Go.Sept Go.RowKit Go.ChangeShapes Go.WideShapes Go.ChangeAt Go.Joins Go.Deep

theorem own : ownKnob Try.prog.godebug = none := by kernel_rfl
theorem laidOut : laidOutB Try.prog = true := by kernel_rfl

set_option maxRecDepth 100000 in
set_option maxHeartbeats 1000000 in
theorem walk_out (ta : Option Addr) (L tc : Nat) (n : Int) (w : World) (hL : 40 < L) (hm : L ≤ 9223372036854775807) :
    Calls Try.prog 3 #[.slice ta L tc, .int .u8 n] w fun e w' => e = .returned (.bool true) ∧ Below w.heap.size w w' := by
  have hL' : (40 : Int) < L := by omega
  go_enter Try.func3, Try.ntmps3
  go_wp2_with fail
  refine (awake4_any _).mono ?_
  rintro e w1 ⟨rfl, hb1⟩
  go_wp2_with fail
  refine (awake4_any _).mono ?_
  rintro e w2 ⟨rfl, hb2⟩
  have hF : Hid (Below w.heap.size w w2) := ((Only.of_below hb1 (fun _ => False)).chain (Only.of_below hb2 (fun _ => False)) (fun _ _ h => h)).below (Nat.le_refl _) (fun _ _ h => h)
  clear hb1 hb2
  go_wp2_with fail
  go_ret
  exact ⟨rfl, hF.out⟩

theorem wordsN_none {L : Nat} (h : L = 0 ∨ 16 < L) : wordsN (L : Int) = 0 := by rw [wordsN, if_pos (by omega)]
theorem wordsN_some {L : Nat} (h0 : 0 < L) (h : L ≤ 16) : wordsN (L : Int) = (L : Int) + 1 := by rw [wordsN, if_neg (by omega)]

/-- The first part of the law, up to the writer and the reader. -/
theorem start (w w1 : World) (p q : Nat) (k : Nat) (ta : Option Addr) (tc : Nat) (l : List Int) (V : Nat) (hS : Sees w ta l V) (hm : MemIs 52 w1 p q (List.replicate 100 0)) (hO : Only (fun _ => False) w w1) :
    ∃ W z, W = (w1.alloc (writerO (k : Int) ta tc l)).alloc (readerO (k : Int) l.length (.slice none 0 0)) ∧ z = w1.heap.size ∧ MemIs 52 W p q (List.replicate 100 0) ∧ Only (fun _ => False) w W ∧ W.heap[z]? = some (writerO (k : Int) ta tc l) ∧ W.heap[z + 1]? = some (readerO (k : Int) l.length (.slice none 0 0)) ∧ p < z ∧ q < z ∧ w.heap.size ≤ z ∧ Sees W ta l V ∧ (l ≠ [] → V < w.heap.size) := by
  have hO2 : Only (fun _ => False) w ((w1.alloc (writerO (k : Int) ta tc l)).alloc (readerO (k : Int) l.length (.slice none 0 0))) := (hO.alloc _).alloc _
  refine ⟨_, _, rfl, rfl, (hm.alloc _).alloc _, hO2, ?_, ?_, lt_of_block hm.head, hm.row.lt, hO.size, hS.only hO2 (fun _ h => h), fun h => hS.lt h⟩
  · rw [Below.heap_alloc _ _ _ (by simp)]
    exact heap_new _ _
  · exact heap_new_at _ _ _ (by simp)

set_option maxRecDepth 100000 in
set_option maxHeartbeats 1000000 in
theorem walk_none (ta : Option Addr) (tc m : Nat) (l : List Int) (V : Nat) (w : World) (hL : l.length ≤ 40) (hn : l.length = 0 ∨ 16 < l.length) (hm255 : m ≤ 255) (hS : Sees w ta l V) :
    Calls Try.prog 3 #[.slice ta l.length tc, .int .u8 (m : Int)] w fun e w' => e = .returned (.bool true) ∧ Below w.heap.size w w' := by
  have hmf : ∀ (fn : Fn) (first cap : Array Value) (w : World), (Instr.makeFunc fn first cap).run Try.prog w = .ok (.func fn first cap) w := fun _ _ _ _ => rfl
  obtain ⟨k, hk⟩ : ∃ k, k = m % 50 := ⟨_, rfl⟩
  have hk1 : (m : Int) % 50 = (k : Int) := by omega
  obtain ⟨L, hLL⟩ : ∃ L, l.length = L := ⟨_, rfl⟩
  have hz := wordsN_none hn
  have HS := hid hS
  have HL := hid hLL
  have HN := hid hn
  have hif : ((L : Int) < 1) ∨ (¬ (L : Int) < 1 ∧ (16 : Int) < L) := by omega
  rw [hLL] at hL hz ⊢
  have hL' : ¬ (40 : Int) < L := by omega
  clear hS hk hLL hn
  go_enter Try.func3, Try.ntmps3
  go_wp2_with fail
  refine (awake4_any _).mono ?_
  rintro e w0 ⟨rfl, hb0⟩
  have HO0 := hid (Only.of_below hb0 (fun _ => False))
  clear hb0
  go_wp2_with fail
  refine (new_rel _ _).mono ?_
  rintro e w1 ⟨p, q, rfl, hm, hp, hq, ho1⟩
  rw [show clampN 100 = 100 from clamp_nat 100 (by decide)] at hm
  have HO1 := hid (HO0.out.chain ho1 (fun _ _ h => h))
  have lz : w.heap.size ≤ w0.heap.size := HO0.out.size
  obtain ⟨W, z, hWe, hze, h1, h2, h3, h4, zp, zq, zw, h5, h6⟩ := start w w1 p q k ta tc l V HS.out hm HO1.out
  have lp : w.heap.size ≤ p := by omega
  have lq : w.heap.size ≤ q := by omega
  have HM := hid h1
  have HO := hid h2
  have HA := hid h3
  have HB := hid h4
  have HV := hid h5
  have HVl := hid h6
  simp only [writerO, readerO] at hWe
  rw [HL.out] at hWe
  clear hm ho1 HO0 HO1 lz hp hq h1 h2 h3 h4 h5 h6 HS
  have hgo : Calls Try.prog 8 #[.int .i64 (L : Int)] W fun e w' => e = .returned (.int .i64 0) ∧ w' = W := by
    have h9 := seqWords_rel W (L : Int)
    rwa [hz] at h9
  have HGO := hid hgo
  clear hgo hz
  rcases hif with hlt | ⟨hnl, hlt⟩
  all_goals
    go_wp2_with fail
    rw [← hWe]
    clear hWe
    refine HGO.out.mono ?_
    rintro e w2 ⟨rfl, rfl⟩
    go_wp2_with fail
    rw [← hze]
    clear hze
    refine (run_write _ p q z V (k : Int) ta tc l _ 1 HM.out HA.out HV.out (by omega) (by omega) (fun h => by have := HVl.out h; omega) (fun h => by have := HVl.out h; omega) (by rw [HL.out]; omega) (alone_write_none _ _ _ HN.out) (by decide) (by decide) (by decide) (by decide) (by simp)).mono ?_
    rintro e w3 ⟨rfl, hm3, ho3⟩
    have HM3 := hid hm3
    have HB3 := hid ((ho3.block _ (lt_of_block HB.out) (by omega)).trans HB.out)
    have HO3 := hid (HO.out.chain ho3 (fun i hi e => by omega))
    clear hm3 ho3 HM HO HA HB HV
    go_wp2_with fail
    refine (run_read _ p q (z + 1) (k : Int) l.length _ _ 1 HM3.out HB3.out (by omega) (by omega) (by rw [HL.out]; omega) (alone_read_none _ _ _ _ HN.out) (by decide) (by decide) (by decide) (by decide) (by simp)).mono ?_
    rintro e w4 ⟨rfl, hm4, ⟨v4, hb4, hg4⟩, ho4⟩
    have c2 : w4.cell? ⟨z + 1, 2, none⟩ = some (.slice none 0 0) := by
      have h9 : v4 = .slice none 0 0 := hg4
      rw [h9] at hb4
      exact Sept.cell_of_block hb4 2
    have HO4 := hid (HO3.out.chain ho4 (fun i hi e => by omega))
    clear hm4 hb4 hg4 ho4 HM3 HB3 HO3
    go_wp2_with fail
    go_ret
    exact ⟨rfl, HO4.out.below (Nat.le_refl _) (fun _ _ h => h)⟩

theorem zeros_val (k n : Nat) (h : k + 1 + n ≤ 100) : List.replicate 100 (0 : Int) = valM (List.replicate k 0) 0 (List.replicate n 0) (List.replicate (100 - (k + 1 + n)) 0) := by
  rw [valM, show (0 : Int) :: (List.replicate n 0 ++ List.replicate (100 - (k + 1 + n)) 0) = List.replicate 1 0 ++ (List.replicate n 0 ++ List.replicate (100 - (k + 1 + n)) 0) from rfl]
  simp only [List.replicate_append_replicate]
  congr 1
  omega

set_option maxRecDepth 100000 in
set_option maxHeartbeats 1000000 in
theorem walk_some (ta : Option Addr) (tc m : Nat) (l : List Int) (V : Nat) (w : World) (h0 : 0 < l.length) (h16 : l.length ≤ 16) (hm255 : m ≤ 255) (hS : Sees w ta l V) :
    Calls Try.prog 3 #[.slice ta l.length tc, .int .u8 (m : Int)] w fun e w' => e = .returned (.bool true) ∧ Below w.heap.size w w' := by
  have hmf : ∀ (fn : Fn) (first cap : Array Value) (w : World), (Instr.makeFunc fn first cap).run Try.prog w = .ok (.func fn first cap) w := fun _ _ _ _ => rfl
  obtain ⟨k, hk⟩ : ∃ k, k = m % 50 := ⟨_, rfl⟩
  have hk1 : (m : Int) % 50 = (k : Int) := by omega
  have hk50 : k < 50 := by omega
  obtain ⟨L, hLL⟩ : ∃ L, l.length = L := ⟨_, rfl⟩
  have hz := wordsN_some h0 h16
  have hne : l ≠ [] := List.length_pos_iff.1 h0
  have HS := hid hS
  have HL := hid hLL
  obtain ⟨ys, hys⟩ : ∃ ys, ys = valM (List.replicate k 0) 2 l (List.replicate (100 - (k + 1 + l.length)) 0) := ⟨_, rfl⟩
  have e1 : (writeT (k : Int) l).alone (List.replicate 100 0) = ((), ys, L + 3) := by
    have h9 := alone_write (List.replicate k 0) (List.replicate (100 - (k + 1 + l.length)) 0) l (List.replicate l.length 0) 0 (by simp) h0 h16 (by simp; omega)
    rw [← zeros_val k l.length (by omega), List.length_replicate] at h9
    rw [h9, hys, hLL, show wrap64 (0 + 2) = 2 by decide +kernel]
  have e2 : (readT (k : Int) l.length 100).alone ys = (some l, ys, L + 2) := by
    have h9 := alone_read (List.replicate k 0) (List.replicate (100 - (k + 1 + l.length)) 0) l 2 99 (by decide) h0 h16 (by simp; omega)
    rw [List.length_replicate, ← hys, hLL] at h9
    rw [hLL]
    exact h9
  have e3 : valA ys (k : Int) = 2 := by
    rw [hys]
    have h9 : valA (valM (List.replicate k 0) 2 l (List.replicate (100 - (k + 1 + l.length)) 0)) ((List.replicate k (0 : Int)).length : Int) = 2 := val_count
    rwa [List.length_replicate] at h9
  have e4 : 0 < ys.length := by rw [hys, valM_length]; omega
  have HE := hid (And.intro e1 (And.intro e2 (And.intro e3 e4)))
  rw [hLL] at h0 h16 hz ⊢
  have hL' : ¬ (40 : Int) < L := by omega
  have hl1 : ¬ (L : Int) < 1 := by omega
  have hl2 : ¬ (16 : Int) < L := by omega
  clear hS hk hLL e1 e2 e3 e4 hys
  go_enter Try.func3, Try.ntmps3
  go_wp2_with fail
  refine (awake4_any _).mono ?_
  rintro e w0 ⟨rfl, hb0⟩
  have HO0 := hid (Only.of_below hb0 (fun _ => False))
  clear hb0
  go_wp2_with fail
  refine (new_rel _ _).mono ?_
  rintro e w1 ⟨p, q, rfl, hm, hp, hq, ho1⟩
  rw [show clampN 100 = 100 from clamp_nat 100 (by decide)] at hm
  have HO1 := hid (HO0.out.chain ho1 (fun _ _ h => h))
  have lz : w.heap.size ≤ w0.heap.size := HO0.out.size
  obtain ⟨W, z, hWe, hze, h1, h2, h3, h4, zp, zq, zw, h5, h6⟩ := start w w1 p q k ta tc l V HS.out hm HO1.out
  have lp : w.heap.size ≤ p := by omega
  have lq : w.heap.size ≤ q := by omega
  have lV := h6 hne
  have HM := hid h1
  have HO := hid h2
  have HA := hid h3
  have HB := hid h4
  have HV := hid h5
  simp only [writerO, readerO] at hWe
  rw [HL.out] at hWe
  clear hm ho1 HO0 HO1 lz hp hq h1 h2 h3 h4 h5 h6 HS
  go_wp2_with fail
  rw [← hWe, ← hze]
  clear hWe hze
  refine (run_write _ p q z V (k : Int) ta tc l _ _ HM.out HA.out HV.out (by omega) (by omega) (fun h => by omega) (fun h => by omega) (by rw [HL.out]; omega) HE.out.1 (by push_cast; exact Int.le_refl _) (by omega) (by omega) (by omega) HE.out.2.2.2).mono ?_
  rintro e w3 ⟨rfl, hm3, ho3⟩
  have HM3 := hid hm3
  have HB3 := hid ((ho3.block _ (lt_of_block HB.out) (by omega)).trans HB.out)
  have HO3 := hid (HO.out.chain ho3 (fun i hi e => by omega))
  have HV3 := hid (HV.out.only ho3 (fun _ => by omega))
  clear hm3 ho3 HM HO HA HB HV
  go_wp2_with fail
  refine (run_read _ p q (z + 1) (k : Int) l.length _ _ _ HM3.out HB3.out (by omega) (by omega) (by rw [HL.out]; omega) HE.out.2.1 (by push_cast; exact Int.le_refl _) (by omega) (by omega) (by omega) HE.out.2.2.2).mono ?_
  rintro e w4 ⟨rfl, hm4, ⟨v4, hb4, g, hg1, rfl, hg3⟩, ho4⟩
  have c2 : w4.cell? ⟨z + 1, 2, none⟩ = some (.slice (some ⟨g, 0, none⟩) L L) := by
    have h9 := Sept.cell_of_block hb4 2
    rw [h9]
    show some (Value.slice (some ⟨g, 0, none⟩) l.length l.length) = _
    rw [HL.out]
  have HG4 := hid hg3.sees
  have HV4 := hid (HV3.out.only ho4 (fun _ => by omega))
  have HM4 := hid hm4
  have HO4 := hid (HO3.out.chain ho4 (fun i hi e => by omega))
  have HX := hid HE.out.2.2.1
  clear hm4 hb4 hg1 hg3 ho4 HM3 HB3 HO3 HV3 HE
  go_wp2_with fail
  refine (load_rel _ _ p q _ (.inl ⟨rfl, HM4.out⟩) _).mono ?_
  rintro e w5 ⟨rfl, rfl⟩
  rw [HX.out]
  have HW : Hid (Calls Try.prog 8 #[.int .i64 (L : Int)] w5 fun e w' => e = .returned (.int .i64 ((L : Int) + 1)) ∧ w' = w5) := by
    have h9 := seqWords_rel w5 (L : Int)
    rwa [hz] at h9
  clear HX
  go_wp2_with fail
  refine HW.out.mono ?_
  rintro e w6 ⟨rfl, rfl⟩
  have hsame := same_words w6 _ _ L tc _ _ l HG4.out HV4.out (by rw [HL.out]; omega)
  rw [HL.out] at hsame
  have HSA := hid hsame
  clear hsame HW HG4 HV4 HM4
  go_wp2_with fail
  refine HSA.out.mono ?_
  rintro e w7 ⟨rfl, nn, rfl⟩
  have HO7 := hid (only_drewN HO4.out nn)
  clear HSA HO4 c2
  go_wp2_with fail
  go_ret
  exact ⟨rfl, HO7.out.below (Nat.le_refl _) (fun _ _ h => h)⟩

theorem walk (ta : Option Addr) (tc m : Nat) (l : List Int) (V : Nat) (w : World) (hmx : l.length ≤ 9223372036854775807) (hm255 : m ≤ 255) (hS : Sees w ta l V) :
    Calls Try.prog 3 #[.slice ta l.length tc, .int .u8 (m : Int)] w fun e w' => e = .returned (.bool true) ∧ Below w.heap.size w w' := by
  by_cases h : 40 < l.length
  · exact walk_out ta _ tc m w h hmx
  · by_cases h1 : l.length = 0 ∨ 16 < l.length
    · exact walk_none ta tc m l V w (by omega) h1 hm255 hS
    · exact walk_some ta tc m l V w (by omega) (by omega) hm255 hS

set_option maxRecDepth 100000 in
theorem lifted (os : Os) (started : os.Started) (H : Type) (enc : TypeId × Value → H) :
    ReturnsInHanded {} Try.checked os 3 .any (Rows.seqBackSpec.pre6 enc Try.prog Try.f3 Rows.seqBackRow.domain false) (Rows.seqBackSpec.post enc Try.prog Try.f3 false true false false) := by
  refine returnsInHanded_of_change (C := Try.checked) own started (by kernel_rfl) Try.func3
    (ChangeSpec.witness6 (enc := enc) (C := Try.checked) false ⟨#[], #[.slice none 0 0, .int .u8 0], []⟩ 8 (by kernel_rfl) (by kernel_rfl) (by kernel_rfl) (by kernel_rfl)) ?_
  intro W base args ds gs before hval0 hW hcnd _
  have hval : ∀ (j : Nat) t v, Try.f3.params[j]? = some t → args[j]? = some v → Value.okWide Try.prog W .any base t v := hval0
  have hW' := hW
  obtain ⟨p, q, hA0, hV, rfl, hfz, hnd⟩ := hW
  have hA : DataW.TrodAll enc Try.prog W 0 (fun _ => true) true Try.f3.params.toList args.toList ds p := hA0
  rw [Try.params3] at hA hval
  obtain ⟨v0, vs0, d0, ds0, p0, q0, hargs, rfl, rfl, h0, r0⟩ := trodAll_cons hA
  obtain ⟨v1, vs1, d1, ds1, p1, q1, rfl, rfl, rfl, h1, r1⟩ := trodAll_cons r0
  obtain ⟨rfl, rfl, rfl⟩ := trodAll_nil r1
  obtain rfl : args = #[v0, v1] := by cases args; simp_all
  obtain ⟨ta, L, tc, rfl⟩ := okWide_slice Try.underlying22 (hval 0 22 v0 rfl rfl)
  obtain ⟨l, V, rfl, hS, _, hmx⟩ := open_sees Try.underlying22 Try.underlying2 (by kernel_rfl) h0
  obtain ⟨n, rfl, rfl, rfl, wn⟩ := open_int Try.underlying5 (hval 1 5 v1 rfl rfl) h1
  obtain ⟨m, rfl, hm⟩ : ∃ m : Nat, n = m ∧ m ≤ 255 := by
    have := bounds_u8 wn
    exact ⟨n.toNat, by omega, by omega⟩
  refine (walk ta tc m l V W hmx hm hS).mono fun e W' ⟨he, hg⟩ => ?_
  subst he
  exact ⟨_, rfl, post_law 2 4 laidOut (by kernel_rfl) rfl rfl rfl Try.underlying4 (fun l hl => by match l, hl with | [_, _], _ => rfl) hW' hg⟩

theorem over : Rows.seqBackRow.holds Try.pinned (OpenSpec.ofChange Rows.seqBackSpec) :=
  OpenClaim.holds_of_wide 3 Try.f3 rfl rfl rfl rfl rfl rfl rfl ⟨rfl, rfl, rfl, rfl, rfl⟩ rfl rfl rfl rfl rfl (by kernel_rfl) Try.func3 (by kernel_rfl)
    (of_decide_eq_true (by kernel_rfl)) (by unfold Func.isWrapper; first | (rw [if_pos (by decide +kernel)]; kernel_rfl) | (rw [if_neg (by decide +kernel)]; exact ⟨rfl, rfl⟩))
    (fun os started H enc _ => lifted os started H enc)

theorem proved : Rows.SeqBackSaid := over
#print axioms proved
end Go.Proofs.Ytcafpdnbceoekaa.seqBack

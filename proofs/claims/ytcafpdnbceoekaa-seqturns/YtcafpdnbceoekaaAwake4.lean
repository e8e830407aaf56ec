/-
  septumlaw04.awake answers true and turns nothing that was there. Conditions: none.
-/
import Derived.Test.YtcafpdnbceoekaaBody4
import Derived.Test.YtcafpdnbceoekaaVal4
import Derived.Test.YtcafpdnbceoekaaSame
namespace Go.Proofs.Ytcafpdnbceoekaa
open Go.RowKit Go.Sept

/-- A Write by frame.Run. -/
theorem run_write (w : World) (p q U V : Nat) (a : Int) (ta : Option Addr) (tc : Nat) (l xs : List Int) (most : Int) (hm : MemIs 52 w p q xs) (hU : w.heap[U]? = some (writerO a ta tc l)) (hS : Sees w ta l V) (n1 : U ≠ p) (n2 : U ≠ q) (n3 : l ≠ [] → V ≠ p) (n4 : l ≠ [] → V ≠ q) (hl : l.length ≤ 9223372036854775807)
    {ys : List Int} {k : Nat} (ha : (writeT a l).alone xs = ((), ys, k)) (hk : (k : Int) ≤ most) (hp : 0 < most) (hmm : most ≤ 9223372036854775807) (hk5 : k ≤ 4000) (hy : 0 < ys.length) :
    Calls Try.prog 9 #[.pointer (some ⟨p, 0, none⟩), bodyV 10 (.pointer (some ⟨U, 0, none⟩)), .int .i64 most] w fun e w' => e = .returned (.bool true) ∧ MemIs 52 w' p q ys ∧ Only (fun k => k = q) w w' := by
  refine ((writer_of 5000 (Nat.le_refl _) U a ta tc l V hl).run_all w p q xs most (.inl ⟨rfl, hm⟩) (lt_of_block hm.head) hm.row.lt ⟨hU, hS⟩ ?_ (by rw [ha]; exact hk) hp hmm (by rw [ha]; show k + 4 ≤ 5000; omega)).mono ?_
  · rintro k (rfl | ⟨h, rfl⟩)
    · exact ⟨n1, n2⟩
    · exact ⟨n3 h, n4 h⟩
  · rintro e w' ⟨rfl, h1, h2, h3, h4⟩
    rw [ha] at h1
    exact ⟨rfl, holds_mem h1 hy, h4.mono (fun k _ e => e.elim (fun h => h) (fun h => h.elim))⟩

/-- A Read by frame.Run. -/
theorem run_read (w : World) (p q U : Nat) (a : Int) (n : Nat) (v : Value) (xs : List Int) (most : Int) (hm : MemIs 52 w p q xs) (hU : w.heap[U]? = some (readerO a n v)) (n1 : U ≠ p) (n2 : U ≠ q) (hn : n ≤ 9223372036854775807)
    {r : Option (List Int)} {k : Nat} (ha : (readT a n 100).alone xs = (r, xs, k)) (hk : (k : Int) ≤ most) (hp : 0 < most) (hmm : most ≤ 9223372036854775807) (hk5 : k ≤ 90) (hy : 0 < xs.length) :
    Calls Try.prog 9 #[.pointer (some ⟨p, 0, none⟩), bodyV 11 (.pointer (some ⟨U, 0, none⟩)), .int .i64 most] w fun e w' => e = .returned (.bool true) ∧ MemIs 52 w' p q xs ∧ (∃ v', w'.heap[U]? = some (readerO a n v') ∧ GotIs w' v' r w.heap.size) ∧ Only (fun k => k = q ∨ k = U) w w' := by
  refine ((reader_of 100 (by decide) U a n hn).run_all w p q xs most (.inl ⟨rfl, hm⟩) (lt_of_block hm.head) hm.row.lt ⟨v, hU⟩ ?_ (by rw [ha]; exact hk) hp hmm (by rw [ha]; show k + 4 ≤ 100; omega)).mono ?_
  · rintro k rfl
    exact ⟨n1, n2⟩
  · rintro e w' ⟨rfl, h1, h2, h3, h4⟩
    rw [ha] at h1 h3
    exact ⟨rfl, holds_mem h1 hy, h3, h4⟩

set_option maxRecDepth 100000 in
set_option maxHeartbeats 1000000 in
theorem awake4_any (w : World) :
    Calls Try.prog 6 #[] w fun e w' => e = .returned (.bool true) ∧ Below w.heap.size w w' := by
  have hmf : ∀ (fn : Fn) (first cap : Array Value) (w : World), (Instr.makeFunc fn first cap).run Try.prog w = .ok (.func fn first cap) w := fun _ _ _ _ => rfl
  go_enter Try.func6, Try.ntmps6
  go_wp2_with fail
  refine (new_rel _ _).mono ?_
  rintro e w1 ⟨p, q, rfl, hm, hp, hq, ho1⟩
  rw [show clampN 4 = 4 from clamp_nat 4 (by decide)] at hm
  have HM := hid hm
  have HO1 := hid ho1
  clear hm ho1
  go_wp2_with fail
  refine (seqWords_rel _ _).mono ?_
  rintro e w2 ⟨rfl, hw2⟩
  have hW : ∃ z, z = w1.heap.size ∧ MemIs 52 w2 p q (List.replicate 4 0) ∧ Only (fun _ => False) w w2 ∧ RowIs w2 z [7] ∧ w2.heap[z + 1]? = some (writerO 0 (some ⟨z, 0, none⟩) 1 [7]) ∧ w2.heap[z + 1 + 1]? = some (readerO 0 1 (.slice none 0 0)) ∧ p < z ∧ q < z ∧ w.heap.size ≤ z := by
    rw [hw2]
    refine ⟨_, rfl, ?_, ?_, ?_, ?_, ?_, lt_of_block HM.out.head, HM.out.row.lt, HO1.out.size⟩
    · exact ((HM.out.alloc _).alloc _).alloc _
    · exact ((HO1.out.alloc _).alloc _).alloc _
    · unfold RowIs
      rw [Below.heap_alloc _ _ _ (by simp; omega), Below.heap_alloc _ _ _ (by simp)]
      exact heap_new _ _
    · rw [Below.heap_alloc _ _ _ (by simp)]
      exact heap_new_at _ _ _ (by simp)
    · exact heap_new_at _ _ _ (by simp)
  obtain ⟨z, hze, h1, h2, h3, h4, h5, zp, zq, zw⟩ := hW
  rw [← hze]
  have HM2 := hid h1
  have HO2 := hid h2
  have HV := hid h3
  have HA := hid h4
  have HB := hid h5
  clear hw2 hze h1 h2 h3 h4 h5 HM HO1
  simp only [show wordsN 1 = 2 by decide]
  go_wp2_with fail
  refine (run_write _ p q (z + 1) z 0 _ 1 [7] _ 10 HM2.out HA.out HV.out.sees (by omega) (by omega) (fun _ => by omega) (fun _ => by omega) (by decide) (show (writeT 0 [7]).alone (List.replicate 4 0) = ((), [2, 7, 0, 0], 4) by decide +kernel) (by decide) (by decide) (by decide) (by decide) (by decide)).mono ?_
  rintro e w3 ⟨rfl, hm3, ho3⟩
  have HM3 := hid hm3
  have HB3 := hid ((ho3.block _ (lt_of_block HB.out) (by omega)).trans HB.out)
  have HO3 := hid (HO2.out.chain ho3 (fun i hi e => by omega))
  clear hm3 ho3 HM2 HO2 HV HA HB
  go_wp2_with fail
  refine (run_read _ p q (z + 1 + 1) 0 1 _ _ 10 HM3.out HB3.out (by omega) (by omega) (by decide) (show (readT 0 1 100).alone [2, 7, 0, 0] = (some [7], [2, 7, 0, 0], 3) by decide +kernel) (by decide) (by decide) (by decide) (by decide) (by decide)).mono ?_
  rintro e w4 ⟨rfl, hm4, ⟨v4, hb4, g, hg1, rfl, hg3⟩, ho4⟩
  have c2 : w4.cell? ⟨z + 1 + 1, 2, none⟩ = some (.slice (some ⟨g, 0, none⟩) 1 1) := cell_of_block hb4 2
  have c0 : w4.cell? ⟨g, 0, none⟩ = some (.int .i64 7) := hg3.cell 0 (by decide)
  have HO4 := hid (HO3.out.chain ho4 (fun i hi e => by omega))
  clear hm4 hb4 hg1 hg3 ho4 HM3 HB3 HO3
  go_wp2_with fail
  go_ret
  exact ⟨rfl, HO4.out.below (Nat.le_refl _) (fun _ _ h => h)⟩
end Go.Proofs.Ytcafpdnbceoekaa

/-
  seq.Words and seq.Write, the latter as a tree of accesses. Conditions: the frame and its memory are there, and share no block, nor one with the values; so many accesses fit.
-/
import Derived.Test.YtcafpdnbceoekaaSide2
import Derived.Deep.LoopGhost
namespace Go.Sept
open Go.RowKit

/-- The slice at ta sees the numbers l, of the kind κ, in the block b. -/
def SeesOf (κ : IntKind) (w : World) (ta : Option Addr) (l : List Int) (b : Nat) : Prop := l = [] ∨ ∃ off : Nat, ta = some ⟨b, off, none⟩ ∧ ∀ i, i < l.length → w.cell? ⟨b, off + i, none⟩ = some (.int κ (l.getD i 0))
abbrev Sees (w : World) (ta : Option Addr) (l : List Int) (b : Nat) : Prop := SeesOf .i64 w ta l b
theorem heap_new_at (w : World) (o : Obj) (k : Nat) (h : k = w.heap.size) : (w.alloc o).heap[k]? = some o := by
  subst h
  exact heap_new w o
theorem lt_of_cell {w : World} {b i : Nat} {v : Value} (h : w.cell? ⟨b, i, none⟩ = some v) : b < w.heap.size := by
  cases e : w.heap[b]? with
  | none => simp [World.cell?, e] at h
  | some o => exact lt_of_block e
theorem SeesOf.lt {κ : IntKind} {w : World} {ta : Option Addr} {l : List Int} {b : Nat} (h : SeesOf κ w ta l b) (hl : l ≠ []) : b < w.heap.size := by
  rcases h with h | ⟨off, _, h⟩
  · exact absurd h hl
  · exact lt_of_cell (h 0 (List.length_pos_iff.2 hl))
theorem SeesOf.only {κ : IntKind} {w w' : World} {ta : Option Addr} {l : List Int} {b : Nat} {S : Nat → Prop} (h : SeesOf κ w ta l b) (ho : Only S w w') (hb : l ≠ [] → ¬ S b) : SeesOf κ w' ta l b := by
  by_cases hl : l = []
  · exact .inl hl
  · have hlt := h.lt hl
    rcases h with h | ⟨off, h1, h2⟩
    · exact .inl h
    · exact .inr ⟨off, h1, fun i hi => (World.cell?_of_block (ho.block b hlt (hb hl))).trans (h2 i hi)⟩

/-- The address of a value's word. -/
def wordA (a : Int) (j : Nat) : Int := wrap64 (wrap64 (a + 1) + (j : Int))
def storesT {α : Type} (a : Int) {d : Nat} (t : Tree α d) : (l : List Int) → (j : Nat) → Tree α (d + l.length)
  | [], _ => t
  | v :: r, j => .acc 1 (wordA a j) v 0 fun _ => storesT a t r (j + 1)
def writeT (a : Int) (l : List Int) : Tree Unit (1 + l.length + 1 + 1) :=
  if l.length = 0 ∨ 16 < l.length then .ret () else .acc 0 a 0 0 fun c => .acc 1 a (wrap64 (c + 1)) 0 fun _ => storesT a (.acc 1 a (wrap64 (c + 2)) 0 fun _ => .ret ()) l 0
/-- How many words a value of n lies in. -/
def wordsN (n : Int) : Int := if n < 1 ∨ 16 < n then 0 else n + 1
end Go.Sept

namespace Go.Proofs.Ytcafpdnbceoekaa
open Go.RowKit Go.Sept

set_option maxHeartbeats 400000 in
theorem seqWords_rel (w : World) (n : Int) : Calls Try.prog 8 #[.int .i64 n] w fun e w' => e = .returned (.int .i64 (wordsN n)) ∧ w' = w := by
  by_cases h1 : n < 1
  · go_enter Try.func8, Try.ntmps8
    go_wp2
    go_ret
    refine ⟨?_, rfl⟩
    rw [wordsN, if_pos (.inl h1)]
    rfl
  · by_cases h2 : 16 < n
    · go_enter Try.func8, Try.ntmps8
      go_wp2
      go_ret
      refine ⟨?_, rfl⟩
      rw [wordsN, if_pos (.inr h2)]
      rfl
    · go_enter Try.func8, Try.ntmps8
      go_wp2
      go_ret
      refine ⟨?_, rfl⟩
      rw [wordsN, if_neg (by omega)]
      go_num

set_option maxRecDepth 100000 in
set_option maxHeartbeats 400000 in
theorem write_none (w : World) (F : Nat) (a : Int) (ta : Option Addr) (L tc : Nat) (hL : L = 0 ∨ 16 < L) (hm : L ≤ 9223372036854775807) :
    Calls Try.prog 19 #[.pointer (some ⟨F, 0, none⟩), .int .i64 a, .slice ta L tc] w fun e w' => e = .returned (.tuple #[]) ∧ w' = w := by
  have hz : wordsN (L : Int) = 0 := by rw [wordsN, if_pos (by omega)]
  go_enter Try.func19, Try.ntmps19
  go_wp2_with fail
  refine (seqWords_rel _ _).mono ?_
  rintro e w1 ⟨rfl, rfl⟩
  rw [hz]
  go_wp2_with fail
  refine bodyPost_ret (results_none rfl _ _ _) rfl ?_
  exact ⟨rfl, rfl⟩

set_option maxRecDepth 100000 in
set_option maxHeartbeats 1000000 in
theorem write_some (w : World) (F lb p q : Nat) (s : FrSt) (xs : List Int) (h : FMIs w F lb p q s xs) (a : Int) (ta : Option Addr) (tc : Nat) (l : List Int) (V : Nat) (hl0 : 0 < l.length) (hl : l.length ≤ 16) (hr : Fit 20 s) (hS : Sees w ta l V) (n1 : V ≠ F) (n2 : V ≠ lb) (n3 : V ≠ q) :
    Calls Try.prog 19 #[.pointer (some ⟨F, 0, none⟩), .int .i64 a, .slice ta l.length tc] w fun e w' => e = .returned (.tuple #[]) ∧ Left w F lb p q ((writeT a l).run s xs).2.1 ((writeT a l).run s xs).2.2 w' := by
  obtain ⟨R, hR⟩ : ∃ R, (writeT a l).run s xs = R := ⟨_, rfl⟩
  rw [hR]
  rw [writeT, if_neg (by omega), Tree.run_acc, Tree.run_acc] at hR
  have HR := hid hR
  have H := hid h
  have HF := hid hr
  have HS := hid hS
  have HN := hid (And.intro n1 n3)
  have hne : l ≠ [] := List.length_pos_iff.1 hl0
  have hz : (wordsN (l.length : Int) == 0) = false := by
    rw [wordsN, if_neg (by omega)]
    exact beq_eq_false_iff_ne.2 (by omega)
  clear hR h hr hS n1 n3
  go_enter Try.func19, Try.ntmps19
  go_wp2_with fail
  refine (seqWords_rel _ _).mono ?_
  rintro e w0 ⟨rfl, rfl⟩
  go_wp2_with fail
  refine (fload_rel _ F lb p q s xs H.out (fit_ready (HF.out.mono (m := 1) (by omega))) a 0 0).mono ?_
  rintro e w1 ⟨rfl, hL1⟩
  have HF1 := hid (HF.out.acc (n := 19) 0 a 0 0 xs)
  obtain ⟨⟨c, s1, xs1⟩, hE⟩ : ∃ E, acc 0 a 0 0 s xs = E := ⟨_, rfl⟩
  rw [hE] at hL1 HF1 HR
  rw [hE]
  clear hE
  obtain ⟨lb1, hm1, hl1, ho1⟩ := hL1
  have HL1 := hid (And.intro hm1 (And.intro hl1 ho1))
  have v1 : V < w0.heap.size := HS.out.lt hne
  have HS1 : Hid (Sees w1 ta l V ∧ V ≠ lb1) := ⟨HS.out.only ho1 (fun _ e => by have := HN.out; omega), by have := HN.out; omega⟩
  clear hm1 hl1 ho1 HS H HF n2
  go_wp2_with fail
  refine (fstore_rel _ F lb1 p q s1 xs1 HL1.out.1 (fit_ready (HF1.out.mono (m := 1) (by omega))) a (wrap64 (c + 1)) 0).mono ?_
  rintro e w2 ⟨rfl, hL2⟩
  have HF2 := hid (HF1.out.acc (n := 18) 1 a (wrap64 (c + 1)) 0 xs1)
  obtain ⟨⟨r1, s2, xs2⟩, hE⟩ : ∃ E, acc 1 a (wrap64 (c + 1)) 0 s1 xs1 = E := ⟨_, rfl⟩
  rw [hE] at hL2 HF2 HR
  clear hE
  have HS2 : Hid (∃ lb2, FMIs w2 F lb2 p q s2 xs2 ∧ (lb2 = lb ∨ w0.heap.size ≤ lb2) ∧ Only (fun x => x = F ∨ x = lb ∨ x = q) w0 w2 ∧ Sees w2 ta l V ∧ V ≠ lb2) := by
    obtain ⟨lb2', k1, k2, k3⟩ := hL2
    obtain ⟨lb2, j1, j2, j3⟩ := left_chain HL1.out.2.1 HL1.out.2.2 ⟨lb2', k1, k2, k3⟩
    have z1 := HL1.out.2.2.size
    have y1 := HS1.out.2
    have y2 := HN.out
    exact ⟨lb2', k1, by have := HL1.out.2.1; omega, j3, HS1.out.1.only k3 (fun _ e => by omega), by omega⟩
  clear hL2 HL1 HS1 HF1
  go_wp2_with fail
  go_loopw [23] (fun i wx => ∃ (j : Nat) (lb2 : Nat) (s2 : FrSt) (xs2 : List Int), i = .int .i64 (j : Int) ∧ j ≤ l.length ∧ (storesT a (.acc 1 a (wrap64 (c + 2)) 0 fun _ => .ret () : Tree Unit 1) (l.drop j) j).run s2 xs2 = R ∧ Fit (18 - j) s2 ∧ FMIs wx F lb2 p q s2 xs2 ∧ (lb2 = lb ∨ w0.heap.size ≤ lb2) ∧ Only (fun x => x = F ∨ x = lb ∨ x = q) w0 wx ∧ Sees wx ta l V ∧ V ≠ lb2) (fun i _ => l.length - (intOf i).toNat)
  case atStart =>
    obtain ⟨lb2, h1, h2, h3, h4, h5⟩ := HS2.out
    exact ⟨0, lb2, s2, xs2, rfl, Nat.zero_le _, HR.out, HF2.out, h1, h2, h3, h4, h5⟩
  case round =>
    obtain ⟨j, lb2, s2, xs2, rfl, hj, hrun, hfit, h1, h2, h3, h4, h5⟩ := hrel
    have HRUN := hid hrun
    have HFIT := hid hfit
    have HM := hid h1
    have HL := hid (And.intro h2 h3)
    have HSV := hid (And.intro h4 h5)
    clear hrun hfit h1 h2 h3 h5 HS2 HF2 HR
    by_cases hlt : (j : Int) < l.length
    · have hjl : j < l.length := by omega
      rcases h4 with h4 | ⟨off, rfl, hc⟩
      · exact absurd h4 hne
      have hcj := hc j hjl
      obtain ⟨v, hv⟩ : ∃ v, l.getD j 0 = v := ⟨_, rfl⟩
      rw [hv] at hcj
      have HV : Hid (l.drop j = v :: l.drop (j + 1)) := by
        rw [List.drop_eq_getElem_cons hjl, ← hv, List.getD_eq_getElem?_getD, List.getElem?_eq_getElem hjl]
        rfl
      clear hc hv
      go_wp2_with fail
      refine (fstore_rel _ F lb2 p q s2 xs2 HM.out (fit_ready (HFIT.out.mono (m := 1) (by omega))) (wordA a j) v 0).mono ?_
      rintro e w3 ⟨rfl, hL3⟩
      have hrun := HRUN.out
      rw [HV.out] at hrun
      have HRUN3 : Hid ((storesT a (.acc 1 a (wrap64 (c + 2)) 0 fun _ => .ret () : Tree Unit 1) (l.drop (j + 1)) (j + 1)).run (acc 1 (wordA a j) v 0 s2 xs2).2.1 (acc 1 (wordA a j) v 0 s2 xs2).2.2 = R) := hrun
      have HFIT3 : Hid (Fit (18 - (j + 1)) (acc 1 (wordA a j) v 0 s2 xs2).2.1) := Fit.acc (HFIT.out.mono (by omega)) 1 (wordA a j) v 0 xs2
      have HS3 : Hid (∃ lb3, FMIs w3 F lb3 p q (acc 1 (wordA a j) v 0 s2 xs2).2.1 (acc 1 (wordA a j) v 0 s2 xs2).2.2 ∧ (lb3 = lb ∨ w0.heap.size ≤ lb3) ∧ Only (fun x => x = F ∨ x = lb ∨ x = q) w0 w3 ∧ Sees w3 (some ⟨V, off, none⟩) l V ∧ V ≠ lb3) := by
        obtain ⟨lb3, k1, k2, k3⟩ := hL3
        obtain ⟨_, _, _, j3⟩ := left_chain HL.out.1 HL.out.2 ⟨lb3, k1, k2, k3⟩
        have z1 := HL.out.2.size
        have y1 := HSV.out.2
        have y2 := HN.out
        exact ⟨lb3, k1, by have := HL.out.1; omega, j3, HSV.out.1.only k3 (fun _ e => by omega), by omega⟩
      clear hrun hL3 hcj HM HL HSV
      go_wp2_with fail
      go_roundw
      case rel =>
        obtain ⟨lb3, g1, g2, g3, g4, g5⟩ := HS3.out
        exact ⟨j + 1, lb3, _, _, by go_num, by omega, HRUN3.out, HFIT3.out, g1, g2, g3, g4, g5⟩
      case measure => simp [intOf]; omega
    · obtain rfl : j = l.length := by omega
      have hrun := HRUN.out
      rw [List.drop_length] at hrun
      have HRUN3 : Hid (((), (acc 1 a (wrap64 (c + 2)) 0 s2 xs2).2) = R) := hrun
      clear hrun HRUN h4
      go_wp2_with fail
      refine (fstore_rel _ F lb2 p q s2 xs2 HM.out (fit_ready (HFIT.out.mono (m := 1) (by omega))) a (wrap64 (c + 2)) 0).mono ?_
      rintro e w3 ⟨rfl, hL3⟩
      have HL3 := hid (left_chain HL.out.1 HL.out.2 hL3)
      clear hL3 HM HL HSV
      go_wp2_with fail
      go_end0
      rw [← HRUN3.out]
      exact ⟨rfl, HL3.out⟩
end Go.Proofs.Ytcafpdnbceoekaa

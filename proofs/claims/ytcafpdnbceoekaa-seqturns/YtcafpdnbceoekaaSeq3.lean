/-
  seq.Read, as a tree of accesses, and the bodies of septumlaw04: writer, reader. Conditions: the frame and its memory are there, and share no block; the tree is long enough for the frame's log.
-/
import Derived.Test.YtcafpdnbceoekaaSeq2
import Derived.Deep.RegionHeld
namespace Go.Sept
open Go.RowKit
/-- What a Read hands out: nothing, or the words, in a row from b on. -/
def GotIs (w : World) (v : Value) (r : Option (List Int)) (b : Nat) : Prop :=
  match r with
  | none => v = .slice none 0 0
  | some l => ∃ g, b ≤ g ∧ v = .slice (some ⟨g, 0, none⟩) l.length l.length ∧ RowIs w g l
theorem GotIs.slice {w : World} {v : Value} {r : Option (List Int)} {b : Nat} (h : GotIs w v r b) : ∃ ao x y, v = .slice ao x y := by
  cases r with
  | none => exact ⟨_, _, _, h⟩
  | some l =>
    obtain ⟨g, h1, h2, h3⟩ := h
    exact ⟨_, _, _, h2⟩
theorem GotIs.only {w w' : World} {v : Value} {r : Option (List Int)} {b : Nat} {S : Nat → Prop} (h : GotIs w v r b) (ho : Only S w w') (hb : ∀ k, b ≤ k → ¬ S k) : GotIs w' v r b := by
  cases r with
  | none => exact h
  | some l =>
    obtain ⟨g, h1, h2, h3⟩ := h
    exact ⟨g, h1, h2, h3.only ho (hb g h1)⟩
theorem GotIs.less {w : World} {v : Value} {r : Option (List Int)} {b b' : Nat} (h : GotIs w v r b) (hb : b' ≤ b) : GotIs w v r b' := by
  cases r with
  | none => exact h
  | some l =>
    obtain ⟨g, h1, h2, h3⟩ := h
    exact ⟨g, by omega, h2, h3⟩
end Go.Sept

namespace Go.Proofs.Ytcafpdnbceoekaa
open Go.RowKit Go.Sept

set_option maxRecDepth 100000 in
set_option maxHeartbeats 400000 in
theorem read_none (w : World) (F : Nat) (a : Int) (n : Nat) (hn : n = 0 ∨ 16 < n) (hm : n ≤ 9223372036854775807) :
    Calls Try.prog 20 #[.pointer (some ⟨F, 0, none⟩), .int .i64 a, .int .i64 (n : Int)] w fun e w' => e = .returned (.slice none 0 0) ∧ w' = w := by
  have hz : wordsN (n : Int) = 0 := by rw [wordsN, if_pos (by omega)]
  go_enter Try.func20, Try.ntmps20
  go_wp2_with fail
  refine (seqWords_rel _ _).mono ?_
  rintro e w1 ⟨rfl, rfl⟩
  rw [hz]
  go_wp2_with fail
  go_ret
  exact ⟨rfl, rfl⟩

set_option maxRecDepth 100000 in
set_option maxHeartbeats 1000000 in
theorem read_some (m : Nat) (w : World) (F lb p q : Nat) (s : FrSt) (xs : List Int) (h : FMIs w F lb p q s xs) (a : Int) (n : Nat) (hn0 : 0 < n) (hn : n ≤ 16) (hr : Fit (m * 20 + 20) s) (h1 : s.asked ≤ s.most) (h2 : s.most + 2 ≤ m) :
    Calls Try.prog 20 #[.pointer (some ⟨F, 0, none⟩), .int .i64 a, .int .i64 (n : Int)] w fun e w' => ∃ v, e = .returned v ∧ Left w F lb p q ((readT a n m).run s xs).2.1 ((readT a n m).run s xs).2.2 w' ∧ GotIs w' v ((readT a n m).run s xs).1 w.heap.size := by
  obtain ⟨R, hR⟩ : ∃ R, (readT a n m).run s xs = R := ⟨_, rfl⟩
  rw [hR]
  rw [readT, if_neg (by omega)] at hR
  have HR := hid hR
  have HF := hid hr
  have HLG := hid (Long.start h1 h2)
  have hz : (wordsN (n : Int) == 0) = false := by
    rw [wordsN, if_neg (by omega)]
    exact beq_eq_false_iff_ne.2 (by omega)
  have hmk := make_words n (by omega)
  have HS : Hid (ReadSt w F lb p q w.heap.size (w.alloc (.cells (madeCells #[.int .i64 0] n) 2)) s xs (List.replicate n 0)) := by
    have ho : Only (fun x => x = F ∨ x = lb ∨ x = q ∨ x = w.heap.size) w (w.alloc (.cells (madeCells #[.int .i64 0] n) 2)) := (Only.refl _ _).alloc _
    have ho' : Only (fun _ => False) w (w.alloc (.cells (madeCells #[.int .i64 0] n) 2)) := (Only.refl _ _).alloc _
    have l1 := h.frame.lt
    have l2 := h.ll
    have l3 := h.lp
    have l4 := h.lq
    refine ⟨lb, h.only ho' (fun h => h) (fun h => h) (fun h => h) (fun h => h), .inl rfl, ho, ?_, by omega, by omega, by omega, by omega⟩
    unfold RowIs
    rw [heap_new, madeCells_zero]
  clear hR h hr h1 h2
  go_enter Try.func20, Try.ntmps20
  go_wp2_with fail
  refine (seqWords_rel _ _).mono ?_
  rintro e w0 ⟨rfl, rfl⟩
  go_wp2_with fail
  generalize hg : w0.heap.size = g at *
  generalize hw1 : w0.alloc (.cells (madeCells #[.int .i64 0] n) 2) = w1 at *
  have HG := hid hg
  clear hw1 hmk hg
  go_loopg [] m (fun k wr => ∃ s1 xs1 zs, (turnsT a n k).run s1 xs1 = R ∧ Fit (k * 20 + 20) s1 ∧ Long k s1 ∧ ReadSt w0 F lb p q g wr s1 xs1 zs ∧ zs.length = n)
  case atStart => exact ⟨s, xs, List.replicate n 0, HR.out, HF.out, HLG.out, HS.out, List.length_replicate⟩
  case round =>
    obtain ⟨s1, xs1, zs, hrun, hfit, hlong, hst, hzs⟩ := hrel
    clear HS HF HLG HR
    obtain ⟨k, rfl⟩ : ∃ k, gk = k + 1 := ⟨gk - 1, by have := hlong.pos; omega⟩
    rw [turnsT_run] at hrun
    have HRUN := hid hrun
    have HFIT := hid hfit
    have HLONG := hid hlong
    have HST := hid hst
    obtain ⟨lb1, hfm, _⟩ := hst
    have HFM := hid hfm
    clear hrun hfit hlong hfm
    go_wp2_with fail
    refine (foff_left HFM.out).mono ?_
    rintro e w2 ⟨rfl, rfl⟩
    obtain ⟨o, ho⟩ : ∃ o, (!s1.underway || s1.off) = o := ⟨_, rfl⟩
    rw [ho]
    have hrun := HRUN.out
    rw [ho] at hrun
    have HRUN1 := hid hrun
    have HO := hid ho
    clear HRUN hrun ho HFM
    cases o
    · go_wp2_with fail
      refine (readOnce_rel w0 _ F lb p q g s1 xs1 zs HST.out a n hzs hn (HFIT.out.mono (by omega))).mono ?_
      rintro e w3 ⟨rfl, zs3, hst3, hz3, hl3⟩
      have HST3 := hid hst3
      have HL3 := hid hl3
      have HFIT3 : Hid (Fit (k * 20 + 20) ((oneT a n).run s1 xs1).2.1) := (oneT a n).fit (k := k * 20 + 20) (HFIT.out.mono (by omega)) xs1
      have HLONG3 : Hid (Long k ((oneT a n).run s1 xs1).2.1) := HLONG.out.turn HO.out 0 a 0 0 (fun c => wordsT a n c) xs1
      have hrun := HRUN1.out
      rw [if_neg (by decide)] at hrun
      obtain ⟨⟨r, s3, xs3⟩, hE⟩ : ∃ E, (oneT a n).run s1 xs1 = E := ⟨_, rfl⟩
      rw [hE] at HST3 HL3 HFIT3 HLONG3 hrun
      rw [hE]
      have HRUN3 := hid hrun
      clear hE hst3 hl3 hrun HRUN1 HST HFIT HLONG
      cases r with
      | none =>
        simp only [Option.isSome_none]
        go_wp2_with fail
        go_roundg k
        case measure => omega
        case rel => exact ⟨s3, xs3, zs3, HRUN3.out, HFIT3.out, HLONG3.out, HST3.out, hz3⟩
      | some l =>
        simp only [Option.isSome_some]
        go_wp2_with fail
        go_ret
        have h9 := HRUN3.out
        subst h9
        obtain ⟨lb3, k1, k2, k3, k4, _⟩ := HST3.out
        obtain rfl := HL3.out l rfl
        refine ⟨_, rfl, ⟨lb3, k1, k2, k3.mono (fun i hi e => ?_)⟩, g, by have := HG.out; omega, by rw [hz3]; rfl, k4⟩
        have := HG.out
        omega
    · go_wp2_with fail
      go_ret
      have h9 := HRUN1.out
      rw [if_pos (by trivial)] at h9
      subst h9
      obtain ⟨lb3, k1, k2, k3, k4, _⟩ := HST.out
      refine ⟨_, rfl, ⟨lb3, k1, k2, k3.mono (fun i hi e => ?_)⟩, rfl⟩
      have := HG.out
      omega
end Go.Proofs.Ytcafpdnbceoekaa

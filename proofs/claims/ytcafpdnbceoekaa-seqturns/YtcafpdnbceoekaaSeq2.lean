/-
  seq.Read, as a tree of accesses. Conditions: the frame and its memory are there, and share no block; the tree is long enough for the frame's log.
-/
import Derived.Test.YtcafpdnbceoekaaSeq
namespace Go.Sept
open Go.RowKit

theorem acc_off_stays (k a v u : Int) (s : FrSt) (xs : List Int) (h : s.off = true) : (acc k a v u s xs).2.1.off = true := by
  unfold acc
  split
  · exact h
  · unfold FrSt.replay
    split
    · exact h
    · split
      · rfl
      · exact h
theorem acc_asked_ge (k a v u : Int) (s : FrSt) (xs : List Int) : s.asked ≤ (acc k a v u s xs).2.1.asked := by
  unfold acc
  split
  · exact Nat.le_succ _
  · unfold FrSt.replay
    split
    · exact Nat.le_refl _
    · split
      · exact Nat.le_refl _
      · exact Nat.le_succ _

/-- What stays, and what grows, while a frame goes on. -/
structure Grows (s s' : FrSt) : Prop where
  most : s'.most = s.most
  underway : s'.underway = s.underway
  off : s.off = true → s'.off = true
  asked : s.asked ≤ s'.asked
  under : s.asked ≤ s.most → s'.asked ≤ s.most
theorem Grows.refl (s : FrSt) : Grows s s := ⟨rfl, rfl, fun h => h, Nat.le_refl _, fun h => h⟩
theorem Grows.trans {a b c : FrSt} (h : Grows a b) (k : Grows b c) : Grows a c :=
  ⟨k.most.trans h.most, k.underway.trans h.underway, fun e => k.off (h.off e), Nat.le_trans h.asked k.asked, fun e => by
    have := k.under (by rw [h.most]; exact h.under e)
    rwa [h.most] at this⟩
theorem Grows.acc (k a v u : Int) (s : FrSt) (xs : List Int) : Grows s (acc k a v u s xs).2.1 := by
  obtain ⟨_, h3, h4, _, _⟩ := acc_cases k a v u s xs
  exact ⟨h3, h4, acc_off_stays k a v u s xs, acc_asked_ge k a v u s xs, acc_asked_le k a v u s xs⟩
theorem Tree.grows {α : Type} {n : Nat} (t : Tree α n) (s : FrSt) (xs : List Int) : Grows s (t.run s xs).2.1 := by
  induction n generalizing s xs with
  | zero => exact Grows.refl s
  | succ n ih =>
    rcases Tree.kinds t with ⟨x, rfl⟩ | ⟨k', a, v, u, f, rfl⟩ | ⟨f, rfl⟩ | ⟨t', rfl⟩
    · exact Grows.refl s
    · rw [Tree.run_acc]
      exact (Grows.acc k' a v u s xs).trans (ih _ _ _)
    · rw [Tree.run_off]
      exact ih _ _ _
    · rw [Tree.run_mark]
      refine Grows.trans ?_ (ih _ _ _)
      unfold FrSt.toMark
      split
      · exact ⟨rfl, rfl, fun h => h, Nat.le_refl _, fun h => h⟩
      · exact Grows.refl s

/-- The tree is long enough. -/
structure Long (n : Nat) (s : FrSt) : Prop where
  pos : 0 < n
  most : s.asked ≤ s.most
  far : s.underway = true → s.off = false → s.most + 2 ≤ n + s.asked
theorem Long.start {n : Nat} {s : FrSt} (h1 : s.asked ≤ s.most) (h2 : s.most + 2 ≤ n) : Long n s := ⟨by omega, h1, fun _ _ => by omega⟩
theorem Long.acc {n : Nat} {s : FrSt} (h : Long (n + 1) s) (k a v u : Int) (xs : List Int) (ho : ¬ (!(acc k a v u s xs).2.1.underway || (acc k a v u s xs).2.1.off) = true) : Long n (acc k a v u s xs).2.1 := by
  simp only [Bool.or_eq_true, not_or, Bool.not_eq_true, Bool.not_eq_eq_eq_not, Bool.not_true, Bool.not_eq_false] at ho
  obtain ⟨h1, h2⟩ := ho
  obtain ⟨_, h3, h4, _, _⟩ := acc_cases k a v u s xs
  rw [h4] at h1
  have h5 : s.off = false := by
    cases h6 : s.off with
    | false => rfl
    | true => rw [acc_off_stays k a v u s xs h6] at h2; exact absurd h2 (by decide)
  have h6 := h.far h1 h5
  have h7 : (Sept.acc k a v u s xs).2.1.asked = s.asked + 1 := by
    rcases acc_left k a v u s xs h1 h5 with h8 | h8
    · rw [h8] at h2
      exact absurd h2 (by decide)
    · exact h8.2
  have h8 := acc_asked_le k a v u s xs h.most
  exact ⟨by omega, by rw [h3]; exact h8, fun _ _ => by rw [h3, h7]; omega⟩
/-- Behind a tree that begins with an access, if the frame is not off there. -/
theorem Long.tree {α : Type} {n m : Nat} {s : FrSt} (h : Long (n + 1) s) (k a v u : Int) (f : Int → Tree α m) (xs : List Int) (ho : ¬ (!((Tree.acc k a v u f).run s xs).2.1.underway || ((Tree.acc k a v u f).run s xs).2.1.off) = true) : Long n ((Tree.acc k a v u f).run s xs).2.1 := by
  rw [Tree.run_acc] at ho ⊢
  have hg := Tree.grows (f (Sept.acc k a v u s xs).1) (Sept.acc k a v u s xs).2.1 (Sept.acc k a v u s xs).2.2
  have hl : Long n (Sept.acc k a v u s xs).2.1 := by
    refine h.acc k a v u xs (fun e => ho ?_)
    simp only [Bool.or_eq_true, Bool.not_eq_eq_eq_not, Bool.not_true] at e ⊢
    rcases e with e | e
    · exact .inl (hg.underway.trans e)
    · exact .inr (hg.off e)
  refine ⟨hl.pos, by rw [hg.most]; exact hg.under hl.most, fun e1 e2 => ?_⟩
  have h9 := hl.far (hg.underway.symm.trans e1) (by
    cases h6 : (Sept.acc k a v u s xs).2.1.off with
    | false => rfl
    | true => rw [hg.off h6] at e2; exact absurd e2 (by decide))
  have h8 := hg.asked
  rw [hg.most]
  omega

/-- Behind a tree that begins with an access, of a frame that was not off ahead of it. -/
theorem Long.turn {α : Type} {n m : Nat} {s : FrSt} (h : Long (n + 1) s) (hs : (!s.underway || s.off) = false) (k a v u : Int) (f : Int → Tree α m) (xs : List Int) : Long n ((Tree.acc k a v u f).run s xs).2.1 := by
  by_cases ho : (!((Tree.acc k a v u f).run s xs).2.1.underway || ((Tree.acc k a v u f).run s xs).2.1.off) = true
  · simp only [Bool.or_eq_false_iff, Bool.not_eq_eq_eq_not, Bool.not_false] at hs
    have h9 := h.far hs.1 hs.2
    have h8 := h.most
    have hg := Tree.grows (Tree.acc k a v u f) s xs
    refine ⟨by omega, by rw [hg.most]; exact hg.under h8, fun e1 e2 => ?_⟩
    rw [e1, e2] at ho
    exact absurd ho (by decide)
  · exact h.tree k a v u f xs ho

def loadsT {α : Type} (a : Int) {d : Nat} (k : List Int → Tree α d) : (m : Nat) → (l : List Int) → Tree α (d + m)
  | 0, l => k l
  | m + 1, l => .acc 0 (wordA a l.length) 0 0 fun v => loadsT a k m (l ++ [v])
def oddB (c : Int) : Bool := c.tmod 2 != 0
/-- The last load of a turn. -/
def lastT (a c : Int) (l : List Int) : Tree (Option (List Int)) 2 := .acc 0 a 0 0 fun c2 => .off fun o => .ret (if (!o && (c2 == c)) = true then some l else none)
def wordsT (a : Int) (n : Nat) (c : Int) : Tree (Option (List Int)) (2 + n) := if oddB c = true then .ret none else loadsT a (lastT a c) n []
/-- One turn of a Read. -/
def oneT (a : Int) (n : Nat) : Tree (Option (List Int)) (2 + n + 1) := .acc 0 a 0 0 fun c => wordsT a n c
def rdD (n : Nat) : Nat → Nat
  | 0 => 0
  | m + 1 => rdD n m + (2 + n + 1) + 1
theorem rdD_eq (n m : Nat) : rdD n m = m * (n + 4) := by
  induction m with
  | zero => simp [rdD]
  | succ m ih => rw [rdD, ih, Nat.succ_mul]; omega
/-- Turns till one is good, m at most. -/
def turnsT (a : Int) (n : Nat) : (m : Nat) → Tree (Option (List Int)) (rdD n m)
  | 0 => .ret none
  | m + 1 => .off fun o => if o = true then .ret none else (oneT a n).bind fun r => match r with
    | some l => .ret (some l)
    | none => turnsT a n m
def readT (a : Int) (n m : Nat) : Tree (Option (List Int)) (rdD n m) := if n = 0 ∨ 16 < n then .ret none else turnsT a n m

theorem turnsT_run (a : Int) (n m : Nat) (s : FrSt) (xs : List Int) : (turnsT a n (m + 1)).run s xs =
    if (!s.underway || s.off) = true then (none, s, xs) else match ((oneT a n).run s xs).1 with
      | some l => (some l, ((oneT a n).run s xs).2)
      | none => (turnsT a n m).run ((oneT a n).run s xs).2.1 ((oneT a n).run s xs).2.2 := by
  show Tree.run (if (!s.underway || s.off) = true then .ret none else (oneT a n).bind fun r => match r with
    | some l => .ret (some l)
    | none => turnsT a n m) s xs = _
  split
  · rw [Tree.run_ret]
  · rw [Tree.run_bind]
    split
    · rw [Tree.run_ret]
    · rfl

theorem set_at (l ys : List Int) (v : Int) (h : l.length < ys.length) : (l ++ ys.drop l.length).set l.length v = (l ++ [v]) ++ ys.drop (l ++ [v]).length := by
  rw [List.set_append_right _ _ (Nat.le_refl _), Nat.sub_self, List.drop_eq_getElem_cons h, List.set_cons_zero, List.append_assoc, List.length_append]
  rfl
end Go.Sept

namespace Go.Proofs.Ytcafpdnbceoekaa
open Go.RowKit Go.Sept

/-- A frame, its memory, and the words that are read, in the row g; what has turned since w. -/
def ReadSt (w : World) (F lb p q g : Nat) (wx : World) (s : FrSt) (xs zs : List Int) : Prop :=
  ∃ lb1, FMIs wx F lb1 p q s xs ∧ (lb1 = lb ∨ w.heap.size ≤ lb1) ∧ Only (fun x => x = F ∨ x = lb ∨ x = q ∨ x = g) w wx ∧ RowIs wx g zs ∧ g ≠ F ∧ g ≠ lb1 ∧ g ≠ p ∧ g ≠ q
section
variable {w wx w2 : World} {F lb p q g : Nat} {s s2 : FrSt} {xs xs2 zs : List Int}
theorem ReadSt.left {lb1 : Nat} (h1 : lb1 = lb ∨ w.heap.size ≤ lb1) (h2 : Only (fun x => x = F ∨ x = lb ∨ x = q ∨ x = g) w wx) (h3 : RowIs wx g zs) (n1 : g ≠ F) (n2 : g ≠ lb1) (n3 : g ≠ p) (n4 : g ≠ q) (k : Left wx F lb1 p q s2 xs2 w2) : ReadSt w F lb p q g w2 s2 xs2 zs := by
  obtain ⟨lb2, k1, k2, k3⟩ := k
  have z := h2.size
  have y := h3.lt
  refine ⟨lb2, k1, by omega, h2.chain k3 (fun i hi e => by omega), h3.only k3 (by omega), n1, by omega, n3, n4⟩
theorem ReadSt.set (h : ReadSt w F lb p q g wx s xs zs) (i : Nat) (v : Int) : ReadSt w F lb p q g (wx.setCell ⟨g, i, none⟩ (.int .i64 v)) s xs (zs.set i v) := by
  obtain ⟨lb1, h1, h2, h3, h4, n1, n2, n3, n4⟩ := h
  have ho := (Only.self g wx).own i (.int .i64 v)
  exact ⟨lb1, h1.only ho (fun e => n1 e.symm) (fun e => n2 e.symm) (fun e => n3 e.symm) (fun e => n4 e.symm), h2, h3.chain ho (fun _ _ e => .inr (.inr (.inr e))), h4.set i v, n1, n2, n3, n4⟩
end

set_option maxRecDepth 100000 in
set_option maxHeartbeats 1000000 in
theorem readOnce_rel (w0 w : World) (F lb p q g : Nat) (s : FrSt) (xs ys : List Int) (h : ReadSt w0 F lb p q g w s xs ys) (a : Int) (n : Nat) (hy : ys.length = n) (hn : n ≤ 16) (hr : Fit (2 + n + 1) s) :
    Calls Try.prog 27 #[.pointer (some ⟨F, 0, none⟩), .int .i64 a, .slice (some ⟨g, 0, none⟩) n n] w fun e w' => e = .returned (.bool ((oneT a n).run s xs).1.isSome) ∧ ∃ zs, ReadSt w0 F lb p q g w' ((oneT a n).run s xs).2.1 ((oneT a n).run s xs).2.2 zs ∧ zs.length = n ∧ ∀ l, ((oneT a n).run s xs).1 = some l → zs = l := by
  obtain ⟨R, hR⟩ : ∃ R, (oneT a n).run s xs = R := ⟨_, rfl⟩
  rw [hR]
  rw [oneT, Tree.run_acc] at hR
  have HR := hid hR
  have HF := hid hr
  obtain ⟨lb1, h1, h2, h3, h4, n1, n2, n3, n4⟩ := h
  have HM := hid h1
  have HL := hid (And.intro h2 (And.intro h3 (And.intro h4 (And.intro n1 (And.intro n2 (And.intro n3 n4))))))
  clear hR hr h1 h2 h3 h4 n1 n2 n3 n4
  go_enter Try.func27, Try.ntmps27
  go_wp2_with fail
  refine (fload_rel _ F lb1 p q s xs HM.out (fit_ready (HF.out.mono (m := 1) (by omega))) a 0 0).mono ?_
  rintro e w1 ⟨rfl, hL1⟩
  have HF1 : Hid (Fit (2 + n) (acc 0 a 0 0 s xs).2.1) := HF.out.acc 0 a 0 0 xs
  have HS1 : Hid (ReadSt w0 F lb p q g w1 (acc 0 a 0 0 s xs).2.1 (acc 0 a 0 0 s xs).2.2 ys) := ReadSt.left HL.out.1 HL.out.2.1 HL.out.2.2.1 HL.out.2.2.2.1 HL.out.2.2.2.2.1 HL.out.2.2.2.2.2.1 HL.out.2.2.2.2.2.2 hL1
  obtain ⟨⟨c, s1, xs1⟩, hE⟩ : ∃ E, acc 0 a 0 0 s xs = E := ⟨_, rfl⟩
  rw [hE] at HF1 HS1 HR
  rw [hE]
  clear hE hL1 HM HL HF
  cases hodd : oddB c
  · have HR1 : Hid ((loadsT a (lastT a c) n []).run s1 xs1 = R) := by
      have h9 := HR.out
      rw [wordsT, if_neg (by rw [hodd]; decide)] at h9
      exact h9
    have hodd' : (c.tmod 2 != 0) = false := hodd
    clear HR hodd
    go_wp2_with fail
    go_loopw [18] (fun i wx => ∃ (l : List Int) (s2 : FrSt) (xs2 : List Int), i = .int .i64 (l.length : Int) ∧ l.length ≤ n ∧ (loadsT a (lastT a c) (n - l.length) l).run s2 xs2 = R ∧ Fit (2 + n - l.length) s2 ∧ ReadSt w0 F lb p q g wx s2 xs2 (l ++ ys.drop l.length)) (fun i _ => n - (intOf i).toNat)
    case atStart => exact ⟨[], s1, xs1, rfl, Nat.zero_le _, HR1.out, HF1.out, HS1.out⟩
    case round =>
      obtain ⟨l, s2, xs2, rfl, hl, hrun, hfit, hst⟩ := hrel
      have HRUN := hid hrun
      have HFIT := hid hfit
      obtain ⟨lb2, h1, h2, h3, h4, n1, n2, n3, n4⟩ := hst
      have HM := hid h1
      have HL := hid (And.intro h2 (And.intro h3 (And.intro h4 (And.intro n1 (And.intro n2 (And.intro n3 n4))))))
      clear hrun hfit h1 h2 h3 h4 n1 n2 n3 n4 HF1 HS1 HR1
      by_cases hlt : (l.length : Int) < n
      · have hln : l.length < n := by omega
        go_wp2_with fail
        refine (fload_rel _ F lb2 p q s2 xs2 HM.out (fit_ready (HFIT.out.mono (m := 1) (by omega))) (wordA a l.length) 0 0).mono ?_
        rintro e w3 ⟨rfl, hL3⟩
        have hS3 := ReadSt.left HL.out.1 HL.out.2.1 HL.out.2.2.1 HL.out.2.2.2.1 HL.out.2.2.2.2.1 HL.out.2.2.2.2.2.1 HL.out.2.2.2.2.2.2 hL3
        have HFIT3 : Hid (Fit (2 + n - (l.length + 1)) (acc 0 (wordA a l.length) 0 0 s2 xs2).2.1) := Fit.acc (HFIT.out.mono (by omega)) 0 (wordA a l.length) 0 0 xs2
        have hrun := HRUN.out
        rw [show n - l.length = (n - (l.length + 1)) + 1 by omega] at hrun
        have hrun' : (loadsT a (lastT a c) (n - (l.length + 1)) (l ++ [(acc 0 (wordA a l.length) 0 0 s2 xs2).1])).run (acc 0 (wordA a l.length) 0 0 s2 xs2).2.1 (acc 0 (wordA a l.length) 0 0 s2 xs2).2.2 = R := hrun
        obtain ⟨⟨v, s3, xs3⟩, hE⟩ : ∃ E, acc 0 (wordA a l.length) 0 0 s2 xs2 = E := ⟨_, rfl⟩
        rw [hE] at hS3 HFIT3 hrun'
        rw [hE]
        have HRUN3 := hid hrun'
        have HS3 : Hid (ReadSt w0 F lb p q g (w3.setCell ⟨g, l.length, none⟩ (.int .i64 v)) s3 xs3 ((l ++ [v]) ++ ys.drop (l ++ [v]).length)) := by
          have h9 := hS3.set l.length v
          rwa [set_at l ys v (by omega)] at h9
        have hx : ∃ x, w3.cell? ⟨g, l.length, none⟩ = some x ∧ w3.frozen? ⟨g, l.length, none⟩ = false := by
          obtain ⟨_, _, _, _, h4, _⟩ := hS3
          exact ⟨_, h4.cell l.length (by rw [List.length_append, List.length_drop]; omega), h4.frozen _⟩
        obtain ⟨x, hx1, hx2⟩ := hx
        clear hE hL3 hS3 hrun hrun' HRUN HFIT HM HL
        go_wp2_with fail
        go_roundw
        case rel => exact ⟨l ++ [v], s3, xs3, by rw [List.length_append]; go_num, by rw [List.length_append]; exact hln, by rw [List.length_append]; exact HRUN3.out, by rw [List.length_append]; exact HFIT3.out, HS3.out⟩
        case measure => simp [intOf]; omega
      · obtain rfl : l.length = n := by omega
        have hrun := HRUN.out
        rw [Nat.sub_self] at hrun
        have hrun' : (lastT a c l).run s2 xs2 = R := hrun
        rw [lastT, Tree.run_acc, Tree.run_off, Tree.run_ret] at hrun'
        have HRUN3 := hid hrun'
        have hend : l ++ ys.drop l.length = l := by rw [List.drop_eq_nil_of_le (by omega), List.append_nil]
        have HEND := hid hend
        clear hend
        clear hrun hrun' HRUN
        go_wp2_with fail
        refine (fload_rel _ F lb2 p q s2 xs2 HM.out (fit_ready (HFIT.out.mono (m := 1) (by omega))) a 0 0).mono ?_
        rintro e w3 ⟨rfl, hL3⟩
        have hS3 := ReadSt.left HL.out.1 HL.out.2.1 HL.out.2.2.1 HL.out.2.2.2.1 HL.out.2.2.2.2.1 HL.out.2.2.2.2.2.1 HL.out.2.2.2.2.2.2 hL3
        rw [HEND.out] at hS3
        obtain ⟨⟨c2, s3, xs3⟩, hE⟩ : ∃ E, acc 0 a 0 0 s2 xs2 = E := ⟨_, rfl⟩
        rw [hE] at hS3 HRUN3
        rw [hE]
        have HS3 := hid hS3
        obtain ⟨lb3, h1, _⟩ := hS3
        have HM3 := hid h1
        clear hE hL3 HM HL HFIT h1
        go_wp2_with fail
        refine (foff_left HM3.out).mono ?_
        rintro e w4 ⟨rfl, rfl⟩
        obtain ⟨o, ho⟩ : ∃ o, (!s3.underway || s3.off) = o := ⟨_, rfl⟩
        rw [ho]
        have hrun := HRUN3.out
        simp only [ho] at hrun
        have HRUN4 := hid hrun
        clear HM3 ho hrun HRUN3
        cases o
        · cases hcc : (c2 == c)
          · have HCC := hid hcc
            go_wp2_with fail
            go_ret
            have h9 := HRUN4.out
            rw [if_neg (by rw [HCC.out]; decide)] at h9
            rw [← h9]
            refine ⟨?_, l, HS3.out, rfl, fun l' e' => by cases e'⟩
            first | rfl | (rw [HCC.out]; rfl) | (simp [HCC.out])
          · have HCC := hid hcc
            go_wp2_with fail
            go_ret
            have h9 := HRUN4.out
            rw [if_pos (by rw [HCC.out]; decide)] at h9
            rw [← h9]
            refine ⟨?_, l, HS3.out, rfl, fun l' e' => by injection e'⟩
            first | rfl | (rw [HCC.out]; rfl) | (simp [HCC.out])
        · go_wp2_with fail
          go_ret
          have h9 := HRUN4.out
          rw [if_neg (by simp)] at h9
          rw [← h9]
          exact ⟨rfl, l, HS3.out, rfl, fun l' e' => by cases e'⟩
  · have HR1 : Hid ((none, s1, xs1) = R) := by
      have h9 := HR.out
      rw [wordsT, if_pos hodd, Tree.run_ret] at h9
      exact h9
    have hodd' : (c.tmod 2 != 0) = true := hodd
    clear HR hodd
    go_wp2_with fail
    go_ret
    rw [← HR1.out]
    exact ⟨rfl, ys, HS1.out, hy, fun l' e' => by cases e'⟩
end Go.Proofs.Ytcafpdnbceoekaa

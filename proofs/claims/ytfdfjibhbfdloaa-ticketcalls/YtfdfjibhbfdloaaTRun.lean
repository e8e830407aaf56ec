/-
  frame.Run of a body that is a tree of accesses, where so many steps are enough. Conditions: all of it lies in blocks that are not the same; the body's own contract.
-/
import Derived.Test.YtfdfjibhbfdloaaTStep
namespace Go.Proofs.Ytfdfjibhbfdloaa
open Go.RowKit Go.Sept

theorem holds_mem {w : World} {p q : Nat} {xs : List Int} (h : Holds 74 w (.pointer (some ⟨p, 0, none⟩)) p q xs) (hp : 0 < xs.length) : MemIs 74 w p q xs := by
  rcases h with ⟨_, h⟩ | ⟨h, _⟩ | ⟨h, _⟩
  · exact h
  · subst h; simp at hp
  · subst h; simp at hp

section
variable {α : Type} {m : Nat} {T : Tree α m} {fn : Nat} {cellsOf : α → Array Value} {tu : TypeId} {n : Nat}

set_option maxRecDepth 100000 in
set_option maxHeartbeats 1000000 in
theorem BodyOf.run_all (hB : BodyOf T fn cellsOf tu n) (w : World) (p q U : Nat) (xs : List Int) (r : α) (most : Int) (hm : Holds 74 w (.pointer (some ⟨p, 0, none⟩)) p q xs) (lp : p < w.heap.size) (lq : q < w.heap.size) (hU : w.heap[U]? = some (.cells (cellsOf r) tu)) (n1 : U ≠ p) (n2 : U ≠ q)
    (hmost : ((T.alone xs).2.2 : Int) ≤ most) (hpos : 0 < most) (hmm : most ≤ 9223372036854775807) (hn : (T.alone xs).2.2 + 4 ≤ n) :
    Calls Try.prog 22 #[.pointer (some ⟨p, 0, none⟩), methV fn U, .int .i64 most] w fun e w' => e = .returned (.bool true) ∧ Holds 74 w' (.pointer (some ⟨p, 0, none⟩)) p q (T.alone xs).2.1 ∧ w'.heap[U]? = some (.cells (cellsOf (T.alone xs).1) tu) ∧ Only (fun k => k = q ∨ k = U) w w' := by
  have lU : U < w.heap.size := lt_of_block hU
  have HN0 := hid hn
  have HM := hid hm
  have HU := hid hU
  have HMO := hid hmost
  have hsm := hB.small
  obtain ⟨R, hR⟩ : ∃ R, T.alone xs = R := ⟨_, rfl⟩
  rw [hR] at HMO HN0
  rw [hR]
  have HR := hid hR
  clear hm hU hmost hR hn
  go_enter Try.func22, Try.ntmps22
  go_wp2_with fail
  refine (fnew_rel _ _).mono ?_
  rintro e w1 ⟨F, rfl, hf1, hF, ho1⟩
  have z1 := ho1.size
  have HB1 : Hid (Beside w1 F F p q U (fresh (some ⟨p, 0, none⟩)) xs (cellsOf r) tu) :=
    ⟨⟨hf1, HM.out.only ho1 (fun h => h) (fun h => h), by omega, by omega, hf1.lt, by omega, by omega, by omega, by omega⟩, (ho1.block U lU (fun h => h)).trans HU.out, by omega, by omega, n1, n2⟩
  have HO1 := hid (ho1.mono (T := fun k => k = q ∨ k = U) (fun _ _ h => h.elim))
  have lF : w.heap.size ≤ F := by omega
  clear hf1 ho1 HM HU hF
  go_wp2_with fail
  go_loopw [12] (fun i wx => ∃ j : Nat, i = .int .i64 (j : Int) ∧ (∃ lb s ys r' t, Beside wx F lb p q U s ys (cellsOf r') tu ∧ T.after s.answers = some t ∧ Tree.halone t ys = (R.1, R.2.1, R.2.2 - j) ∧ ((∃ x, t = Sum.inl x ∧ j = 0) ∨ ∃ A, t = Sum.inr A) ∧ j ≤ R.2.2 ∧ s.log.length = j ∧ s.mp = some ⟨p, 0, none⟩ ∧ s.underway = false ∧ s.done = false ∧ w.heap.size ≤ lb) ∧ Only (fun k => k = q ∨ k = U) w wx) (fun i _ => R.2.2 + 1 - (intOf i).toNat)
  case atStart =>
    obtain ⟨t', ht1, ht2, _⟩ := Tree.after_nil T
    refine ⟨0, rfl, ⟨F, _, xs, r, t', HB1.out, ht1, by rw [ht2, HR.out]; rfl, ?_, Nat.zero_le _, rfl, rfl, rfl, rfl, lF⟩, HO1.out⟩
    rcases t' with x | A
    · exact .inl ⟨x, rfl, rfl⟩
    · exact .inr ⟨A, rfl⟩
  case round =>
    obtain ⟨j, rfl, ⟨lb, s, ys, r', t, hb, ht, hal, hty, hjn, hlen, t1, t2, t3, t4⟩, hOx⟩ := hrel
    have hjm : (j : Int) < most := by
      have h1 := HMO.out
      rcases hty with ⟨x, hx, rfl⟩ | ⟨A, rfl⟩
      · omega
      · have h2 : R.2.2 - j ≠ 0 := by
          have h3 := congrArg (fun z => z.2.2) hal
          simp only [Tree.halone] at h3
          omega
        omega
    have HBx := hid hb
    have HT := hid (And.intro ht (And.intro hal (And.intro t1 (And.intro t2 t3))))
    have HLL := hid hlen
    have HLB := hid t4
    have HOnly : Hid (∀ w9, Only (fun k => k = F ∨ k = lb ∨ k = q ∨ k = U) wr w9 → Only (fun k => k = q ∨ k = U) w w9) := by
      intro w9 h9
      refine hOx.chain h9 (fun i hi e => ?_)
      rcases e with e | e | e | e
      · omega
      · omega
      · exact .inl e
      · exact .inr e
    have HZ := hid hOx.size
    have HL3 : Hid (s.log.length + 3 ≤ n) := by have := HN0.out; show _ ≤ _; omega
    clear hb ht hal t1 t2 t3 t4 hOx HB1 HO1 hlen
    rcases hty with ⟨x, hx, hj0⟩ | ⟨A, hx⟩
    · have HX := hid (And.intro hx hj0)
      clear hx hj0
      go_wp2_with fail
      refine (hB.step0 _ F lb p q U s ys r' _ HBx.out HT.out.2.2.2.2 HT.out.2.2.2.1 HL3.out).mono ?_
      rintro e w9 ⟨rfl, hS⟩
      obtain ⟨s', h1, h2, h3, h4, _⟩ := Tree.step_end T s (j : Int) ys (HX.out.1 ▸ HT.out.1)
      rw [h1] at hS
      rw [h1]
      simp only [h2, Bool.not_false]
      have hal := HT.out.2.1
      rw [HX.out.1] at hal
      simp only [Tree.halone] at hal
      obtain ⟨lb9, hb9, hl9, ho9⟩ := hS
      have HE : Hid (Holds 74 w9 (.pointer (some ⟨p, 0, none⟩)) p q R.2.1 ∧ w9.heap[U]? = some (.cells (cellsOf R.1) tu) ∧ Only (fun k => k = q ∨ k = U) w w9) := by
        have e1 : x = R.1 := congrArg (fun z => z.1) hal
        have e2 : ys = R.2.1 := congrArg (fun z => z.2.1) hal
        rw [← e1, ← e2]
        have h9 := hb9.fm.mem
        rw [show (over s').mp = some ⟨p, 0, none⟩ from h4.trans HT.out.2.2.1] at h9
        exact ⟨h9, hb9.blk, HOnly.out _ ho9⟩
      clear hb9 hl9 ho9 hal h1 h2 h3 h4
      go_wp2_with fail
      go_ret
      exact ⟨rfl, HE.out⟩
    · have HX := hid hx
      clear hx
      go_wp2_with fail
      refine (hB.step _ F lb p q U s ys r' _ HBx.out HT.out.2.2.2.2 HT.out.2.2.2.1 HL3.out (HX.out ▸ HT.out.1)).mono ?_
      rintro e w9 ⟨s', rfl, ⟨lb9, hb9, hl9, ho9⟩, g1, g2, g3, g4⟩
      have hal := HT.out.2.1
      rw [HX.out] at hal
      simp only [Tree.halone] at hal
      obtain ⟨t', ht1, ht2, ht4, ht5⟩ := Tree.after_nil (A.f (ansA A.k A.a A.u ys))
      have hlog : s'.log.length = j + 1 := by rw [g1, List.length_append, HLL.out]; rfl
      have haft : T.after s'.answers = some t' := by
        rw [answers_snoc g1, Tree.after_snoc T _ (HX.out ▸ HT.out.1), ht1]
      have e1 : Tree.halone t' (aftA A.k A.a A.v A.u ys) = (R.1, R.2.1, R.2.2 - (j + 1)) := by
        rw [ht2]
        have e3 := congrArg (fun z => z.1) hal
        have e4 := congrArg (fun z => z.2.1) hal
        have e5 := congrArg (fun z => z.2.2) hal
        simp only at e3 e4 e5
        rw [← e3, ← e4]
        refine Prod.ext rfl (Prod.ext rfl ?_)
        show _ = R.2.2 - (j + 1)
        omega
      have hjn' : j + 1 ≤ R.2.2 := by
        have e5 := congrArg (fun z => z.2.2) hal
        simp only at e5
        omega
      have HO9 := hid (HOnly.out _ ho9)
      have HL9 : Hid (w.heap.size ≤ lb9) := by have := HZ.out; have := HLB.out; show _ ≤ _; omega
      have HG := hid (And.intro (g2.trans HT.out.2.2.1) g3)
      rw [← ht5] at g4
      rw [← ht4] at hb9
      rw [← ht5]
      have HF9 := hid hb9.fm.frame
      have HB9 := hid hb9
      have HLOG := hid hlog
      have HAFT := hid haft
      have HE1 := hid e1
      have HJN := hid hjn'
      rcases t' with x | A'
      · simp only [Tree.hmore, Bool.not_false]
        have HE : Hid (Holds 74 w9 (.pointer (some ⟨p, 0, none⟩)) p q R.2.1 ∧ w9.heap[U]? = some (.cells (cellsOf R.1) tu) ∧ Only (fun k => k = q ∨ k = U) w w9) := by
          simp only [Tree.halone] at e1
          have e2 : x = R.1 := congrArg (fun z => z.1) e1
          have e3 : aftA A.k A.a A.v A.u ys = R.2.1 := congrArg (fun z => z.2.1) e1
          rw [← e2, ← e3]
          have h9 := hb9.fm.mem
          rw [HG.out.1] at h9
          exact ⟨h9, hb9.blk, HO9.out⟩
        clear hal ht1 ht2 ht4 ht5 hlog haft e1 hjn' g1 g2 g3 g4 hl9 ho9 hb9
        go_wp2_with fail
        go_ret
        exact ⟨rfl, HE.out⟩
      · simp only [Tree.hmore, Bool.not_true] at g4 ⊢
        have HG4 := hid g4
        have hne : ((j : Int) + 1 == (j : Int)) = false := beq_eq_false_iff_ne.2 (by omega)
        have hj60 : (j : Int) ≤ 200000 := by have := HN0.out; have := HJN.out; omega
        clear hal ht1 ht2 ht4 ht5 hlog haft e1 hjn' g1 g2 g3 g4 hl9 ho9 hb9
        go_wp2_with fail
        refine (steps_rel _ _ _ _ HF9.out).mono ?_
        rintro e w10 ⟨rfl, rfl⟩
        rw [HLOG.out]
        push_cast
        go_wp2_with fail
        go_roundw
        case rel => exact ⟨j + 1, by go_num, ⟨lb9, s', _, _, _, HB9.out, HAFT.out, HE1.out, .inr ⟨_, rfl⟩, HJN.out, HLOG.out, HG.out.1, HG.out.2, HG4.out, HL9.out⟩, HO9.out⟩
        case measure => have := HJN.out; simp [intOf]; omega
end
end Go.Proofs.Ytfdfjibhbfdloaa

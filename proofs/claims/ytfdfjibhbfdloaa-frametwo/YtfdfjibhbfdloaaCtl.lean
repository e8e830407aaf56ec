/-
  What a body of accesses does by a frame, round by round, in plain numbers: which access is next hangs on the answers alone; a step of a frame answers the accesses that were done as they were, does the next one, and goes off with the one behind it. Conditions: none; no program is named here.
-/
import Derived.Test.YtfdfjibhbfdloaaFrameIs
namespace Go.Sept
open Go.RowKit

/-- An access of a body. -/
structure Ins where
  k : Int
  a : Int
  v : Int
  u : Int
  dep : Bool
  skip : Bool
  mark : Bool
def noIns : Ins := ⟨0, 0, 0, 0, false, false, false⟩

/-- Where a body is: its next access, what the last one answered, all answers, the time of the last mark. -/
structure Ctl where
  i : Nat
  last : Int
  got : List Int
  mt : Option Int
def Ctl.zero : Ctl := ⟨0, 0, [], none⟩
def Ctl.val (c : Ctl) (x : Ins) : Int := if x.dep = true then wrap64 (x.v + c.last) else x.v
def Ctl.odd (c : Ctl) : Bool := c.last.tmod 2 != 0
def lastOf (x : Ins) (r : Int) : Int := if x.k = 0 then r else if x.k = 1 then 0 else if x.k = 2 then r else if (r != 0) = true then 1 else 0
def adv (ins : List Ins) (c : Ctl) (r t : Int) : Ctl :=
  ⟨c.i + 1 + (if ((ins.getD c.i noIns).skip && c.odd) = true then 1 else 0), lastOf (ins.getD c.i noIns) r, c.got ++ [lastOf (ins.getD c.i noIns) r], if (ins.getD c.i noIns).mark = true then some t else c.mt⟩
def ctlOf (ins : List Ins) (h : List (Int × Int)) : Ctl := h.foldl (fun c x => adv ins c x.1 x.2) Ctl.zero
theorem ctlOf_snoc (ins : List Ins) (h : List (Int × Int)) (x : Int × Int) : ctlOf ins (h ++ [x]) = adv ins (ctlOf ins h) x.1 x.2 := by simp [ctlOf]
theorem ctlOf_le (ins : List Ins) (h : List (Int × Int)) : ∀ j, j ≤ h.length → j ≤ (ctlOf ins (h.take j)).i
  | 0, _ => Nat.zero_le _
  | j + 1, hj => by
    have ih := ctlOf_le ins h j (by omega)
    rw [List.take_succ_eq_append_getElem (by omega), ctlOf_snoc]
    simp only [adv]
    omega
/-- All accesses of h were there to be done. -/
def Live (ins : List Ins) (h : List (Int × Int)) : Prop := ∀ j, j < h.length → (ctlOf ins (h.take j)).i < ins.length
theorem Live.nil (ins : List Ins) : Live ins [] := fun j hj => by simp at hj
theorem Live.snoc {ins : List Ins} {h : List (Int × Int)} (hl : Live ins h) (hc : (ctlOf ins h).i < ins.length) (x : Int × Int) : Live ins (h ++ [x]) := by
  intro j hj
  simp at hj
  by_cases e : j < h.length
  · rw [List.take_append_of_le_length (by omega)]
    exact hl j e
  · have : j = h.length := by omega
    subst this
    rw [List.take_left]
    exact hc
theorem Live.length_le {ins : List Ins} {h : List (Int × Int)} (hl : Live ins h) : h.length ≤ ins.length := by
  by_cases e : h.length = 0
  · omega
  · have h1 := hl (h.length - 1) (by omega)
    have h2 := ctlOf_le ins h (h.length - 1) (by omega)
    omega
theorem ctlOf_i_ge (ins : List Ins) (h : List (Int × Int)) : h.length ≤ (ctlOf ins h).i := by
  have := ctlOf_le ins h h.length (Nat.le_refl _)
  rwa [List.take_length] at this

/-- A body underway: where it is, its frame, the words. -/
structure St where
  c : Ctl
  s : FrSt
  xs : List Int
def round (ins : List Ins) (st : St) : St :=
  if st.c.i < ins.length then
    ⟨adv ins st.c (acc (ins.getD st.c.i noIns).k (ins.getD st.c.i noIns).a (st.c.val (ins.getD st.c.i noIns)) (ins.getD st.c.i noIns).u st.s st.xs).1
        ((acc (ins.getD st.c.i noIns).k (ins.getD st.c.i noIns).a (st.c.val (ins.getD st.c.i noIns)) (ins.getD st.c.i noIns).u st.s st.xs).2.1.log.getD ((acc (ins.getD st.c.i noIns).k (ins.getD st.c.i noIns).a (st.c.val (ins.getD st.c.i noIns)) (ins.getD st.c.i noIns).u st.s st.xs).2.1.asked - 1) (0, 0)).2,
      if (ins.getD st.c.i noIns).mark = true then (acc (ins.getD st.c.i noIns).k (ins.getD st.c.i noIns).a (st.c.val (ins.getD st.c.i noIns)) (ins.getD st.c.i noIns).u st.s st.xs).2.1.toMark
        else (acc (ins.getD st.c.i noIns).k (ins.getD st.c.i noIns).a (st.c.val (ins.getD st.c.i noIns)) (ins.getD st.c.i noIns).u st.s st.xs).2.1,
      (acc (ins.getD st.c.i noIns).k (ins.getD st.c.i noIns).a (st.c.val (ins.getD st.c.i noIns)) (ins.getD st.c.i noIns).u st.s st.xs).2.2⟩
  else st
def rounds (ins : List Ins) : Nat → St → St
  | 0, st => st
  | k + 1, st => round ins (rounds ins k st)
theorem rounds_add (ins : List Ins) (a : Nat) (st : St) : ∀ b, rounds ins (a + b) st = rounds ins b (rounds ins a st)
  | 0 => rfl
  | b + 1 => by
    show round ins (rounds ins (a + b) st) = round ins (rounds ins b (rounds ins a st))
    rw [rounds_add ins a st b]
theorem round_over {ins : List Ins} {st : St} (h : ¬ st.c.i < ins.length) : round ins st = st := if_neg h
theorem rounds_over {ins : List Ins} {st : St} (h : ¬ st.c.i < ins.length) : ∀ k, rounds ins k st = st
  | 0 => rfl
  | k + 1 => by
    show round ins (rounds ins k st) = st
    rw [rounds_over h k]
    exact round_over h

/-- What stays of a frame while a body goes on. -/
structure Inv (n : Nat) (s0 s : FrSt) : Prop where
  underway : s.underway = true
  behind : s.asked ≤ s.log.length
  short : s.log.length ≤ s.most
  most : s.most = s0.most
  unheard : s.unheard ≤ n
  mp : s.mp = s0.mp
  now : s.now = s0.now
  done : s.done = s0.done
theorem Inv.acc {n : Nat} {s0 s : FrSt} (h : Inv n s0 s) (k a v u : Int) (xs : List Int) : Inv (n + 1) s0 (Go.Sept.acc k a v u s xs).2.1 := by
  obtain ⟨h1, h2, h3, h4, h5, h6, h7, h8⟩ := h
  unfold Go.Sept.acc
  by_cases hf : s.isFresh = true
  · rw [if_pos hf]
    simp [FrSt.isFresh, h1] at hf
    refine ⟨h1, ?_, ?_, h4, ?_, h6, h7, h8⟩
    · simp [FrSt.kept]; omega
    · simp [FrSt.kept]; omega
    · simp [FrSt.kept]; omega
  · rw [if_neg hf]
    simp only [FrSt.replay]
    rw [if_neg (by simp [h1])]
    by_cases hm : s.asked = s.most
    · rw [if_pos hm]
      exact ⟨h1, h2, h3, h4, by simp; omega, h6, h7, h8⟩
    · rw [if_neg hm]
      simp [FrSt.isFresh, h1, hm] at hf
      exact ⟨h1, by simp; omega, h3, h4, by simp; omega, h6, h7, h8⟩
theorem Inv.toMark {n : Nat} {s0 s : FrSt} (h : Inv n s0 s) : Inv n s0 s.toMark := by
  unfold FrSt.toMark
  split
  · exact ⟨h.underway, h.behind, h.short, h.most, h.unheard, h.mp, h.now, h.done⟩
  · exact h
theorem Inv.mono {n m : Nat} {s0 s : FrSt} (h : Inv n s0 s) (hm : n ≤ m) : Inv m s0 s := ⟨h.underway, h.behind, h.short, h.most, Nat.le_trans h.unheard hm, h.mp, h.now, h.done⟩
theorem round_inv {n : Nat} {s0 : FrSt} {ins : List Ins} {st : St} (h : Inv n s0 st.s) : Inv (n + 1) s0 (round ins st).s := by
  unfold round
  split
  · dsimp only
    split
    · exact (h.acc _ _ _ _ _).toMark
    · exact h.acc _ _ _ _ _
  · exact h.mono (by omega)
theorem rounds_inv {s0 : FrSt} {ins : List Ins} {st : St} (h : Inv 0 s0 st.s) : ∀ k, Inv k s0 (rounds ins k st).s
  | 0 => h
  | k + 1 => round_inv (rounds_inv h k)

theorem begun_inv (s : FrSt) (now : Int) : Inv 0 (FrSt.begun s now) (FrSt.begun s now) := ⟨rfl, by simp [FrSt.begun], by simp [FrSt.begun], rfl, by simp [FrSt.begun], rfl, rfl, rfl⟩
def withMk (s : FrSt) (m : Option Int) : FrSt := { s with mark := m.getD 0, marked := m.isSome }

/-- A frame in whose step j accesses have been asked for. -/
def mid (s : FrSt) (now : Int) (log : List (Int × Int)) (j : Nat) (m : Option Int) : FrSt := withMk { FrSt.begun s now with asked := j, log := log } m

theorem mid_mark (s : FrSt) (now : Int) (log : List (Int × Int)) (j : Nat) (m : Option Int) : (mid s now log (j + 1) m).toMark = mid s now log (j + 1) (some (log.getD j (0, 0)).2) := by
  unfold FrSt.toMark
  rw [if_pos ⟨rfl, by simp [mid, withMk]⟩]
  simp [mid, withMk]

/-- The accesses that were done are answered as they were. -/
theorem rounds_replay (ins : List Ins) (s : FrSt) (now : Int) (xs : List Int) (hl : Live ins s.log) :
    ∀ j, j ≤ s.log.length → rounds ins j ⟨Ctl.zero, FrSt.begun s now, xs⟩ = ⟨ctlOf ins (s.log.take j), mid s now s.log j (ctlOf ins (s.log.take j)).mt, xs⟩
  | 0, _ => by simp [rounds, ctlOf, Ctl.zero, mid, withMk, FrSt.begun]
  | j + 1, hj => by
    have ih := rounds_replay ins s now xs hl j (by omega)
    have hi := hl j (by omega)
    show round ins (rounds ins j _) = _
    rw [ih]
    have hnf : (mid s now s.log j (ctlOf ins (s.log.take j)).mt).isFresh = false := by
      simp [FrSt.isFresh, mid, withMk, FrSt.begun]
      omega
    have hrep : (mid s now s.log j (ctlOf ins (s.log.take j)).mt).replay = ((s.log.getD j (0, 0)).1, mid s now s.log (j + 1) (ctlOf ins (s.log.take j)).mt) := by
      unfold FrSt.replay
      rw [if_neg (by simp [mid, withMk, FrSt.begun]), if_neg (by simp [mid, withMk, FrSt.begun]; omega)]
      rfl
    have hacc : ∀ k a v u, acc k a v u (mid s now s.log j (ctlOf ins (s.log.take j)).mt) xs = ((s.log.getD j (0, 0)).1, mid s now s.log (j + 1) (ctlOf ins (s.log.take j)).mt, xs) := by
      intro k a v u
      unfold acc
      rw [if_neg (by simp [hnf]), hrep]
    unfold round
    rw [if_pos hi]
    simp only [hacc]
    have htime : ((mid s now s.log (j + 1) (ctlOf ins (s.log.take j)).mt).log.getD ((mid s now s.log (j + 1) (ctlOf ins (s.log.take j)).mt).asked - 1) (0, 0)) = s.log.getD j (0, 0) := rfl
    rw [htime, mid_mark, List.take_succ_eq_append_getElem (show j < s.log.length by omega), ctlOf_snoc]
    have hg : s.log.getD j (0, 0) = s.log[j]'(by omega) := by simp [show j < s.log.length by omega]
    rw [hg]
    by_cases hm : (ins.getD (ctlOf ins (s.log.take j)).i noIns).mark = true
    · simp only [adv, if_pos hm]
    · simp only [adv, if_neg hm]

/-- The next access is done. -/
theorem rounds_fresh (ins : List Ins) (s : FrSt) (now : Int) (xs : List Int) (hl : Live ins s.log) (hc : (ctlOf ins s.log).i < ins.length) (x : Ins) (hx : x = ins.getD (ctlOf ins s.log).i noIns) :
    rounds ins (s.log.length + 1) ⟨Ctl.zero, FrSt.begun s now, xs⟩ =
      ⟨ctlOf ins (s.log ++ [(ansA x.k x.a x.u xs, now)]), mid s now (s.log ++ [(ansA x.k x.a x.u xs, now)]) (s.log.length + 1) (ctlOf ins (s.log ++ [(ansA x.k x.a x.u xs, now)])).mt, aftA x.k x.a ((ctlOf ins s.log).val x) x.u xs⟩ := by
  show round ins (rounds ins s.log.length _) = _
  rw [rounds_replay ins s now xs hl s.log.length (Nat.le_refl _), List.take_length]
  have hf : (mid s now s.log s.log.length (ctlOf ins s.log).mt).isFresh = true := by simp [FrSt.isFresh, mid, withMk, FrSt.begun]
  unfold round
  rw [if_pos hc]
  dsimp only
  rw [← hx]
  unfold acc
  simp only [if_pos hf]
  have hk : (mid s now s.log s.log.length (ctlOf ins s.log).mt).kept (ansA x.k x.a x.u xs) = mid s now (s.log ++ [(ansA x.k x.a x.u xs, now)]) (s.log.length + 1) (ctlOf ins s.log).mt := rfl
  rw [hk, mid_mark, ctlOf_snoc]
  have htime : ((mid s now (s.log ++ [(ansA x.k x.a x.u xs, now)]) (s.log.length + 1) (ctlOf ins s.log).mt).log.getD ((mid s now (s.log ++ [(ansA x.k x.a x.u xs, now)]) (s.log.length + 1) (ctlOf ins s.log).mt).asked - 1) (0, 0)) = (ansA x.k x.a x.u xs, now) := by
    simp [mid, withMk]
  have hg : (s.log ++ [(ansA x.k x.a x.u xs, now)]).getD s.log.length (0, 0) = (ansA x.k x.a x.u xs, now) := by simp
  rw [htime, hg]
  subst hx
  by_cases hm : (ins.getD (ctlOf ins s.log).i noIns).mark = true
  · simp only [adv, if_pos hm]
  · simp only [adv, if_neg hm]

/-- Behind it the frame is off, and does nothing. -/
theorem rounds_off (ins : List Ins) (st : St) (hu : st.s.underway = true) (ha : st.s.asked = st.s.most) :
    ∀ k, (rounds ins k st).s.underway = true ∧ (rounds ins k st).s.asked = (rounds ins k st).s.most ∧ (rounds ins k st).s.log = st.s.log ∧ (rounds ins k st).xs = st.xs ∧ (st.s.off = true → (rounds ins k st).s.off = true) ∧ (st.c.i < ins.length → 0 < k → (rounds ins k st).s.off = true)
  | 0 => ⟨hu, ha, rfl, rfl, fun h => h, fun _ h => by omega⟩
  | k + 1 => by
    obtain ⟨h1, h2, h3, h4, h5, h6⟩ := rounds_off ins st hu ha k
    show (round ins (rounds ins k st)).s.underway = true ∧ _
    by_cases hi : (rounds ins k st).c.i < ins.length
    · have hnf : (rounds ins k st).s.isFresh = false := by simp [FrSt.isFresh, h2]
      have hrep : (rounds ins k st).s.replay = (0, { (rounds ins k st).s with off := true, unheard := (rounds ins k st).s.unheard + 1 }) := by
        unfold FrSt.replay
        rw [if_neg (by simp [h1]), if_pos h2]
      have e : round ins (rounds ins k st) = round ins (rounds ins k st) := rfl
      show (round ins (rounds ins k st)).s.underway = true ∧ (round ins (rounds ins k st)).s.asked = (round ins (rounds ins k st)).s.most ∧ (round ins (rounds ins k st)).s.log = st.s.log ∧ (round ins (rounds ins k st)).xs = st.xs ∧ (st.s.off = true → (round ins (rounds ins k st)).s.off = true) ∧ (st.c.i < ins.length → 0 < k + 1 → (round ins (rounds ins k st)).s.off = true)
      unfold round
      rw [if_pos hi]
      simp only [acc, hnf, Bool.false_eq_true, if_false, hrep]
      unfold FrSt.toMark
      split <;> (try split) <;> exact ⟨h1, h2, h3, h4, fun _ => rfl, fun _ _ => rfl⟩
    · have e : round ins (rounds ins k st) = rounds ins k st := round_over hi
      show (round ins (rounds ins k st)).s.underway = true ∧ (round ins (rounds ins k st)).s.asked = (round ins (rounds ins k st)).s.most ∧ (round ins (rounds ins k st)).s.log = st.s.log ∧ (round ins (rounds ins k st)).xs = st.xs ∧ (st.s.off = true → (round ins (rounds ins k st)).s.off = true) ∧ (st.c.i < ins.length → 0 < k + 1 → (round ins (rounds ins k st)).s.off = true)
      rw [e]
      refine ⟨h1, h2, h3, h4, h5, fun hc _ => ?_⟩
      by_cases hk : 0 < k
      · exact h6 hc hk
      · have : k = 0 := by omega
        subst this
        exact absurd hc hi

/-- What a step leaves of a body: h the accesses that were done ahead of it, h' behind it. -/
structure Stepped (ins : List Ins) (s : FrSt) (now : Int) (xs : List Int) (st : St) : Prop where
  mp : st.s.mp = s.mp
  full : (ctlOf ins s.log).i < ins.length → st.s.log = s.log ++ [(ansA (ins.getD (ctlOf ins s.log).i noIns).k (ins.getD (ctlOf ins s.log).i noIns).a (ins.getD (ctlOf ins s.log).i noIns).u xs, now)] ∧
    st.xs = aftA (ins.getD (ctlOf ins s.log).i noIns).k (ins.getD (ctlOf ins s.log).i noIns).a ((ctlOf ins s.log).val (ins.getD (ctlOf ins s.log).i noIns)) (ins.getD (ctlOf ins s.log).i noIns).u xs
  none : ¬ (ctlOf ins s.log).i < ins.length → st.s.log = s.log ∧ st.xs = xs
  off : st.s.off = decide ((ctlOf ins st.s.log).i < ins.length)
  over : ¬ (ctlOf ins st.s.log).i < ins.length → st.c = ctlOf ins st.s.log ∧ st.s.mark = (ctlOf ins st.s.log).mt.getD 0 ∧ st.s.marked = (ctlOf ins st.s.log).mt.isSome

theorem stepped (ins : List Ins) (s : FrSt) (now : Int) (xs : List Int) (hl : Live ins s.log) : Stepped ins s now xs (rounds ins ins.length ⟨Ctl.zero, FrSt.begun s now, xs⟩) := by
  have hinv := rounds_inv (ins := ins) (st := ⟨Ctl.zero, FrSt.begun s now, xs⟩) (begun_inv s now) ins.length
  by_cases hc : (ctlOf ins s.log).i < ins.length
  · have hf := rounds_fresh ins s now xs hl hc _ rfl
    have hge := ctlOf_i_ge ins s.log
    obtain ⟨d, hd⟩ : ∃ d, ins.length = (s.log.length + 1) + d := ⟨ins.length - (s.log.length + 1), by omega⟩
    have hr : rounds ins ins.length ⟨Ctl.zero, FrSt.begun s now, xs⟩ = rounds ins d (rounds ins (s.log.length + 1) ⟨Ctl.zero, FrSt.begun s now, xs⟩) := by
      rw [← rounds_add, ← hd]
    rw [hf] at hr
    generalize hx : ins.getD (ctlOf ins s.log).i noIns = x at *
    by_cases hc' : (ctlOf ins (s.log ++ [(ansA x.k x.a x.u xs, now)])).i < ins.length
    · have hge' := ctlOf_i_ge ins (s.log ++ [(ansA x.k x.a x.u xs, now)])
      simp at hge'
      have ho := rounds_off ins ⟨ctlOf ins (s.log ++ [(ansA x.k x.a x.u xs, now)]), mid s now (s.log ++ [(ansA x.k x.a x.u xs, now)]) (s.log.length + 1) (ctlOf ins (s.log ++ [(ansA x.k x.a x.u xs, now)])).mt, aftA x.k x.a ((ctlOf ins s.log).val x) x.u xs⟩ rfl rfl d
      rw [← hr] at ho
      obtain ⟨_, _, o3, o4, _, o6⟩ := ho
      have o3' : (rounds ins ins.length ⟨Ctl.zero, FrSt.begun s now, xs⟩).s.log = s.log ++ [(ansA x.k x.a x.u xs, now)] := o3
      have hd0 : 0 < d := by omega
      refine ⟨hinv.mp, fun _ => ?_, fun h => absurd hc h, ?_, fun h => ?_⟩
      · rw [hx]
        exact ⟨o3, o4⟩
      · rw [o6 hc' hd0, o3', decide_eq_true hc']
      · rw [o3'] at h
        exact absurd hc' h
    · have ho := rounds_over (ins := ins) (st := ⟨ctlOf ins (s.log ++ [(ansA x.k x.a x.u xs, now)]), mid s now (s.log ++ [(ansA x.k x.a x.u xs, now)]) (s.log.length + 1) (ctlOf ins (s.log ++ [(ansA x.k x.a x.u xs, now)])).mt, aftA x.k x.a ((ctlOf ins s.log).val x) x.u xs⟩) hc' d
      rw [ho] at hr
      rw [hr]
      refine ⟨rfl, fun _ => ?_, fun h => absurd hc h, ?_, fun _ => ⟨rfl, rfl, rfl⟩⟩
      · rw [hx]
        exact ⟨rfl, rfl⟩
      · show false = decide ((ctlOf ins (s.log ++ [(ansA x.k x.a x.u xs, now)])).i < ins.length)
        rw [decide_eq_false hc']
  · have hf := rounds_replay ins s now xs hl s.log.length (Nat.le_refl _)
    rw [List.take_length] at hf
    have hle := hl.length_le
    obtain ⟨d, hd⟩ : ∃ d, ins.length = s.log.length + d := ⟨ins.length - s.log.length, by omega⟩
    have hr : rounds ins ins.length ⟨Ctl.zero, FrSt.begun s now, xs⟩ = rounds ins d (rounds ins s.log.length ⟨Ctl.zero, FrSt.begun s now, xs⟩) := by
      rw [← rounds_add, ← hd]
    rw [hf] at hr
    have ho := rounds_over (ins := ins) (st := ⟨ctlOf ins s.log, mid s now s.log s.log.length (ctlOf ins s.log).mt, xs⟩) hc d
    rw [ho] at hr
    rw [hr]
    refine ⟨rfl, fun h => absurd h hc, fun _ => ⟨rfl, rfl⟩, ?_, fun _ => ⟨rfl, rfl, rfl⟩⟩
    show false = decide ((ctlOf ins s.log).i < ins.length)
    rw [decide_eq_false hc]
end Go.Sept

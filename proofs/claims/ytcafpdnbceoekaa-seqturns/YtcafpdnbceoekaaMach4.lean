/-
  Write and Read as machines. Conditions: none; no program is named here.
-/
import Derived.Test.YtcafpdnbceoekaaVal4
namespace Go.Sept
open Go.RowKit Tree

/-- A Write: how many accesses it did, and the count that it saw. -/
def writeM (a : Int) (l : List Int) : Mach (Nat × Int) Unit where
  obs := fun st => if st.1 = 0 then Sum.inr (0, a, 0, 0) else if st.1 = 1 then Sum.inr (1, a, wrap64 (st.2 + 1), 0) else if st.1 < l.length + 2 then Sum.inr (1, wordA a (st.1 - 2), l.getD (st.1 - 2) 0, 0) else if st.1 = l.length + 2 then Sum.inr (1, a, wrap64 (st.2 + 2), 0) else Sum.inl ()
  next := fun st x => (st.1 + 1, if st.1 = 0 then x else st.2)

section
variable {a : Int} {l : List Int}
theorem writeM_obs (n : Nat) (c : Int) : (writeM a l).obs (n, c) = if n = 0 then Sum.inr (0, a, 0, 0) else if n = 1 then Sum.inr (1, a, wrap64 (c + 1), 0) else if n < l.length + 2 then Sum.inr (1, wordA a (n - 2), l.getD (n - 2) 0, 0) else if n = l.length + 2 then Sum.inr (1, a, wrap64 (c + 2), 0) else Sum.inl () := rfl
theorem writeM_0 (c : Int) : (writeM a l).obs (0, c) = Sum.inr (0, a, 0, 0) := rfl
theorem writeM_1 (c : Int) : (writeM a l).obs (1, c) = Sum.inr (1, a, wrap64 (c + 1), 0) := rfl
theorem writeM_word {j : Nat} (c : Int) (hj : j < l.length) : (writeM a l).obs (j + 2, c) = Sum.inr (1, wordA a j, l.getD j 0, 0) := by
  rw [writeM_obs, if_neg (by omega), if_neg (by omega), if_pos (by omega)]
  rfl
theorem writeM_last (c : Int) : (writeM a l).obs (l.length + 2, c) = Sum.inr (1, a, wrap64 (c + 2), 0) := by
  rw [writeM_obs, if_neg (by omega), if_neg (by omega), if_neg (by omega), if_pos rfl]
theorem writeM_end (c : Int) : (writeM a l).obs (l.length + 3, c) = Sum.inl () := by
  rw [writeM_obs, if_neg (by omega), if_neg (by omega), if_neg (by omega), if_neg (by omega)]
theorem writeM_next0 (c x : Int) : (writeM a l).next (0, c) x = (1, x) := rfl
theorem writeM_next (n : Nat) (c x : Int) : (writeM a l).next (n + 1, c) x = (n + 2, c) := rfl
theorem writeM_more {n : Nat} (c : Int) (h : n < l.length + 3) : ∃ B, (writeM a l).obs (n, c) = Sum.inr B := by
  rw [writeM_obs]
  by_cases h0 : n = 0
  · exact ⟨_, by rw [if_pos h0]⟩
  · by_cases h1 : n = 1
    · exact ⟨_, by rw [if_neg h0, if_pos h1]⟩
    · by_cases h2 : n < l.length + 2
      · exact ⟨_, by rw [if_neg h0, if_neg h1, if_pos h2]⟩
      · exact ⟨_, by rw [if_neg h0, if_neg h1, if_neg h2, if_pos (by omega)]⟩

theorem sim_stores (c : Int) (f j : Nat) (hj : j ≤ l.length) : Sim (writeM a l) f (j + 2, c) (storesT a (.acc 1 a (wrap64 (c + 2)) 0 fun _ => .ret () : Tree Unit 1) (l.drop j) j) := by
  induction f generalizing j with
  | zero => trivial
  | succ f ih =>
    by_cases hjl : j < l.length
    · have e1 : l.drop j = l.getD j 0 :: l.drop (j + 1) := by
        rw [List.drop_eq_getElem_cons hjl, List.getD_eq_getElem?_getD, List.getElem?_eq_getElem hjl]
        rfl
      rw [e1]
      exact Sim.acc (writeM_word c hjl) (fun x => ih (j + 1) hjl)
    · obtain rfl : j = l.length := by omega
      rw [List.drop_length]
      exact Sim.acc (writeM_last c) (fun x => Sim.ret (writeM_end c))
/-- A Write does what its machine does. -/
theorem sim_write (h0 : 0 < l.length) (h16 : l.length ≤ 16) (f : Nat) : Sim (writeM a l) f (0, 0) (writeT a l) := by
  rw [writeT, if_neg (by omega)]
  cases f with
  | zero => trivial
  | succ f =>
    refine Sim.acc (writeM_0 0) (fun c => ?_)
    rw [writeM_next0]
    cases f with
    | zero => trivial
    | succ f =>
      refine Sim.acc (writeM_1 c) (fun x => ?_)
      exact sim_stores c f 0 (Nat.zero_le _)
end

/-- A Write of l over ws, that has done n accesses, at the memory's beginning. -/
def wmem (c : Int) (ws l post : List Int) (n : Nat) : List Int := if n < 2 then valM [] c ws post else if n < l.length + 3 then valM [] (wrap64 (c + 1)) (mixed l ws (n - 2)) post else valM [] (wrap64 (c + 2)) l post
def stW (n : Nat) (c : Int) : Nat × Int := (n, if n = 0 then 0 else c)
section
variable {c : Int} {ws l post : List Int}
theorem wmem_start {n : Nat} (h : n < 2) : wmem c ws l post n = valM [] c ws post := by rw [wmem, if_pos h]
theorem wmem_mid {n : Nat} (h : n < l.length + 1) : wmem c ws l post (n + 2) = valM [] (wrap64 (c + 1)) (mixed l ws n) post := by
  rw [wmem, if_neg (by omega), if_pos (by omega)]
  rfl
theorem wmem_end : wmem c ws l post (l.length + 3) = valM [] (wrap64 (c + 2)) l post := by
  rw [wmem, if_neg (by omega), if_neg (by omega)]
/-- Each access of a Write, as far as nobody else writes. -/
theorem write_go (hl : l.length = ws.length) (h16 : l.length ≤ 16) {n : Nat} (hn : n < l.length + 3) : ∃ k a v u, (writeM 0 l).obs (stW n c) = Sum.inr (k, a, v, u) ∧ (writeM 0 l).next (stW n c) (ansA k a u (wmem c ws l post n)) = stW (n + 1) c ∧ aftA k a v u (wmem c ws l post n) = wmem c ws l post (n + 1) := by
  have v0 : valA (valM [] c ws post) 0 = c := val_count
  match n with
  | 0 =>
    refine ⟨_, _, _, _, writeM_0 0, ?_, ?_⟩
    · rw [load_ans, wmem_start (by omega), v0]
      rfl
    · rw [load_aft, wmem_start (by omega), wmem_start (by omega)]
  | 1 =>
    refine ⟨_, _, _, _, writeM_1 c, rfl, ?_⟩
    rw [store_aft, wmem_start (by omega), wmem_mid (n := 0) (by omega), mixed_zero]
    exact set_count _
  | j + 2 =>
    by_cases hj : j < l.length
    · refine ⟨_, _, _, _, writeM_word c hj, rfl, ?_⟩
      rw [store_aft, wmem_mid (by omega), wmem_mid (n := j + 1) (by omega), ← mixed_set hl hj]
      exact set_word (pre := []) _ (by rw [mixed_length hl]; omega) (by show 0 + 1 + j ≤ _; omega)
    · obtain rfl : j = l.length := by omega
      refine ⟨_, _, _, _, writeM_last c, rfl, ?_⟩
      rw [store_aft, wmem_mid (by omega), wmem_end, mixed_all hl]
      exact set_count _
end

/-- A Read: 0: ahead of its load of the count; 1: with the count and the words that it has; 2: at its end. -/
def readM (a : Int) (n : Nat) : Mach (Nat × Int × List Int) (Option (List Int)) where
  obs := fun st => if st.1 = 0 then Sum.inr (0, a, 0, 0) else if st.1 = 1 then (if st.2.2.length < n then Sum.inr (0, wordA a st.2.2.length, 0, 0) else Sum.inr (0, a, 0, 0)) else Sum.inl (some st.2.2)
  next := fun st x => if st.1 = 0 then (if oddB x = true then (0, 0, []) else (1, x, [])) else if st.1 = 1 then (if st.2.2.length < n then (1, st.2.1, st.2.2 ++ [x]) else if (x == st.2.1) = true then (2, 0, st.2.2) else (0, 0, [])) else st

section
variable {a : Int} {n : Nat}
theorem readM_top : (readM a n).obs (0, 0, []) = Sum.inr (0, a, 0, 0) := rfl
theorem readM_word {c : Int} {l : List Int} (h : l.length < n) : (readM a n).obs (1, c, l) = Sum.inr (0, wordA a l.length, 0, 0) := by
  show (if l.length < n then _ else _) = _
  rw [if_pos h]
theorem readM_last {c : Int} {l : List Int} (h : ¬ l.length < n) : (readM a n).obs (1, c, l) = Sum.inr (0, a, 0, 0) := by
  show (if l.length < n then _ else _) = _
  rw [if_neg h]
theorem readM_end (l : List Int) : (readM a n).obs (2, 0, l) = Sum.inl (some l) := rfl
theorem readM_odd {x : Int} (h : oddB x = true) : (readM a n).next (0, 0, []) x = (0, 0, []) := by
  show (if oddB x = true then _ else _) = _
  rw [if_pos h]
theorem readM_even {x : Int} (h : oddB x = false) : (readM a n).next (0, 0, []) x = (1, x, []) := by
  show (if oddB x = true then _ else _) = _
  rw [if_neg (by rw [h]; decide)]
theorem readM_got {c : Int} {l : List Int} (x : Int) (h : l.length < n) : (readM a n).next (1, c, l) x = (1, c, l ++ [x]) := by
  show (if l.length < n then _ else _) = _
  rw [if_pos h]
theorem readM_good {c : Int} {l : List Int} {x : Int} (h : ¬ l.length < n) (hx : (x == c) = true) : (readM a n).next (1, c, l) x = (2, 0, l) := by
  show (if l.length < n then _ else if (x == c) = true then _ else _) = _
  rw [if_neg h, if_pos hx]
theorem readM_bad {c : Int} {l : List Int} {x : Int} (h : ¬ l.length < n) (hx : (x == c) = false) : (readM a n).next (1, c, l) x = (0, 0, []) := by
  show (if l.length < n then _ else if (x == c) = true then _ else _) = _
  rw [if_neg h, if_neg (by rw [hx]; decide)]

/-- What comes behind a turn. -/
def behindT (a : Int) (n m : Nat) (r : Option (List Int)) : Tree (Option (List Int)) (rdD n m) := match r with
  | some l => .ret (some l)
  | none => turnsT a n m

theorem sim_loads (m : Nat) (c : Int) (f r : Nat) (l : List Int) (hr : l.length + r = n) (hf : f ≤ m) (ih : Sim (readM a n) m (0, 0, []) (turnsT a n m)) : Sim (readM a n) f (1, c, l) ((loadsT a (lastT a c) r l).bind (behindT a n m)) := by
  induction r generalizing l f with
  | zero =>
    have hl : ¬ l.length < n := by omega
    cases f with
    | zero => trivial
    | succ f =>
      show Sim (readM a n) (f + 1) (1, c, l) (.acc 0 a 0 0 fun c2 => .off fun o => (Tree.ret (if (!o && (c2 == c)) = true then some l else none) : Tree (Option (List Int)) 0).bind (behindT a n m))
      refine Sim.acc (readM_last hl) (fun x => Sim.off ?_)
      rw [bind_ret]
      cases hx : (x == c) with
      | true =>
        rw [readM_good hl hx, if_pos (by rfl)]
        exact Sim.ups (Sim.ret (readM_end l)) _
      | false =>
        rw [readM_bad hl hx, if_neg (by decide)]
        exact Sim.ups (Sim.less ih (by omega)) _
  | succ r ihr =>
    have hl : l.length < n := by omega
    cases f with
    | zero => trivial
    | succ f =>
      show Sim (readM a n) (f + 1) (1, c, l) (.acc 0 (wordA a l.length) 0 0 fun v => (loadsT a (lastT a c) r (l ++ [v])).bind (behindT a n m))
      refine Sim.acc (readM_word hl) (fun x => ?_)
      rw [readM_got x hl]
      exact ihr f (l ++ [x]) (by rw [List.length_append, List.length_singleton]; omega) (by omega)

theorem sim_turns (m : Nat) : Sim (readM a n) m (0, 0, []) (turnsT a n m) := by
  induction m with
  | zero => trivial
  | succ m ih =>
    have e : turnsT a n (m + 1) = .off fun o => if o = true then .ret none else (oneT a n).bind (behindT a n m) := rfl
    rw [e]
    refine Sim.off ?_
    rw [if_neg (by decide)]
    have e2 : (oneT a n).bind (behindT a n m) = .acc 0 a 0 0 fun c => (wordsT a n c).bind (behindT a n m) := rfl
    rw [e2]
    refine Sim.acc readM_top (fun c => ?_)
    rw [wordsT]
    cases hc : oddB c with
    | true =>
      rw [readM_odd hc, if_pos rfl, bind_ret]
      exact Sim.ups (Sim.less ih (Nat.le_refl _)) _
    | false =>
      rw [readM_even hc, if_neg (by decide)]
      exact sim_loads m c m n [] (by simp) (Nat.le_refl _) ih
/-- A Read does what its machine does. -/
theorem sim_read (h0 : 0 < n) (h16 : n ≤ 16) (m : Nat) : Sim (readM a n) m (0, 0, []) (readT a n m) := by
  rw [readT, if_neg (by omega)]
  exact sim_turns m
end
end Go.Sept

/-
  What is wrong with a configuration, as plain mathematics. Conditions: none; no program is named here.
-/
import Derived.Test.YtmcmjcaigipoaaaGreatCfg11
namespace Go.Sept

def obOk (o : Ob) : Bool := decide ((o.kind = 0 ∧ 0 ≤ o.size ∧ o.size ≤ 15 ∧ o.prio = false) ∨ (o.kind = 1 ∧ o.size = 0 ∧ o.prio = false) ∨ (o.kind = 3 ∧ o.size = 0) ∨ ((o.kind = 2 ∨ o.kind = 4 ∨ o.kind = 5) ∧ 1 ≤ o.size ∧ o.size ≤ 16) ∨ ((o.kind = 6 ∨ o.kind = 7) ∧ 1 ≤ o.size ∧ o.size ≤ 16 ∧ o.prio = false))
def thOk (n : Nat) (t : Th) : Bool := decide (0 ≤ t.prio ∧ t.prio ≤ 15 ∧ t.caps < 2 ^ n ∧ t.prog.length ≤ 40)
/-- What is wrong with a partition first: 2 to 5; 0: nothing. -/
def partW (p : Pt) : Int := if p.ths.length < 1 ∨ 6 < p.ths.length then 2 else if 8 < p.obs.length then 3 else if p.ths.all (thOk p.obs.length) = false then 4 else if p.obs.all obOk = false then 5 else 0
def firstW : List Pt → Int
  | [] => 0
  | p :: r => if partW p ≠ 0 then partW p else firstW r
def winOk (n : Nat) (x : Win) : Bool := decide (0 ≤ x.part ∧ x.part < n ∧ 1 ≤ x.ticks ∧ x.ticks ≤ 100)
/-- The partition i has a window. -/
def hasWin (ws : List Win) (i : Nat) : Bool := ws.any fun x => decide (x.part = (i : Int))
/-- There is such an object, of a kind. -/
def endOk (ps : List Pt) (p o k : Int) : Bool := decide (0 ≤ p ∧ 0 ≤ o) && ((ps[p.toNat]?.bind fun x => x.obs[o.toNat]?).any fun y => decide (y.kind = k))
def chOk (ps : List Pt) (x : Chn) : Bool := endOk ps x.src x.out 6 && endOk ps x.dst x.inn 7 && decide (x.src ≠ x.dst)
def clash (x y : Chn) : Bool := decide ((x.src = y.src ∧ x.out = y.out) ∨ (x.dst = y.dst ∧ x.inn = y.inn))
/-- What is wrong with the channels behind d. -/
def chansW (ps : List Pt) : List Chn → List Chn → Int
  | _, [] => 0
  | d, x :: r => if chOk ps x = false then 10 else if d.any (clash x) = true then 11 else chansW ps (d ++ [x]) r
def wrongW (c : Cf) : Int :=
  if c.parts.length < 1 ∨ 4 < c.parts.length then 1 else if firstW c.parts ≠ 0 then firstW c.parts
  else if c.wins.length < 1 ∨ 16 < c.wins.length then 6 else if c.wins.all (winOk c.parts.length) = false then 7
  else if (List.range c.parts.length).all (hasWin c.wins) = false then 8
  else if 8 < c.chans.length then 9 else chansW c.parts [] c.chans
/-- How many ticks the windows take, from n on. -/
def frameW : Int → List Win → Int
  | n, [] => n
  | n, x :: r => frameW (if 1 ≤ x.ticks ∧ x.ticks ≤ 100 then min (n + x.ticks) 2147483647 else n) r

theorem caps_lt {c : Int} (h0 : 0 ≤ c) (m : Nat) : c / 2 ^ m = 0 ↔ c < 2 ^ m := by
  have hp : (0 : Int) < 2 ^ m := Int.pow_pos (by decide)
  constructor
  · intro h
    rcases Int.lt_or_le c (2 ^ m) with h1 | h1
    · exact h1
    · have h2 : (1 : Int) ≤ c / 2 ^ m := Int.le_ediv_of_mul_le hp (by rw [Int.one_mul]; exact h1)
      omega
  · exact Int.ediv_eq_zero_of_lt h0

section
variable {α : Type} {xs : List α} {f : α → Bool}
theorem all_yes (h : ∀ i x, i < xs.length → xs[i]? = some x → f x = true) : xs.all f = true := by
  rw [List.all_eq_true]
  intro x hx
  obtain ⟨i, hi, he⟩ := List.getElem_of_mem hx
  exact h i x hi (by rw [List.getElem?_eq_getElem hi, he])
theorem all_no {i : Nat} {x : α} (h : xs[i]? = some x) (hf : f x = false) : xs.all f = false := by
  rw [List.all_eq_false]
  exact ⟨x, List.mem_of_getElem? h, by rw [hf]; decide⟩
theorem any_yes {i : Nat} {x : α} (h : xs[i]? = some x) (hf : f x = true) : xs.any f = true := by
  rw [List.any_eq_true]
  exact ⟨x, List.mem_of_getElem? h, hf⟩
theorem any_no (h : ∀ i x, i < xs.length → xs[i]? = some x → f x = false) : xs.any f = false := by
  rw [List.any_eq_false]
  intro x hx
  obtain ⟨i, hi, he⟩ := List.getElem_of_mem hx
  rw [h i x hi (by rw [List.getElem?_eq_getElem hi, he])]
  decide
theorem drop_of {i : Nat} {x : α} (h : xs[i]? = some x) : xs.drop i = x :: xs.drop (i + 1) := by
  obtain ⟨hi, he⟩ := List.getElem?_eq_some_iff.1 h
  rw [List.drop_eq_getElem_cons hi, he]
theorem take_of {i : Nat} {x : α} (h : xs[i]? = some x) : xs.take (i + 1) = xs.take i ++ [x] := by
  rw [List.take_add_one, h]
  rfl
theorem drop_end {i : Nat} (h : xs.length ≤ i) : xs.drop i = [] := List.drop_eq_nil_of_le h
end
end Go.Sept

/-
  The calls of package ticket, as trees of accesses. Conditions: the frame and its memory are there, and share no block; so many accesses fit.
-/
import Derived.Test.YtfdfjibhbfdloaaFrame8
import Derived.Test.YtfdfjibhbfdloaaTree
import Derived.Deep.LoopGhost
namespace Go.Sept
open Go.RowKit

def drawT (a : Int) : Tree Int 1 := .acc 2 a 1 0 fun r => .ret r
def servedT (a t : Int) : Tree Bool 2 := .acc 0 (wrap64 (a + 1)) 0 0 fun v => .off fun o => .ret (!o && (v == t))
/-- Served till it is, n times at most. -/
def waitT (a t : Int) : (n : Nat) → Tree Int (3 * n)
  | 0 => .ret t
  | n + 1 => .acc 0 (wrap64 (a + 1)) 0 0 fun v => .off fun o => if (!o && (v == t)) = true then .ret t else .off fun o2 => if o2 = true then .ret t else waitT a t n
def enterT (n : Nat) (a : Int) : Tree Int (3 * n + 1) := .acc 2 a 1 0 fun t => waitT a t n
def leaveT (a t : Int) : Tree Unit 1 := .acc 1 (wrap64 (a + 1)) (wrap64 (t + 1)) 0 fun _ => .ret ()
theorem run_draw (a : Int) (s : FrSt) (xs : List Int) : (drawT a).run s xs = Sept.acc 2 a 1 0 s xs := rfl
theorem run_leave (a t : Int) (s : FrSt) (xs : List Int) : (leaveT a t).run s xs = ((), (Sept.acc 1 (wrap64 (a + 1)) (wrap64 (t + 1)) 0 s xs).2) := rfl
theorem run_served (a t : Int) (s : FrSt) (xs : List Int) : (servedT a t).run s xs = (!(!(Sept.acc 0 (wrap64 (a + 1)) 0 0 s xs).2.1.underway || (Sept.acc 0 (wrap64 (a + 1)) 0 0 s xs).2.1.off) && ((Sept.acc 0 (wrap64 (a + 1)) 0 0 s xs).1 == t), (Sept.acc 0 (wrap64 (a + 1)) 0 0 s xs).2) := rfl
theorem run_enter (n : Nat) (a : Int) (s : FrSt) (xs : List Int) : (enterT n a).run s xs = (waitT a (Sept.acc 2 a 1 0 s xs).1 n).run (Sept.acc 2 a 1 0 s xs).2.1 (Sept.acc 2 a 1 0 s xs).2.2 := rfl
end Go.Sept

namespace Go.Proofs.Ytfdfjibhbfdloaa
open Go.RowKit Go.Sept

theorem fit_ready {n : Nat} {s : FrSt} (h : Fit (n + 1) s) : Ready s := ⟨by have := h.heard; omega, by have := h.short; omega, h.behind⟩

theorem left_chain {w w1 w2 : World} {F lb lb1 p q : Nat} {s2 : FrSt} {xs2 : List Int} (h2 : lb1 = lb ∨ w.heap.size ≤ lb1) (h3 : Only (fun x => x = F ∨ x = lb ∨ x = q) w w1) (k : Left w1 F lb1 p q s2 xs2 w2) : Left w F lb p q s2 xs2 w2 := by
  obtain ⟨lb2, k1, k2, k3⟩ := k
  have z := h3.size
  refine ⟨lb2, k1, by omega, h3.chain k3 (fun i hi e => ?_)⟩
  rcases e with e | e | e
  · exact .inl e
  · rcases h2 with h2 | h2
    · exact .inr (.inl (e.trans h2))
    · omega
  · exact .inr (.inr e)

set_option maxHeartbeats 400000 in
theorem draw_rel (w : World) (F lb p q : Nat) (s : FrSt) (xs : List Int) (h : FMIs w F lb p q s xs) (hr : Fit 1 s) (a : Int) :
    Calls Try.prog 43 #[.pointer (some ⟨F, 0, none⟩), .int .i64 a] w fun e w' => e = .returned (.int .i64 ((drawT a).run s xs).1) ∧ Left w F lb p q ((drawT a).run s xs).2.1 ((drawT a).run s xs).2.2 w' := by
  go_enter Try.func43, Try.ntmps43
  go_wp2_with fail
  refine (fadd_rel _ F lb p q s xs h (fit_ready hr) a 1 0).mono ?_
  rintro e w1 ⟨rfl, hL⟩
  have HL := hid hL
  clear hL h
  go_wp2_with fail
  go_ret
  exact ⟨rfl, HL.out⟩

set_option maxHeartbeats 400000 in
theorem leave_rel (w : World) (F lb p q : Nat) (s : FrSt) (xs : List Int) (h : FMIs w F lb p q s xs) (hr : Fit 1 s) (a t : Int) :
    Calls Try.prog 42 #[.pointer (some ⟨F, 0, none⟩), .int .i64 a, .int .i64 t] w fun e w' => e = .returned (.tuple #[]) ∧ Left w F lb p q ((leaveT a t).run s xs).2.1 ((leaveT a t).run s xs).2.2 w' := by
  go_enter Try.func42, Try.ntmps42
  go_wp2_with fail
  refine (fstore_rel _ F lb p q s xs h (fit_ready hr) (wrap64 (a + 1)) (wrap64 (t + 1)) 0).mono ?_
  rintro e w1 ⟨rfl, hL⟩
  have HL := hid hL
  clear hL h
  go_wp2_with fail
  go_end0
  exact ⟨rfl, HL.out⟩

theorem foff_left {w : World} {F lb p q : Nat} {s : FrSt} {xs : List Int} (h : FMIs w F lb p q s xs) : Calls Try.prog 20 #[.pointer (some ⟨F, 0, none⟩)] w fun e w' => e = .returned (.bool (!s.underway || s.off)) ∧ w' = w := off_rel w F lb s h.frame

set_option maxHeartbeats 400000 in
theorem served_rel (w : World) (F lb p q : Nat) (s : FrSt) (xs : List Int) (h : FMIs w F lb p q s xs) (hr : Fit 1 s) (a t : Int) :
    Calls Try.prog 44 #[.pointer (some ⟨F, 0, none⟩), .int .i64 a, .int .i64 t] w fun e w' => e = .returned (.bool ((servedT a t).run s xs).1) ∧ Left w F lb p q ((servedT a t).run s xs).2.1 ((servedT a t).run s xs).2.2 w' := by
  go_enter Try.func44, Try.ntmps44
  go_wp2_with fail
  refine (fload_rel _ F lb p q s xs h (fit_ready hr) (wrap64 (a + 1)) 0 0).mono ?_
  rintro e w1 ⟨rfl, hL⟩
  have HL := hid hL
  obtain ⟨lb1, hf1, _, _⟩ := hL
  have HF := hid hf1
  clear h hf1
  go_wp2_with fail
  refine (foff_left HF.out).mono ?_
  rintro e w2 ⟨rfl, rfl⟩
  obtain ⟨o, ho⟩ : ∃ o, (!(acc 0 (wrap64 (a + 1)) 0 0 s xs).2.1.underway || (acc 0 (wrap64 (a + 1)) 0 0 s xs).2.1.off) = o := ⟨_, rfl⟩
  rw [ho]
  have HO := hid ho
  clear HF ho
  cases o
  · go_wp2_with fail
    go_ret
    exact ⟨by rw [run_served, HO.out]; simp, HL.out⟩
  · go_wp2_with fail
    go_ret
    exact ⟨by rw [run_served, HO.out]; simp, HL.out⟩
end Go.Proofs.Ytfdfjibhbfdloaa

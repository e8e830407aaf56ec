/-
  The calls of package delta, as trees of accesses. Conditions: none beside what Does asks; Insert of ticks from 0 on.
-/
import Derived.Test.YtmcmjcaigipoaaaGreatList5
namespace Go.Sept
open Go.RowKit

def seekD : Nat → Nat
  | 0 => 2
  | k + 1 => seekD k + 3
abbrev Place : Type := Int × Int × Bool
/-- Which one is the next behind a timer of so many ticks, how many are left to it, and whether its place was found among k. -/
def seekT (h : Int) : (k : Nat) → Int → Int → Tree Place (seekD k)
  | 0, a, r => (nextT h a).bind fun x => (Tree.ret (h, r, !x.2) : Tree Place 0)
  | k + 1, a, r => (nextT h a).bind fun x => if x.2 = true then (loadT (wrap64 (x.1 + 2))).bind fun d => if r < d then Tree.ret (x.1, r, true) else seekT h k x.1 (wrap64 (r - d)) else Tree.ret (h, r, true)
theorem seekT_succ (h : Int) (k : Nat) (a r : Int) : seekT h (k + 1) a r = (nextT h a).bind fun x => if x.2 = true then (loadT (wrap64 (x.1 + 2))).bind fun d => if r < d then Tree.ret (x.1, r, true) else seekT h k x.1 (wrap64 (r - d)) else Tree.ret (h, r, true) := rfl
/-- Behind it: the node is laid ahead of the one that was found. -/
def layT (h n : Int) (x : Place) : Tree Unit 7 := if x.2.2 = true then (aheadT x.1 n).bind fun _ => (storeT (wrap64 (n + 2)) x.2.1).bind fun _ => if x.1 = h then Tree.ret () else (addT (wrap64 (x.1 + 2)) (wrap64 (- x.2.1))).bind fun _ => (Tree.ret () : Tree Unit 0) else Tree.ret ()
def dInsertT (h n t : Int) (k : Nat) : Tree Unit (7 + seekD k) := (seekT h k h t).bind fun x => layT h n x
def dRemoveT (h n : Int) : Tree Unit 11 := (loadT (wrap64 (n + 2))).bind fun d => (nextT h n).bind fun x => if x.2 = true then (addT (wrap64 (x.1 + 2)) d).bind fun _ => (removeT n).bind fun _ => storeT (wrap64 (n + 2)) 0 else ((removeT n).bind fun _ => storeT (wrap64 (n + 2)) 0).up
def dTickT (h : Int) : Tree Unit 4 := (nextT h h).bind fun x => if x.2 = true then (loadT (wrap64 (x.1 + 2))).bind fun d => if 0 < d then (addT (wrap64 (x.1 + 2)) (-1)).bind fun _ => (Tree.ret () : Tree Unit 0) else Tree.ret () else Tree.ret ()
def dDueT (h : Int) : Tree (Int × Bool) 10 := (nextT h h).bind fun x => if x.2 = true then (loadT (wrap64 (x.1 + 2))).bind fun d => if d = 0 then (removeT x.1).bind fun _ => offT.bind fun o => (Tree.ret (if o = true then (0, false) else (x.1, true)) : Tree (Int × Bool) 0) else Tree.ret (0, false) else Tree.ret (0, false)
abbrev placeV (x : Place) : Value := .tuple #[.int .i64 x.1, .int .i64 x.2.1, .bool x.2.2]
end Go.Sept

namespace Go.Proofs.YtmcmjcaigipoaaaGreat
open Go.RowKit Go.Sept

theorem At.low {w w1 : World} {F lb p q : Nat} {S : Nat → Prop} {B : Bag} {β : Type} {n : Nat} {T : Tree β n} {R : β × FrSt × List Int} (h : At w F lb p q S B T.up R w1) : At w F lb p q S B T R w1 := by
  obtain ⟨s, xs, lb1, h1, h2, h3, h4, h5, h6⟩ := h
  exact ⟨s, xs, lb1, h1, h2, h3, h4, h5.mono (Nat.le_succ _), by rw [← h6, Tree.run_up]⟩

set_option maxHeartbeats 400000 in
theorem dInit_does (h : Int) : Does 26 (fun f => #[f, .int .i64 h]) (joinT h h) (fun _ => .tuple #[]) := by
  refine Does.of fun w F lb p q R h0 => ?_
  have H := hid h0
  clear h0
  go_enter Tryz.func26, Tryz.ntmps26
  go_wp2_with fail
  refine (H.out.tail (listInit_does h)).mono ?_
  rintro e w1 ⟨x1, rfl, h1⟩
  have H1 := hid h1
  clear H h1
  go_wp2_with fail
  go_end0
  exact ⟨_, rfl, H1.out⟩

end Go.Proofs.YtmcmjcaigipoaaaGreat

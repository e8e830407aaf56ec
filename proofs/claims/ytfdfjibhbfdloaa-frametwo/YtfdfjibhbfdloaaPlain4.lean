/-
  septumlaw02's plain accesses, told by logs. Conditions: all of it lies in blocks that are not the same; at most 60 accesses.
-/
import Derived.Test.YtfdfjibhbfdloaaPlain3
namespace Go.Proofs.Ytfdfjibhbfdloaa
open Go.RowKit Go.Sept

theorem got_len (ins : List Ins) : ∀ (l : List (Int × Int)) (c : Ctl), (l.foldl (fun c x => adv ins c x.1 x.2) c).got.length = c.got.length + l.length
  | [], c => rfl
  | x :: l, c => by
    rw [List.foldl_cons, got_len ins l]
    simp [adv]
    omega

/-- A plain step, told by logs. -/
theorem pstep_log (w : World) (Q gb rp rq LB : Nat) (lo : Option Addr) (lc : Nat) (ins : List Ins) (log : List (Int × Int)) (ys : List Int) (now : Int) (h : Plain w Q gb rp rq LB lo lc ins (PR.of (ctlOf ins log) log.length) ys) (hlen : ins.length ≤ 60) (hl : Live ins log) (hc : (ctlOf ins log).i < ins.length) :
    Calls Try.prog 15 #[.pointer (some ⟨Q, 0, none⟩), .pointer (some ⟨rp, 0, none⟩), .int .i64 now] w fun e w' => e = .returned (.bool true) ∧ ∃ gb', Plain w' Q gb' rp rq LB lo lc ins (PR.of (ctlOf ins (nextLog ins log ys now)) (nextLog ins log ys now).length) (nextWords ins log ys) ∧
      (gb' = gb ∨ w.heap.size ≤ gb') ∧ Only (fun k => k = Q ∨ k = gb ∨ k = rq) w w' := by
  have h1 := hl.length_le
  have hg : (ctlOf ins log).got.length = log.length := by
    rw [ctlOf, got_len]
    exact Nat.zero_add _
  refine (pstep_go w Q gb rp rq LB lo lc ins (ctlOf ins log) log.length ys now h hlen hc (by omega) (by omega) _ rfl).mono ?_
  rintro e w' ⟨rfl, gb', hP, h2, h3⟩
  refine ⟨rfl, gb', ?_, h2, h3⟩
  rw [nextLog, ctlOf_snoc, List.length_append]
  exact hP

/-- New plain accesses. -/
theorem plain_new {w : World} {Q rp rq LB : Nat} {lo : Option Addr} {lc : Nat} {ins : List Ins} {ys : List Int} (hm : MemIs 43 w rp rq ys) (hq : w.heap[Q]? = some (.cells #[.slice lo ins.length lc, .int .i64 0, .int .i64 0, .slice none 0 0, .int .i64 0, .int .i64 0, .bool false] 36)) (hi : InsIs w lo LB ins)
    (h1 : Q ≠ rp) (h2 : Q ≠ rq) (h3 : 0 < ins.length → LB ≠ Q ∧ LB ≠ rq) : Plain w Q Q rp rq LB lo lc ins (PR.of (ctlOf ins []) ([] : List (Int × Int)).length) ys :=
  ⟨⟨_, hq, Grow.nil _ _ _ _⟩, .inl ⟨rfl, hm⟩, hi, ⟨lt_of_block hq, lt_of_block hq, lt_of_block hm.head, hm.row.lt⟩, ⟨h1, h2, h1, h2⟩, fun h0 => ⟨(h3 h0).1, (h3 h0).1, (h3 h0).2⟩⟩
end Go.Proofs.Ytfdfjibhbfdloaa

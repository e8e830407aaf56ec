/-
  A body of septumlaw02 as it lies in the heap: its block, its answers, its accesses. Conditions: none.
-/
import Derived.Test.YtfdfjibhbfdloaaFrame8
import Derived.Test.YtfdfjibhbfdloaaCtl
namespace Go.Proofs.Ytfdfjibhbfdloaa
open Go.RowKit Go.Sept

/-- The accesses lie in the block LB. -/
def InsIs (w : World) (lo : Option Addr) (LB : Nat) (ins : List Ins) : Prop :=
  ∃ off, ∀ i, i < ins.length → lo = some ⟨LB, off, none⟩ ∧ w.cell? ⟨LB, off + i * 7, none⟩ = some (.int .u8 (ins.getD i noIns).k) ∧ w.cell? ⟨LB, off + i * 7 + 1, none⟩ = some (.int .i64 (ins.getD i noIns).a) ∧
    w.cell? ⟨LB, off + i * 7 + 2, none⟩ = some (.int .i64 (ins.getD i noIns).v) ∧ w.cell? ⟨LB, off + i * 7 + 3, none⟩ = some (.int .i64 (ins.getD i noIns).u) ∧ w.cell? ⟨LB, off + i * 7 + 4, none⟩ = some (.bool (ins.getD i noIns).dep) ∧
    w.cell? ⟨LB, off + i * 7 + 5, none⟩ = some (.bool (ins.getD i noIns).skip) ∧ w.cell? ⟨LB, off + i * 7 + 6, none⟩ = some (.bool (ins.getD i noIns).mark)
theorem InsIs.only {w w' : World} {lo : Option Addr} {LB : Nat} {ins : List Ins} {S : Nat → Prop} (h : InsIs w lo LB ins) (ho : Only S w w') (hb : 0 < ins.length → ¬ S LB) : InsIs w' lo LB ins := by
  obtain ⟨off, h⟩ := h
  refine ⟨off, fun i hi => ?_⟩
  obtain ⟨h0, h1, h2, h3, h4, h5, h6, h7⟩ := h i hi
  have e := ho.block LB (World.block_lt_of_cell? _ _ h1) (hb (by omega))
  exact ⟨h0, (World.cell?_of_block e).trans h1, (World.cell?_of_block e).trans h2, (World.cell?_of_block e).trans h3, (World.cell?_of_block e).trans h4, (World.cell?_of_block e).trans h5, (World.cell?_of_block e).trans h6, (World.cell?_of_block e).trans h7⟩
theorem InsIs.lt {w : World} {lo : Option Addr} {LB : Nat} {ins : List Ins} (h : InsIs w lo LB ins) (hn : 0 < ins.length) : LB < w.heap.size := by
  obtain ⟨off, h⟩ := h
  exact World.block_lt_of_cell? _ _ (h 0 hn).2.1

/-- The body P, its answers in the block gb. -/
def ProgIs (w : World) (P gb : Nat) (lo : Option Addr) (ln lc : Nat) (last : Int) (got : List Int) : Prop :=
  ∃ gv, w.heap[P]? = some (.cells #[.slice lo ln lc, gv, .int .i64 last] 33) ∧ Grow 2 1 w gv gb got.length (got.map (Value.int .i64))
theorem ProgIs.only {w w' : World} {P gb : Nat} {lo : Option Addr} {ln lc : Nat} {last : Int} {got : List Int} {S : Nat → Prop} (h : ProgIs w P gb lo ln lc last got) (ho : Only S w w') (hP : ¬ S P) (hg : ¬ S gb) : ProgIs w' P gb lo ln lc last got := by
  obtain ⟨gv, h1, h2⟩ := h
  exact ⟨gv, (ho.block P (lt_of_block h1) hP).trans h1, h2.only ho hg⟩
theorem ProgIs.lt {w : World} {P gb : Nat} {lo : Option Addr} {ln lc : Nat} {last : Int} {got : List Int} (h : ProgIs w P gb lo ln lc last got) : P < w.heap.size := by
  obtain ⟨gv, h1, _⟩ := h
  exact lt_of_block h1

/-- Which blocks are there, and are not the same. -/
structure Sep (n ln F lb p q P gb LB : Nat) : Prop where
  z : F < n ∧ lb < n ∧ p < n ∧ q < n ∧ P < n ∧ gb < n
  pn : P ≠ F ∧ P ≠ lb ∧ P ≠ p ∧ P ≠ q
  gn : gb ≠ F ∧ gb ≠ lb ∧ gb ≠ p ∧ gb ≠ q
  ln : 0 < ln → LB < n ∧ LB ≠ F ∧ LB ≠ lb ∧ LB ≠ q ∧ LB ≠ P ∧ LB ≠ gb
theorem ne_new {x b b' n : Nat} (h : x ≠ b) (hx : x < n) (hl : b' = b ∨ n ≤ b') : x ≠ b' := by
  rcases hl with rfl | hl
  · exact h
  · omega
theorem not3 {x a b c : Nat} (h1 : x ≠ a) (h2 : x ≠ b) (h3 : x ≠ c) : ¬ (x = a ∨ x = b ∨ x = c) := by
  rintro (e | e | e)
  · exact h1 e
  · exact h2 e
  · exact h3 e
theorem Sep.lb {n n' ln F lb lb' p q P gb LB : Nat} (h : Sep n ln F lb p q P gb LB) (hn : n ≤ n') (hl : lb' = lb ∨ n ≤ lb') (hl' : lb' < n') : Sep n' ln F lb' p q P gb LB := by
  obtain ⟨⟨z1, z2, z3, z4, z5, z6⟩, ⟨p1, p2, p3, p4⟩, ⟨g1, g2, g3, g4⟩, h4⟩ := h
  exact ⟨⟨Nat.lt_of_lt_of_le z1 hn, hl', Nat.lt_of_lt_of_le z3 hn, Nat.lt_of_lt_of_le z4 hn, Nat.lt_of_lt_of_le z5 hn, Nat.lt_of_lt_of_le z6 hn⟩, ⟨p1, ne_new p2 z5 hl, p3, p4⟩, ⟨g1, ne_new g2 z6 hl, g3, g4⟩,
    fun h0 => ⟨Nat.lt_of_lt_of_le (h4 h0).1 hn, (h4 h0).2.1, ne_new (h4 h0).2.2.1 (h4 h0).1 hl, (h4 h0).2.2.2⟩⟩
theorem Sep.gb {n n' ln F lb p q P gb gb' LB : Nat} (h : Sep n ln F lb p q P gb LB) (hn : n ≤ n') (hl : gb' = gb ∨ n ≤ gb') (hl' : gb' < n') : Sep n' ln F lb p q P gb' LB := by
  obtain ⟨⟨z1, z2, z3, z4, z5, z6⟩, ⟨p1, p2, p3, p4⟩, ⟨g1, g2, g3, g4⟩, h4⟩ := h
  exact ⟨⟨Nat.lt_of_lt_of_le z1 hn, Nat.lt_of_lt_of_le z2 hn, Nat.lt_of_lt_of_le z3 hn, Nat.lt_of_lt_of_le z4 hn, Nat.lt_of_lt_of_le z5 hn, hl'⟩, ⟨p1, p2, p3, p4⟩,
    ⟨(ne_new g1.symm z1 hl).symm, (ne_new g2.symm z2 hl).symm, (ne_new g3.symm z3 hl).symm, (ne_new g4.symm z4 hl).symm⟩,
    fun h0 => ⟨Nat.lt_of_lt_of_le (h4 h0).1 hn, (h4 h0).2.1, (h4 h0).2.2.1, (h4 h0).2.2.2.1, (h4 h0).2.2.2.2.1, ne_new (h4 h0).2.2.2.2.2 (h4 h0).1 hl⟩⟩

/-- A body underway. -/
structure Under (w : World) (F lb p q P gb LB : Nat) (lo : Option Addr) (lc : Nat) (ins : List Ins) (s : FrSt) (xs : List Int) (last : Int) (got : List Int) : Prop where
  fm : FMIs w F lb p q s xs
  pr : ProgIs w P gb lo ins.length lc last got
  il : InsIs w lo LB ins
  sep : Sep w.heap.size ins.length F lb p q P gb LB
/-- What may turn while it goes on. -/
def Own (F lb q P gb : Nat) (k : Nat) : Prop := k = F ∨ k = lb ∨ k = q ∨ k = P ∨ k = gb

theorem Under.only {w w' : World} {F lb p q P gb LB : Nat} {lo : Option Addr} {lc : Nat} {ins : List Ins} {s : FrSt} {xs : List Int} {last : Int} {got : List Int} (h : Under w F lb p q P gb LB lo lc ins s xs last got) (ho : Only (fun _ => False) w w') : Under w' F lb p q P gb LB lo lc ins s xs last got :=
  ⟨h.fm.only ho (fun h => h) (fun h => h) (fun h => h) (fun h => h), h.pr.only ho (fun h => h) (fun h => h), h.il.only ho (fun _ h => h), h.sep.lb ho.size (.inl rfl) (Nat.lt_of_lt_of_le h.sep.z.2.1 ho.size)⟩
/-- Behind an access. -/
theorem Under.acc {w w' : World} {F lb p q P gb LB : Nat} {lo : Option Addr} {lc : Nat} {ins : List Ins} {s s' : FrSt} {xs xs' : List Int} {last : Int} {got : List Int} (h : Under w F lb p q P gb LB lo lc ins s xs last got) (hl : Left w F lb p q s' xs' w') :
    ∃ lb', Under w' F lb' p q P gb LB lo lc ins s' xs' last got ∧ (lb' = lb ∨ w.heap.size ≤ lb') ∧ Only (fun x => x = F ∨ x = lb ∨ x = q) w w' := by
  obtain ⟨lb', hf, hb, ho⟩ := hl
  obtain ⟨h1, h2, h3, h4⟩ := h.sep
  exact ⟨lb', ⟨hf, h.pr.only ho (not3 h2.1 h2.2.1 h2.2.2.2) (not3 h3.1 h3.2.1 h3.2.2.2), h.il.only ho (fun h0 => not3 (h4 h0).2.1 (h4 h0).2.2.1 (h4 h0).2.2.2.1), h.sep.lb ho.size hb hf.ll⟩, hb, ho⟩
/-- Behind a store of what the access answered. -/
theorem Under.put {w : World} {F lb p q P gb LB : Nat} {lo : Option Addr} {lc : Nat} {ins : List Ins} {s : FrSt} {xs : List Int} {last : Int} {got : List Int} (h : Under w F lb p q P gb LB lo lc ins s xs last got) (r : Int) :
    Under (w.setCell ⟨P, 2, none⟩ (.int .i64 r)) F lb p q P gb LB lo lc ins s xs r got ∧ Only (· = P) w (w.setCell ⟨P, 2, none⟩ (.int .i64 r)) := by
  have ho := (Only.self P w).own 2 (.int .i64 r)
  obtain ⟨h1, h2, h3, h4⟩ := h.sep
  refine ⟨⟨h.fm.only ho h2.1.symm h2.2.1.symm h2.2.2.1.symm h2.2.2.2.symm, ?_, h.il.only ho (fun h0 => (h4 h0).2.2.2.2.1), h.sep.lb ho.size (.inl rfl) (Nat.lt_of_lt_of_le h1.2.1 ho.size)⟩, ho⟩
  obtain ⟨gv, g1, g2⟩ := h.pr
  refine ⟨gv, ?_, g2.only' ho (fun cur hc e => ?_)⟩
  · rw [block_setCell g1]
    rfl
  · subst e
    rw [g1] at hc
    injection hc with hc
    injection hc with _ hc
    exact absurd hc (by decide)
theorem Under.cells {w : World} {F lb p q P gb LB : Nat} {lo : Option Addr} {lc : Nat} {ins : List Ins} {s : FrSt} {xs : List Int} {last : Int} {got : List Int} (h : Under w F lb p q P gb LB lo lc ins s xs last got) :
    w.cell? ⟨P, 0, none⟩ = some (.slice lo ins.length lc) ∧ w.cell? ⟨P, 2, none⟩ = some (.int .i64 last) ∧ w.frozen? ⟨P, 2, none⟩ = false ∧ w.frozen? ⟨P, 1, none⟩ = false := by
  obtain ⟨gv, g1, _⟩ := h.pr
  exact ⟨cell_of_block g1 0, cell_of_block g1 2, frozen_of_block g1 2, frozen_of_block g1 1⟩
end Go.Proofs.Ytfdfjibhbfdloaa

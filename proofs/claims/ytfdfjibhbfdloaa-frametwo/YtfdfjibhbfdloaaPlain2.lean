/-
  septumlaw02's plain accesses, done one by one as the document says: the call step. Conditions: all of it lies in blocks that are not the same; at most 60 accesses.
-/
import Derived.Test.YtfdfjibhbfdloaaOpen2
import Derived.Test.YtfdfjibhbfdloaaAlike
namespace Go.Proofs.Ytfdfjibhbfdloaa
open Go.RowKit Go.Sept

structure PR where
  i : Int
  last : Int
  n : Int
  mt : Int
  has : Bool
  got : List Int
def PR.cells (r : PR) (sl gv : Value) : Array Value := #[sl, .int .i64 r.i, .int .i64 r.last, gv, .int .i64 r.n, .int .i64 r.mt, .bool r.has]
/-- Where plain accesses are: the body's place c, n accesses done. -/
def PR.of (c : Ctl) (n : Nat) : PR := ⟨(c.i : Int), c.last, (n : Int), c.mt.getD 0, c.mt.isSome, c.got⟩

structure Plain (w : World) (Q gb rp rq LB : Nat) (lo : Option Addr) (lc : Nat) (ins : List Ins) (r : PR) (ys : List Int) : Prop where
  pl : ∃ gv, w.heap[Q]? = some (.cells (r.cells (.slice lo ins.length lc) gv) 36) ∧ Grow 2 1 w gv gb r.got.length (r.got.map (Value.int .i64))
  rm : Holds 43 w (.pointer (some ⟨rp, 0, none⟩)) rp rq ys
  il : InsIs w lo LB ins
  z : Q < w.heap.size ∧ gb < w.heap.size ∧ rp < w.heap.size ∧ rq < w.heap.size
  ne : Q ≠ rp ∧ Q ≠ rq ∧ gb ≠ rp ∧ gb ≠ rq
  ln : 0 < ins.length → LB ≠ Q ∧ LB ≠ gb ∧ LB ≠ rq

section
variable {w w' : World} {Q gb rp rq LB : Nat} {lo : Option Addr} {lc : Nat} {ins : List Ins} {r : PR} {ys ys' : List Int}
theorem Plain.only {S : Nat → Prop} (h : Plain w Q gb rp rq LB lo lc ins r ys) (ho : Only S w w') (h1 : ¬ S Q) (h2 : ¬ S gb) (h3 : ¬ S rp) (h4 : ¬ S rq) (h5 : 0 < ins.length → ¬ S LB) : Plain w' Q gb rp rq LB lo lc ins r ys := by
  obtain ⟨gv, g1, g2⟩ := h.pl
  obtain ⟨z1, z2, z3, z4⟩ := h.z
  exact ⟨⟨gv, (ho.block Q (lt_of_block g1) h1).trans g1, g2.only ho h2⟩, h.rm.only ho h3 h4, h.il.only ho h5, ⟨Nat.lt_of_lt_of_le z1 ho.size, Nat.lt_of_lt_of_le z2 ho.size, Nat.lt_of_lt_of_le z3 ho.size, Nat.lt_of_lt_of_le z4 ho.size⟩, h.ne, h.ln⟩
theorem Plain.still (h : Plain w Q gb rp rq LB lo lc ins r ys) (ho : Only (fun _ => False) w w') : Plain w' Q gb rp rq LB lo lc ins r ys := h.only ho (fun h => h) (fun h => h) (fun h => h) (fun h => h) (fun _ h => h)
theorem Plain.mem (h : Plain w Q gb rp rq LB lo lc ins r ys) (hm : Holds 43 w' (.pointer (some ⟨rp, 0, none⟩)) rp rq ys') (ho : Only (· = rq) w w') : Plain w' Q gb rp rq LB lo lc ins r ys' := by
  obtain ⟨gv, g1, g2⟩ := h.pl
  obtain ⟨z1, z2, z3, z4⟩ := h.z
  exact ⟨⟨gv, (ho.block Q (lt_of_block g1) h.ne.2.1).trans g1, g2.only ho h.ne.2.2.2⟩, hm, h.il.only ho (fun h0 => (h.ln h0).2.2), ⟨Nat.lt_of_lt_of_le z1 ho.size, Nat.lt_of_lt_of_le z2 ho.size, Nat.lt_of_lt_of_le z3 ho.size, Nat.lt_of_lt_of_le z4 ho.size⟩, h.ne, h.ln⟩
theorem Plain.put (h : Plain w Q gb rp rq LB lo lc ins r ys) {r' : PR} (j : Nat) (v : Value) (e : ∀ sl gv, (r.cells sl gv).setIfInBounds j v = r'.cells sl gv) (hg : r'.got = r.got) :
    Plain (w.setCell ⟨Q, j, none⟩ v) Q gb rp rq LB lo lc ins r' ys ∧ Only (· = Q) w (w.setCell ⟨Q, j, none⟩ v) := by
  have ho := (Only.self Q w).own j v
  obtain ⟨gv, g1, g2⟩ := h.pl
  obtain ⟨z1, z2, z3, z4⟩ := h.z
  refine ⟨⟨⟨gv, by rw [block_setCell g1, e], ?_⟩, h.rm.only ho h.ne.1.symm h.ne.2.1.symm, h.il.only ho (fun h0 => (h.ln h0).1), ⟨Nat.lt_of_lt_of_le z1 ho.size, Nat.lt_of_lt_of_le z2 ho.size, Nat.lt_of_lt_of_le z3 ho.size, Nat.lt_of_lt_of_le z4 ho.size⟩, h.ne, h.ln⟩, ho⟩
  rw [hg]
  refine g2.only' ho (fun cur hc e => ?_)
  subst e
  rw [g1] at hc
  injection hc with hc
  injection hc with _ hc
  exact absurd hc (by decide)
theorem Plain.cells (h : Plain w Q gb rp rq LB lo lc ins r ys) :
    w.cell? ⟨Q, 0, none⟩ = some (.slice lo ins.length lc) ∧ w.cell? ⟨Q, 1, none⟩ = some (.int .i64 r.i) ∧ w.cell? ⟨Q, 2, none⟩ = some (.int .i64 r.last) ∧ w.cell? ⟨Q, 4, none⟩ = some (.int .i64 r.n) ∧ w.cell? ⟨Q, 5, none⟩ = some (.int .i64 r.mt) ∧ w.cell? ⟨Q, 6, none⟩ = some (.bool r.has) ∧ ∀ j, w.frozen? ⟨Q, j, none⟩ = false := by
  obtain ⟨gv, g1, _⟩ := h.pl
  exact ⟨cell_of_block g1 0, cell_of_block g1 1, cell_of_block g1 2, cell_of_block g1 4, cell_of_block g1 5, cell_of_block g1 6, fun j => frozen_of_block g1 j⟩
end

theorem plain_got {w w1 W : World} {Q gb rp rq LB b' cap' : Nat} {lo : Option Addr} {lc : Nat} {ins : List Ins} {r : PR} {ys : List Int} {gv : Value} {o : Obj} (h : Plain w Q gb rp rq LB lo lc ins r ys)
    (g1 : w.heap[Q]? = some (.cells (r.cells (.slice lo ins.length lc) gv) 36)) (g2 : Grow 2 1 w gv gb r.got.length (r.got.map (Value.int .i64))) (eW : W.heap = (w.alloc o).heap) (et : W.os = w.os ∧ W.tape = w.tape ∧ W.output = w.output)
    (hg : Grow 2 1 w1 (.slice (some ⟨b', 0, none⟩) (r.got.length + 1 : Nat) cap') b' (r.got.length + 1) (r.got.map (Value.int .i64) ++ [.int .i64 r.last])) (ho : Only (fun k => gv.ownBlock = some k) W w1) (hb : b' = gb ∨ W.heap.size ≤ b') :
    w1.heap[Q]? = some (.cells (r.cells (.slice lo ins.length lc) gv) 36) ∧ Plain (w1.setCell ⟨Q, 3, none⟩ (.slice (some ⟨b', 0, none⟩) (r.got.length + 1 : Nat) cap')) Q b' rp rq LB lo lc ins { r with got := r.got ++ [r.last] } ys ∧ (b' = gb ∨ w.heap.size ≤ b') ∧
      Only (fun k => k = Q ∨ k = gb) w (w1.setCell ⟨Q, 3, none⟩ (.slice (some ⟨b', 0, none⟩) (r.got.length + 1 : Nat) cap')) := by
  have hO0 : Only (fun _ => False) w W := by
    have h0 := (Only.refl (fun _ => False) w).alloc o
    exact ⟨et.1, et.2.1, et.2.2, by rw [eW]; exact h0.size, fun k hk hs => by rw [eW]; exact h0.block k hk hs⟩
  have hP := lt_of_block g1
  have hfar := g2.far (by decide) g1
  have hP1 : w1.heap[Q]? = some (.cells (r.cells (.slice lo ins.length lc) gv) 36) := (ho.block Q (Nat.lt_of_lt_of_le hP hO0.size) hfar).trans ((hO0.block Q hP (fun h => h)).trans g1)
  have hO1 : Only (fun k => k = Q ∨ k = gb) w w1 := (hO0.mono (T := fun k => k = Q ∨ k = gb) (fun _ _ h => h.elim)).chain ho (fun i _ e => .inr (g2.spot i e))
  have hO2 := hO1.setCell (p := ⟨Q, 3, none⟩) (.inr (.inl rfl)) (.slice (some ⟨b', 0, none⟩) (r.got.length + 1 : Nat) cap')
  have hO3 : Only (· = Q) w1 (w1.setCell ⟨Q, 3, none⟩ (.slice (some ⟨b', 0, none⟩) (r.got.length + 1 : Nat) cap')) := (Only.self Q w1).own 3 _
  have hb' : b' = gb ∨ w.heap.size ≤ b' := by
    rcases hb with h | h
    · exact .inl h
    · exact .inr (Nat.le_trans hO0.size h)
  obtain ⟨z1, z2, z3, z4⟩ := h.z
  obtain ⟨n1, n2, n3, n4⟩ := h.ne
  have not2 : ∀ {x : Nat}, x ≠ Q → x ≠ gb → ¬ (x = Q ∨ x = gb) := fun a b e => by
    rcases e with e | e
    · exact a e
    · exact b e
  have hbl : b' < (w1.setCell ⟨Q, 3, none⟩ (.slice (some ⟨b', 0, none⟩) (r.got.length + 1 : Nat) cap')).heap.size := Nat.lt_of_lt_of_le (hg.lt (Nat.succ_pos _)) hO3.size
  refine ⟨hP1, ⟨⟨_, by rw [block_setCell hP1]; rfl, ?_⟩, h.rm.only hO2 (not2 n1.symm n3.symm) (not2 n2.symm n4.symm), h.il.only hO2 (fun h0 => not2 (h.ln h0).1 (h.ln h0).2.1),
    ⟨Nat.lt_of_lt_of_le z1 hO2.size, hbl, Nat.lt_of_lt_of_le z3 hO2.size, Nat.lt_of_lt_of_le z4 hO2.size⟩, ⟨n1, n2, (ne_new n3.symm z3 hb').symm, (ne_new n4.symm z4 hb').symm⟩, fun h0 => ⟨(h.ln h0).1, ne_new (h.ln h0).2.1 (h.il.lt h0) hb', (h.ln h0).2.2⟩⟩, hb', hO2⟩
  have hg' := hg.only' hO3 (fun cur hc e => by
    subst e
    rw [hP1] at hc
    injection hc with hc
    injection hc with _ hc
    exact absurd hc (by decide))
  show Grow 2 1 _ _ _ (r.got ++ [r.last]).length ((r.got ++ [r.last]).map (Value.int .i64))
  rw [List.length_append, List.map_append]
  exact hg'

set_option maxHeartbeats 1000000 in
theorem pstep_over (w : World) (Q gb rp rq LB : Nat) (lo : Option Addr) (lc : Nat) (ins : List Ins) (c : Ctl) (n : Nat) (ys : List Int) (now : Int) (h : Plain w Q gb rp rq LB lo lc ins (PR.of c n) ys) (hc : ¬ c.i < ins.length) :
    Calls Try.prog 15 #[.pointer (some ⟨Q, 0, none⟩), .pointer (some ⟨rp, 0, none⟩), .int .i64 now] w fun e w' => e = .returned (.bool false) ∧ Plain w' Q gb rp rq LB lo lc ins (PR.of c n) ys ∧ Only (fun _ => False) w w' := by
  obtain ⟨c0, c1, _⟩ := h.cells
  have c1' : w.cell? ⟨Q, 1, none⟩ = some (.int .i64 (c.i : Int)) := c1
  have hc' : (ins.length : Int) ≤ c.i := by omega
  have H := hid h
  clear h c1
  go_enter Try.func15, Try.ntmps15
  go_wp2_with fail
  go_quiet (fail)
  go_wp2_with fail
  go_ret
  exact ⟨rfl, H.out.still (only_drewN (Only.refl _ _) _), only_drewN (Only.refl _ _) _⟩
end Go.Proofs.Ytfdfjibhbfdloaa

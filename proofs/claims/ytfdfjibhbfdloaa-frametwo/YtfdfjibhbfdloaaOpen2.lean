/-
  What the laws of septumlaw02 are handed, opened: an access by value, a list of accesses. Conditions: it can be read.
-/
import Derived.Test.YtfdfjibhbfdloaaAwake2
import Derived.Test.YtfdfjibhbfdloaaLift
import Derived.Lib.SmallJoins
import Derived.Deep.Slices
import Derived.OpenShut
namespace Go.Proofs.Ytfdfjibhbfdloaa
open Go.Sept Go.RowKit Go.ChangeShapes Go.WideShapes Go.ChangeAt Go.Joins Go.Deep

theorem own : ownKnob Try.prog.godebug = none := by kernel_rfl
theorem laidOut : laidOutB Try.prog = true := by kernel_rfl

/-- A body over a frame. -/
theorem under_mk {w : World} {F lb p q P LB : Nat} {lo : Option Addr} {lc : Nat} {ins : List Ins} {s : FrSt} {xs : List Int} (hf : FMIs w F lb p q s xs)
    (hp : w.heap[P]? = some (.cells #[.slice lo ins.length lc, .slice none 0 0, .int .i64 0] 33)) (hi : InsIs w lo LB ins) (h3 : P ≠ F) (h3' : P ≠ lb) (h4 : P ≠ p) (h5 : P ≠ q) (h6 : 0 < ins.length → LB ≠ F ∧ LB ≠ lb ∧ LB ≠ q ∧ LB ≠ P) :
    Under w F lb p q P P LB lo lc ins s xs 0 [] :=
  ⟨hf, ⟨_, hp, Grow.nil _ _ _ _⟩, hi, ⟨⟨hf.frame.lt, hf.ll, hf.lp, hf.lq, lt_of_block hp, lt_of_block hp⟩, ⟨h3, h3', h4, h5⟩, ⟨h3, h3', h4, h5⟩, fun h0 => ⟨hi.lt h0, (h6 h0).1, (h6 h0).2.1, (h6 h0).2.2.1, (h6 h0).2.2.2, (h6 h0).2.2.2⟩⟩⟩

theorem list7 {α : Type} {l : List α} (h : l.length = 7) : ∃ a b c d e f g, l = [a, b, c, d, e, f, g] := by
  match l, h with
  | [a, b, c, d, e, f, g], _ => exact ⟨a, b, c, d, e, f, g, rfl⟩

theorem ins_of_trod {H : Type} {enc : TypeId × Value → H} {W : World} {base : Nat} {spare : Nat → Bool} {held : Bool} {fuel : Nat} {cs : List Value} {x : DataW H × List MemPlace} (h : DataW.trod enc Try.prog W base spare held fuel 70 cs = some x) : ∃ i : Ins, cs = insCells i := by
  obtain ⟨xs, n, _, _, hl, hlen, hf⟩ := DataW.trod_struct Try.underlying70 h
  have hC : Try.prog.cellsOf 70 = 7 := by kernel_rfl
  rw [hC] at hl
  obtain ⟨c0, c1, c2, c3, c4, c5, c6, rfl⟩ := list7 hl
  obtain ⟨y0, y1, y2, y3, y4, y5, y6, rfl⟩ := list7 (l := xs) hlen
  have h2 : Try.prog.cellsOf 2 = 1 := by kernel_rfl
  have h3 : Try.prog.cellsOf 3 = 1 := by kernel_rfl
  have h4 : Try.prog.cellsOf 4 = 1 := by kernel_rfl
  have h5 : Try.prog.cellsOf 5 = 1 := by kernel_rfl
  have t0 : _ = some y0 := hf 0 _ rfl
  have t1 : _ = some y1 := hf 1 _ rfl
  have t2 : _ = some y2 := hf 2 _ rfl
  have t3 : _ = some y3 := hf 3 _ rfl
  have t4 : _ = some y4 := hf 4 _ rfl
  have t5 : _ = some y5 := hf 5 _ rfl
  have t6 : _ = some y6 := hf 6 _ rfl
  obtain ⟨k, u0, _, _⟩ := DataW.trod_int Try.underlying5 t0
  obtain ⟨a, u1, _, _⟩ := DataW.trod_int Try.underlying3 t1
  obtain ⟨v, u2, _, _⟩ := DataW.trod_int Try.underlying2 t2
  obtain ⟨u, u3, _, _⟩ := DataW.trod_int Try.underlying2 t3
  obtain ⟨d, u4, _⟩ := DataW.trod_bool Try.underlying4 t4
  obtain ⟨sk, u5, _⟩ := DataW.trod_bool Try.underlying4 t5
  obtain ⟨m, u6, _⟩ := DataW.trod_bool Try.underlying4 t6
  simp [h2, h3, h4, h5] at u0 u1 u2 u3 u4 u5 u6
  subst u0 u1 u2 u3 u4 u5 u6
  exact ⟨⟨k, a, v, u, d, sk, m⟩, rfl⟩

/-- An access by value. -/
theorem open_ins {H : Type} {enc : TypeId × Value → H} {W : World} {r : Reach} {b0 base : Nat} {spare : Nat → Bool} {held : Bool} {v : Value} {d : DataW H} {p : List MemPlace} (hv : Value.okWide Try.prog W r b0 70 v) (h : DataW.Trod enc Try.prog W base spare held 70 v d p) : ∃ i : Ins, v = .agg (insCells i).toArray := by
  obtain ⟨cs, rfl, hsz⟩ := okWide_struct Try.underlying70 hv
  obtain ⟨fuel, hf⟩ := h
  obtain ⟨i, hi⟩ := ins_of_trod hf
  refine ⟨i, ?_⟩
  have : cs = (insCells i).toArray := by
    rw [← hi]
    simp [Value.cells]
  rw [this]

/-- A list of accesses. -/
theorem open_insList {H : Type} {enc : TypeId × Value → H} {W : World} {ao : Option Addr} {len cap : Nat} {d : DataW H} {p : List MemPlace} (h : DataW.Trod enc Try.prog W 0 (fun _ => true) true 22 (.slice ao len cap) d p) :
    ∃ LB ins, InsIs W ao LB ins ∧ ins.length = len ∧ len ≤ 9223372036854775807 := by
  obtain ⟨fuel, hf⟩ := h
  rcases open_slice Try.underlying22 hf with ⟨hcs, _⟩ | ⟨x, l, c, mm, nn, D, Pl, hcs, _, hl, hmx, hmm, _, hel⟩
  · simp [Value.cells] at hcs
    obtain ⟨rfl, rfl, rfl⟩ := hcs
    exact ⟨0, [], ⟨0, fun i hi => by simp at hi⟩, rfl, by omega⟩
  · simp [Value.cells] at hcs
    obtain ⟨rfl, rfl, rfl⟩ := hcs
    unfold maxLen at hmx
    have hmm' : mm = cap := by simpa using hmm
    have hC : Try.prog.cellsOf 70 = 7 := by kernel_rfl
    rw [hC] at hel
    obtain ⟨b, off, spot⟩ := x
    have key : ∀ i, i < len → ∃ x : Ins, ∀ j, j < 7 → W.cell? (Addr.add ⟨b, off, spot⟩ (i * 7 + j)) = (insCells x)[j]? := by
      intro i hi
      obtain ⟨cs', hcs, ht⟩ := hel i (by omega)
      obtain ⟨_, hln, hcl⟩ := World.cells?_some hcs
      obtain ⟨x, rfl⟩ := ins_of_trod ht
      refine ⟨x, fun j hj => ?_⟩
      have z := hcl j (by omega)
      rw [Go.Deep.add_add] at z
      rw [z]
    have hall : ∃ ins : List Ins, ins.length = len ∧ ∀ i, i < len → ∀ j, j < 7 → W.cell? (Addr.add ⟨b, off, spot⟩ (i * 7 + j)) = (insCells (ins.getD i noIns))[j]? := by
      clear hel
      have : ∀ n, n ≤ len → ∃ ins : List Ins, ins.length = n ∧ ∀ i, i < n → ∀ j, j < 7 → W.cell? (Addr.add ⟨b, off, spot⟩ (i * 7 + j)) = (insCells (ins.getD i noIns))[j]? := by
        intro n
        induction n with
        | zero => exact fun _ => ⟨[], rfl, fun i hi => by omega⟩
        | succ n ih =>
          intro hn
          obtain ⟨ins, h1, h2⟩ := ih (by omega)
          obtain ⟨x, hx⟩ := key n (by omega)
          refine ⟨ins ++ [x], by simp [h1], fun i hi j hj => ?_⟩
          by_cases e : i < n
          · rw [h2 i e j hj, show (ins ++ [x]).getD i noIns = ins.getD i noIns by simp [List.getD_eq_getElem?_getD, List.getElem?_append_left (show i < ins.length by omega)]]
          · have : i = n := by omega
            subst this
            rw [hx j hj, show (ins ++ [x]).getD i noIns = x by rw [← h1]; simp]
      exact this len (Nat.le_refl _)
    obtain ⟨ins, h1, h2⟩ := hall
    refine ⟨b, ins, ⟨off, fun i hi => ?_⟩, h1, by omega⟩
    rw [h1] at hi
    have z0 := h2 0 (by omega) 0 (by omega)
    have hspot : spot = none := by
      have : W.cell? (Addr.add ⟨b, off, spot⟩ (0 * 7 + 0)) = some (.int .u8 (ins.getD 0 noIns).k) := z0
      simpa [Addr.add] using World.cell?_spot this
    subst hspot
    have e : ∀ n, Addr.add ⟨b, off, none⟩ n = ⟨b, off + n, none⟩ := by intro n; simp only [Addr.add]; split <;> simp_all
    have hh : ∀ j, j < 7 → ∀ u, (insCells (ins.getD i noIns))[j]? = some u → W.cell? ⟨b, off + i * 7 + j, none⟩ = some u := by
      intro j hj u hu
      have := h2 i hi j hj
      rw [e, hu] at this
      rw [Nat.add_assoc]
      exact this
    exact ⟨rfl, hh 0 (by omega) _ rfl, hh 1 (by omega) _ rfl, hh 2 (by omega) _ rfl, hh 3 (by omega) _ rfl, hh 4 (by omega) _ rfl, hh 5 (by omega) _ rfl, hh 6 (by omega) _ rfl⟩
theorem infoIns : (Try.prog.info? 70).map (fun i => (i.zero, i.size, i.bytes)) = some (some (.agg #[.int .u8 0, .int .i64 0, .int .i64 0, .int .i64 0, .bool false, .bool false, .bool false]), 7, 40) := by kernel_rfl

theorem ins_one (x : Ins) : ∀ y ∈ insCells x, y.oneCell' = true := by
  intro y hy
  simp only [insCells, List.mem_cons, List.not_mem_nil, or_false] at hy
  rcases hy with rfl | rfl | rfl | rfl | rfl | rfl | rfl <;> rfl
theorem under_mem {w w' : World} {F lb p q P gb LB : Nat} {lo : Option Addr} {lc : Nat} {ins : List Ins} {s : FrSt} {xs xs' : List Int} {last : Int} {got : List Int} (h : Under w F lb p q P gb LB lo lc ins s xs last got) (hm : Holds 74 w' (.pointer s.mp) p q xs') (ho : Only (· = q) w w') :
    Under w' F lb p q P gb LB lo lc ins s xs' last got := by
  obtain ⟨h1, h2, h3, h4⟩ := h.sep
  exact ⟨⟨h.fm.frame.only ho h.fm.n2 h.fm.n4, hm, Nat.lt_of_lt_of_le h.fm.lp ho.size, Nat.lt_of_lt_of_le h.fm.lq ho.size, Nat.lt_of_lt_of_le h.fm.ll ho.size, h.fm.n1, h.fm.n2, h.fm.n3, h.fm.n4⟩,
    h.pr.only ho h2.2.2.2 h3.2.2.2, h.il.only ho (fun h0 => (h4 h0).2.2.2.1), h.sep.lb ho.size (.inl rfl) (Nat.lt_of_lt_of_le h1.2.1 ho.size)⟩
end Go.Proofs.Ytfdfjibhbfdloaa

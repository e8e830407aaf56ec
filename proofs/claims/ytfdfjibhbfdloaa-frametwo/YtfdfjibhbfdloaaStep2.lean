/-
  A step of a frame with a body of septumlaw02. Conditions: all of it lies in blocks that are not the same; at most 60 accesses; the frame is not done.
-/
import Derived.Test.YtfdfjibhbfdloaaBody2
import Derived.Shelf.Abstract
namespace Go.Proofs.Ytfdfjibhbfdloaa
open Go.RowKit Go.Sept

theorem Under.frame {w w' : World} {F lb p q P gb LB : Nat} {lo : Option Addr} {lc : Nat} {ins : List Ins} {s s' : FrSt} {xs : List Int} {last : Int} {got : List Int} (h : Under w F lb p q P gb LB lo lc ins s xs last got) (hm : s'.mp = s.mp) (hf : FrameIs w' F lb s') (ho : Only (· = F) w w') :
    Under w' F lb p q P gb LB lo lc ins s' xs last got := by
  obtain ⟨h1, h2, h3, h4⟩ := h.sep
  exact ⟨h.fm.replay hm hf ho, h.pr.only ho h2.1 h3.1, h.il.only ho (fun h0 => (h4 h0).2.1), h.sep.lb ho.size (.inl rfl) (Nat.lt_of_lt_of_le h1.2.1 ho.size)⟩

/-- The frame behind a step. -/
def FrSt.ended (s : FrSt) : FrSt := { s with underway := false, done := !s.off }
/-- The value of a body. -/
abbrev bodyV (P : Nat) : Value := .func (.func 14) #[.pointer (some ⟨P, 0, none⟩)] #[]

theorem step2_rel (w : World) (F lb p q P gb LB : Nat) (lo : Option Addr) (lc : Nat) (ins : List Ins) (s : FrSt) (xs : List Int) (last : Int) (got : List Int) (now : Int) (h : Under w F lb p q P gb LB lo lc ins s xs last got)
    (hd : s.done = false) (hu : s.underway = false) (hl : Live ins s.log) (hlen : ins.length ≤ 60) :
    Calls Try.prog 13 #[.pointer (some ⟨F, 0, none⟩), .int .i64 now, bodyV P] w fun e w' => ∃ lb' gb' st, Sept.Stepped ins s now xs st ∧ e = .returned (.bool (!st.s.off)) ∧ Under w' F lb' p q P gb' LB lo lc ins (FrSt.ended st.s) st.xs st.c.last st.c.got ∧
      (lb' = lb ∨ w.heap.size ≤ lb') ∧ (gb' = P ∨ w.heap.size ≤ gb') ∧ Only (fun k => k = F ∨ k = lb ∨ k = q ∨ k = P) w w' := by
  have hll := hl.length_le
  refine (step_rel w F lb s now h.fm.frame hd hu (by omega) 14 #[.pointer (some ⟨P, 0, none⟩)] #[]
    (fun w1 lb' s' => s' = (rounds ins ins.length ⟨Ctl.zero, FrSt.begun s now, xs⟩).s ∧ ∃ gb', Under w1 F lb' p q P gb' LB lo lc ins s' (rounds ins ins.length ⟨Ctl.zero, FrSt.begun s now, xs⟩).xs (rounds ins ins.length ⟨Ctl.zero, FrSt.begun s now, xs⟩).c.last (rounds ins ins.length ⟨Ctl.zero, FrSt.begun s now, xs⟩).c.got ∧
      (lb' = lb ∨ w.heap.size ≤ lb') ∧ (gb' = P ∨ w.heap.size ≤ gb') ∧ Only (fun k => k = F ∨ k = lb ∨ k = q ∨ k = P) w w1)
    (enters_of Try.func14 (by kernel_rfl) rfl) ?_).mono ?_
  · intro w1 hf1 ho1
    have hU1 : Under w1 F lb p q P gb LB lo lc ins (FrSt.begun s now) xs last got := h.frame rfl hf1 ho1
    have hO2 : Only (fun _ => False) w1 (w1.alloc (.cells #[.pointer (some ⟨F, 0, none⟩)] 28)) := (Only.refl _ _).alloc _
    have hU2 := hU1.only hO2
    have e1 : (#[Value.pointer (some ⟨P, 0, none⟩)] : Array Value).push (.pointer (some ⟨F, 0, none⟩)) ++ #[] = #[.pointer (some ⟨P, 0, none⟩), .pointer (some ⟨F, 0, none⟩)] := by simp
    rw [e1]
    refine (body_rounds _ F lb p q P gb LB lo lc ins (FrSt.begun s now) xs last got hlen hU2 (begun_inv s now) (by simp [FrSt.begun]; omega)).mono ?_
    rintro e w3 ⟨rfl, lb', gb', hU3, hlb, hgb, ho3⟩
    have z1 := ho1.size
    have z2 := hO2.size
    obtain ⟨⟨y1, y2, y3, y4, y5, y6⟩, _, _, _⟩ := hU1.sep
    refine ⟨rfl, lb', _, ⟨rfl, gb', hU3, ?_, ?_, ?_⟩, hU3.fm.frame, ?_⟩
    · rcases hlb with h9 | h9
      · exact .inl h9
      · exact .inr (by omega)
    · rcases hgb with h9 | h9
      · exact .inl h9
      · exact .inr (by omega)
    · exact (((ho1.mono (T := fun k => k = F ∨ k = lb ∨ k = q ∨ k = P) (fun _ _ e => .inl e)).chain hO2 (fun _ _ e => e.elim)).chain ho3 (fun _ _ e => e))
    · rw [ho3.block w1.heap.size (by simp) (by rintro (e | e | e | e) <;> omega)]
      exact heap_new _ _
  · rintro e w3 ⟨w2, lb', s', ⟨rfl, gb', hU2, hlb, hgb, hO2⟩, rfl, hf3, ho3⟩
    exact ⟨lb', gb', _, stepped ins s now xs hl, rfl, hU2.frame rfl hf3 ho3, hlb, hgb, hO2.chain ho3 (fun _ _ e => .inl e)⟩

/-- The log behind the next access. -/
def nextLog (ins : List Ins) (log : List (Int × Int)) (xs : List Int) (now : Int) : List (Int × Int) :=
  log ++ [(ansA (ins.getD (ctlOf ins log).i noIns).k (ins.getD (ctlOf ins log).i noIns).a (ins.getD (ctlOf ins log).i noIns).u xs, now)]
/-- The words behind it. -/
def nextWords (ins : List Ins) (log : List (Int × Int)) (xs : List Int) : List Int :=
  aftA (ins.getD (ctlOf ins log).i noIns).k (ins.getD (ctlOf ins log).i noIns).a ((ctlOf ins log).val (ins.getD (ctlOf ins log).i noIns)) (ins.getD (ctlOf ins log).i noIns).u xs
/-- Whether a body is done. -/
def overB (ins : List Ins) (log : List (Int × Int)) : Bool := !decide ((ctlOf ins log).i < ins.length)

/-- A step that does an access. -/
theorem step2_go (w : World) (F lb p q P gb LB : Nat) (lo : Option Addr) (lc : Nat) (ins : List Ins) (s : FrSt) (xs : List Int) (last : Int) (got : List Int) (now : Int) (log : List (Int × Int)) (hlog : s.log = log) (h : Under w F lb p q P gb LB lo lc ins s xs last got)
    (hd : s.done = false) (hu : s.underway = false) (hl : Live ins log) (hlen : ins.length ≤ 60) (hc : (ctlOf ins log).i < ins.length) :
    Calls Try.prog 13 #[.pointer (some ⟨F, 0, none⟩), .int .i64 now, bodyV P] w fun e w' => ∃ lb' gb' s' last' got', e = .returned (.bool (overB ins (nextLog ins log xs now))) ∧ Under w' F lb' p q P gb' LB lo lc ins s' (nextWords ins log xs) last' got' ∧
      (s'.mp = s.mp ∧ s'.log = nextLog ins log xs now ∧ s'.underway = false ∧ s'.done = overB ins (nextLog ins log xs now)) ∧
      (overB ins (nextLog ins log xs now) = true → got' = (ctlOf ins (nextLog ins log xs now)).got ∧ s'.mark = (ctlOf ins (nextLog ins log xs now)).mt.getD 0 ∧ s'.marked = (ctlOf ins (nextLog ins log xs now)).mt.isSome) ∧
      (lb' = lb ∨ w.heap.size ≤ lb') ∧ (gb' = P ∨ w.heap.size ≤ gb') ∧ Only (fun k => k = F ∨ k = lb ∨ k = q ∨ k = P) w w' := by
  subst hlog
  refine (step2_rel w F lb p q P gb LB lo lc ins s xs last got now h hd hu hl hlen).mono ?_
  rintro e w' ⟨lb', gb', st, hs, rfl, hU, hlb, hgb, ho⟩
  obtain ⟨h1, h2⟩ := hs.full hc
  have h1' : st.s.log = nextLog ins s.log xs now := h1
  have h2' : st.xs = nextWords ins s.log xs := h2
  have h3 : (!st.s.off) = overB ins (nextLog ins s.log xs now) := by rw [hs.off, h1', overB]
  rw [h2'] at hU
  refine ⟨lb', gb', FrSt.ended st.s, st.c.last, st.c.got, by rw [h3], hU, ⟨hs.mp, h1', rfl, h3⟩, fun ho' => ?_, hlb, hgb, ho⟩
  have h4 := hs.over (by
    rw [h1']
    intro hh
    simp [overB, hh] at ho')
  rw [h1'] at h4
  exact ⟨congrArg Ctl.got h4.1, h4.2⟩

/-- A step of a body of no access. -/
theorem step2_none (w : World) (F lb p q P gb LB : Nat) (lo : Option Addr) (lc : Nat) (ins : List Ins) (s : FrSt) (xs : List Int) (last : Int) (got : List Int) (now : Int) (log : List (Int × Int)) (hlog : s.log = log) (h : Under w F lb p q P gb LB lo lc ins s xs last got)
    (hd : s.done = false) (hu : s.underway = false) (hl : Live ins log) (hlen : ins.length ≤ 60) (hc : ¬ (ctlOf ins log).i < ins.length) :
    Calls Try.prog 13 #[.pointer (some ⟨F, 0, none⟩), .int .i64 now, bodyV P] w fun e w' => ∃ lb' gb' s' last' got', e = .returned (.bool true) ∧ Under w' F lb' p q P gb' LB lo lc ins s' xs last' got' ∧
      (s'.mp = s.mp ∧ s'.log = log ∧ s'.underway = false ∧ s'.done = true) ∧
      (got' = (ctlOf ins log).got ∧ s'.mark = (ctlOf ins log).mt.getD 0 ∧ s'.marked = (ctlOf ins log).mt.isSome) ∧
      (lb' = lb ∨ w.heap.size ≤ lb') ∧ (gb' = P ∨ w.heap.size ≤ gb') ∧ Only (fun k => k = F ∨ k = lb ∨ k = q ∨ k = P) w w' := by
  subst hlog
  refine (step2_rel w F lb p q P gb LB lo lc ins s xs last got now h hd hu hl hlen).mono ?_
  rintro e w' ⟨lb', gb', st, hs, rfl, hU, hlb, hgb, ho⟩
  obtain ⟨h1, h2⟩ := hs.none hc
  have h3 : (!st.s.off) = true := by rw [hs.off, h1, decide_eq_false hc]; rfl
  rw [h2] at hU
  have h4 := hs.over (by rw [h1]; exact hc)
  rw [h1] at h4
  exact ⟨lb', gb', FrSt.ended st.s, st.c.last, st.c.got, by rw [h3], hU, ⟨hs.mp, h1, rfl, h3⟩, ⟨congrArg Ctl.got h4.1, h4.2⟩, hlb, hgb, ho⟩

theorem live_next {ins : List Ins} {log : List (Int × Int)} (hl : Live ins log) (hc : (ctlOf ins log).i < ins.length) (xs : List Int) (now : Int) : Live ins (nextLog ins log xs now) := hl.snoc hc _
theorem over_no {ins : List Ins} {log : List (Int × Int)} (h : overB ins log = false) : (ctlOf ins log).i < ins.length := by simpa [overB] using h

/-! What literals and appends lay -/
def insCells (x : Ins) : List Value := [.int .u8 x.k, .int .i64 x.a, .int .i64 x.v, .int .i64 x.u, .bool x.dep, .bool x.skip, .bool x.mark]
def insFlat : List Ins → List Value
  | [] => []
  | x :: r => insCells x ++ insFlat r
theorem insFlat_length : ∀ l : List Ins, (insFlat l).length = l.length * 7
  | [] => rfl
  | x :: r => by simp only [insFlat, List.length_append, insFlat_length r, insCells, List.length_cons, List.length_nil]; omega
theorem insFlat_append : ∀ l r : List Ins, insFlat (l ++ r) = insFlat l ++ insFlat r
  | [], r => rfl
  | x :: l, r => by simp only [List.cons_append, insFlat, insFlat_append l r, List.append_assoc]
theorem insFlat_at : ∀ (l : List Ins) (i j : Nat), i < l.length → j < 7 → (insFlat l)[i * 7 + j]? = (insCells (l.getD i noIns))[j]?
  | x :: r, 0, j, _, hj => by
    simp only [insFlat, Nat.zero_mul, Nat.zero_add]
    rw [List.getElem?_append_left (by simpa [insCells] using hj)]
    rfl
  | x :: r, i + 1, j, hi, hj => by
    have ih := insFlat_at r i j (by simpa using hi) hj
    simp only [insFlat]
    rw [List.getElem?_append_right (by simp [insCells]; omega)]
    rw [show (i + 1) * 7 + j - (insCells x).length = i * 7 + j by simp [insCells]; omega, ih]
    simp
theorem insIs_of_cells {w : World} {b : Nat} {ins : List Ins} (h : ∀ j u, (insFlat ins)[j]? = some u → w.cell? ⟨b, j, none⟩ = some u) : InsIs w (some ⟨b, 0, none⟩) b ins := by
  refine ⟨0, fun i hi => ?_⟩
  simp only [Nat.zero_add]
  have hh : ∀ j, j < 7 → ∀ u, (insCells (ins.getD i noIns))[j]? = some u → w.cell? ⟨b, i * 7 + j, none⟩ = some u := fun j hj u hu => h _ _ ((insFlat_at ins i j hi hj).trans hu)
  exact ⟨trivial, hh 0 (by omega) _ rfl, hh 1 (by omega) _ rfl, hh 2 (by omega) _ rfl, hh 3 (by omega) _ rfl, hh 4 (by omega) _ rfl, hh 5 (by omega) _ rfl, hh 6 (by omega) _ rfl⟩
theorem insIs_of_block {w : World} {b : Nat} {ins : List Ins} {t : TypeId} (h : w.heap[b]? = some (.cells (insFlat ins).toArray t)) : InsIs w (some ⟨b, 0, none⟩) b ins :=
  insIs_of_cells fun j u hu => by
    rw [cell_of_block h]
    simpa using hu

/-- A literal of accesses, and a body of it. -/
theorem prog_laid (w : World) (ins : List Ins) (n : Nat) :
    InsIs ((w.alloc (.cells (insFlat ins).toArray 70)).alloc (.cells #[.slice (some ⟨w.heap.size, 0, none⟩) n n, .slice none 0 0, .int .i64 0] 33)) (some ⟨w.heap.size, 0, none⟩) w.heap.size ins ∧
    ((w.alloc (.cells (insFlat ins).toArray 70)).alloc (.cells #[.slice (some ⟨w.heap.size, 0, none⟩) n n, .slice none 0 0, .int .i64 0] 33)).heap[w.heap.size + 1]? = some (.cells #[.slice (some ⟨w.heap.size, 0, none⟩) n n, .slice none 0 0, .int .i64 0] 33) ∧
    Only (fun _ => False) w ((w.alloc (.cells (insFlat ins).toArray 70)).alloc (.cells #[.slice (some ⟨w.heap.size, 0, none⟩) n n, .slice none 0 0, .int .i64 0] 33)) ∧
    ((w.alloc (.cells (insFlat ins).toArray 70)).alloc (.cells #[.slice (some ⟨w.heap.size, 0, none⟩) n n, .slice none 0 0, .int .i64 0] 33)).heap.size = w.heap.size + 2 := by
  have h1 := heap_new w (.cells (insFlat ins).toArray 70)
  have h2 := heap_new (w.alloc (.cells (insFlat ins).toArray 70)) (.cells #[.slice (some ⟨w.heap.size, 0, none⟩) n n, .slice none 0 0, .int .i64 0] 33)
  have e : (w.alloc (.cells (insFlat ins).toArray 70)).heap.size = w.heap.size + 1 := by simp
  refine ⟨insIs_of_block ((Below.heap_alloc _ _ _ (by simp)).trans h1), ?_, ((Only.refl _ _).alloc _).alloc _, by simp⟩
  rw [e] at h2
  exact h2

/-- A new body over a new frame. -/
theorem under_new {w : World} {F p q P LB : Nat} {lo : Option Addr} {lc : Nat} {ins : List Ins} {xs : List Int} (hm : MemIs 74 w p q xs) (hf : FrameIs w F F (fresh (some ⟨p, 0, none⟩)))
    (hp : w.heap[P]? = some (.cells #[.slice lo ins.length lc, .slice none 0 0, .int .i64 0] 33)) (hi : InsIs w lo LB ins) (h1 : F ≠ p) (h2 : F ≠ q) (h3 : P ≠ F) (h4 : P ≠ p) (h5 : P ≠ q) (h6 : 0 < ins.length → LB ≠ F ∧ LB ≠ q ∧ LB ≠ P) :
    Under w F F p q P P LB lo lc ins (fresh (some ⟨p, 0, none⟩)) xs 0 [] :=
  ⟨⟨hf, .inl ⟨rfl, hm⟩, lt_of_block hm.head, hm.row.lt, hf.lt, h1, h2, h1, h2⟩, ⟨_, hp, Grow.nil _ _ _ _⟩, hi,
    ⟨⟨hf.lt, hf.lt, lt_of_block hm.head, hm.row.lt, lt_of_block hp, lt_of_block hp⟩, ⟨h3, h3, h4, h5⟩, ⟨h3, h3, h4, h5⟩, fun h0 => ⟨hi.lt h0, (h6 h0).1, (h6 h0).1, (h6 h0).2.1, (h6 h0).2.2, (h6 h0).2.2⟩⟩⟩
end Go.Proofs.Ytfdfjibhbfdloaa

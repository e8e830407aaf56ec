/-
  A frame as it lies in the heap: its block and its log. Conditions: none.
-/
import Derived.Test.YtmcmjcaigipoaaaGreatGrow
namespace Go.Sept
open Go.RowKit

/-- What a frame holds. -/
structure FrSt where
  mp : Option Addr
  log : List (Int × Int)
  done : Bool
  underway : Bool
  off : Bool
  now : Int
  asked : Nat
  most : Nat
  unheard : Nat
  mark : Int
  marked : Bool

def FrSt.cells (s : FrSt) (lv : Value) : Array Value :=
  #[.pointer s.mp, lv, .bool s.done, .bool s.underway, .bool s.off, .int .i64 s.now, .int .i64 (s.asked : Int), .int .i64 (s.most : Int), .int .i64 (s.unheard : Int), .int .i64 s.mark, .bool s.marked]

def logCells : List (Int × Int) → List Value
  | [] => []
  | x :: r => .int .i64 x.1 :: .int .i64 x.2 :: logCells r
theorem length_logCells : ∀ l : List (Int × Int), (logCells l).length = l.length * 2
  | [] => rfl
  | x :: r => by simp only [logCells, List.length_cons, length_logCells r]; omega
theorem logCells_append : ∀ l r : List (Int × Int), logCells (l ++ r) = logCells l ++ logCells r
  | [], r => rfl
  | x :: l, r => by simp only [List.cons_append, logCells, logCells_append l r]
theorem logCells_answer : ∀ (l : List (Int × Int)) (i : Nat), i < l.length → (logCells l)[2 * i]? = some (.int .i64 (l.getD i (0, 0)).1)
  | x :: r, 0, _ => by simp [logCells]
  | x :: r, i + 1, h => by
    have := logCells_answer r i (by simpa using h)
    rw [show 2 * (i + 1) = 2 * i + 1 + 1 by omega]
    simpa [logCells] using this
theorem logCells_time : ∀ (l : List (Int × Int)) (i : Nat), i < l.length → (logCells l)[2 * i + 1]? = some (.int .i64 (l.getD i (0, 0)).2)
  | x :: r, 0, _ => by simp [logCells]
  | x :: r, i + 1, h => by
    have := logCells_time r i (by simpa using h)
    rw [show 2 * (i + 1) + 1 = 2 * i + 1 + 1 + 1 by omega]
    simpa [logCells] using this

/-- The frame F of the type tf, its log (of the type ta) in the block lb. -/
def FrameAt (tf ta : TypeId) (w : World) (F lb : Nat) (s : FrSt) : Prop :=
  tf ≠ ta ∧ ∃ lv, w.heap[F]? = some (.cells (s.cells lv) tf) ∧ Grow ta 2 w lv lb s.log.length (logCells s.log)

theorem Grow.only' {e : TypeId} {size : Nat} {w w' : World} {v : Value} {b n : Nat} {xs : List Value} {S : Nat → Prop} (h : Grow e size w v b n xs) (ho : Only S w w') (hb : ∀ cur, w.heap[b]? = some (.cells cur e) → ¬ S b) : Grow e size w' v b n xs := by
  refine ⟨⟨h.own.1, ?_⟩, h.spot⟩
  rcases h.own.2 with hn | ⟨g, cap, cur, rfl, hb0, hg, rest⟩
  · exact .inl hn
  · have e : g = b := h.spot g rfl
    subst e
    exact .inr ⟨g, cap, cur, rfl, hb0, (ho.block g (lt_of_block hg) (hb cur hg)).trans hg, rest⟩

theorem Only.own {F : Nat} {a w : World} (h : Only (· = F) a w) (i : Nat) (v : Value) : Only (· = F) a (w.setCell ⟨F, i, none⟩ v) := h.setCell (p := ⟨F, i, none⟩) (.inr rfl) v
theorem Only.self (F : Nat) (w : World) : Only (· = F) w w := Only.refl _ _

theorem block_setCell {w : World} {b : Nat} {c : Array Value} {t : TypeId} (h : w.heap[b]? = some (.cells c t)) (i : Nat) (v : Value) : (w.setCell ⟨b, i, none⟩ v).heap[b]? = some (.cells (c.setIfInBounds i v) t) := by
  simp [World.setCell, Array.getElem?_modify, h]

section
variable {tf ta : TypeId} {w w' : World} {F lb : Nat} {s s' : FrSt}
theorem FrameAt.lt (h : FrameAt tf ta w F lb s) : F < w.heap.size := by
  obtain ⟨_, lv, h1, _⟩ := h
  exact lt_of_block h1
theorem FrameAt.only {S : Nat → Prop} (h : FrameAt tf ta w F lb s) (ho : Only S w w') (hF : ¬ S F) (hl : ¬ S lb) : FrameAt tf ta w' F lb s := by
  obtain ⟨hne, lv, h1, h2⟩ := h
  exact ⟨hne, lv, (ho.block F (lt_of_block h1) hF).trans h1, h2.only ho hl⟩
/-- Behind stores into the frame's own block. -/
theorem FrameAt.upd {lv : Value} (hne : tf ≠ ta) (h1 : w.heap[F]? = some (.cells (s.cells lv) tf)) (h2 : Grow ta 2 w lv lb s.log.length (logCells s.log)) (ho : Only (· = F) w w') (e : w'.heap[F]? = some (.cells (s'.cells lv) tf)) (hl : s'.log = s.log) : FrameAt tf ta w' F lb s' := by
  refine ⟨hne, lv, e, ?_⟩
  rw [hl]
  refine h2.only' ho fun cur hc eF => ?_
  subst eF
  rw [h1] at hc
  injection hc with hc
  injection hc with _ hc
  exact hne hc
end

section
variable {tf : TypeId} {w : World} {F : Nat} {s : FrSt} {lv : Value}
theorem blk2 (h : w.heap[F]? = some (.cells (s.cells lv) tf)) (v : Bool) : (w.setCell ⟨F, 2, none⟩ (.bool v)).heap[F]? = some (.cells (({ s with done := v } : FrSt).cells lv) tf) := by rw [block_setCell h]; rfl
theorem blk3 (h : w.heap[F]? = some (.cells (s.cells lv) tf)) (v : Bool) : (w.setCell ⟨F, 3, none⟩ (.bool v)).heap[F]? = some (.cells (({ s with underway := v } : FrSt).cells lv) tf) := by rw [block_setCell h]; rfl
theorem blk4 (h : w.heap[F]? = some (.cells (s.cells lv) tf)) (v : Bool) : (w.setCell ⟨F, 4, none⟩ (.bool v)).heap[F]? = some (.cells (({ s with off := v } : FrSt).cells lv) tf) := by rw [block_setCell h]; rfl
theorem blk5 (h : w.heap[F]? = some (.cells (s.cells lv) tf)) (v : Int) : (w.setCell ⟨F, 5, none⟩ (.int .i64 v)).heap[F]? = some (.cells (({ s with now := v } : FrSt).cells lv) tf) := by rw [block_setCell h]; rfl
theorem blk6 (h : w.heap[F]? = some (.cells (s.cells lv) tf)) (v : Nat) : (w.setCell ⟨F, 6, none⟩ (.int .i64 (v : Int))).heap[F]? = some (.cells (({ s with asked := v } : FrSt).cells lv) tf) := by rw [block_setCell h]; rfl
theorem blk7 (h : w.heap[F]? = some (.cells (s.cells lv) tf)) (v : Nat) : (w.setCell ⟨F, 7, none⟩ (.int .i64 (v : Int))).heap[F]? = some (.cells (({ s with most := v } : FrSt).cells lv) tf) := by rw [block_setCell h]; rfl
theorem blk8 (h : w.heap[F]? = some (.cells (s.cells lv) tf)) (v : Nat) : (w.setCell ⟨F, 8, none⟩ (.int .i64 (v : Int))).heap[F]? = some (.cells (({ s with unheard := v } : FrSt).cells lv) tf) := by rw [block_setCell h]; rfl
theorem blk9 (h : w.heap[F]? = some (.cells (s.cells lv) tf)) (v : Int) : (w.setCell ⟨F, 9, none⟩ (.int .i64 v)).heap[F]? = some (.cells (({ s with mark := v } : FrSt).cells lv) tf) := by rw [block_setCell h]; rfl
theorem blk10 (h : w.heap[F]? = some (.cells (s.cells lv) tf)) (v : Bool) : (w.setCell ⟨F, 10, none⟩ (.bool v)).heap[F]? = some (.cells (({ s with marked := v } : FrSt).cells lv) tf) := by rw [block_setCell h]; rfl
theorem blk1 (h : w.heap[F]? = some (.cells (s.cells lv) tf)) (v : Value) : (w.setCell ⟨F, 1, none⟩ v).heap[F]? = some (.cells (s.cells v) tf) := by rw [block_setCell h]; rfl
end

/-- Whether the next access is done, not answered as it was. -/
def FrSt.isFresh (s : FrSt) : Bool := s.underway && !(s.asked == s.most) && (s.asked == s.log.length)
/-- An access that is not done: what it answers, and what the frame is behind it. -/
def FrSt.replay (s : FrSt) : Int × FrSt :=
  if s.underway = false then (0, s) else if s.asked = s.most then (0, { s with off := true, unheard := s.unheard + 1 }) else ((s.log.getD s.asked (0, 0)).1, { s with asked := s.asked + 1 })
def FrSt.kept (s : FrSt) (r : Int) : FrSt := { s with log := s.log ++ [(r, s.now)], asked := s.asked + 1 }

/-- What an access answers: 0 Load, 1 Store, 2 Add, any other Swap (of u by v; 1 or 0). -/
def ansA (k a u : Int) (xs : List Int) : Int := if k = 0 then valA xs a else if k = 1 then 0 else if k = 2 then valA xs a else if hitA xs a u = true then 1 else 0
/-- What it leaves. -/
def aftA (k a v u : Int) (xs : List Int) : List Int := if k = 0 then xs else if k = 1 then setA xs a v else if k = 2 then setA xs a (wrap64 (valA xs a + v)) else swapA xs a u v
theorem length_aftA (k a v u : Int) (xs : List Int) : (aftA k a v u xs).length = xs.length := by
  unfold aftA
  split
  · rfl
  · split
    · exact length_setA _ _ _
    · split
      · exact length_setA _ _ _
      · exact length_swapA _ _ _ _

/-- An access by a frame: what it answers, what the frame and the memory are behind it. -/
def acc (k a v u : Int) (s : FrSt) (xs : List Int) : Int × FrSt × List Int :=
  if s.isFresh = true then (ansA k a u xs, s.kept (ansA k a u xs), aftA k a v u xs) else (s.replay.1, s.replay.2, xs)

def FrSt.begun (s : FrSt) (now : Int) : FrSt := { s with underway := true, off := false, now := now, asked := 0, most := s.log.length + 1, unheard := 0, mark := 0, marked := false }
/-- What Mark leaves. -/
def FrSt.toMark (s : FrSt) : FrSt := if s.underway = true ∧ s.asked ≠ 0 then { s with mark := (s.log.getD (s.asked - 1) (0, 0)).2, marked := true } else s

/-- The frame and the memory that it works on. -/
structure FM (tf ta tm : TypeId) (w : World) (F lb p q : Nat) (s : FrSt) (xs : List Int) : Prop where
  frame : FrameAt tf ta w F lb s
  mem : Holds tm w (.pointer s.mp) p q xs
  lp : p < w.heap.size
  lq : q < w.heap.size
  ll : lb < w.heap.size
  n1 : F ≠ p
  n2 : F ≠ q
  n3 : lb ≠ p
  n4 : lb ≠ q

theorem FM.only {tf ta tm : TypeId} {w w' : World} {F lb p q : Nat} {s : FrSt} {xs : List Int} {S : Nat → Prop} (h : FM tf ta tm w F lb p q s xs) (ho : Only S w w') (hF : ¬ S F) (hl : ¬ S lb) (hp : ¬ S p) (hq : ¬ S q) : FM tf ta tm w' F lb p q s xs :=
  ⟨h.frame.only ho hF hl, h.mem.only ho hp hq, Nat.lt_of_lt_of_le h.lp ho.size, Nat.lt_of_lt_of_le h.lq ho.size, Nat.lt_of_lt_of_le h.ll ho.size, h.n1, h.n2, h.n3, h.n4⟩
end Go.Sept

/-
  Several frames with bodies of septumlaw02 over one memory, each beside its plain accesses over the document's memory. Conditions: all of it lies in blocks that are not the same.
-/
import Derived.Test.YtfdfjibhbfdloaaPlain4
import Derived.Test.YtfdfjibhbfdloaaRuns0
namespace Go.Proofs.Ytfdfjibhbfdloaa
open Go.RowKit Go.Sept

/-- A slice that holds just the numbers xs (with whatever room behind them). -/
def VecIs (w : World) (v : Value) (xs : List Int) : Prop := ∃ ao cap b, v = .slice ao xs.length cap ∧ ∀ i, i < xs.length → ao = some ⟨b, 0, none⟩ ∧ w.cell? ⟨b, i, none⟩ = some (.int .i64 (xs.getD i 0))

theorem vec_slice {w : World} {v : Value} {b : Nat} {xs : List Int} (h : SliceIs w v b xs) : VecIs w v xs := by
  obtain ⟨ao, h1, h2⟩ := sliceIs_parts h
  exact ⟨ao, _, b, h1, h2⟩
theorem vec_grow {w : World} {v : Value} {b : Nat} {xs : List Int} (h : Grow 2 1 w v b xs.length (xs.map (Value.int .i64))) : VecIs w v xs := by
  by_cases h0 : 0 < xs.length
  · obtain ⟨cap, h1, _, _, h2⟩ := h.cells h0
    refine ⟨_, cap, b, h1, fun i hi => ⟨rfl, h2 i _ ?_⟩⟩
    rw [List.getElem?_map, List.getElem?_eq_getElem hi, Option.map_some]
    simp [hi]
  · obtain ⟨ao, cap, h1, _⟩ := h.shape
    exact ⟨ao, cap, b, h1, fun i hi => absurd hi (by omega)⟩
theorem VecIs.only {w w' : World} {v : Value} {xs : List Int} (h : VecIs w v xs) (ho : Only (fun _ => False) w w') : VecIs w' v xs := by
  obtain ⟨ao, cap, b, h1, h2⟩ := h
  refine ⟨ao, cap, b, h1, fun i hi => ⟨(h2 i hi).1, ?_⟩⟩
  have h3 := (h2 i hi).2
  exact (World.cell?_of_block (ho.block b (World.block_lt_of_cell? _ _ h3) (fun h => h))).trans h3

set_option maxHeartbeats 1000000 in
theorem ref_words_vec (w : World) (v1 v2 : Value) (xs : List Int) (h1 : VecIs w v1 xs) (h2 : VecIs w v2 xs) (hx : xs.length ≤ 4000) :
    Calls Try.prog 16 #[v1, v2] w fun e w' => e = .returned (.bool true) ∧ Only (fun _ => False) w w' := by
  obtain ⟨ao1, cap1, b1, rfl, hc1⟩ := h1
  obtain ⟨ao2, cap2, b2, rfl, hc2⟩ := h2
  have H1 : Hid (∀ i, i < xs.length → ao1 = some ⟨b1, 0, none⟩ ∧ w.cell? ⟨b1, i, none⟩ = some (.int .i64 (xs.getD i 0))) := hc1
  have H2 : Hid (∀ i, i < xs.length → ao2 = some ⟨b2, 0, none⟩ ∧ w.cell? ⟨b2, i, none⟩ = some (.int .i64 (xs.getD i 0))) := hc2
  clear hc1 hc2
  have hne : ((xs.length : Int) != (xs.length : Int)) = false := by simp
  go_enter Try.func16, Try.ntmps16
  go_wp2
  go_loopw [13] (fun i wr => ∃ j : Nat, j ≤ xs.length ∧ i = .int .i64 j ∧ ∃ n, wr = w.drewN n) (fun i _ => xs.length - (intOf i).toNat)
  case atStart => exact ⟨0, Nat.zero_le _, rfl, 0, rfl⟩
  case round =>
    obtain ⟨j, hj, rfl, n, rfl⟩ := hrel
    by_cases hlt : j < xs.length
    · obtain ⟨rfl, hc1⟩ := H1.out j hlt
      obtain ⟨rfl, hc2⟩ := H2.out j hlt
      obtain ⟨u, hu⟩ : ∃ u, u = xs.getD j 0 := ⟨_, rfl⟩
      rw [← hu] at hc1 hc2
      clear H1 H2 hu
      have hlt' : (j : Int) < xs.length := by omega
      have hd1 : (w.drewN n).cell? ⟨b1, j, none⟩ = some (.int .i64 u) := hc1
      have hd2 : (w.drewN n).cell? ⟨b2, j, none⟩ = some (.int .i64 u) := hc2
      go_wp2_with fail
      go_quiet (fail)
      go_wp2
      go_roundw
      case rel => exact ⟨j + 1, by omega, by go_num, _, rfl⟩
      case measure => simp [intOf]; omega
    · clear H1 H2
      go_wp2
      go_ret
      exact ⟨rfl, only_drewN (Only.refl _ _) _⟩

theorem words_vec (w : World) (p q : Nat) (xs : List Int) (h : Holds 74 w (.pointer (some ⟨p, 0, none⟩)) p q xs) (h1 : xs.length ≤ 4000) :
    Calls Try.prog 17 #[.pointer (some ⟨p, 0, none⟩)] w fun e w' => ∃ v, e = .returned v ∧ VecIs w' v xs ∧ Only (fun _ => False) w w' := by
  by_cases h0 : xs = []
  · subst h0
    refine (words_none w _ ⟨p, q, [], h, rfl⟩).mono ?_
    rintro e w' ⟨rfl, rfl⟩
    exact ⟨_, rfl, ⟨none, 0, 0, rfl, fun i hi => by simp at hi⟩, Only.refl _ _⟩
  · have hm := (holds_pos h (n := 0) (List.length_pos_iff.2 h0)).2
    refine (words_rel w p q xs hm h1).mono ?_
    rintro e w' ⟨v, b, rfl, hs, _, ho⟩
    exact ⟨v, rfl, vec_slice hs, ho⟩
theorem ref_vec {w : World} {rp rq : Nat} {ys : List Int} (h : Holds 43 w (.pointer (some ⟨rp, 0, none⟩)) rp rq ys) : ∃ v, w.cell? ⟨rp, 0, none⟩ = some v ∧ VecIs w v ys := by
  rcases h with ⟨_, h⟩ | ⟨_, h⟩ | ⟨rfl, _, h⟩
  · exact ⟨_, h.cell, ⟨_, _, rq, rfl, fun i hi => ⟨rfl, h.row.cell i hi⟩⟩⟩
  · cases h
  · exact ⟨_, cell_of_block h 0, ⟨none, 0, 0, rfl, fun i hi => by simp at hi⟩⟩

/-- What is kept of one frame and its plain accesses. -/
structure D where
  F : Nat
  lb : Nat
  P : Nat
  gb : Nat
  Q : Nat
  gq : Nat
  LB : Nat
  lo : Option Addr
  lc : Nat
  ins : List Ins
  s : FrSt
  last : Int
  got : List Int
  log : List (Int × Int)
def D.mine (d : D) : Bool → Nat → Prop
  | false, b => b = d.F ∨ b = d.lb ∨ b = d.P ∨ b = d.gb
  | true, b => b = d.Q ∨ b = d.gq
abbrev D.real (d : D) (w : World) (p q : Nat) (xs : List Int) : Prop := Under w d.F d.lb p q d.P d.gb d.LB d.lo d.lc d.ins d.s xs d.last d.got
abbrev D.ref (d : D) (w : World) (rp rq : Nat) (ys : List Int) : Prop := Plain w d.Q d.gq rp rq d.LB d.lo d.lc d.ins (PR.of (ctlOf d.ins d.log) d.log.length) ys

def ext2 {α : Type} (f : Nat → α) (k : Nat) (x : α) : Nat → α := fun i => if i = k then x else f i
theorem ext2_self {α : Type} (f : Nat → α) (k : Nat) (x : α) : ext2 f k x k = x := by simp [ext2]
theorem ext2_ne {α : Type} (f : Nat → α) {k i : Nat} (x : α) (h : i ≠ k) : ext2 f k x i = f i := by simp [ext2, h]

structure Team (B : Nat) (w : World) (k p q rp rq : Nat) (ds : Nat → D) (xs ys : List Int) : Prop where
  real : ∀ i, i < k → (ds i).real w p q xs
  ref : ∀ i, i < k → (ds i).ref w rp rq ys
  apart : ∀ i j c c' b, i < k → j < k → (ds i).mine c b → (ds j).mine c' b → i = j ∧ c = c'
  free : ∀ i c b, i < k → (ds i).mine c b → b ≠ p ∧ b ≠ q ∧ b ≠ rp ∧ b ≠ rq
  base : ∀ i c b, i < k → (ds i).mine c b → B ≤ b
  low : ∀ i, i < k → 0 < (ds i).ins.length → (ds i).LB < B
  four : q ≠ rp ∧ q ≠ rq ∧ rq ≠ p
  rows : B ≤ q ∧ B ≤ rq
  mem : Holds 74 w (.pointer (some ⟨p, 0, none⟩)) p q xs
  doc : Holds 43 w (.pointer (some ⟨rp, 0, none⟩)) rp rq ys
  mps : ∀ i, i < k → (ds i).s.mp = some ⟨p, 0, none⟩
  size : B ≤ w.heap.size
  zs : p < w.heap.size ∧ q < w.heap.size ∧ rp < w.heap.size ∧ rq < w.heap.size

theorem Under.row {w w' : World} {F lb p q P gb LB : Nat} {lo : Option Addr} {lc : Nat} {ins : List Ins} {s : FrSt} {xs ys : List Int} {last : Int} {got : List Int} {S : Nat → Prop} (h : Under w F lb p q P gb LB lo lc ins s xs last got) (ho : Only S w w') (hm : Holds 74 w' (.pointer s.mp) p q ys)
    (a1 : ¬ S F) (a2 : ¬ S lb) (a3 : ¬ S P) (a4 : ¬ S gb) (a5 : 0 < ins.length → ¬ S LB) : Under w' F lb p q P gb LB lo lc ins s ys last got := by
  obtain ⟨⟨z1, z2, z3, z4, z5, z6⟩, h2, h3, h4⟩ := h.sep
  exact ⟨⟨h.fm.frame.only ho a1 a2, hm, Nat.lt_of_lt_of_le h.fm.lp ho.size, Nat.lt_of_lt_of_le h.fm.lq ho.size, Nat.lt_of_lt_of_le h.fm.ll ho.size, h.fm.n1, h.fm.n2, h.fm.n3, h.fm.n4⟩, h.pr.only ho a3 a4, h.il.only ho a5,
    ⟨⟨Nat.lt_of_lt_of_le z1 ho.size, Nat.lt_of_lt_of_le z2 ho.size, Nat.lt_of_lt_of_le z3 ho.size, Nat.lt_of_lt_of_le z4 ho.size, Nat.lt_of_lt_of_le z5 ho.size, Nat.lt_of_lt_of_le z6 ho.size⟩, h2, h3, fun h0 => ⟨Nat.lt_of_lt_of_le (h4 h0).1 ho.size, (h4 h0).2⟩⟩⟩
theorem Plain.row {w w' : World} {Q gb rp rq LB : Nat} {lo : Option Addr} {lc : Nat} {ins : List Ins} {r : PR} {ys ys' : List Int} {S : Nat → Prop} (h : Plain w Q gb rp rq LB lo lc ins r ys) (ho : Only S w w') (hm : Holds 43 w' (.pointer (some ⟨rp, 0, none⟩)) rp rq ys')
    (h1 : ¬ S Q) (h2 : ¬ S gb) (h5 : 0 < ins.length → ¬ S LB) : Plain w' Q gb rp rq LB lo lc ins r ys' := by
  obtain ⟨gv, g1, g2⟩ := h.pl
  obtain ⟨z1, z2, z3, z4⟩ := h.z
  exact ⟨⟨gv, (ho.block Q (lt_of_block g1) h1).trans g1, g2.only ho h2⟩, hm, h.il.only ho h5, ⟨Nat.lt_of_lt_of_le z1 ho.size, Nat.lt_of_lt_of_le z2 ho.size, Nat.lt_of_lt_of_le z3 ho.size, Nat.lt_of_lt_of_le z4 ho.size⟩, h.ne, h.ln⟩

section
variable {B : Nat} {w w' : World} {k p q rp rq : Nat} {ds : Nat → D} {xs ys : List Int}
theorem Team.lt (h : Team B w k p q rp rq ds xs ys) {i b : Nat} {c : Bool} (hi : i < k) (hb : (ds i).mine c b) : b < w.heap.size := by
  cases c
  · obtain ⟨z1, z2, z3, z4, z5, z6⟩ := (h.real i hi).sep.z
    rcases hb with rfl | rfl | rfl | rfl
    · exact z1
    · exact z2
    · exact z5
    · exact z6
  · obtain ⟨z1, z2, _⟩ := (h.ref i hi).z
    rcases hb with rfl | rfl
    · exact z1
    · exact z2
theorem Team.empty (h1 : q ≠ rp ∧ q ≠ rq ∧ rq ≠ p) (h2 : B ≤ q ∧ B ≤ rq) (hm : MemIs 74 w p q xs) (hr : MemIs 43 w rp rq ys) (hs : B ≤ w.heap.size) (ds : Nat → D) : Team B w 0 p q rp rq ds xs ys :=
  ⟨fun i hi => by omega, fun i hi => by omega, fun i j c c' b hi => by omega, fun i c b hi => by omega, fun i c b hi => by omega, fun i hi => by omega, h1, h2, .inl ⟨rfl, hm⟩, .inl ⟨rfl, hr⟩, fun i hi => by omega, hs, ⟨lt_of_block hm.head, hm.row.lt, lt_of_block hr.head, hr.row.lt⟩⟩
theorem Team.still (h : Team B w k p q rp rq ds xs ys) (ho : Only (fun _ => False) w w') : Team B w' k p q rp rq ds xs ys := by
  obtain ⟨z1, z2, z3, z4⟩ := h.zs
  exact ⟨fun i hi => (h.real i hi).only ho, fun i hi => (h.ref i hi).still ho, h.apart, h.free, h.base, h.low, h.four, h.rows, h.mem.only ho (fun h => h) (fun h => h), h.doc.only ho (fun h => h) (fun h => h), h.mps, Nat.le_trans h.size ho.size, ⟨Nat.lt_of_lt_of_le z1 ho.size, Nat.lt_of_lt_of_le z2 ho.size, Nat.lt_of_lt_of_le z3 ho.size, Nat.lt_of_lt_of_le z4 ho.size⟩⟩
/-- One more. -/
theorem Team.add (h : Team B w k p q rp rq ds xs ys) (d : D) (h1 : d.real w p q xs) (h2 : d.ref w rp rq ys) (hs : ∀ c c' b, d.mine c b → d.mine c' b → c = c') (hn : ∀ i c c' b, i < k → (ds i).mine c b → ¬ d.mine c' b)
    (hf : ∀ c b, d.mine c b → b ≠ p ∧ b ≠ q ∧ b ≠ rp ∧ b ≠ rq) (hb : ∀ c b, d.mine c b → B ≤ b) (hl : 0 < d.ins.length → d.LB < B) (hm : d.s.mp = some ⟨p, 0, none⟩) : Team B w (k + 1) p q rp rq (ext2 ds k d) xs ys := by
  have old : ∀ i, i < k + 1 → i ≠ k → ext2 ds k d i = ds i ∧ i < k := fun i hi e => ⟨ext2_ne _ _ e, by omega⟩
  refine ⟨fun i hi => ?_, fun i hi => ?_, fun i j c c' b hi hj a1 a2 => ?_, fun i c b hi a1 => ?_, fun i c b hi a1 => ?_, fun i hi a1 => ?_, h.four, h.rows, h.mem, h.doc, fun i hi => ?_, h.size, h.zs⟩
  · by_cases e : i = k
    · subst e; rw [ext2_self]; exact h1
    · obtain ⟨e1, e2⟩ := old i hi e; rw [e1]; exact h.real i e2
  · by_cases e : i = k
    · subst e; rw [ext2_self]; exact h2
    · obtain ⟨e1, e2⟩ := old i hi e; rw [e1]; exact h.ref i e2
  · by_cases e : i = k
    · subst e
      rw [ext2_self] at a1
      by_cases f : j = i
      · subst f
        rw [ext2_self] at a2
        exact ⟨rfl, hs c c' b a1 a2⟩
      · obtain ⟨f1, f2⟩ := old j hj f
        rw [f1] at a2
        exact absurd a1 (hn j c' c b f2 a2)
    · obtain ⟨e1, e2⟩ := old i hi e
      rw [e1] at a1
      by_cases f : j = k
      · subst f
        rw [ext2_self] at a2
        exact absurd a2 (hn i c c' b e2 a1)
      · obtain ⟨f1, f2⟩ := old j hj f
        rw [f1] at a2
        exact h.apart i j c c' b e2 f2 a1 a2
  · by_cases e : i = k
    · subst e; rw [ext2_self] at a1; exact hf c b a1
    · obtain ⟨e1, e2⟩ := old i hi e; rw [e1] at a1; exact h.free i c b e2 a1
  · by_cases e : i = k
    · subst e; rw [ext2_self] at a1; exact hb c b a1
    · obtain ⟨e1, e2⟩ := old i hi e; rw [e1] at a1; exact h.base i c b e2 a1
  · by_cases e : i = k
    · subst e; rw [ext2_self] at a1 ⊢; exact hl a1
    · obtain ⟨e1, e2⟩ := old i hi e; rw [e1] at a1 ⊢; exact h.low i e2 a1
  · by_cases e : i = k
    · subst e; rw [ext2_self]; exact hm
    · obtain ⟨e1, e2⟩ := old i hi e; rw [e1]; exact h.mps i e2

theorem Team.change (h : Team B w k p q rp rq ds xs ys) (ho : w.heap.size ≤ w'.heap.size) {xs' ys' : List Int} {g : Nat} (hg : g < k) (d : D) (hi1 : d.ins = (ds g).ins) (hi2 : d.LB = (ds g).LB) (hmine : ∀ c b, d.mine c b → (ds g).mine c b ∨ w.heap.size ≤ b) (hself : ∀ c c' b, d.mine c b → d.mine c' b → c = c') (hmp : d.s.mp = some ⟨p, 0, none⟩)
    (hr : ∀ i, i < k → (ext2 ds g d i).real w' p q xs') (hf : ∀ i, i < k → (ext2 ds g d i).ref w' rp rq ys') (hm : Holds 74 w' (.pointer (some ⟨p, 0, none⟩)) p q xs') (hd : Holds 43 w' (.pointer (some ⟨rp, 0, none⟩)) rp rq ys') : Team B w' k p q rp rq (ext2 ds g d) xs' ys' := by
  obtain ⟨z1, z2, z3, z4⟩ := h.zs
  have hsz := h.size
  have key : ∀ i c b, i < k → (ext2 ds g d i).mine c b → (ds i).mine c b ∨ (i = g ∧ w.heap.size ≤ b) := by
    intro i c b hi hb
    by_cases e : i = g
    · subst e
      rw [ext2_self] at hb
      rcases hmine c b hb with h9 | h9
      · exact .inl h9
      · exact .inr ⟨rfl, h9⟩
    · rw [ext2_ne _ _ e] at hb
      exact .inl hb
  refine ⟨hr, hf, fun i j c c' b hi hj a1 a2 => ?_, fun i c b hi a1 => ?_, fun i c b hi a1 => ?_, fun i hi a1 => ?_, h.four, h.rows, hm, hd, fun i hi => ?_, by omega, ⟨by omega, by omega, by omega, by omega⟩⟩
  · by_cases e : i = j
    · subst e
      refine ⟨rfl, ?_⟩
      by_cases f : i = g
      · subst f
        rw [ext2_self] at a1 a2
        exact hself c c' b a1 a2
      · rw [ext2_ne _ _ f] at a1 a2
        exact (h.apart i i c c' b hi hi a1 a2).2
    · rcases key i c b hi a1 with b1 | ⟨b1, b2⟩
      · rcases key j c' b hj a2 with c1 | ⟨c1, c2⟩
        · exact h.apart i j c c' b hi hj b1 c1
        · have := h.lt hi b1
          omega
      · rcases key j c' b hj a2 with c1 | ⟨c1, c2⟩
        · have := h.lt hj c1
          omega
        · omega
  · rcases key i c b hi a1 with b1 | ⟨_, b2⟩
    · exact h.free i c b hi b1
    · exact ⟨by omega, by omega, by omega, by omega⟩
  · rcases key i c b hi a1 with b1 | ⟨_, b2⟩
    · exact h.base i c b hi b1
    · omega
  · by_cases e : i = g
    · subst e
      rw [ext2_self, hi1] at a1
      rw [ext2_self, hi2]
      exact h.low i hi a1
    · rw [ext2_ne _ _ e] at a1 ⊢
      exact h.low i hi a1
  · by_cases e : i = g
    · subst e; rw [ext2_self]; exact hmp
    · rw [ext2_ne _ _ e]; exact h.mps i hi

/-- Behind a step of the g-th frame. -/
theorem Team.stepped (h : Team B w k p q rp rq ds xs ys) {g : Nat} (hg : g < k) {lb' gb' : Nat} {s' : FrSt} {xs' : List Int} {last' : Int} {got' : List Int} (hU : Under w' (ds g).F lb' p q (ds g).P gb' (ds g).LB (ds g).lo (ds g).lc (ds g).ins s' xs' last' got') (hmp : s'.mp = (ds g).s.mp)
    (hlb : lb' = (ds g).lb ∨ w.heap.size ≤ lb') (hgb : gb' = (ds g).P ∨ w.heap.size ≤ gb') (ho : Only (fun b => b = (ds g).F ∨ b = (ds g).lb ∨ b = q ∨ b = (ds g).P) w w') :
    Team B w' k p q rp rq (ext2 ds g { ds g with lb := lb', gb := gb', s := s', last := last', got := got' }) xs' ys := by
  have hS : ∀ b, (b = (ds g).F ∨ b = (ds g).lb ∨ b = q ∨ b = (ds g).P) → B ≤ b ∧ (b = q ∨ (ds g).mine false b) := by
    rintro b (rfl | rfl | rfl | rfl)
    · exact ⟨h.base g false _ hg (.inl rfl), .inr (.inl rfl)⟩
    · exact ⟨h.base g false _ hg (.inr (.inl rfl)), .inr (.inr (.inl rfl))⟩
    · exact ⟨h.rows.1, .inl rfl⟩
    · exact ⟨h.base g false _ hg (.inr (.inr (.inl rfl))), .inr (.inr (.inr (.inl rfl)))⟩
  have hno : ∀ i c b, i < k → ¬ (i = g ∧ c = false) → (ds i).mine c b → ¬ (b = (ds g).F ∨ b = (ds g).lb ∨ b = q ∨ b = (ds g).P) := by
    intro i c b hi hne hb e
    rcases (hS b e).2 with e1 | e1
    · exact (h.free i c b hi hb).2.1 e1
    · exact hne (h.apart i g c false b hi hg hb e1)
  have hlow : ∀ i, i < k → 0 < (ds i).ins.length → ¬ ((ds i).LB = (ds g).F ∨ (ds i).LB = (ds g).lb ∨ (ds i).LB = q ∨ (ds i).LB = (ds g).P) := fun i hi h0 e => by
    have := (hS _ e).1
    have := h.low i hi h0
    omega
  have hmem : Holds 74 w' (.pointer (some ⟨p, 0, none⟩)) p q xs' := by
    have h9 := hU.fm.mem
    rwa [hmp, h.mps g hg] at h9
  have hdoc : Holds 43 w' (.pointer (some ⟨rp, 0, none⟩)) rp rq ys := by
    refine h.doc.only ho (fun e => ?_) (fun e => ?_)
    · rcases (hS _ e).2 with e1 | e1
      · exact h.four.1 e1.symm
      · exact (h.free g false _ hg e1).2.2.1 rfl
    · rcases (hS _ e).2 with e1 | e1
      · exact h.four.2.1 e1.symm
      · exact (h.free g false _ hg e1).2.2.2 rfl
  refine h.change ho.size hg { ds g with lb := lb', gb := gb', s := s', last := last', got := got' } rfl rfl (fun c b hb => ?_) (fun c c' b a1 a2 => ?_) (hmp.trans (h.mps g hg)) (fun i hi => ?_) (fun i hi => ?_) hmem hdoc
  · cases c
    · rcases hb with e | e | e | e
      · exact .inl (.inl e)
      · rcases hlb with e1 | e1
        · exact .inl (.inr (.inl (e.trans e1)))
        · exact .inr (by rw [e]; exact e1)
      · exact .inl (.inr (.inr (.inl e)))
      · rcases hgb with e1 | e1
        · exact .inl (.inr (.inr (.inl (e.trans e1))))
        · exact .inr (by rw [e]; exact e1)
    · exact .inl hb
  · have hold : ∀ b, (({ ds g with lb := lb', gb := gb', s := s', last := last', got := got' } : D)).mine false b → (ds g).mine false b ∨ w.heap.size ≤ b := by
      rintro b (e | e | e | e)
      · exact .inl (.inl e)
      · rcases hlb with e1 | e1
        · exact .inl (.inr (.inl (e.trans e1)))
        · exact .inr (by rw [e]; exact e1)
      · exact .inl (.inr (.inr (.inl e)))
      · rcases hgb with e1 | e1
        · exact .inl (.inr (.inr (.inl (e.trans e1))))
        · exact .inr (by rw [e]; exact e1)
    have hmix : ∀ b, (({ ds g with lb := lb', gb := gb', s := s', last := last', got := got' } : D)).mine false b → (ds g).mine true b → False := by
      intro b b1 b2
      rcases hold b b1 with b3 | b3
      · exact absurd (h.apart g g false true b hg hg b3 b2).2 (by decide)
      · have := h.lt hg b2
        omega
    cases c <;> cases c'
    · rfl
    · exact (hmix b a1 a2).elim
    · exact (hmix b a2 a1).elim
    · rfl
  · by_cases e : i = g
    · subst e
      rw [ext2_self]
      exact hU
    · rw [ext2_ne _ _ e]
      have hn := hno i false
      exact (h.real i hi).row ho (by rw [h.mps i hi]; exact hmem) (hn _ hi (fun a => e a.1) (.inl rfl)) (hn _ hi (fun a => e a.1) (.inr (.inl rfl))) (hn _ hi (fun a => e a.1) (.inr (.inr (.inl rfl)))) (hn _ hi (fun a => e a.1) (.inr (.inr (.inr rfl)))) (hlow i hi)
  · have hn := hno i true
    by_cases e : i = g
    · subst e
      rw [ext2_self]
      exact (h.ref i hi).row ho hdoc (hn _ hi (fun a => absurd a.2 (by decide)) (.inl rfl)) (hn _ hi (fun a => absurd a.2 (by decide)) (.inr rfl)) (hlow i hi)
    · rw [ext2_ne _ _ e]
      exact (h.ref i hi).row ho hdoc (hn _ hi (fun a => absurd a.2 (by decide)) (.inl rfl)) (hn _ hi (fun a => absurd a.2 (by decide)) (.inr rfl)) (hlow i hi)

/-- Behind the g-th plain access. -/
theorem Team.plained (h : Team B w k p q rp rq ds xs ys) {g : Nat} (hg : g < k) {gq' : Nat} {log' : List (Int × Int)} {ys' : List Int} (hP : Plain w' (ds g).Q gq' rp rq (ds g).LB (ds g).lo (ds g).lc (ds g).ins (PR.of (ctlOf (ds g).ins log') log'.length) ys')
    (hgq : gq' = (ds g).gq ∨ w.heap.size ≤ gq') (ho : Only (fun b => b = (ds g).Q ∨ b = (ds g).gq ∨ b = rq) w w') :
    Team B w' k p q rp rq (ext2 ds g { ds g with gq := gq', log := log' }) xs ys' := by
  have hS : ∀ b, (b = (ds g).Q ∨ b = (ds g).gq ∨ b = rq) → B ≤ b ∧ (b = rq ∨ (ds g).mine true b) := by
    rintro b (rfl | rfl | rfl)
    · exact ⟨h.base g true _ hg (.inl rfl), .inr (.inl rfl)⟩
    · exact ⟨h.base g true _ hg (.inr rfl), .inr (.inr rfl)⟩
    · exact ⟨h.rows.2, .inl rfl⟩
  have hno : ∀ i c b, i < k → ¬ (i = g ∧ c = true) → (ds i).mine c b → ¬ (b = (ds g).Q ∨ b = (ds g).gq ∨ b = rq) := by
    intro i c b hi hne hb e
    rcases (hS b e).2 with e1 | e1
    · exact (h.free i c b hi hb).2.2.2 e1
    · exact hne (h.apart i g c true b hi hg hb e1)
  have hlow : ∀ i, i < k → 0 < (ds i).ins.length → ¬ ((ds i).LB = (ds g).Q ∨ (ds i).LB = (ds g).gq ∨ (ds i).LB = rq) := fun i hi h0 e => by
    have := (hS _ e).1
    have := h.low i hi h0
    omega
  have hmem : Holds 74 w' (.pointer (some ⟨p, 0, none⟩)) p q xs := by
    refine h.mem.only ho (fun e => ?_) (fun e => ?_)
    · rcases (hS _ e).2 with e1 | e1
      · exact h.four.2.2 e1.symm
      · exact (h.free g true _ hg e1).1 rfl
    · rcases (hS _ e).2 with e1 | e1
      · exact h.four.2.1 e1
      · exact (h.free g true _ hg e1).2.1 rfl
  refine h.change ho.size hg { ds g with gq := gq', log := log' } rfl rfl (fun c b hb => ?_) (fun c c' b a1 a2 => ?_) (h.mps g hg) (fun i hi => ?_) (fun i hi => ?_) hmem hP.rm
  · cases c
    · exact .inl hb
    · rcases hb with e | e
      · exact .inl (.inl e)
      · rcases hgq with e1 | e1
        · exact .inl (.inr (e.trans e1))
        · exact .inr (by rw [e]; exact e1)
  · have hmix : ∀ b, (ds g).mine false b → (({ ds g with gq := gq', log := log' } : D)).mine true b → False := by
      rintro b b1 (e | e)
      · exact absurd (h.apart g g false true b hg hg b1 (.inl e)).2 (by decide)
      · rcases hgq with e1 | e1
        · exact absurd (h.apart g g false true b hg hg b1 (.inr (e.trans e1))).2 (by decide)
        · have h9 := h.lt hg b1
          have h8 : b = gq' := e
          omega
    cases c <;> cases c'
    · rfl
    · exact (hmix b a1 a2).elim
    · exact (hmix b a2 a1).elim
    · rfl
  · have hn := hno i false
    have hrow : (ds i).real w' p q xs := (h.real i hi).row ho (by rw [h.mps i hi]; exact hmem) (hn _ hi (fun a => absurd a.2 (by decide)) (.inl rfl)) (hn _ hi (fun a => absurd a.2 (by decide)) (.inr (.inl rfl))) (hn _ hi (fun a => absurd a.2 (by decide)) (.inr (.inr (.inl rfl)))) (hn _ hi (fun a => absurd a.2 (by decide)) (.inr (.inr (.inr rfl)))) (hlow i hi)
    by_cases e : i = g
    · subst e
      rw [ext2_self]
      exact hrow
    · rw [ext2_ne _ _ e]
      exact hrow
  · by_cases e : i = g
    · subst e
      rw [ext2_self]
      exact hP
    · rw [ext2_ne _ _ e]
      have hn := hno i true
      exact (h.ref i hi).row ho hP.rm (hn _ hi (fun a => e a.1) (.inl rfl)) (hn _ hi (fun a => e a.1) (.inr rfl)) (hlow i hi)
end
end Go.Proofs.Ytfdfjibhbfdloaa

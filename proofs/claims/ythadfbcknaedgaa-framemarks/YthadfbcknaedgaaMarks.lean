/-
  FrameMarks: for every list of marks and every list of times the law answers true: a mark has the time of the access ahead of it, whenever it was done; the last one counts. Conditions: none.
-/
import Derived.Test.YthadfbcknaedgaaOpen2
import Derived.Deep.Grids
namespace Go.Proofs.Ythadfbcknaedgaa.frameMarks
open Go.Sept Go.RowKit Go.ChangeShapes Go.WideShapes Go.ChangeAt Go.Joins Go.Deep

def markI (b : Bool) : Ins := ⟨2, 0, 1, 0, false, false, b⟩
def insM (B : Nat → Bool) (n : Nat) : List Ins := (List.range n).map (fun i => markI (B i))
theorem insM_succ (B : Nat → Bool) (n : Nat) : insM B (n + 1) = insM B n ++ [markI (B n)] := by simp [insM, List.range_succ]
theorem insM_length (B : Nat → Bool) (n : Nat) : (insM B n).length = n := by simp [insM]
theorem insM_get (B : Nat → Bool) {n k : Nat} (h : k < n) : (insM B n).getD k noIns = markI (B k) := by
  simp [insM, h]

/-- The log behind k steps. -/
def logM (T : Nat → Int) : Nat → List (Int × Int)
  | 0 => []
  | k + 1 => logM T k ++ [((k : Int), T k)]
/-- The last mark behind k steps. -/
def wantM (B : Nat → Bool) (T : Nat → Int) : Nat → Option Int
  | 0 => none
  | k + 1 => if B k = true then some (T k) else wantM B T k
theorem ctlM (B : Nat → Bool) (T : Nat → Int) (n : Nat) : ∀ k, k ≤ n → (ctlOf (insM B n) (logM T k)).i = k ∧ (ctlOf (insM B n) (logM T k)).mt = wantM B T k
  | 0, _ => ⟨rfl, rfl⟩
  | k + 1, h => by
    obtain ⟨h1, h2⟩ := ctlM B T n k (by omega)
    have e : (insM B n).getD (ctlOf (insM B n) (logM T k)).i noIns = markI (B k) := by rw [h1]; exact insM_get B (by omega)
    refine ⟨?_, ?_⟩
    · rw [logM, ctlOf_snoc, adv, e, h1]
      simp [markI]
    · rw [logM, ctlOf_snoc, adv, e, h2]
      rfl
theorem liveM (B : Nat → Bool) (T : Nat → Int) (n : Nat) : ∀ k, k ≤ n → Live (insM B n) (logM T k)
  | 0, _ => Live.nil _
  | k + 1, h => (liveM B T n k (by omega)).snoc (by rw [(ctlM B T n k (by omega)).1, insM_length]; omega) _
theorem overM (B : Nat → Bool) (T : Nat → Int) {n k : Nat} (h : k ≤ n) : overB (insM B n) (logM T k) = decide (k = n) := by
  rw [overB, (ctlM B T n k h).1, insM_length]
  by_cases e : k = n
  · subst e; simp
  · simp [e]; omega
theorem nextLogM (B : Nat → Bool) (T : Nat → Int) {n k : Nat} (h : k < n) : nextLog (insM B n) (logM T k) [(k : Int)] (T k) = logM T (k + 1) := by
  rw [nextLog, (ctlM B T n k (by omega)).1, insM_get B h]
  simp [markI, ansA, valA, okA, logM]
theorem nextWordsM (B : Nat → Bool) (T : Nat → Int) {n k : Nat} (h : k < n) (hk : k ≤ 100) : nextWords (insM B n) (logM T k) [(k : Int)] = [((k + 1 : Nat) : Int)] := by
  rw [nextWords, (ctlM B T n k (by omega)).1, insM_get B h]
  simp [markI, aftA, valA, okA, setA, Ctl.val]
  unfold wrap64
  omega

/-- What the walk is told of a list of bools, or of numbers, that came in. -/
def Bools (w : World) (ao : Option Addr) (n : Nat) (B : Nat → Bool) : Prop := ∃ b off, ∀ i, i < n → ao = some ⟨b, off, none⟩ ∧ w.cell? ⟨b, off + i, none⟩ = some (.bool (B i))
def Nums (w : World) (ao : Option Addr) (n : Nat) (T : Nat → Int) : Prop := ∃ b off, ∀ i, i < n → ao = some ⟨b, off, none⟩ ∧ w.cell? ⟨b, off + i, none⟩ = some (.int .i64 (T i))
theorem Bools.only {w w' : World} {ao : Option Addr} {n : Nat} {B : Nat → Bool} (h : Bools w ao n B) (ho : Only (fun _ => False) w w') : Bools w' ao n B := by
  obtain ⟨b, off, h⟩ := h
  exact ⟨b, off, fun i hi => ⟨(h i hi).1, (World.cell?_of_block (ho.block b (World.block_lt_of_cell? _ _ (h i hi).2) (fun h => h))).trans (h i hi).2⟩⟩
theorem Nums.only {w w' : World} {ao : Option Addr} {n : Nat} {T : Nat → Int} (h : Nums w ao n T) (ho : Only (fun _ => False) w w') : Nums w' ao n T := by
  obtain ⟨b, off, h⟩ := h
  exact ⟨b, off, fun i hi => ⟨(h i hi).1, (World.cell?_of_block (ho.block b (World.block_lt_of_cell? _ _ (h i hi).2) (fun h => h))).trans (h i hi).2⟩⟩

set_option maxRecDepth 100000 in
set_option maxHeartbeats 4000000 in
theorem walk_out (la ta : Option Addr) (n lc nt tc : Nat) (w : World) (hn : n ≤ 9223372036854775807) (h : 40 < n ∨ n = 0 ∨ nt < n) :
    Calls Try.prog 8 #[.slice la n lc, .slice ta nt tc] w fun e w' => e = .returned (.bool true) ∧ Below w.heap.size w w' := by
  by_cases h1 : 40 < n
  · have h1' : (40 : Int) < n := by omega
    clear h
    go_enter Try.func8, Try.ntmps8
    go_wp2_with fail
    refine (awake_any _).mono ?_
    rintro e w1 ⟨rfl, hb1⟩
    go_wp2_with fail
    refine (awake_any _).mono ?_
    rintro e w2 ⟨rfl, hb2⟩
    have hF : Hid (Below w.heap.size w w2) := ((Only.of_below hb1 (fun _ => False)).chain (Only.of_below hb2 (fun _ => False)) (fun _ _ h => h)).below (Nat.le_refl _) (fun _ _ h => h)
    clear hb1 hb2
    go_wp2_with fail
    go_ret
    exact ⟨rfl, hF.out⟩
  · have h1' : ¬ (40 : Int) < n := by omega
    by_cases h2 : n = 0
    · subst h2
      clear h h1
      go_enter Try.func8, Try.ntmps8
      go_wp2_with fail
      refine (awake_any _).mono ?_
      rintro e w1 ⟨rfl, hb1⟩
      go_wp2_with fail
      refine (awake_any _).mono ?_
      rintro e w2 ⟨rfl, hb2⟩
      have hF : Hid (Below w.heap.size w w2) := ((Only.of_below hb1 (fun _ => False)).chain (Only.of_below hb2 (fun _ => False)) (fun _ _ h => h)).below (Nat.le_refl _) (fun _ _ h => h)
      clear hb1 hb2
      go_wp2_with fail
      go_ret
      exact ⟨rfl, hF.out⟩
    · have h2' : ((n : Int) == 0) = false := beq_eq_false_iff_ne.2 (by omega)
      have h3 : (nt : Int) < n := by omega
      clear h h1 h2
      go_enter Try.func8, Try.ntmps8
      go_wp2_with fail
      refine (awake_any _).mono ?_
      rintro e w1 ⟨rfl, hb1⟩
      go_wp2_with fail
      refine (awake_any _).mono ?_
      rintro e w2 ⟨rfl, hb2⟩
      have hF : Hid (Below w.heap.size w w2) := ((Only.of_below hb1 (fun _ => False)).chain (Only.of_below hb2 (fun _ => False)) (fun _ _ h => h)).below (Nat.le_refl _) (fun _ _ h => h)
      clear hb1 hb2
      go_wp2_with fail
      go_ret
      exact ⟨rfl, hF.out⟩

set_option maxRecDepth 100000 in
set_option maxHeartbeats 4000000 in
theorem walk_in (la ta : Option Addr) (n lc nt tc : Nat) (B : Nat → Bool) (T : Nat → Int) (w : World) (hnt : nt ≤ 9223372036854775807) (h1 : n ≤ 40) (h2 : n ≠ 0) (h3 : n ≤ nt) (hB : Bools w la n B) (hT : Nums w ta n T) :
    Calls Try.prog 8 #[.slice la n lc, .slice ta nt tc] w fun e w' => e = .returned (.bool true) ∧ Below w.heap.size w w' := by
  have hmf : ∀ (fn : Fn) (first cap : Array Value) (w : World), (Instr.makeFunc fn first cap).run Try.prog w = .ok (.func fn first cap) w := fun _ _ _ _ => rfl
  have h1' : ¬ (40 : Int) < n := by omega
  have h2' : ((n : Int) == 0) = false := beq_eq_false_iff_ne.2 (by omega)
  have h3' : ¬ (nt : Int) < n := by omega
  have hn40 : (n : Int) ≤ 40 := by omega
  have HB := hid hB
  have HT := hid hT
  have HN0 := hid h2
  clear hB hT h2
  go_enter Try.func8, Try.ntmps8
  go_wp2_with fail
  refine (awake_any _).mono ?_
  rintro e w1 ⟨rfl, hb1⟩
  have HO1 := hid (Only.of_below hb1 (fun _ => False))
  clear hb1
  go_wp2_with fail
  refine (new_rel _ _).mono ?_
  rintro e w3 ⟨p, q, rfl, hm2, hp, hq, ho2⟩
  rw [show clampN 1 = 1 from clamp_nat 1 (by decide)] at hm2
  have HO3 := hid (HO1.out.chain ho2 (fun _ _ h => h))
  have HM3 : Hid (MemIs 72 w3 p q [((0 : Nat) : Int)]) := hm2
  have z1 := HO1.out.size
  clear hm2 ho2 HO1
  go_wp2_with fail
  go_loopw [38, 6, 7, 8] (fun i l a c wr => ∃ k b, k ≤ n ∧ i = .int .i64 (k : Int) ∧ a = .int .i64 ((wantM B T k).getD 0) ∧ c = .bool (wantM B T k).isSome ∧ Grow 57 7 wr l b k (insFlat (insM B k)) ∧ w3.heap.size ≤ b ∧ Only (fun _ => False) w3 wr) (fun i _ _ _ _ => n - (intOf i).toNat)
  case atStart => exact ⟨0, w3.heap.size, Nat.zero_le _, rfl, rfl, rfl, Grow.nil _ _ _ _, Nat.le_refl _, Only.refl _ _⟩
  case round =>
    obtain ⟨k, b, hk, rfl, rfl, rfl, hG, hb, hO⟩ := hrel
    by_cases hlt : k < n
    · have hlt' : (k : Int) < n := by omega
      have hkt : (k : Int) < nt := by omega
      obtain ⟨bb, bo, hcB⟩ := HB.out
      obtain ⟨tb, ti, hcT⟩ := HT.out
      obtain ⟨hla, hcB⟩ := hcB k hlt
      obtain ⟨hta, hcT⟩ := hcT k hlt
      have hON := HO3.out.chain hO (fun _ _ h => h)
      have zN := hON.size
      have hbl : bb < w.heap.size := World.block_lt_of_cell? _ _ hcB
      have htl : tb < w.heap.size := World.block_lt_of_cell? _ _ hcT
      have dB : wr.cell? ⟨bb, bo + k, none⟩ = some (.bool (B k)) := (World.cell?_of_block (hON.block bb hbl (fun h => h))).trans hcB
      have hbl' : bb < wr.heap.size := by omega
      have HNEW : Hid (∀ (b' cap' : Nat) (w5 : World), Grow 57 7 w5 (.slice (some ⟨b', 0, none⟩) (k + 1 : Nat) cap') b' (k + 1) (insFlat (insM B k) ++ insCells (markI (B k))) → Only (fun i => Value.ownBlock u6 = some i) (wr.alloc (.cells (insCells (markI (B k))).toArray 57)) w5 → (b' = b ∨ wr.heap.size + 1 ≤ b') →
          Grow 57 7 w5 (.slice (some ⟨b', 0, none⟩) (k + 1 : Nat) cap') b' (k + 1) (insFlat (insM B (k + 1))) ∧ w3.heap.size ≤ b' ∧ Only (fun _ => False) w3 w5 ∧ w5.cell? ⟨bb, bo + k, none⟩ = some (.bool (B k)) ∧ w5.cell? ⟨tb, ti + k, none⟩ = some (.int .i64 (T k))) := by
        intro b' cap' w5 hg ho hbb
        have h9 := hO.size
        have hO5 : Only (fun _ => False) w3 w5 := (hO.alloc _).chain ho (fun i hi e => by have h8 := hG.spot i e; omega)
        have hO6 := HO3.out.chain hO5 (fun _ _ h => h)
        refine ⟨?_, ?_, hO5, (World.cell?_of_block (hO6.block bb hbl (fun h => h))).trans hcB, (World.cell?_of_block (hO6.block tb htl (fun h => h))).trans hcT⟩
        · rw [insM_succ, insFlat_append, show insFlat [markI (B k)] = insCells (markI (B k)) by simp [insFlat]]
          exact hg
        · rcases hbb with h8 | h8
          · omega
          · omega
      have HGa := hid (hG.only ((Only.refl (fun _ => False) wr).alloc (.cells (insCells (markI (B k))).toArray 57)) (fun h => h))
      have hta' := hta
      have hla' := hla
      have HWK : Hid (wantM B T (k + 1) = if B k = true then some (T k) else wantM B T k) := rfl
      clear hcB hcT hON zN hG
      subst hla' hta'
      cases hBk : B k
      · rw [hBk] at dB HNEW HGa HWK
        clear hBk
        go_wp2_with (at_builtin; refine wpList_append_grown _ rfl (.tmp 41) (.tmp 47) 22 rfl 57 _ 7 40 Try.underlying22 infoIns rfl (by decide) u6 b k (insFlat (insM B k)) rfl HGa.out ⟨wr.heap.size, 0, none⟩ 1 1 (insCells (markI false)) rfl (by decide) rfl (news_of_block (heap_new wr (.cells (insCells (markI false)).toArray 57))) (ins_one (markI false)) (by unfold maxLen; omega) (by omega) ?_)
        intro b' cap' w5 hg ho hbb
        have HR := hid (HNEW.out b' cap' w5 hg ho hbb)
        have e1 := HR.out.2.2.2.1
        clear hg ho hbb hb hO
        go_wp2_with fail
        go_roundw
        case rel => exact ⟨k + 1, b', by omega, by go_num, by rw [HWK.out]; rfl, by rw [HWK.out]; rfl, HR.out.1, HR.out.2.1, HR.out.2.2.1⟩
        case measure => simp [intOf]; omega
      · rw [hBk] at dB HNEW HGa HWK
        clear hBk
        go_wp2_with (at_builtin; refine wpList_append_grown _ rfl (.tmp 41) (.tmp 47) 22 rfl 57 _ 7 40 Try.underlying22 infoIns rfl (by decide) u6 b k (insFlat (insM B k)) rfl HGa.out ⟨wr.heap.size, 0, none⟩ 1 1 (insCells (markI true)) rfl (by decide) rfl (news_of_block (heap_new wr (.cells (insCells (markI true)).toArray 57))) (ins_one (markI true)) (by unfold maxLen; omega) (by omega) ?_)
        intro b' cap' w5 hg ho hbb
        have HR := hid (HNEW.out b' cap' w5 hg ho hbb)
        have e1 := HR.out.2.2.2.1
        have e2 := HR.out.2.2.2.2
        clear hg ho hbb hb hO
        go_wp2_with fail
        go_roundw
        case rel => exact ⟨k + 1, b', by omega, by go_num, by rw [HWK.out]; rfl, by rw [HWK.out]; rfl, HR.out.1, HR.out.2.1, HR.out.2.2.1⟩
        case measure => simp [intOf]; omega
    · obtain rfl : k = n := by omega
      have hb2 := hG.lt (by have := HN0.out; omega)
      obtain ⟨cap, rfl, _, _, hcells0⟩ := hG.cells (by have := HN0.out; omega)
      have HG := hid hG
      have HOr := hid hO
      have l1 : p < w3.heap.size := lt_of_block HM3.out.head
      have l2 : q < w3.heap.size := HM3.out.row.lt
      have z3 := HOr.out.size
      clear hG hO hcells0
      go_wp2_with fail
      refine (fnew_rel _ _).mono ?_
      rintro e w6 ⟨F, rfl, hf6, hF, ho6⟩
      have hP6 := heap_new wr (.cells #[.slice (some ⟨b, 0, none⟩) k cap, .slice none 0 0, .int .i64 0] 33)
      have hOp : Only (fun _ => False) wr (wr.alloc (.cells #[.slice (some ⟨b, 0, none⟩) k cap, .slice none 0 0, .int .i64 0] 33)) := (Only.refl _ _).alloc _
      have hF' : F = wr.heap.size + 1 := hF.trans (by simp)
      have hO6 : Only (fun _ => False) w3 w6 := (HOr.out.chain hOp (fun _ _ h => h)).chain ho6 (fun _ _ h => h)
      have hm6 := HM3.out.only hO6 (fun h => h) (fun h => h)
      obtain ⟨cap', hcap, _, _, hcells⟩ := ((HG.out.only hOp (fun h => h)).only ho6 (fun h => h)).cells (by have := HN0.out; omega)
      have hIns : InsIs w6 (some ⟨b, 0, none⟩) b (insM B k) := insIs_of_cells hcells
      have HU6 : Hid (Under w6 F F p q wr.heap.size wr.heap.size b (some ⟨b, 0, none⟩) cap (insM B k) (fresh (some ⟨p, 0, none⟩)) [((0 : Nat) : Int)] 0 []) := by
        refine under_new hm6 hf6 ?_ hIns (by omega) (by omega) (by omega) (by omega) (by omega) (fun _ => ⟨by omega, by omega, by omega⟩)
        rw [insM_length]
        exact (ho6.block _ (by simp) (fun h => h)).trans hP6
      have HO6 := hid (HO3.out.chain hO6 (fun _ _ h => h))
      have z6 : w.heap.size ≤ w3.heap.size := HO3.out.size
      clear hf6 ho6 hP6 hOp hm6 hcap hcells hIns hO6 HG HOr HM3 HO3 hF
      generalize wr.heap.size = z at *
      subst hF'
      go_wp2_with fail
      go_loopw [65] (fun i wx => ∃ j, j ≤ k ∧ i = .int .i64 (j : Int) ∧ (∃ lb gb s la go, Under wx (z + 1) lb p q z gb b (some ⟨b, 0, none⟩) cap (insM B k) s [(j : Int)] la go ∧ s.mp = some ⟨p, 0, none⟩ ∧ s.log = logM T j ∧ s.underway = false ∧ s.done = overB (insM B k) (logM T j) ∧ (overB (insM B k) (logM T j) = true → s.mark = (wantM B T j).getD 0 ∧ s.marked = (wantM B T j).isSome) ∧ w.heap.size ≤ lb) ∧ Only (fun _ => False) w wx) (fun i _ => k - (intOf i).toNat)
      case atStart =>
        refine ⟨0, Nat.zero_le _, rfl, ⟨z + 1, z, _, 0, [], HU6.out, rfl, rfl, rfl, ?_, fun h9 => ?_, by omega⟩, HO6.out⟩
        · rw [overM B T (Nat.zero_le k)]
          have := HN0.out
          show false = _
          simp
          omega
        · rw [overM B T (Nat.zero_le k)] at h9
          have := HN0.out
          simp at h9
          omega
      case round =>
        obtain ⟨j, hj, rfl, ⟨lb, gb, s, la, go, hU, t1, t2, t3, t4, t5, t6⟩, hOx⟩ := hrel
        rw [overM B T hj] at t4 t5
        clear HU6 HO6
        by_cases hjl : j < k
        · have hjl' : (j : Int) < k := by omega
          have hjt : (j : Int) < nt := by omega
          have hjk : decide (j = k) = false := by simp; omega
          obtain ⟨tb, ti, hcT⟩ := HT.out.only hOx
          obtain ⟨hta, hcT⟩ := hcT j hjl
          subst hta
          have HU := hid hU
          have HTT := hid (And.intro t1 (And.intro t2 (And.intro t3 (t4.trans hjk))))
          have HOx := hid hOx
          clear hU t1 t2 t3 t4 t5 hOx hjk
          go_wp2_with fail
          refine (step2_go _ (z + 1) lb p q z gb b _ cap (insM B k) s [(j : Int)] la go (T j) (logM T j) HTT.out.2.1 HU.out HTT.out.2.2.2 HTT.out.2.2.1 (liveM B T k j hj) (by rw [insM_length]; omega) (by rw [(ctlM B T k j hj).1, insM_length]; omega)).mono ?_
          rintro e w9 ⟨lb9, gb9, s9, la9, go9, rfl, hU9, ⟨r1, r2, r3, r4⟩, r5, hlb9, hgb9, ho9⟩
          rw [nextWordsM B T hjl (by omega)] at hU9
          rw [nextLogM B T hjl] at r2 r4 r5
          rw [nextLogM B T hjl]
          have HS9 : Hid (∃ lb gb s la go, Under w9 (z + 1) lb p q z gb b (some ⟨b, 0, none⟩) cap (insM B k) s [((j + 1 : Nat) : Int)] la go ∧ s.mp = some ⟨p, 0, none⟩ ∧ s.log = logM T (j + 1) ∧ s.underway = false ∧ s.done = overB (insM B k) (logM T (j + 1)) ∧ (overB (insM B k) (logM T (j + 1)) = true → s.mark = (wantM B T (j + 1)).getD 0 ∧ s.marked = (wantM B T (j + 1)).isSome) ∧ w.heap.size ≤ lb) :=
            ⟨lb9, gb9, s9, la9, go9, hU9, r1.trans HTT.out.1, r2, r3, r4, fun h9 => by have h8 := (r5 h9).2; rw [(ctlM B T k (j + 1) (by omega)).2] at h8; exact h8, by rcases hlb9 with h9 | h9; omega; have := HOx.out.size; omega⟩
          have HO9 : Hid (Only (fun _ => False) w w9) := HOx.out.chain ho9 (fun i hi e => by rcases e with e | e | e | e <;> omega)
          clear hU9 r1 r2 r3 r4 r5 hlb9 hgb9 ho9 HU HTT HOx hcT
          go_wp2_with fail
          go_roundw
          case rel => exact ⟨j + 1, by omega, by go_num, HS9.out, HO9.out⟩
          case measure => simp [intOf]; omega
        · obtain rfl : j = k := by omega
          have e1 : decide (j = j) = true := by simp
          rw [e1] at t4 t5
          have HD := hid t4
          have HMK := hid (t5 rfl)
          have HF := hid hU.fm.frame
          have HOx := hid hOx
          clear hU t1 t2 t3 t4 t5 t6 hOx e1
          go_wp2_with fail
          refine (marked_rel _ _ _ _ HF.out).mono ?_
          rintro e w8 ⟨rfl, hf8, ho8⟩
          rw [HMK.out.1, HMK.out.2]
          have HF8 := hid hf8
          have HO8 := hid (HOx.out.chain ho8 (fun _ _ h => h))
          clear hf8 ho8
          go_wp2_with fail
          refine (done_rel _ _ _ _ HF8.out).mono ?_
          rintro e w9 ⟨rfl, rfl⟩
          rw [HD.out]
          go_wp2_with fail
          go_ret
          exact ⟨by simp, HO8.out.below (Nat.le_refl _) (fun _ _ h => h)⟩

theorem walk (la ta : Option Addr) (n lc nt tc : Nat) (B : Nat → Bool) (T : Nat → Int) (w : World) (hn : n ≤ 9223372036854775807) (hnt : nt ≤ 9223372036854775807) (hB : Bools w la n B) (hT : Nums w ta nt T) :
    Calls Try.prog 8 #[.slice la n lc, .slice ta nt tc] w fun e w' => e = .returned (.bool true) ∧ Below w.heap.size w w' := by
  by_cases h : 40 < n ∨ n = 0 ∨ nt < n
  · exact walk_out la ta n lc nt tc w hn h
  · refine walk_in la ta n lc nt tc B T w hnt (by omega) (by omega) (by omega) hB ?_
    obtain ⟨b, off, h9⟩ := hT
    exact ⟨b, off, fun i hi => h9 i (by omega)⟩

set_option maxRecDepth 100000 in
theorem lifted (os : Os) (started : os.Started) (H : Type) (enc : TypeId × Value → H) :
    ReturnsInHanded {} Try.checked os 8 .any (Rows.frameMarksSpec.pre6 enc Try.prog Try.f8 Rows.frameMarksRow.domain false) (Rows.frameMarksSpec.post enc Try.prog Try.f8 false true false false) := by
  refine returnsInHanded_of_change (C := Try.checked) own started (by kernel_rfl) Try.func8
    (ChangeSpec.witness6 (enc := enc) (C := Try.checked) false ⟨#[], #[.slice none 0 0, .slice none 0 0], []⟩ 8 (by kernel_rfl) (by kernel_rfl) (by kernel_rfl) (by kernel_rfl)) ?_
  intro W base args ds gs before hval0 hW hcnd _
  have hval : ∀ (j : Nat) t v, Try.f8.params[j]? = some t → args[j]? = some v → Value.okWide Try.prog W .any base t v := hval0
  have hW' := hW
  obtain ⟨p, q, hA0, hV, rfl, hfz, hnd⟩ := hW
  have hA : DataW.TrodAll enc Try.prog W 0 (fun _ => true) true Try.f8.params.toList args.toList ds p := hA0
  rw [Try.params8] at hA hval
  obtain ⟨v0, vs0, d0, ds0, p0, q0, hargs, rfl, rfl, h0, r0⟩ := trodAll_cons hA
  obtain ⟨v1, vs1, d1, ds1, p1, q1, rfl, rfl, rfl, h1, r1⟩ := trodAll_cons r0
  obtain ⟨rfl, rfl, rfl⟩ := trodAll_nil r1
  obtain rfl : args = #[v0, v1] := by cases args; simp_all
  obtain ⟨la, n, lc, rfl⟩ := okWide_slice Try.underlying68 (hval 0 68 v0 rfl rfl)
  obtain ⟨ta, nt, tc, rfl⟩ := okWide_slice Try.underlying69 (hval 1 69 v1 rfl rfl)
  obtain ⟨B, hB, hn⟩ : ∃ B, Bools W la n B ∧ n ≤ 9223372036854775807 := by
    obtain ⟨fuel, hf⟩ := h0
    rcases open_bools Try.underlying68 Try.underlying4 (by kernel_rfl) hf with ⟨hcs, _⟩ | ⟨x, l, c, B, hcs, _, hl, hm, _, hcell⟩
    · simp [Value.cells] at hcs
      obtain ⟨rfl, rfl, rfl⟩ := hcs
      exact ⟨fun _ => false, ⟨0, 0, fun i hi => by omega⟩, by omega⟩
    · simp [Value.cells] at hcs
      obtain ⟨rfl, rfl, rfl⟩ := hcs
      unfold maxLen at hm
      obtain ⟨b, off, spot⟩ := x
      refine ⟨B, ⟨b, off, fun i hi => ?_⟩, by omega⟩
      have hci := hcell i (by omega)
      have hspot : spot = none := by
        have hc0 := hcell 0 (by omega)
        simpa [Addr.add] using World.cell?_spot hc0
      subst hspot
      have e9 : Addr.add ⟨b, off, none⟩ i = ⟨b, off + i, none⟩ := by simp only [Addr.add]; split <;> simp_all
      rw [e9] at hci
      exact ⟨rfl, hci⟩
  obtain ⟨T, hT, hnt⟩ : ∃ T, Nums W ta nt T ∧ nt ≤ 9223372036854775807 := by
    obtain ⟨fuel, hf⟩ := h1
    rcases open_ints Try.underlying69 Try.underlying3 (by kernel_rfl) hf with ⟨hcs, _⟩ | ⟨x, l, c, zs, hcs, _, hl, hm, hz, _, hcell, _⟩
    · simp [Value.cells] at hcs
      obtain ⟨rfl, rfl, rfl⟩ := hcs
      exact ⟨fun _ => 0, ⟨0, 0, fun i hi => by omega⟩, by omega⟩
    · simp [Value.cells] at hcs
      obtain ⟨rfl, rfl, rfl⟩ := hcs
      unfold maxLen at hm
      have hz' : zs.length = tc := by simpa using hz
      obtain ⟨b, off, spot⟩ := x
      refine ⟨fun i => zs.getD i 0, ⟨b, off, fun i hi => ?_⟩, by omega⟩
      have hci := hcell i (by omega)
      have hspot : spot = none := by
        have hc0 := hcell 0 (by omega)
        simpa [Addr.add] using World.cell?_spot hc0
      subst hspot
      have e9 : Addr.add ⟨b, off, none⟩ i = ⟨b, off + i, none⟩ := by simp only [Addr.add]; split <;> simp_all
      rw [e9] at hci
      exact ⟨rfl, hci⟩
  refine (walk la ta n lc nt tc B T W hn hnt hB hT).mono fun e W' ⟨he, hg⟩ => ?_
  subst he
  exact ⟨_, rfl, post_law 2 4 laidOut (by kernel_rfl) rfl rfl rfl Try.underlying4 (fun l hl => by match l, hl with | [_, _], _ => rfl) hW' hg⟩

theorem over : Rows.frameMarksRow.holds Try.pinned (OpenSpec.ofChange Rows.frameMarksSpec) :=
  OpenClaim.holds_of_wide 8 Try.f8 rfl rfl rfl rfl rfl rfl rfl ⟨rfl, rfl, rfl, rfl, rfl⟩ rfl rfl rfl rfl rfl (by kernel_rfl) Try.func8 (by kernel_rfl)
    (of_decide_eq_true (by kernel_rfl)) (by unfold Func.isWrapper; first | (rw [if_pos (by decide +kernel)]; kernel_rfl) | (rw [if_neg (by decide +kernel)]; exact ⟨rfl, rfl⟩))
    (fun os started H enc _ => lifted os started H enc)

theorem proved : Rows.FrameMarksSaid := over
#print axioms proved
end Go.Proofs.Ythadfbcknaedgaa.frameMarks

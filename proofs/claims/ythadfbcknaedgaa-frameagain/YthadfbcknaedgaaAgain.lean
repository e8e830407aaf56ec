/-
  FrameAgain: for every v, w and number of steps the law answers true: what an access answered stays, for the body, in all later steps, whatever becomes of the memory. Conditions: none.
-/
import Derived.Test.YthadfbcknaedgaaOpen2
namespace Go.Proofs.Ythadfbcknaedgaa.frameAgain
open Go.Sept Go.RowKit Go.ChangeShapes Go.WideShapes Go.ChangeAt Go.Joins Go.Deep

def addI : Ins := ⟨2, 2, 1, 0, false, false, false⟩
def loadI : Ins := ⟨0, 0, 0, 0, false, false, false⟩
def insA (n : Nat) : List Ins := loadI :: List.replicate n addI
theorem insA_succ (n : Nat) : insA (n + 1) = insA n ++ [addI] := by simp [insA, List.replicate_succ']
theorem insA_length (n : Nat) : (insA n).length = n + 1 := by simp [insA]
theorem insA_get {n k : Nat} (h : k < n) : (insA n).getD (k + 1) noIns = addI := by
  simp [insA, h]

/-- The log behind 1 + k steps. -/
def logA (v : Int) : Nat → List (Int × Int)
  | 0 => [(v, 0)]
  | k + 1 => logA v k ++ [((k : Int), (k : Int) + 1)]
theorem logA_length (v : Int) : ∀ k, (logA v k).length = k + 1
  | 0 => rfl
  | k + 1 => by simp [logA, logA_length v k]
theorem ctlA (v : Int) (n : Nat) : ∀ k, k ≤ n → (ctlOf (insA n) (logA v k)).i = k + 1 ∧ (∃ r, (ctlOf (insA n) (logA v k)).got = v :: r ∧ r.length = k)
  | 0, _ => by
    refine ⟨?_, [], ?_, rfl⟩
    · simp [logA, ctlOf, adv, Ctl.zero, insA, loadI]
    · simp [logA, ctlOf, adv, Ctl.zero, insA, loadI, lastOf]
  | k + 1, h => by
    obtain ⟨h1, r, h2, h3⟩ := ctlA v n k (by omega)
    have e : (insA n).getD (ctlOf (insA n) (logA v k)).i noIns = addI := by rw [h1]; exact insA_get (by omega)
    refine ⟨?_, r ++ [(k : Int)], ?_, by simp [h3]⟩
    · rw [logA, ctlOf_snoc, adv, e, h1]
      simp [addI]
    · rw [logA, ctlOf_snoc, adv, e, h2]
      simp [addI, lastOf]
theorem liveA (v : Int) (n : Nat) : ∀ k, k ≤ n → Live (insA n) (logA v k)
  | 0, _ => (Live.nil _).snoc (by simp [ctlOf, Ctl.zero, insA]) _
  | k + 1, h => (liveA v n k (by omega)).snoc (by rw [(ctlA v n k (by omega)).1, insA_length]; omega) _
theorem overA (v : Int) {n k : Nat} (h : k ≤ n) : overB (insA n) (logA v k) = decide (k = n) := by
  rw [overB, (ctlA v n k h).1, insA_length]
  by_cases e : k = n
  · subst e; simp
  · simp [e]; omega
theorem firstLog (v : Int) (n : Nat) : nextLog (insA n) [] [v, 0, 0] 0 = logA v 0 := by
  simp [nextLog, ctlOf, Ctl.zero, insA, loadI, ansA, valA, okA, logA]
theorem firstWords (v : Int) (n : Nat) : nextWords (insA n) [] [v, 0, 0] = [v, 0, 0] := by
  simp [nextWords, ctlOf, Ctl.zero, insA, loadI, aftA]
theorem nextLogA (v x : Int) {n k : Nat} (h : k < n) : nextLog (insA n) (logA v k) [x, 0, (k : Int)] ((k : Int) + 1) = logA v (k + 1) := by
  rw [nextLog, (ctlA v n k (by omega)).1, insA_get h]
  simp [addI, ansA, valA, okA, logA]
theorem nextWordsA (v x : Int) {n k : Nat} (h : k < n) (hk : k ≤ 100) : nextWords (insA n) (logA v k) [x, 0, (k : Int)] = [x, 0, ((k + 1 : Nat) : Int)] := by
  rw [nextWords, (ctlA v n k (by omega)).1, insA_get h]
  simp [addI, aftA, valA, okA, setA, Ctl.val]
  unfold wrap64
  omega
theorem setA0 (x y a b : Int) : setA [x, a, b] 0 y = [y, a, b] := by simp [setA, okA]

set_option maxRecDepth 100000 in
set_option maxHeartbeats 4000000 in
theorem walk (v u : Int) (m : Nat) (hm : m ≤ 255) (w : World) :
    Calls Try.prog 7 #[.int .i64 v, .int .i64 u, .int .u8 m] w fun e w' => e = .returned (.bool true) ∧ Below w.heap.size w w' := by
  have hmf : ∀ (fn : Fn) (first cap : Array Value) (w : World), (Instr.makeFunc fn first cap).run Try.prog w = .ok (.func fn first cap) w := fun _ _ _ _ => rfl
  obtain ⟨n, hn⟩ : ∃ n, n = m % 20 := ⟨_, rfl⟩
  have hn20 : n < 20 := by omega
  have HN : Hid ((m : Int) % 20 = n) := by rw [hn]; exact (Int.natCast_emod m 20).symm
  clear hn
  go_enter Try.func7, Try.ntmps7
  go_wp2_with fail
  refine (awake_any _).mono ?_
  rintro e w1 ⟨rfl, hb1⟩
  have HO1 := hid (Only.of_below hb1 (fun _ => False))
  clear hb1
  go_wp2_with fail
  refine (new_rel _ _).mono ?_
  rintro e w2 ⟨p, q, rfl, hm2, hp, hq, ho2⟩
  rw [show clampN 3 = 3 from clamp_nat 3 (by decide)] at hm2
  have HO2 := hid (HO1.out.chain ho2 (fun _ _ h => h))
  have HM2 := hid hm2
  have z1 := HO1.out.size
  clear hm2 ho2 HO1
  go_wp2_with fail
  refine (store_rel _ p q _ HM2.out 0 (by decide) v).mono ?_
  rintro e w3 ⟨rfl, hm3, ho3⟩
  have HM3 : Hid (MemIs 72 w3 p q [v, 0, 0]) := hm3
  have HO3 := hid (HO2.out.chain ho3 (fun i hi e => by omega))
  clear hm3 ho3 HM2 HO2
  have HG0 : Hid (Grow 57 7 (w3.alloc (.cells #[.int .u8 0, .int .i64 0, .int .i64 0, .int .i64 0, .bool false, .bool false, .bool false] 57)) (.slice (some ⟨w3.heap.size, 0, none⟩) 1 1) w3.heap.size 1 (insFlat (insA 0))) :=
    Grow.made w3 1 (insFlat (insA 0)) (by unfold maxLen; omega) rfl
  go_wp2_with fail
  rw [HN.out]
  clear HN
  go_loopw [27, 9] (fun i l wr => ∃ k b cap, k ≤ n ∧ i = .int .i64 (k : Int) ∧ l = .slice (some ⟨b, 0, none⟩) (k + 1 : Nat) cap ∧ Grow 57 7 wr l b (k + 1) (insFlat (insA k)) ∧ w3.heap.size ≤ b ∧ Only (fun _ => False) w3 wr) (fun i _ _ => n - (intOf i).toNat)
  case atStart => exact ⟨0, _, 1, Nat.zero_le _, rfl, rfl, HG0.out, Nat.le_refl _, (Only.refl _ _).alloc _⟩
  case round =>
    obtain ⟨k, b, cap, hk, rfl, rfl, hG, hb, hO⟩ := hrel
    clear HG0
    by_cases hlt : k < n
    · have hlt' : (k : Int) < n := by omega
      go_wp2_with (at_builtin; refine wpList_append_grown _ rfl (.tmp 29) (.tmp 31) 22 rfl 57 _ 7 40 Try.underlying22 infoIns rfl (by decide) (.slice (some ⟨b, 0, none⟩) (k + 1 : Nat) cap) b (k + 1) (insFlat (insA k)) rfl (hG.only ((Only.refl (fun _ => False) wr).alloc (.cells #[.int .u8 2, .int .i64 2, .int .i64 1, .int .i64 0, .bool false, .bool false, .bool false] 57)) (fun h => h)) ⟨wr.heap.size, 0, none⟩ 1 1 (insCells addI) rfl (by decide) rfl (news_of_block (heap_new wr (.cells #[.int .u8 2, .int .i64 2, .int .i64 1, .int .i64 0, .bool false, .bool false, .bool false] 57))) (ins_one addI) (by unfold maxLen; omega) (by omega) ?_)
      intro b' cap' w5 hg ho hbb
      have HR : Hid (Grow 57 7 w5 (.slice (some ⟨b', 0, none⟩) (k + 1 + 1 : Nat) cap') b' (k + 1 + 1) (insFlat (insA (k + 1))) ∧ w3.heap.size ≤ b' ∧ Only (fun _ => False) w3 w5) := by
        refine ⟨?_, ?_, ?_⟩
        · rw [insA_succ, insFlat_append, show insFlat [addI] = insCells addI from rfl]
          exact hg
        · have h9 := hO.size
          rcases hbb with h8 | h8
          · omega
          · have h7 : wr.heap.size + 1 ≤ b' := h8
            omega
        · refine (hO.alloc _).chain ho (fun i hi e => ?_)
          have h8 := hG.spot i e
          omega
      clear hg ho hbb hG hO hb
      go_wp2_with fail
      go_roundw
      case rel => exact ⟨k + 1, b', cap', by omega, by go_num, rfl, HR.out.1, HR.out.2.1, HR.out.2.2⟩
      case measure => simp [intOf]; omega
    · obtain rfl : k = n := by omega
      have hb2 := hG.lt (Nat.succ_pos _)
      have HG := hid hG
      have HOr := hid hO
      have l1 : p < w3.heap.size := lt_of_block HM3.out.head
      have l2 : q < w3.heap.size := HM3.out.row.lt
      have z3 := HOr.out.size
      clear hG hO
      go_wp2_with fail
      refine (fnew_rel _ _).mono ?_
      rintro e w6 ⟨F, rfl, hf6, hF, ho6⟩
      have hP6 := heap_new wr (.cells #[.slice (some ⟨b, 0, none⟩) (k + 1 : Nat) cap, .slice none 0 0, .int .i64 0] 33)
      have hOp : Only (fun _ => False) wr (wr.alloc (.cells #[.slice (some ⟨b, 0, none⟩) (k + 1 : Nat) cap, .slice none 0 0, .int .i64 0] 33)) := (Only.refl _ _).alloc _
      have hF' : F = wr.heap.size + 1 := hF.trans (by simp)
      have hO6 : Only (fun _ => False) w3 w6 := (HOr.out.chain hOp (fun _ _ h => h)).chain ho6 (fun _ _ h => h)
      have hm6 := HM3.out.only hO6 (fun h => h) (fun h => h)
      obtain ⟨cap', hcap, _, _, hcells⟩ := ((HG.out.only hOp (fun h => h)).only ho6 (fun h => h)).cells (Nat.succ_pos _)
      have hIns : InsIs w6 (some ⟨b, 0, none⟩) b (insA k) := insIs_of_cells hcells
      have HU6 : Hid (Under w6 F F p q wr.heap.size wr.heap.size b (some ⟨b, 0, none⟩) cap (insA k) (fresh (some ⟨p, 0, none⟩)) [v, 0, 0] 0 []) := by
        refine under_new hm6 hf6 ?_ hIns (by omega) (by omega) (by omega) (by omega) (by omega) (fun _ => ⟨by omega, by omega, by omega⟩)
        rw [insA_length]
        exact (ho6.block _ (by simp) (fun h => h)).trans hP6
      have HO6 := hid (HO3.out.chain hO6 (fun _ _ h => h))
      have z6 : w.heap.size ≤ w3.heap.size := HO3.out.size
      clear hf6 ho6 hP6 hOp hm6 hcap hcells hIns hO6 HG HOr HM3 HO3 hF
      generalize wr.heap.size = z at *
      subst hF'
      go_wp2_with fail
      refine (step2_go _ (z + 1) (z + 1) p q z z b _ cap (insA k) _ [v, 0, 0] 0 [] 0 [] rfl HU6.out rfl rfl (Live.nil _) (by rw [insA_length]; omega) (by rw [insA_length]; exact Nat.succ_pos _)).mono ?_
      rintro e w7 ⟨lb7, gb7, s7, la7, go7, rfl, hU7, ⟨r1, r2, r3, r4⟩, r5, hlb7, hgb7, ho7⟩
      rw [firstWords] at hU7
      rw [firstLog] at r2 r4 r5
      rw [firstLog]
      have HS7 : Hid (∃ lb gb s la go, Under w7 (z + 1) lb p q z gb b (some ⟨b, 0, none⟩) cap (insA k) s [v, 0, ((0 : Nat) : Int)] la go ∧ s.mp = some ⟨p, 0, none⟩ ∧ s.log = logA v 0 ∧ s.underway = false ∧ s.done = overB (insA k) (logA v 0) ∧ (overB (insA k) (logA v 0) = true → go = (ctlOf (insA k) (logA v 0)).got) ∧ w.heap.size ≤ lb) :=
        ⟨lb7, gb7, s7, la7, go7, hU7, r1, r2, r3, r4, fun h9 => (r5 h9).1, by rcases hlb7 with h9 | h9; omega; have := HO6.out.size; omega⟩
      have HO7 : Hid (Only (fun _ => False) w w7) := HO6.out.chain ho7 (fun i hi e => by rcases e with e | e | e | e <;> omega)
      clear hU7 r1 r2 r3 r4 r5 hlb7 hgb7 ho7 HU6 HO6
      go_wp2_with fail
      go_loopw [44] (fun i wx => ∃ j, j ≤ k ∧ i = .int .i64 (j : Int) ∧ (∃ x lb gb s la go, Under wx (z + 1) lb p q z gb b (some ⟨b, 0, none⟩) cap (insA k) s [x, 0, (j : Int)] la go ∧ s.mp = some ⟨p, 0, none⟩ ∧ s.log = logA v j ∧ s.underway = false ∧ s.done = overB (insA k) (logA v j) ∧ (overB (insA k) (logA v j) = true → go = (ctlOf (insA k) (logA v j)).got) ∧ w.heap.size ≤ lb) ∧ Only (fun _ => False) w wx) (fun i _ => k - (intOf i).toNat)
      case atStart =>
        obtain ⟨lb, gb, s, la, go, h9⟩ := HS7.out
        exact ⟨0, Nat.zero_le _, rfl, ⟨v, lb, gb, s, la, go, h9⟩, HO7.out⟩
      case round =>
        obtain ⟨j, hj, rfl, ⟨x, lb, gb, s, la, go, hU, t1, t2, t3, t4, t5, t6⟩, hOx⟩ := hrel
        rw [overA v hj] at t4 t5
        clear HS7 HO7
        by_cases hjl : j < k
        · have hjl' : (j : Int) < k := by omega
          have hjk : decide (j = k) = false := by simp; omega
          have hm8 : Holds 72 _ (.pointer (some ⟨p, 0, none⟩)) p q [x, 0, (j : Int)] := t1 ▸ hU.fm.mem
          have HU := hid hU
          have HT := hid (And.intro t1 (And.intro t2 (And.intro t3 (t4.trans hjk))))
          have HOx := hid hOx
          have t6' := t6
          clear hU t1 t2 t3 t4 t5 hOx hjk
          go_wp2_with fail
          refine (sto_rel _ _ p q _ hm8 0 u).mono ?_
          rintro e w8 ⟨rfl, hh8, ho8⟩
          rw [setA0] at hh8
          have HU8 := hid (under_mem HU.out (HT.out.1.symm ▸ hh8) ho8)
          have HO8 : Hid (Only (fun _ => False) w w8) := HOx.out.chain ho8 (fun i hi e => by omega)
          clear hm8 hh8 ho8 HU HOx
          go_wp2_with fail
          refine (step2_go _ (z + 1) lb p q z gb b _ cap (insA k) s [u, 0, (j : Int)] la go _ (logA v j) HT.out.2.1 HU8.out HT.out.2.2.2 HT.out.2.2.1 (liveA v k j hj) (by rw [insA_length]; omega) (by rw [(ctlA v k j hj).1, insA_length]; omega)).mono ?_
          rintro e w9 ⟨lb9, gb9, s9, la9, go9, rfl, hU9, ⟨r1, r2, r3, r4⟩, r5, hlb9, hgb9, ho9⟩
          rw [nextWordsA v u hjl (by omega)] at hU9
          rw [nextLogA v u hjl] at r2 r4 r5
          rw [nextLogA v u hjl]
          have HS9 : Hid (∃ x lb gb s la go, Under w9 (z + 1) lb p q z gb b (some ⟨b, 0, none⟩) cap (insA k) s [x, 0, ((j + 1 : Nat) : Int)] la go ∧ s.mp = some ⟨p, 0, none⟩ ∧ s.log = logA v (j + 1) ∧ s.underway = false ∧ s.done = overB (insA k) (logA v (j + 1)) ∧ (overB (insA k) (logA v (j + 1)) = true → go = (ctlOf (insA k) (logA v (j + 1))).got) ∧ w.heap.size ≤ lb) :=
            ⟨u, lb9, gb9, s9, la9, go9, hU9, r1.trans HT.out.1, r2, r3, r4, fun h9 => (r5 h9).1, by rcases hlb9 with h9 | h9; omega; have := HO8.out.size; omega⟩
          have HO9 : Hid (Only (fun _ => False) w w9) := HO8.out.chain ho9 (fun i hi e => by rcases e with e | e | e | e <;> omega)
          clear hU9 r1 r2 r3 r4 r5 hlb9 hgb9 ho9 HU8 HO8 HT
          go_wp2_with fail
          go_roundw
          case rel => exact ⟨j + 1, by omega, by go_num, HS9.out, HO9.out⟩
          case measure => simp [intOf]; omega
        · obtain rfl : j = k := by omega
          have e1 : decide (j = j) = true := by simp
          rw [e1] at t4 t5
          have hm8 : Holds 72 _ (.pointer (some ⟨p, 0, none⟩)) p q [x, 0, (j : Int)] := t1 ▸ hU.fm.mem
          obtain ⟨r, g1, g2⟩ := (ctlA v j j (Nat.le_refl _)).2
          have hgo := (t5 rfl).trans g1
          subst hgo
          obtain ⟨gv, q1, q2⟩ := hU.pr
          obtain ⟨gc, rfl, _, _, q3⟩ := q2.cells (Nat.succ_pos _)
          have c1 := Sept.cell_of_block q1 1
          have HC1 : Hid (wr.cell? ⟨z, 1, none⟩ = some (Value.slice (some ⟨gb, 0, none⟩) (j + 1 : Nat) gc)) := by
            have h9 : (v :: r).length = j + 1 := by simp [g2]
            rw [h9] at c1
            exact c1
          have HC0 := hid (q3 0 _ rfl)
          have HD := hid t4
          have HLn : Hid (s.log.length = j + 1) := by rw [t2]; exact logA_length v j
          have HF := hid hU.fm.frame
          have HOx := hid hOx
          clear hU t1 t2 t3 t4 t5 t6 hOx q1 q2 q3 c1 e1 g1 g2
          go_wp2_with fail
          refine (load_rel _ _ p q _ hm8 2).mono ?_
          rintro e w8 ⟨rfl, rfl⟩
          rw [show valA [x, 0, (j : Int)] 2 = (j : Int) by simp [valA, okA]]
          clear hm8
          go_wp2_with fail
          refine (done_rel _ _ _ _ HF.out).mono ?_
          rintro e w9 ⟨rfl, rfl⟩
          rw [HD.out]
          have c1 := HC1.out
          have c0 := HC0.out
          go_wp2_with fail
          refine (steps_rel _ _ _ _ HF.out).mono ?_
          rintro e w10 ⟨rfl, rfl⟩
          rw [HLn.out]
          go_wp2_with fail
          go_ret
          exact ⟨by simp, HOx.out.below (Nat.le_refl _) (fun _ _ h => h)⟩

set_option maxRecDepth 100000 in
theorem lifted (os : Os) (started : os.Started) (H : Type) (enc : TypeId × Value → H) :
    ReturnsInHanded {} Try.checked os 7 .any (Rows.frameAgainSpec.pre6 enc Try.prog Try.f7 Rows.frameAgainRow.domain false) (Rows.frameAgainSpec.post enc Try.prog Try.f7 false true false false) := by
  refine returnsInHanded_of_change (C := Try.checked) own started (by kernel_rfl) Try.func7
    (ChangeSpec.witness6 (enc := enc) (C := Try.checked) false ⟨#[], #[.int .i64 0, .int .i64 0, .int .u8 0], []⟩ 8 (by kernel_rfl) (by kernel_rfl) (by kernel_rfl) (by kernel_rfl)) ?_
  intro W base args ds gs before hval0 hW hcnd _
  have hval : ∀ (j : Nat) t v, Try.f7.params[j]? = some t → args[j]? = some v → Value.okWide Try.prog W .any base t v := hval0
  have hW' := hW
  obtain ⟨p, q, hA0, hV, rfl, hfz, hnd⟩ := hW
  have hA : DataW.TrodAll enc Try.prog W 0 (fun _ => true) true Try.f7.params.toList args.toList ds p := hA0
  rw [Try.params7] at hA hval
  obtain ⟨v0, vs0, d0, ds0, p0, q0, hargs, rfl, rfl, h0, r0⟩ := trodAll_cons hA
  obtain ⟨v1, vs1, d1, ds1, p1, q1, rfl, rfl, rfl, h1, r1⟩ := trodAll_cons r0
  obtain ⟨v2, vs2, d2, ds2, p2, q2, rfl, rfl, rfl, h2, r2⟩ := trodAll_cons r1
  obtain ⟨rfl, rfl, rfl⟩ := trodAll_nil r2
  obtain rfl : args = #[v0, v1, v2] := by cases args; simp_all
  obtain ⟨x0, rfl, rfl, rfl, _⟩ := open_int Try.underlying2 (hval 0 2 v0 rfl rfl) h0
  obtain ⟨x1, rfl, rfl, rfl, _⟩ := open_int Try.underlying2 (hval 1 2 v1 rfl rfl) h1
  obtain ⟨n, rfl, rfl, rfl, wn⟩ := open_int Try.underlying5 (hval 2 5 v2 rfl rfl) h2
  obtain ⟨m, rfl, hm⟩ : ∃ m : Nat, n = m ∧ m ≤ 255 := by
    have := bounds_u8 wn
    exact ⟨n.toNat, by omega, by omega⟩
  refine (walk x0 x1 m hm W).mono fun e W' ⟨he, hg⟩ => ?_
  subst he
  exact ⟨_, rfl, post_law 3 4 laidOut (by kernel_rfl) rfl rfl rfl Try.underlying4 (fun l hl => by match l, hl with | [_, _, _], _ => rfl) hW' hg⟩

theorem over : Rows.frameAgainRow.holds Try.pinned (OpenSpec.ofChange Rows.frameAgainSpec) :=
  OpenClaim.holds_of_wide 7 Try.f7 rfl rfl rfl rfl rfl rfl rfl ⟨rfl, rfl, rfl, rfl, rfl⟩ rfl rfl rfl rfl rfl (by kernel_rfl) Try.func7 (by kernel_rfl)
    (of_decide_eq_true (by kernel_rfl)) (by unfold Func.isWrapper; first | (rw [if_pos (by decide +kernel)]; kernel_rfl) | (rw [if_neg (by decide +kernel)]; exact ⟨rfl, rfl⟩))
    (fun os started H enc _ => lifted os started H enc)

theorem proved : Rows.FrameAgainSaid := over
#print axioms proved
end Go.Proofs.Ythadfbcknaedgaa.frameAgain

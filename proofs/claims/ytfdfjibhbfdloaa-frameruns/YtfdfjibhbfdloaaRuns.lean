/-
  FrameRuns: for every list of accesses and every number of steps the law answers true: a body that is run does all its accesses, if so many steps are enough; else so many. Conditions: none.
-/
import Derived.Test.YtfdfjibhbfdloaaRuns1
import Derived.Test.YtfdfjibhbfdloaaPlain4
namespace Go.Proofs.Ytfdfjibhbfdloaa.frameRuns
open Go.Sept Go.RowKit Go.ChangeShapes Go.WideShapes Go.ChangeAt Go.Joins Go.Deep

set_option maxRecDepth 100000 in
set_option maxHeartbeats 2000000 in
theorem walk_out (lo : Option Addr) (n lc : Nat) (most : Int) (w : World) (hn : n ≤ 9223372036854775807) (h : 60 < n) :
    Calls Try.prog 5 #[.slice lo n lc, .int .i64 most] w fun e w' => e = .returned (.bool true) ∧ Below w.heap.size w w' := by
  have h1' : (60 : Int) < n := by omega
  go_enter Try.func5, Try.ntmps5
  go_wp2_with fail
  refine (awake_any _).mono ?_
  rintro e w1 ⟨rfl, hb1⟩
  go_wp2_with fail
  refine (awake_any _).mono ?_
  rintro e w2 ⟨rfl, hb2⟩
  have hF : Hid (Below w.heap.size w w2) := ((Only.of_below hb1 (fun _ => False)).chain (Only.of_below hb2 (fun _ => False)) (fun _ _ h => h)).below (Nat.le_refl _) (fun _ _ h => h)
  clear hb1 hb2
  go_wp2_with fail
  go_ret
  exact ⟨rfl, hF.out⟩

def zeros : List Int := List.replicate 8 0

set_option maxRecDepth 100000 in
set_option maxHeartbeats 4000000 in
theorem walk_in (lo : Option Addr) (lc LB : Nat) (ins : List Ins) (most : Int) (w : World) (hI : InsIs w lo LB ins) (hlen : ins.length ≤ 60) (hmm : most ≤ 9223372036854775807) :
    Calls Try.prog 5 #[.slice lo ins.length lc, .int .i64 most] w fun e w' => e = .returned (.bool true) ∧ Below w.heap.size w w' := by
  have hmf : ∀ (fn : Fn) (first cap : Array Value) (w : World), (Instr.makeFunc fn first cap).run Try.prog w = .ok (.func fn first cap) w := fun _ _ _ _ => rfl
  have h1' : ¬ (60 : Int) < ins.length := by omega
  have HI := hid hI
  have HLB : Hid (0 < ins.length → LB < w.heap.size) := fun h0 => hI.lt h0
  clear hI
  go_enter Try.func5, Try.ntmps5
  go_wp2_with fail
  refine (awake_any _).mono ?_
  rintro e w1 ⟨rfl, hb1⟩
  have HO1 := hid (Only.of_below hb1 (fun _ => False))
  clear hb1
  go_wp2_with fail
  refine (new_rel _ _).mono ?_
  rintro e w2 ⟨p, q, rfl, hm2, hp, hq, ho2⟩
  have HM2 : Hid (MemIs 74 w2 p q zeros) := hm2
  have HO2 := hid (HO1.out.chain ho2 (fun _ _ h => h))
  have z1 := HO1.out.size
  clear hm2 ho2 HO1
  go_wp2_with fail
  refine (ref_new_rel _ _).mono ?_
  rintro e w3 ⟨rp, rq, rfl, hm3, hrp, hrq, ho3⟩
  have HR3 : Hid (MemIs 43 w3 rp rq zeros) := hm3
  have HM3 := hid (HM2.out.only ho3 (fun h => h) (fun h => h))
  have HO3 := hid (HO2.out.chain ho3 (fun _ _ h => h))
  have l1 : p < w2.heap.size := lt_of_block HM2.out.head
  have l2 : q < w2.heap.size := HM2.out.row.lt
  have l3 : rp < w3.heap.size := lt_of_block HR3.out.head
  have l4 : rq < w3.heap.size := HR3.out.row.lt
  have l5 := ho3.size
  clear hm3 ho3 HM2 HO2
  have hOp : Only (fun _ => False) w3 (w3.alloc (.cells #[.slice lo ins.length lc, .int .i64 0, .int .i64 0, .slice none 0 0, .int .i64 0, .int .i64 0, .bool false] 36)) := (Only.refl _ _).alloc _
  have HP4 := hid (plain_new (HR3.out.only hOp (fun h => h) (fun h => h)) (heap_new w3 (.cells #[.slice lo ins.length lc, .int .i64 0, .int .i64 0, .slice none 0 0, .int .i64 0, .int .i64 0, .bool false] 36)) ((HI.out.only HO3.out (fun _ h => h)).only hOp (fun _ h => h)) (by omega) (by omega) (fun h0 => ⟨by have h9 := HLB.out h0; have h8 := HO3.out.size; omega, by have h9 := HLB.out h0; omega⟩))
  have HO4 := hid hOp
  clear hOp
  go_upto_block 0 with fail
  go_cut [] (fun wc => ∃ J gb, StopAt ins zeros most J ∧ Plain wc w3.heap.size gb rp rq LB lo lc ins (PR.of (ctlOf ins (playR ins zeros J).1) (playR ins zeros J).1.length) (playR ins zeros J).2 ∧ w3.heap.size ≤ gb ∧ Only (fun k => k = rq) w3 wc)
  case first =>
    go_wp2_with fail
    go_loopw [8] (fun i wr => ∃ (j : Nat) (gb : Nat), i = .int .i64 (j : Int) ∧ (j = 0 ∨ (j : Int) ≤ most) ∧ Busy ins zeros (j - 1) ∧ Plain wr w3.heap.size gb rp rq LB lo lc ins (PR.of (ctlOf ins (playR ins zeros j).1) (playR ins zeros j).1.length) (playR ins zeros j).2 ∧ w3.heap.size ≤ gb ∧ Only (fun k => k = rq) w3 wr) (fun i _ => 62 - (intOf i).toNat)
    case atStart => exact ⟨0, w3.heap.size, rfl, .inl rfl, Busy.zero _ _, HP4.out, Nat.le_refl _, HO4.out.mono (fun _ _ h => h.elim)⟩
    case round =>
      obtain ⟨j, gb, rfl, hjm, hbusy, hP, hgb, hO⟩ := hrel
      have hj61 : j ≤ 61 := by have := hbusy.le; omega
      have hj61' : (j : Int) ≤ 61 := by omega
      have q1 : wr.cell? ⟨w3.heap.size, 1, none⟩ = some (.int .i64 ((ctlOf ins (playR ins zeros j).1).i : Int)) := hP.cells.2.1
      have HB := hid hbusy
      have HP := hid hP
      have HO := hid hO
      clear hbusy hP hO HP4 HO4
      by_cases hlt : (j : Int) < most
      · have HGO : (j = 0 ∨ (ctlOf ins (playR ins zeros j).1).i < ins.length) → Hid (Busy ins zeros j) := by
          intro h9 t a b
          by_cases e : t = j
          · subst e
            rcases h9 with h9 | h9
            · omega
            · simp [overB, h9]
          · exact HB.out t a (by omega)
        by_cases hgo : j = 0 ∨ (ctlOf ins (playR ins zeros j).1).i < ins.length
        · have HBJ := HGO hgo
          clear HGO
          have HNX : Hid (∀ (gb' : Nat) (w9 : World), Plain w9 w3.heap.size gb' rp rq LB lo lc ins (PR.of (ctlOf ins (playR ins zeros (j + 1)).1) (playR ins zeros (j + 1)).1.length) (playR ins zeros (j + 1)).2 → (gb' = gb ∨ wr.heap.size ≤ gb') → Only (fun k => k = w3.heap.size ∨ k = gb ∨ k = rq) wr w9 → w3.heap.size ≤ gb' ∧ Only (fun k => k = rq) w3 w9) := by
            intro gb' w9 _ h8 h9
            have h7 := HO.out.size
            refine ⟨by rcases h8 with h8 | h8 <;> omega, HO.out.chain h9 (fun i hi e => ?_)⟩
            rcases e with e | e | e
            · omega
            · omega
            · exact e
          by_cases hj0 : j = 0
          · subst hj0
            by_cases hc : (ctlOf ins (playR ins zeros 0).1).i < ins.length
            · have HC := hid hc
              clear hc hgo
              go_wp2_with fail
              refine (pstep_log _ _ gb rp rq LB lo lc ins _ _ _ HP.out hlen (playR_live ins zeros 0) HC.out).mono ?_
              rintro e w9 ⟨rfl, gb', hP9, hg9, ho9⟩
              have hP9' : Plain w9 w3.heap.size gb' rp rq LB lo lc ins (PR.of (ctlOf ins (playR ins zeros (0 + 1)).1) (playR ins zeros (0 + 1)).1.length) (playR ins zeros (0 + 1)).2 := by rw [playR_go HC.out]; exact hP9
              have HN9 := hid (HNX.out gb' w9 hP9' hg9 ho9)
              have HP9 := hid hP9'
              clear hP9 hP9' hg9 ho9
              go_wp2_with fail
              go_roundw
              case rel => exact ⟨1, gb', rfl, .inr (by omega), HBJ.out, HP9.out, HN9.out.1, HN9.out.2⟩
              case measure => simp [intOf]
            · have HC := hid hc
              clear hc hgo
              go_wp2_with fail
              refine (pstep_over _ _ gb rp rq LB lo lc ins _ _ _ _ HP.out HC.out).mono ?_
              rintro e w9 ⟨rfl, hP9, ho9⟩
              have hP9' : Plain w9 w3.heap.size gb rp rq LB lo lc ins (PR.of (ctlOf ins (playR ins zeros (0 + 1)).1) (playR ins zeros (0 + 1)).1.length) (playR ins zeros (0 + 1)).2 := by rw [playR_over HC.out]; exact hP9
              have HN9 := hid (HNX.out gb w9 hP9' (.inl rfl) (ho9.mono (fun _ _ h => h.elim)))
              have HP9 := hid hP9'
              clear hP9 hP9' ho9
              go_wp2_with fail
              go_roundw
              case rel => exact ⟨1, gb, rfl, .inr (by omega), HBJ.out, HP9.out, HN9.out.1, HN9.out.2⟩
              case measure => simp [intOf]
          · have hc : (ctlOf ins (playR ins zeros j).1).i < ins.length := by omega
            have hc' : ((ctlOf ins (playR ins zeros j).1).i : Int) < ins.length := by omega
            have hj0' : ((j : Int) == 0) = false := beq_eq_false_iff_ne.2 (by omega)
            have HC := hid hc
            clear hc hgo
            go_wp2_with fail
            refine (pstep_log _ _ gb rp rq LB lo lc ins _ _ _ HP.out hlen (playR_live ins zeros j) HC.out).mono ?_
            rintro e w9 ⟨rfl, gb', hP9, hg9, ho9⟩
            have hP9' : Plain w9 w3.heap.size gb' rp rq LB lo lc ins (PR.of (ctlOf ins (playR ins zeros (j + 1)).1) (playR ins zeros (j + 1)).1.length) (playR ins zeros (j + 1)).2 := by rw [playR_go HC.out]; exact hP9
            have HN9 := hid (HNX.out gb' w9 hP9' hg9 ho9)
            have HP9 := hid hP9'
            clear hP9 hP9' hg9 ho9
            go_wp2_with fail
            go_roundw
            case rel => exact ⟨j + 1, gb', by go_num, .inr (by push_cast; omega), HBJ.out, HP9.out, HN9.out.1, HN9.out.2⟩
            case measure => simp [intOf]; omega
        · have hj0' : ((j : Int) == 0) = false := beq_eq_false_iff_ne.2 (by omega)
          have hc' : ¬ ((ctlOf ins (playR ins zeros j).1).i : Int) < ins.length := by omega
          have hov : overB ins (playR ins zeros j).1 = true := by
            rw [overB, decide_eq_false (by omega)]
            rfl
          have HST : Hid (StopAt ins zeros most j) := ⟨fun h9 => by omega, fun _ => ⟨by omega, by omega, HB.out, .inl hov⟩⟩
          clear HGO hov
          go_wp2_with fail
          go_meet
          case rel => exact ⟨j, gb, HST.out, HP.out, hgb, HO.out⟩
      · have HST : Hid (StopAt ins zeros most j) := ⟨fun h9 => by omega, fun h9 => ⟨by omega, by omega, HB.out, .inr (by omega)⟩⟩
        go_wp2_with fail
        go_meet
        case rel => exact ⟨j, gb, HST.out, HP.out, hgb, HO.out⟩
  case rest =>
    obtain ⟨J, gb, hst, hP, hgb, hO⟩ := hcut
    obtain ⟨wB, rfl⟩ : ∃ wB, wB = wc := ⟨wc, rfl⟩
    obtain ⟨xs, hxs⟩ : ∃ xs, xs = (playR ins zeros J).2 := ⟨_, rfl⟩
    obtain ⟨cI, hcI⟩ : ∃ cI, cI = (ctlOf ins (playR ins zeros J).1).i := ⟨_, rfl⟩
    have hx8 : xs.length = 8 := by rw [hxs, playR_words]; rfl
    have hrm : MemIs 43 wB rp rq xs := by
      rw [hxs]
      exact (holds_pos hP.rm (n := 0) (by rw [playR_words]; decide)).2
    have q1 : wB.cell? ⟨w3.heap.size, 1, none⟩ = some (.int .i64 (cI : Int)) := by rw [hcI]; exact hP.cells.2.1
    have q2 : wB.cell? ⟨rp, 0, none⟩ = some (.slice (some ⟨rq, 0, none⟩) xs.length xs.length) := hrm.cell
    have zB := hO.size
    have lQ : w3.heap.size < wB.heap.size := hP.z.1
    have hOp : Only (fun _ => False) wB (wB.alloc (.cells #[.slice lo ins.length lc, .slice none 0 0, .int .i64 0] 33)).drew := ((Only.refl _ _).alloc _).drew
    have hOB : Only (fun _ => False) w wB := HO3.out.chain hO (fun i hi e => by omega)
    have HW : Hid (MemIs 74 (wB.alloc (.cells #[.slice lo ins.length lc, .slice none 0 0, .int .i64 0] 33)).drew p q zeros ∧ (wB.alloc (.cells #[.slice lo ins.length lc, .slice none 0 0, .int .i64 0] 33)).drew.heap[wB.heap.size]? = some (.cells #[.slice lo ins.length lc, .slice none 0 0, .int .i64 0] 33) ∧ InsIs (wB.alloc (.cells #[.slice lo ins.length lc, .slice none 0 0, .int .i64 0] 33)).drew lo LB ins) :=
      ⟨(HM3.out.only hO (by omega) (by omega)).only hOp (fun h => h) (fun h => h), heap_new wB _, (HI.out.only hOB (fun _ h => h)).only hOp (fun _ h => h)⟩
    have HNE : Hid (wB.heap.size ≠ p ∧ wB.heap.size ≠ q ∧ (0 < ins.length → LB ≠ q ∧ LB ≠ wB.heap.size)) := ⟨by omega, by omega, fun h0 => by have h9 := HLB.out h0; have h8 := hOB.size; omega⟩
    have HST := hid hst
    have HX8 : Hid (xs.length ≤ 4000) := by show xs.length ≤ 4000; omega
    have HAFT : Hid (∀ w7, MemIs 74 w7 p q (playR ins zeros J).2 → Only (fun k => k = q ∨ k = wB.heap.size) (wB.alloc (.cells #[.slice lo ins.length lc, .slice none 0 0, .int .i64 0] 33)).drew w7 →
        w7.cell? ⟨w3.heap.size, 1, none⟩ = some (.int .i64 (cI : Int)) ∧ w7.cell? ⟨rp, 0, none⟩ = some (.slice (some ⟨rq, 0, none⟩) xs.length xs.length) ∧ MemIs 74 w7 p q xs ∧ (MemIs 43 w7 rp rq xs ∧ w7.cell? ⟨w3.heap.size, 1, none⟩ = some (.int .i64 (cI : Int))) ∧ Only (fun _ => False) w w7) := by
      intro w7 h7 h8
      have zz := hOp.size
      have hr7 := (hrm.only hOp (fun h => h) (fun h => h)).only h8 (by rintro (e | e) <;> omega) (by rintro (e | e) <;> omega)
      have hc7 : w7.cell? ⟨w3.heap.size, 1, none⟩ = some (.int .i64 (cI : Int)) := (World.cell?_of_block (h8.block w3.heap.size (by omega) (by rintro (e | e) <;> omega))).trans ((World.cell?_of_block (hOp.block w3.heap.size lQ (fun h => h))).trans q1)
      exact ⟨hc7, hr7.cell, hxs ▸ h7, ⟨hr7, hc7⟩, (hOB.chain hOp (fun _ _ h => h)).chain h8 (fun i hi e => by have h6 := hOB.size; rcases e with e | e <;> omega)⟩
    have HAFT2 : Hid (∀ w7 w8, (MemIs 43 w7 rp rq xs ∧ w7.cell? ⟨w3.heap.size, 1, none⟩ = some (.int .i64 (cI : Int))) → Only (fun _ => False) w w7 → Only (fun _ => False) w7 w8 →
        w8.cell? ⟨w3.heap.size, 1, none⟩ = some (.int .i64 (cI : Int)) ∧ w8.cell? ⟨rp, 0, none⟩ = some (.slice (some ⟨rq, 0, none⟩) xs.length xs.length) ∧ SliceIs w8 (.slice (some ⟨rq, 0, none⟩) xs.length xs.length) rq xs ∧ Only (fun _ => False) w w8) := by
      intro w7 w8 h7 h6 h8
      have hr8 := h7.1.only h8 (fun h => h) (fun h => h)
      exact ⟨(World.cell?_of_block (h8.block w3.heap.size (World.block_lt_of_cell? _ _ h7.2) (fun h => h))).trans h7.2, hr8.cell, ⟨.inr rfl, .inr hr8.row⟩, h6.chain h8 (fun _ _ h => h)⟩
    have HAFT3 : Hid (∀ w8 w9, Only (fun _ => False) w w8 → SliceIs w8 (.slice (some ⟨rq, 0, none⟩) xs.length xs.length) rq xs → w8.cell? ⟨w3.heap.size, 1, none⟩ = some (.int .i64 (cI : Int)) → w8.cell? ⟨rp, 0, none⟩ = some (.slice (some ⟨rq, 0, none⟩) xs.length xs.length) → Only (fun _ => False) w8 w9 →
        w9.cell? ⟨w3.heap.size, 1, none⟩ = some (.int .i64 (cI : Int)) ∧ w9.cell? ⟨rp, 0, none⟩ = some (.slice (some ⟨rq, 0, none⟩) xs.length xs.length) ∧ Only (fun _ => False) w w9) := by
      intro w8 w9 h6 _ h7 h5 h8
      exact ⟨(World.cell?_of_block (h8.block w3.heap.size (World.block_lt_of_cell? _ _ h7) (fun h => h))).trans h7, (World.cell?_of_block (h8.block rp (World.block_lt_of_cell? _ _ h5) (fun h => h))).trans h5, h6.chain h8 (fun _ _ h => h)⟩
    have HOV : Hid (overB ins (playR ins zeros J).1 = !decide (cI < ins.length)) := by rw [hcI]; rfl
    have rpB : rp < wB.heap.size := by omega
    clear hst hP hO hrm hOp hOB hxs hcI hx8 HP4 HO4 HM3 HR3 HO3 HI HLB hgb
    by_cases h0 : 0 < most
    · by_cases hci : cI < ins.length
      · have hci' : ¬ (ins.length : Int) ≤ (cI : Int) := by omega
        have hd1 : decide ((ins.length : Int) ≤ (cI : Int)) = false := decide_eq_false hci'
        have hd2 : decide (ins.length ≤ cI) = false := decide_eq_false (by omega)
        have hd0 : decide ((0 : Int) < most) = true := decide_eq_true h0
        have hres : (decide (0 < most) && overB ins (playR ins zeros J).1) = false := by rw [HOV.out, decide_eq_true hci, Bool.not_true, Bool.and_false]
        have HRES := hid hres
        clear HOV hres
        go_wp2_with fail
        first
          | go_region_held (fun w' => w'.cell? ⟨w3.heap.size, 1, none⟩ = some (.int .i64 (cI : Int)) ∧ w'.cell? ⟨rp, 0, none⟩ = some (.slice (some ⟨rq, 0, none⟩) xs.length xs.length)) (go_keep)
            (first
              | (go_at_call 22; refine (run2_rel _ p q wB.heap.size LB lo lc ins zeros most ?_ ?_ ?_ (by decide) hlen hmm ?_ ?_ ?_).mono ?_; exact HW.out.1; exact HW.out.2.1; exact HW.out.2.2; exact HNE.out.1; exact HNE.out.2.1; exact HNE.out.2.2; rintro e w7 ⟨J', hst', rfl, hm7, ho7⟩; have hJJ := hst'.unique HST.out; subst hJJ; rw [HRES.out]; have HR7 := hid (HAFT.out w7 hm7 ho7); have d1 := HR7.out.1; have d2 := HR7.out.2.1; clear hst' hm7 ho7)
              | (go_at_call 17; refine (words_rel _ p q xs ?_ ?_).mono ?_; exact HR7.out.2.2.1; exact HX8.out; rintro e w8 ⟨u, b8, rfl, hs8, hb8, ho8⟩; have HR8 := hid (HAFT2.out w7 w8 HR7.out.2.2.2.1 HR7.out.2.2.2.2 ho8); have d3 := HR8.out.1; have d4 := HR8.out.2.1; have HS8 := hid hs8; clear hs8 hb8 ho8)
              | (go_at_call 16; refine (ref_words_same _ _ _ b8 rq xs ?_ ?_ ?_).mono ?_; exact HS8.out; exact HR8.out.2.2.1; exact HX8.out; rintro e w9 ⟨rfl, ho9⟩; have HR9 := hid (HAFT3.out w8 w9 HR8.out.2.2.2 HR8.out.2.2.1 HR8.out.1 HR8.out.2.1 ho9); have d5 := HR9.out.1; have d6 := HR9.out.2.1; clear ho9))
          | fail
        all_goals
          go_wp2_with fail
          go_ret
          exact ⟨by simp, HR9.out.2.2.below (Nat.le_refl _) (fun _ _ h => h)⟩
      · have hci' : (ins.length : Int) ≤ (cI : Int) := by omega
        have hres : (decide (0 < most) && overB ins (playR ins zeros J).1) = true := by rw [HOV.out, decide_eq_false hci, decide_eq_true h0]; rfl
        have HRES := hid hres
        clear hci HOV hres
        go_wp2_with fail
        first
          | go_region_held (fun w' => w'.cell? ⟨w3.heap.size, 1, none⟩ = some (.int .i64 (cI : Int)) ∧ w'.cell? ⟨rp, 0, none⟩ = some (.slice (some ⟨rq, 0, none⟩) xs.length xs.length)) (go_keep)
            (first
              | (go_at_call 22; refine (run2_rel _ p q wB.heap.size LB lo lc ins zeros most ?_ ?_ ?_ (by decide) hlen hmm ?_ ?_ ?_).mono ?_; exact HW.out.1; exact HW.out.2.1; exact HW.out.2.2; exact HNE.out.1; exact HNE.out.2.1; exact HNE.out.2.2; rintro e w7 ⟨J', hst', rfl, hm7, ho7⟩; have hJJ := hst'.unique HST.out; subst hJJ; rw [HRES.out]; have HR7 := hid (HAFT.out w7 hm7 ho7); have d1 := HR7.out.1; have d2 := HR7.out.2.1; clear hst' hm7 ho7)
              | (go_at_call 17; refine (words_rel _ p q xs ?_ ?_).mono ?_; exact HR7.out.2.2.1; exact HX8.out; rintro e w8 ⟨u, b8, rfl, hs8, hb8, ho8⟩; have HR8 := hid (HAFT2.out w7 w8 HR7.out.2.2.2.1 HR7.out.2.2.2.2 ho8); have d3 := HR8.out.1; have d4 := HR8.out.2.1; have HS8 := hid hs8; clear hs8 hb8 ho8)
              | (go_at_call 16; refine (ref_words_same _ _ _ b8 rq xs ?_ ?_ ?_).mono ?_; exact HS8.out; exact HR8.out.2.2.1; exact HX8.out; rintro e w9 ⟨rfl, ho9⟩; have HR9 := hid (HAFT3.out w8 w9 HR8.out.2.2.2 HR8.out.2.2.1 HR8.out.1 HR8.out.2.1 ho9); have d5 := HR9.out.1; have d6 := HR9.out.2.1; clear ho9))
          | fail
        all_goals
          go_wp2_with fail
          go_ret
          exact ⟨by simp, HR9.out.2.2.below (Nat.le_refl _) (fun _ _ h => h)⟩
    · have hres : (decide (0 < most) && overB ins (playR ins zeros J).1) = false := by rw [decide_eq_false h0]; rfl
      have HRES := hid hres
      have hd0 : decide ((0 : Int) < most) = false := decide_eq_false h0
      clear HOV hres
      go_wp2_with fail
      refine wp_region_held_drew (S := fun w' => w'.cell? ⟨w3.heap.size, 1, none⟩ = some (.int .i64 (cI : Int)) ∧ w'.cell? ⟨rp, 0, none⟩ = some (.slice (some ⟨rq, 0, none⟩) xs.length xs.length)) (by kernel_rfl) ?_ (fun hHeld => ?_)
      · (try dsimp only); go_keep
      refine wpAnyH_take (i := 0) (oi := { dst := some 48, op := Go.Op.move (Go.Operand.tmp 5), type := 24, pos := _, after := #[], guard := none }) (v := ?_) rfl (by kernel_rfl) (by kernel_rfl) (by kernel_rfl) (fun _ _ _ h => h) (Or.inl ⟨by rfl, ?_⟩) (by assumption) ?_
      rotate_left 1
      · intro w' hSw
        try dsimp only at hSw
        go_simp
        try with_reducible rfl
      try simp only [Act.put, List.setIfInBounds_toArray, List.set_cons_zero, List.set_cons_succ]
      refine wpAnyH_take (i := 1) (oi := { dst := some 49, op := Go.Op.move (Go.Operand.tmp 9), type := 30, pos := _, after := #[], guard := none }) (v := ?_) rfl (by kernel_rfl) (by kernel_rfl) (by kernel_rfl) (fun _ _ _ h => h) (Or.inl ⟨by rfl, ?_⟩) (by assumption) ?_
      rotate_left 1
      · intro w' hSw
        try dsimp only at hSw
        go_simp
        try with_reducible rfl
      try simp only [Act.put, List.setIfInBounds_toArray, List.set_cons_zero, List.set_cons_succ]
      refine wpAnyH_take (i := 2) (oi := { dst := some 50, op := Go.Op.makeFunc (Go.Fn.func 14) #[Go.Operand.tmp 49] #[], type := 38, pos := _, after := #[{ on := 1, ground := Go.Ground.data }], guard := none }) (v := ?_) rfl (by kernel_rfl) (by kernel_rfl) (by kernel_rfl) (fun _ _ _ h => h) (Or.inl ⟨by rfl, ?_⟩) (by assumption) ?_
      rotate_left 1
      · intro w' hSw
        try dsimp only at hSw
        go_simp
        try with_reducible rfl
      try simp only [Act.put, List.setIfInBounds_toArray, List.set_cons_zero, List.set_cons_succ]
      refine wpAnyH_take (i := 3) (oi := { dst := some 51, op := Go.Op.move (Go.Operand.tmp 1), type := 3, pos := _, after := #[], guard := none }) (v := ?_) rfl (by kernel_rfl) (by kernel_rfl) (by kernel_rfl) (fun _ _ _ h => h) (Or.inl ⟨by rfl, ?_⟩) (by assumption) ?_
      rotate_left 1
      · intro w' hSw
        try dsimp only at hSw
        go_simp
        try with_reducible rfl
      try simp only [Act.put, List.setIfInBounds_toArray, List.set_cons_zero, List.set_cons_succ]
      refine wpAnyH_take (i := 5) (oi := { dst := some 53, op := Go.Op.move (Go.Operand.tmp 1), type := 3, pos := _, after := #[], guard := none }) (v := ?_) rfl (by kernel_rfl) (by kernel_rfl) (by kernel_rfl) (fun _ _ _ h => h) (Or.inl ⟨by rfl, ?_⟩) (by assumption) ?_
      rotate_left 1
      · intro w' hSw
        try dsimp only at hSw
        go_simp
        try with_reducible rfl
      try simp only [Act.put, List.setIfInBounds_toArray, List.set_cons_zero, List.set_cons_succ]
      refine wpAnyH_take (i := 6) (oi := { dst := some 54, op := Go.Op.binOp Go.BinOp.gtr 3 (Go.Operand.tmp 53) (Go.Operand.const (Go.Value.int Go.IntKind.i64 0)) 3, type := 4, pos := _, after := #[{ on := 5, ground := Go.Ground.data }], guard := none }) (v := ?_) rfl (by kernel_rfl) (by kernel_rfl) (by kernel_rfl) (fun _ _ _ h => h) (Or.inl ⟨by rfl, ?_⟩) (by assumption) ?_
      rotate_left 1
      · intro w' hSw
        try dsimp only at hSw
        go_simp
        try with_reducible rfl
      try simp only [Act.put, List.setIfInBounds_toArray, List.set_cons_zero, List.set_cons_succ]
      refine wpAnyH_ready (rs := [4]) (by kernel_rfl) (by simp) ?_
      refine AllReadyH.cons rfl (fun K hK => ?_) AllReadyH.nil
      go_simp
      go_wp2_with (go_at_call 22; refine (run2_rel _ p q wB.heap.size LB lo lc ins zeros most ?_ ?_ ?_ (by decide) hlen hmm ?_ ?_ ?_).mono ?_; exact HW.out.1; exact HW.out.2.1; exact HW.out.2.2; exact HNE.out.1; exact HNE.out.2.1; exact HNE.out.2.2; rintro e w7 ⟨J', hst', rfl, hm7, ho7⟩; have hJJ := hst'.unique HST.out; subst hJJ; rw [HRES.out]; have HR7 := hid (HAFT.out w7 hm7 ho7); have d1 := HR7.out.1; have d2 := HR7.out.2.1; clear hst' hm7 ho7)
      refine hK.out _ _ ?_ (fun hHeld => ?_)
      · (try dsimp only); go_keep
      clear hK K
      refine wpAnyH_take (i := 7) (oi := { dst := some 55, op := Go.Op.move (Go.Operand.tmp 54), type := 4, pos := _, after := #[{ on := 6, ground := Go.Ground.data }, { on := 4, ground := Go.Ground.chain }], guard := none }) (v := ?_) rfl (by kernel_rfl) (by kernel_rfl) (by kernel_rfl) (fun _ _ _ h => h) (Or.inl ⟨by rfl, ?_⟩) (by assumption) ?_
      rotate_left 1
      · intro w' hSw
        try dsimp only at hSw
        go_simp
        try with_reducible rfl
      try simp only [Act.put, List.setIfInBounds_toArray, List.set_cons_zero, List.set_cons_succ]
      refine wpAnyH_take (i := 8) (oi := { dst := some 56, op := Go.Op.move (Go.Operand.tmp 7), type := 34, pos := _, after := #[{ on := 7, ground := Go.Ground.guard }], guard := some (7, true) }) (v := undef) rfl (by kernel_rfl) (by kernel_rfl) (by kernel_rfl) (fun _ _ _ h => h) (Or.inr ⟨by rfl, rfl⟩) (by assumption) ?_
      try simp only [Act.put, List.setIfInBounds_toArray, List.set_cons_zero, List.set_cons_succ]
      refine wpAnyH_take (i := 9) (oi := { dst := some 57, op := Go.Op.nilCheck (Go.Operand.tmp 56), type := 0, pos := _, after := #[{ on := 8, ground := Go.Ground.data }, { on := 7, ground := Go.Ground.guard }], guard := some (7, true) }) (v := undef) rfl (by kernel_rfl) (by kernel_rfl) (by kernel_rfl) (fun _ _ _ h => h) (Or.inr ⟨by rfl, rfl⟩) (by assumption) ?_
      try simp only [Act.put, List.setIfInBounds_toArray, List.set_cons_zero, List.set_cons_succ]
      refine wpAnyH_take (i := 10) (oi := { dst := some 58, op := Go.Op.fieldAddr 36 (Go.Operand.tmp 57) 1, type := 0, pos := _, after := #[{ on := 9, ground := Go.Ground.data }, { on := 7, ground := Go.Ground.guard }], guard := some (7, true) }) (v := undef) rfl (by kernel_rfl) (by kernel_rfl) (by kernel_rfl) (fun _ _ _ h => h) (Or.inr ⟨by rfl, rfl⟩) (by assumption) ?_
      try simp only [Act.put, List.setIfInBounds_toArray, List.set_cons_zero, List.set_cons_succ]
      refine wpAnyH_take (i := 11) (oi := { dst := some 59, op := Go.Op.load 3 (Go.Operand.tmp 58), type := 3, pos := _, after := #[{ on := 10, ground := Go.Ground.data }, { on := 7, ground := Go.Ground.guard }], guard := some (7, true) }) (v := undef) rfl (by kernel_rfl) (by kernel_rfl) (by kernel_rfl) (fun _ _ _ h => h) (Or.inr ⟨by rfl, rfl⟩) (by assumption) ?_
      try simp only [Act.put, List.setIfInBounds_toArray, List.set_cons_zero, List.set_cons_succ]
      refine wpAnyH_take (i := 12) (oi := { dst := some 60, op := Go.Op.move (Go.Operand.tmp 0), type := 22, pos := _, after := #[{ on := 7, ground := Go.Ground.guard }], guard := some (7, true) }) (v := undef) rfl (by kernel_rfl) (by kernel_rfl) (by kernel_rfl) (fun _ _ _ h => h) (Or.inr ⟨by rfl, rfl⟩) (by assumption) ?_
      try simp only [Act.put, List.setIfInBounds_toArray, List.set_cons_zero, List.set_cons_succ]
      refine wpAnyH_take (i := 13) (oi := { dst := some 61, op := Go.Op.call { callee := Go.Callee.builtin Go.Builtin.len, args := #[Go.Operand.tmp 60], argTypes := #[22] }, type := 3, pos := _, after := #[{ on := 12, ground := Go.Ground.data }, { on := 7, ground := Go.Ground.guard }], guard := some (7, true) }) (v := undef) rfl (by kernel_rfl) (by kernel_rfl) (by kernel_rfl) (fun _ _ _ h => h) (Or.inr ⟨by rfl, rfl⟩) (by assumption) ?_
      try simp only [Act.put, List.setIfInBounds_toArray, List.set_cons_zero, List.set_cons_succ]
      refine wpAnyH_take (i := 14) (oi := { dst := some 62, op := Go.Op.binOp Go.BinOp.geq 3 (Go.Operand.tmp 59) (Go.Operand.tmp 61) 3, type := 4, pos := _, after := #[{ on := 11, ground := Go.Ground.data }, { on := 13, ground := Go.Ground.data }, { on := 7, ground := Go.Ground.guard }], guard := some (7, true) }) (v := undef) rfl (by kernel_rfl) (by kernel_rfl) (by kernel_rfl) (fun _ _ _ h => h) (Or.inr ⟨by rfl, rfl⟩) (by assumption) ?_
      try simp only [Act.put, List.setIfInBounds_toArray, List.set_cons_zero, List.set_cons_succ]
      refine wpAnyH_take (i := 15) (oi := { dst := some 63, op := Go.Op.pick (Go.Operand.tmp 55) (Go.Operand.tmp 62) (Go.Operand.const (Go.Value.bool false)), type := 4, pos := _, after := #[{ on := 7, ground := Go.Ground.data }, { on := 14, ground := Go.Ground.data }], guard := none }) (v := ?_) rfl (by kernel_rfl) (by kernel_rfl) (by kernel_rfl) (fun _ _ _ h => h) (Or.inl ⟨by rfl, ?_⟩) (by assumption) ?_
      rotate_left 1
      · intro w' hSw
        try dsimp only at hSw
        go_simp
        try with_reducible rfl
      try simp only [Act.put, List.setIfInBounds_toArray, List.set_cons_zero, List.set_cons_succ]
      refine wpAnyH_take (i := 16) (oi := { dst := some 64, op := Go.Op.binOp Go.BinOp.eql 4 (Go.Operand.tmp 52) (Go.Operand.tmp 63) 4, type := 4, pos := _, after := #[{ on := 4, ground := Go.Ground.data }, { on := 15, ground := Go.Ground.data }], guard := none }) (v := ?_) rfl (by kernel_rfl) (by kernel_rfl) (by kernel_rfl) (fun _ _ _ h => h) (Or.inl ⟨by rfl, ?_⟩) (by assumption) ?_
      rotate_left 1
      · intro w' hSw
        try dsimp only at hSw
        go_simp
        try with_reducible rfl
      try simp only [Act.put, List.setIfInBounds_toArray, List.set_cons_zero, List.set_cons_succ]
      refine wpAnyH_take (i := 17) (oi := { dst := some 65, op := Go.Op.move (Go.Operand.tmp 64), type := 4, pos := _, after := #[{ on := 16, ground := Go.Ground.data }, { on := 7, ground := Go.Ground.chain }], guard := none }) (v := ?_) rfl (by kernel_rfl) (by kernel_rfl) (by kernel_rfl) (fun _ _ _ h => h) (Or.inl ⟨by rfl, ?_⟩) (by assumption) ?_
      rotate_left 1
      · intro w' hSw
        try dsimp only at hSw
        go_simp
        try with_reducible rfl
      try simp only [Act.put, List.setIfInBounds_toArray, List.set_cons_zero, List.set_cons_succ]
      refine wpAnyH_take (i := 18) (oi := { dst := some 66, op := Go.Op.move (Go.Operand.tmp 5), type := 24, pos := _, after := #[{ on := 17, ground := Go.Ground.guard }], guard := some (17, true) }) (v := ?_) rfl (by kernel_rfl) (by kernel_rfl) (by kernel_rfl) (fun _ _ _ h => h) (Or.inl ⟨by rfl, ?_⟩) (by assumption) ?_
      rotate_left 1
      · intro w' hSw
        try dsimp only at hSw
        go_simp
        try with_reducible rfl
      try simp only [Act.put, List.setIfInBounds_toArray, List.set_cons_zero, List.set_cons_succ]
      refine wpAnyH_take (i := 20) (oi := { dst := some 68, op := Go.Op.move (Go.Operand.tmp 6), type := 26, pos := _, after := #[{ on := 17, ground := Go.Ground.guard }], guard := some (17, true) }) (v := ?_) rfl (by kernel_rfl) (by kernel_rfl) (by kernel_rfl) (fun _ _ _ h => h) (Or.inl ⟨by rfl, ?_⟩) (by assumption) ?_
      rotate_left 1
      · intro w' hSw
        try dsimp only at hSw
        go_simp
        try with_reducible rfl
      try simp only [Act.put, List.setIfInBounds_toArray, List.set_cons_zero, List.set_cons_succ]
      refine wpAnyH_take (i := 21) (oi := { dst := some 69, op := Go.Op.nilCheck (Go.Operand.tmp 68), type := 0, pos := _, after := #[{ on := 20, ground := Go.Ground.data }, { on := 17, ground := Go.Ground.guard }], guard := some (17, true) }) (v := ?_) rfl (by kernel_rfl) (by kernel_rfl) (by kernel_rfl) (fun _ _ _ h => h) (Or.inl ⟨by rfl, ?_⟩) (by assumption) ?_
      rotate_left 1
      · intro w' hSw
        try dsimp only at hSw
        go_simp
        try with_reducible rfl
      try simp only [Act.put, List.setIfInBounds_toArray, List.set_cons_zero, List.set_cons_succ]
      refine wpAnyH_take (i := 22) (oi := { dst := some 70, op := Go.Op.fieldAddr 43 (Go.Operand.tmp 69) 0, type := 0, pos := _, after := #[{ on := 21, ground := Go.Ground.data }, { on := 17, ground := Go.Ground.guard }], guard := some (17, true) }) (v := ?_) rfl (by kernel_rfl) (by kernel_rfl) (by kernel_rfl) (fun _ _ _ h => h) (Or.inl ⟨by rfl, ?_⟩) (by assumption) ?_
      rotate_left 1
      · intro w' hSw
        try dsimp only at hSw
        go_simp
        try with_reducible rfl
      try simp only [Act.put, List.setIfInBounds_toArray, List.set_cons_zero, List.set_cons_succ]
      refine wpAnyH_take (i := 23) (oi := { dst := some 71, op := Go.Op.load 31 (Go.Operand.tmp 70), type := 31, pos := _, after := #[{ on := 22, ground := Go.Ground.data }, { on := 17, ground := Go.Ground.guard }], guard := some (17, true) }) (v := ?_) rfl (by kernel_rfl) (by kernel_rfl) (by kernel_rfl) (fun _ _ _ h => h) (Or.inl ⟨by rfl, ?_⟩) (by assumption) ?_
      rotate_left 1
      · intro w' hSw
        try dsimp only at hSw
        go_simp
        try with_reducible rfl
      try simp only [Act.put, List.setIfInBounds_toArray, List.set_cons_zero, List.set_cons_succ]
      refine wpAnyH_ready (rs := [19]) (by kernel_rfl) (by simp) ?_
      refine AllReadyH.cons rfl (fun K hK => ?_) AllReadyH.nil
      go_simp
      go_wp2_with (go_at_call 17; refine (words_rel _ p q xs ?_ ?_).mono ?_; exact HR7.out.2.2.1; exact HX8.out; rintro e w8 ⟨u, b8, rfl, hs8, hb8, ho8⟩; have HR8 := hid (HAFT2.out w7 w8 HR7.out.2.2.2.1 HR7.out.2.2.2.2 ho8); have d3 := HR8.out.1; have d4 := HR8.out.2.1; have HS8 := hid hs8; clear hs8 hb8 ho8)
      refine hK.out _ _ ?_ (fun hHeld => ?_)
      · (try dsimp only); go_keep
      clear hK K
      refine wpAnyH_ready (rs := [24]) (by kernel_rfl) (by simp) ?_
      refine AllReadyH.cons rfl (fun K hK => ?_) AllReadyH.nil
      go_simp
      go_wp2_with (go_at_call 16; refine (ref_words_same _ _ _ b8 rq xs ?_ ?_ ?_).mono ?_; exact HS8.out; exact HR8.out.2.2.1; exact HX8.out; rintro e w9 ⟨rfl, ho9⟩; have HR9 := hid (HAFT3.out w8 w9 HR8.out.2.2.2 HR8.out.2.2.1 HR8.out.1 HR8.out.2.1 ho9); have d5 := HR9.out.1; have d6 := HR9.out.2.1; clear ho9)
      refine hK.out _ _ ?_ (fun hHeld => ?_)
      · (try dsimp only); go_keep
      clear hK K
      refine wpAnyH_take (i := 25) (oi := { dst := some 73, op := Go.Op.pick (Go.Operand.tmp 65) (Go.Operand.tmp 72) (Go.Operand.const (Go.Value.bool false)), type := 4, pos := _, after := #[{ on := 17, ground := Go.Ground.data }, { on := 24, ground := Go.Ground.data }], guard := none }) (v := ?_) rfl (by kernel_rfl) (by kernel_rfl) (by kernel_rfl) (fun _ _ _ h => h) (Or.inl ⟨by rfl, ?_⟩) (by assumption) ?_
      rotate_left 1
      · intro w' hSw
        try dsimp only at hSw
        go_simp
        try with_reducible rfl
      try simp only [Act.put, List.setIfInBounds_toArray, List.set_cons_zero, List.set_cons_succ]
      refine wpAnyH_take (i := 26) (oi := { dst := some 4, op := Go.Op.assign (Go.Operand.tmp 73), type := 4, pos := _, after := #[{ on := 25, ground := Go.Ground.data }, { on := 24, ground := Go.Ground.chain }, { on := 0, ground := Go.Ground.phase }, { on := 1, ground := Go.Ground.phase }, { on := 2, ground := Go.Ground.phase }, { on := 3, ground := Go.Ground.phase }, { on := 4, ground := Go.Ground.phase }, { on := 5, ground := Go.Ground.phase }, { on := 6, ground := Go.Ground.phase }, { on := 7, ground := Go.Ground.phase }, { on := 8, ground := Go.Ground.phase }, { on := 9, ground := Go.Ground.phase }, { on := 10, ground := Go.Ground.phase }, { on := 11, ground := Go.Ground.phase }, { on := 12, ground := Go.Ground.phase }, { on := 13, ground := Go.Ground.phase }, { on := 14, ground := Go.Ground.phase }, { on := 15, ground := Go.Ground.phase }, { on := 16, ground := Go.Ground.phase }, { on := 17, ground := Go.Ground.phase }, { on := 18, ground := Go.Ground.phase }, { on := 19, ground := Go.Ground.phase }, { on := 20, ground := Go.Ground.phase }, { on := 21, ground := Go.Ground.phase }, { on := 22, ground := Go.Ground.phase }, { on := 23, ground := Go.Ground.phase }, { on := 24, ground := Go.Ground.phase }, { on := 25, ground := Go.Ground.phase }], guard := none }) (v := ?_) rfl (by kernel_rfl) (by kernel_rfl) (by kernel_rfl) (fun _ _ _ h => h) (Or.inl ⟨by rfl, ?_⟩) (by assumption) ?_
      rotate_left 1
      · intro w' hSw
        try dsimp only at hSw
        go_simp
        try with_reducible rfl
      try simp only [Act.put, List.setIfInBounds_toArray, List.set_cons_zero, List.set_cons_succ]
      refine wpAnyH_done (by kernel_rfl) ?_ _
      all_goals
        go_wp2_with fail
        go_ret
        exact ⟨by simp, HR9.out.2.2.below (Nat.le_refl _) (fun _ _ h => h)⟩

theorem walk (lo : Option Addr) (lc LB : Nat) (ins : List Ins) (most : Int) (w : World) (hI : InsIs w lo LB ins) (hlen : ins.length ≤ 9223372036854775807) (hmm : most ≤ 9223372036854775807) :
    Calls Try.prog 5 #[.slice lo ins.length lc, .int .i64 most] w fun e w' => e = .returned (.bool true) ∧ Below w.heap.size w w' := by
  by_cases h : 60 < ins.length
  · exact walk_out lo ins.length lc most w hlen h
  · exact walk_in lo lc LB ins most w hI (by omega) hmm

set_option maxRecDepth 100000 in
theorem lifted (os : Os) (started : os.Started) (H : Type) (enc : TypeId × Value → H) :
    ReturnsInHanded {} Try.checked os 5 .any (Rows.frameRunsSpec.pre6 enc Try.prog Try.f5 Rows.frameRunsRow.domain false) (Rows.frameRunsSpec.post enc Try.prog Try.f5 false true false false) := by
  refine returnsInHanded_of_change (C := Try.checked) own started (by kernel_rfl) Try.func5
    (ChangeSpec.witness6 (enc := enc) (C := Try.checked) false ⟨#[], #[.slice none 0 0, .int .i64 0], []⟩ 8 (by kernel_rfl) (by kernel_rfl) (by kernel_rfl) (by kernel_rfl)) ?_
  intro W base args ds gs before hval0 hW hcnd _
  have hval : ∀ (j : Nat) t v, Try.f5.params[j]? = some t → args[j]? = some v → Value.okWide Try.prog W .any base t v := hval0
  have hW' := hW
  obtain ⟨p, q, hA0, hV, rfl, hfz, hnd⟩ := hW
  have hA : DataW.TrodAll enc Try.prog W 0 (fun _ => true) true Try.f5.params.toList args.toList ds p := hA0
  rw [Try.params5] at hA hval
  obtain ⟨v0, vs0, d0, ds0, p0, q0, hargs, rfl, rfl, h0, r0⟩ := trodAll_cons hA
  obtain ⟨v1, vs1, d1, ds1, p1, q1, rfl, rfl, rfl, h1, r1⟩ := trodAll_cons r0
  obtain ⟨rfl, rfl, rfl⟩ := trodAll_nil r1
  obtain rfl : args = #[v0, v1] := by cases args; simp_all
  obtain ⟨lo, len, lc, rfl⟩ := okWide_slice Try.underlying22 (hval 0 22 v0 rfl rfl)
  obtain ⟨LB, ins, hI, rfl, hlen⟩ := open_insList h0
  obtain ⟨most, rfl, rfl, rfl, wn⟩ := open_int Try.underlying3 (hval 1 3 v1 rfl rfl) h1
  have hmm : most ≤ 9223372036854775807 := by
    have h9 := wn
    simp only [Lit.wf, Bool.and_eq_true, decide_eq_true_eq] at h9
    exact h9.2
  refine (walk lo lc LB ins most W hI hlen hmm).mono fun e W' ⟨he, hg⟩ => ?_
  subst he
  exact ⟨_, rfl, post_law 2 4 laidOut (by kernel_rfl) rfl rfl rfl Try.underlying4 (fun l hl => by match l, hl with | [_, _], _ => rfl) hW' hg⟩

theorem over : Rows.frameRunsRow.holds Try.pinned (OpenSpec.ofChange Rows.frameRunsSpec) :=
  OpenClaim.holds_of_wide 5 Try.f5 rfl rfl rfl rfl rfl rfl rfl ⟨rfl, rfl, rfl, rfl, rfl⟩ rfl rfl rfl rfl rfl (by kernel_rfl) Try.func5 (by kernel_rfl)
    (of_decide_eq_true (by kernel_rfl)) (by unfold Func.isWrapper; first | (rw [if_pos (by decide +kernel)]; kernel_rfl) | (rw [if_neg (by decide +kernel)]; exact ⟨rfl, rfl⟩))
    (fun os started H enc _ => lifted os started H enc)

theorem proved : Rows.FrameRunsSaid := over
#print axioms proved
end Go.Proofs.Ytfdfjibhbfdloaa.frameRuns

/-
  FrameSteps: for every size of memory and every list of accesses the law answers true: whatever a body does, also by what its accesses answer, each step does one access, the next one; the body is done with its last one. Conditions: none.
-/
import Derived.Test.YtfdfjibhbfdloaaTeam3
import Derived.Deep.RegionHeld
namespace Go.Proofs.Ytfdfjibhbfdloaa.frameSteps
open Go.Sept Go.RowKit Go.ChangeShapes Go.WideShapes Go.ChangeAt Go.Joins Go.Deep

set_option maxRecDepth 100000 in
set_option maxHeartbeats 2000000 in
theorem walk_out (lo : Option Addr) (n lc : Nat) (m : Int) (w : World) (hn : n ≤ 9223372036854775807) (h : 60 < n) :
    Calls Try.prog 3 #[.int .u8 m, .slice lo n lc] w fun e w' => e = .returned (.bool true) ∧ Below w.heap.size w w' := by
  have h1' : (60 : Int) < n := by omega
  go_enter Try.func3, Try.ntmps3
  go_wp2_with fail
  refine (awake_any _).mono ?_
  rintro e w1 ⟨rfl, hb1⟩
  go_wp2_with fail
  refine (awake_any _).mono ?_
  rintro e w2 ⟨rfl, hb2⟩
  have hF : Hid (Below w.heap.size w w2) := ((Only.of_below hb1 (fun _ => False)).chain (Only.of_below hb2 (fun _ => False)) (fun _ _ h => h)).below (Nat.le_refl _) (fun _ _ h => h)
  clear hb1 hb2
  go_wp2_with fail
  go_ret
  exact ⟨rfl, hF.out⟩

set_option maxRecDepth 100000 in
set_option maxHeartbeats 4000000 in
theorem walk_in (lo : Option Addr) (lc LB : Nat) (ins : List Ins) (m : Nat) (hm255 : m ≤ 255) (w : World) (hI : InsIs w lo LB ins) (hlen : ins.length ≤ 60) :
    Calls Try.prog 3 #[.int .u8 (m : Int), .slice lo ins.length lc] w fun e w' => e = .returned (.bool true) ∧ Below w.heap.size w w' := by
  have hmf : ∀ (fn : Fn) (first cap : Array Value) (w : World), (Instr.makeFunc fn first cap).run Try.prog w = .ok (.func fn first cap) w := fun _ _ _ _ => rfl
  have h1' : ¬ (60 : Int) < ins.length := by omega
  obtain ⟨N, hN⟩ : ∃ N, N = m % 20 := ⟨_, rfl⟩
  have hN1 : (m : Int) % 20 = (N : Int) := by omega
  have hN2 : N < 20 := by omega
  have HI := hid hI
  have HLB : Hid (0 < ins.length → LB < w.heap.size) := fun h0 => hI.lt h0
  have HLEN := hid hlen
  clear hI hN
  go_enter Try.func3, Try.ntmps3
  go_wp2_with fail
  refine (awake_any _).mono ?_
  rintro e w1 ⟨rfl, hb1⟩
  have HO1 := hid (Only.of_below hb1 (fun _ => False))
  clear hb1
  go_wp2_with fail
  refine (new_rel _ _).mono ?_
  rintro e w2 ⟨p, q, rfl, hm2, hp, hq, ho2⟩
  rw [clamp_nat N (by omega)] at hm2
  have HM2 := hid hm2
  have HO2 := hid (HO1.out.chain ho2 (fun _ _ h => h))
  have z1 := HO1.out.size
  clear hm2 ho2 HO1
  go_wp2_with fail
  refine (ref_new_rel _ _).mono ?_
  rintro e w3 ⟨rp, rq, rfl, hm3, hrp, hrq, ho3⟩
  rw [clamp_nat N (by omega)] at hm3
  have HR3 := hid hm3
  have HM3 := hid (HM2.out.only ho3 (fun h => h) (fun h => h))
  have HO3 := hid (HO2.out.chain ho3 (fun _ _ h => h))
  have l1 : p < w2.heap.size := lt_of_block HM2.out.head
  have l2 : q < w2.heap.size := HM2.out.row.lt
  have HT3 : Hid (Team w.heap.size w3 0 p q rp rq (fun _ => ⟨0, 0, 0, 0, 0, 0, 0, none, 0, [], fresh none, 0, [], []⟩) (List.replicate N 0) (List.replicate N 0)) :=
    Team.empty ⟨by omega, by omega, by omega⟩ ⟨by omega, by omega⟩ HM3.out HR3.out HO3.out.size _
  clear hm3 ho3 HM2 HO2 l1 l2 z1 hp hq hrp hrq
  go_wp2_with fail
  refine (fnew_rel _ _).mono ?_
  rintro e w4 ⟨F, rfl, hf4, hF, ho4⟩
  obtain ⟨d0, hT0, hO0, e1, e2, e3, e4, e5, e6⟩ := team_new (lc := lc) HT3.out HM3.out HR3.out (HI.out.only HO3.out (fun _ h => h)) HLB.out hf4 hF ho4
  have HT4 := hid hT0
  have HO4 := hid (HO3.out.chain hO0 (fun _ _ h => h))
  have HD := hid (And.intro e1 (And.intro e2 (And.intro e3 (And.intro e4 (And.intro e5 e6)))))
  clear hT0 hO0 e1 e2 e3 e4 e5 e6 hf4 hF ho4 HT3 HM3 HR3 HI HO3 HLB
  obtain ⟨P, hP⟩ : ∃ P, P = w4.heap.size := ⟨_, rfl⟩
  go_wp2_with fail
  rw [← hP] at HD
  rw [← hP]
  clear hP
  go_loopw [39] (fun i wx => ∃ (j : Nat) (ds : Nat → D) (xs : List Int), i = .int .i64 (j : Int) ∧ Team w.heap.size wx 1 p q rp rq ds xs xs ∧ xs.length = N ∧ ((ds 0).F = F ∧ (ds 0).P = P ∧ (ds 0).Q = P + 1 ∧ (ds 0).ins = ins) ∧ ((ds 0).s.log = (ds 0).log ∧ (ds 0).s.underway = false ∧ (ds 0).s.done = false ∧ Live ins (ds 0).log ∧ (ds 0).log.length = j) ∧ (j = 0 ∨ (ctlOf ins (ds 0).log).i < ins.length) ∧ Only (fun _ => False) w wx) (fun i _ => 70 - (intOf i).toNat)
  case atStart =>
    refine ⟨0, _, List.replicate N 0, rfl, HT4.out, List.length_replicate, ?_, ?_, .inl rfl, HO4.out⟩
    · rw [ext2_self]
      exact ⟨HD.out.1, HD.out.2.1, HD.out.2.2.1, HD.out.2.2.2.1⟩
    · rw [ext2_self, HD.out.2.2.2.2.1, HD.out.2.2.2.2.2]
      exact ⟨rfl, rfl, rfl, Live.nil _, rfl⟩
  case round =>
    obtain ⟨j, ds, xs, rfl, hT, hxl, ⟨a1, a2, a3, a4⟩, ⟨b1, b2, b3, b4, b5⟩, hj, hO⟩ := hrel
    have hj60 : j ≤ 60 := by have := b4.length_le; omega
    have hj60' : (j : Int) ≤ 60 := by omega
    have HT := hid hT
    have HA := hid (And.intro a1 (And.intro a2 (And.intro a3 a4)))
    have HB := hid (And.intro b1 (And.intro b2 (And.intro b3 (And.intro b4 b5))))
    have HJ := hid hj
    have HO := hid hO
    have HX := hid hxl
    clear HT4 HO4 HD hT a1 a2 a3 a4 b1 b2 b3 b4 b5 hj hO hxl
    go_wp2_with fail
    have hstep := team_step HT.out 0 (by omega) (j : Int) (ds 0).log HB.out.2.2.1 HB.out.2.1 HB.out.1 (by rw [HA.out.2.2.2]; exact HB.out.2.2.2.1) (by rw [HA.out.2.2.2]; exact HLEN.out)
    rw [HA.out.1, HA.out.2.1, HA.out.2.2.2] at hstep
    refine hstep.mono ?_
    clear hstep
    rintro e w5 ⟨d1, rfl, hT1, ⟨c1, c2, c3, c4, c5⟩, ⟨f1, f2, f3⟩, f4, ho5⟩
    have hpl := team_plain hT1 0 (by omega) (j : Int) (by rw [ext2_self, c4, c5]; exact HB.out.2.2.2.1) (by rw [ext2_self, c4]; exact HLEN.out)
    rw [ext2_self, c3, HA.out.2.2.1, c4, c5] at hpl
    have HPL := hid hpl
    have HC := hid (And.intro c1 (And.intro c2 (And.intro c3 c4)))
    have HF := hid (And.intro f1 (And.intro f2 (And.intro f3 f4)))
    have HO5 := hid (HO.out.chain ho5 (fun i hi e => by omega))
    clear hpl hT1 c1 c2 c3 c4 c5 f1 f2 f3 f4 ho5 HO HT
    obtain ⟨L1, hL1⟩ : ∃ L1, L1 = (nx ins (ds 0).log xs (j : Int)).1 := ⟨_, rfl⟩
    obtain ⟨X1, hX1⟩ : ∃ X1, X1 = (nx ins (ds 0).log xs (j : Int)).2 := ⟨_, rfl⟩
    have hXl : X1.length = N := by rw [hX1, nx_words]; exact HX.out
    have hLl : L1.length = if (ctlOf ins (ds 0).log).i < ins.length then j + 1 else j := by rw [hL1, nx_length, HB.out.2.2.2.2]
    have hLv : Live ins L1 := by rw [hL1]; exact nx_live HB.out.2.2.2.1 _ _
    rw [← hL1, ← hX1] at HPL
    rw [← hL1] at HF
    rw [← hL1]
    have HXL : Hid (X1.length ≤ 4000) := by show X1.length ≤ 4000; omega
    have HXN := hid hXl
    have HLL := hid hLl
    have HLV := hid hLv
    have HO1 : Hid (L1 = (nx ins (ds 0).log xs (j : Int)).1) := hL1
    clear hL1 hX1 hXl hLl hLv
    go_wp2_with fail
    refine HPL.out.mono ?_
    rintro e w6 ⟨d2, rfl, hT2, ⟨c1, c2, c3, c4, c5, c6⟩, c7, ho6⟩
    have hf0 : (ext2 (ext2 ds 0 d1) 0 d2) 0 = d2 := ext2_self _ _ _
    obtain ⟨gv, hv, rv, hS⟩ := hT2.sight (g := 0) (by omega) (F := F) (P := P) (Q := P + 1) (ins := ins) (log := L1) (by rw [hf0, c1]; exact HC.out.1) (by rw [hf0, c2]; exact HC.out.2.1) (by rw [hf0, c3]) (by rw [hf0, c4]) (by rw [hf0]; exact c7)
    rw [hf0, c5, c6] at hS
    have HC2 := hid (And.intro (c1.trans HC.out.1) (And.intro (c2.trans HC.out.2.1) (And.intro c3 (And.intro c4 (And.intro c5 c7)))))
    have HO6 := hid (HO5.out.chain ho6 (fun i hi e => by omega)).drew
    have HS := hid (hS.still (Only.refl (fun _ => False) w6).drew)
    have HT6 := hid (hT2.still (Only.refl (fun _ => False) w6).drew)
    obtain ⟨b, hb⟩ : ∃ b, overB ins L1 = b := ⟨_, rfl⟩
    obtain ⟨ci, hci⟩ : ∃ ci, (ctlOf ins L1).i = ci := ⟨_, rfl⟩
    have hd1 : decide ((ins.length : Int) ≤ (ci : Int)) = b := by
      rw [← hb, overB, ← hci]
      by_cases h9 : (ctlOf ins L1).i < ins.length
      · rw [decide_eq_true h9, decide_eq_false (by omega)]; rfl
      · rw [decide_eq_false h9, decide_eq_true (by omega)]; rfl
    have hd2 : decide (ins.length ≤ ci) = b := by
      rw [← hd1]
      exact decide_eq_decide.2 (by omega)
    rw [hb] at HF
    rw [hb]
    have HBB := hid (And.intro hb hci)
    have x1 : w6.cell? ⟨P + 1, 1, none⟩ = some (.int .i64 (ci : Int)) := by rw [← hci]; exact hS.i
    have x4 : w6.cell? ⟨P + 1, 4, none⟩ = some (.int .i64 (L1.length : Int)) := hS.n
    have xr : w6.cell? ⟨rp, 0, none⟩ = some rv := hS.r
    have HX1 : Hid (∀ w', Sight w' F d2.lb P (P + 1) p q rp d1.s (ctlOf ins L1) L1.length d1.got X1 gv hv rv → w'.cell? ⟨P + 1, 1, none⟩ = some (.int .i64 (ci : Int))) := fun w' h9 => by rw [← HBB.out.2]; exact h9.i
    clear hT2 hf0 hS c1 c2 c3 c4 c5 c6 c7 ho6 hb hci HPL HO5
    go_wp2_with fail
    first
      | go_region_held (fun w' => w'.cell? ⟨P + 1, 1, none⟩ = some (.int .i64 (ci : Int)) ∧ w'.cell? ⟨P + 1, 4, none⟩ = some (.int .i64 (L1.length : Int)) ∧ w'.cell? ⟨rp, 0, none⟩ = some rv) (go_keep)
        (first
          | (go_at_call 17; refine (words_vec _ p q X1 ?_ ?_).mono ?_; exact HS.out.e; exact HXL.out; rintro e w7 ⟨v7, rfl, hv7, ho7⟩; have HS7 := hid (HS.out.still ho7); have HT7 := hid (HT6.out.still ho7); have HV7 := hid hv7; have HO7 := hid (HO6.out.chain ho7 (fun _ _ h => h)); have y1 := HX1.out _ HS7.out; have y4 := HS7.out.n; have yr := HS7.out.r; clear hv7 ho7)
          | (go_at_call 16; refine (ref_words_vec _ _ _ X1 ?_ ?_ ?_).mono ?_; exact HV7.out; exact HS7.out.rv; exact HXL.out; rintro e w8 ⟨rfl, ho8⟩; have HS8 := hid (HS7.out.still ho8); have HT8 := hid (HT7.out.still ho8); have HO8 := hid (HO7.out.chain ho8 (fun _ _ h => h)); have z1 := HX1.out _ HS8.out; have z4 := HS8.out.n; have zr := HS8.out.r; clear ho8)
          | (go_at_call 18; refine (steps_rel _ _ _ _ HS8.out.f).mono ?_; rintro e w9 ⟨rfl, rfl⟩; rw [HF.out.1])
          | (go_at_call 19; refine (done_rel _ _ _ _ HS8.out.f).mono ?_; rintro e w9 ⟨rfl, rfl⟩; rw [HF.out.2.2.1])
          | (go_at_call 20; refine (off_rel _ _ _ _ HS8.out.f).mono ?_; rintro e w9 ⟨rfl, rfl⟩; rw [HF.out.2.1, Bool.not_false, Bool.true_or]))
      | fail
    have HGL : Hid ((ctlOf ins L1).got.length ≤ 4000) := by
      have h9 : (ctlOf ins L1).got.length = Ctl.zero.got.length + L1.length := got_len ins L1 Ctl.zero
      have h8 := HLV.out.length_le
      have h7 : Ctl.zero.got.length = 0 := rfl
      show (ctlOf ins L1).got.length ≤ 4000
      omega
    clear x1 x4 xr y1 y4 yr z1 z4 zr HS HS7 HV7 HO6 HO7 HX1 HT6 HT7
    by_cases hdid : (ctlOf ins (ds 0).log).i < ins.length
    · have hdd : decide ((ctlOf ins (ds 0).log).i < ins.length) = true := decide_eq_true hdid
      have HDID := hid hdid
      clear hdid
      cases b
      · have hlt := over_no HBB.out.1
        have HLT := hid hlt
        have hLj : L1.length = j + 1 := by rw [HLL.out, if_pos HDID.out]
        have HLJ := hid hLj
        clear hlt hLj
        go_wp2_with fail
        go_roundw
        case rel =>
          refine ⟨j + 1, _, X1, by go_num, HT8.out, HXN.out, ?_, ?_, .inr ?_, HO8.out⟩
          · rw [ext2_self]
            exact ⟨HC2.out.1, HC2.out.2.1, HC2.out.2.2.1, HC2.out.2.2.2.1⟩
          · rw [ext2_self, HC2.out.2.2.2.2.1, HC2.out.2.2.2.2.2]
            exact ⟨HF.out.1, HF.out.2.1, HF.out.2.2.1, HLV.out, HLJ.out⟩
          · rw [ext2_self, HC2.out.2.2.2.2.2]
            exact HLT.out
        case measure => simp [intOf]; omega
      · obtain ⟨hgot, hmk, hms⟩ := HF.out.2.2.2 rfl
        have HGOT := hid hgot
        clear hgot HJ HBB HT8 HC2 HC HA HB
        go_wp2_with fail
        refine (marked_rel _ _ _ _ HS8.out.f).mono ?_
        rintro e w10 ⟨rfl, _, ho10⟩
        have HS10 := hid (HS8.out.still ho10)
        have HS11 := hid (HS10.out.still (Only.refl (fun _ => False) w10).drew)
        have HO11 := hid (HO8.out.chain ho10 (fun _ _ h => h)).drew
        clear ho10 HS8 HO8 HF
        cases hmt : (ctlOf ins L1).mt with
        | none =>
          have HMT := hid hmt
          rw [hmt] at hmk hms
          have g1 : w10.cell? ⟨P, 1, none⟩ = some gv := HS10.out.g
          have g3 : w10.cell? ⟨P + 1, 3, none⟩ = some hv := HS10.out.k
          have g5 : w10.cell? ⟨P + 1, 5, none⟩ = some (.int .i64 0) := by have h9 := HS10.out.m; rw [hmt] at h9; exact h9
          have g6 : w10.cell? ⟨P + 1, 6, none⟩ = some (.bool false) := by have h9 := HS10.out.h; rw [hmt] at h9; exact h9
          have HK : Hid (∀ w', Sight w' F d2.lb P (P + 1) p q rp d1.s (ctlOf ins L1) L1.length d1.got X1 gv hv rv → w'.cell? ⟨P + 1, 5, none⟩ = some (.int .i64 0) ∧ w'.cell? ⟨P + 1, 6, none⟩ = some (.bool false)) := by
            intro w' hs'
            have h9 := hs'.m
            have h8 := hs'.h
            rw [hmt] at h9 h8
            exact ⟨h9, h8⟩
          have hmk' : d1.s.mark = 0 := hmk
          have hms' : d1.s.marked = false := hms
          rw [hmk', hms']
          clear hmt hmk hms hmk' hms' HS10
          go_wp2_with fail
          refine wp_region_held_drew (S := fun w' => w'.cell? ⟨P, 1, none⟩ = some gv ∧ w'.cell? ⟨P + 1, 3, none⟩ = some hv ∧ w'.cell? ⟨P + 1, 5, none⟩ = some (.int .i64 0) ∧ w'.cell? ⟨P + 1, 6, none⟩ = some (.bool false)) (by kernel_rfl) ?_ (fun hHeld => ?_)
          · (try dsimp only); go_keep
          refine wpAnyH_take (i := 0) (oi := { dst := some 107, op := Go.Op.move (Go.Operand.tmp 8), type := 30, pos := _, after := #[], guard := none }) (v := ?_) rfl (by kernel_rfl) (by kernel_rfl) (by kernel_rfl) (fun _ _ _ h => h) (Or.inl ⟨by rfl, ?_⟩) (by assumption) ?_
          rotate_left 1
          · intro w' hSw
            try dsimp only at hSw
            go_simp
            try with_reducible rfl
          try simp only [Act.put, List.setIfInBounds_toArray, List.set_cons_zero, List.set_cons_succ]
          refine wpAnyH_take (i := 1) (oi := { dst := some 108, op := Go.Op.nilCheck (Go.Operand.tmp 107), type := 0, pos := _, after := #[{ on := 0, ground := Go.Ground.data }], guard := none }) (v := ?_) rfl (by kernel_rfl) (by kernel_rfl) (by kernel_rfl) (fun _ _ _ h => h) (Or.inl ⟨by rfl, ?_⟩) (by assumption) ?_
          rotate_left 1
          · intro w' hSw
            try dsimp only at hSw
            go_simp
            try with_reducible rfl
          try simp only [Act.put, List.setIfInBounds_toArray, List.set_cons_zero, List.set_cons_succ]
          refine wpAnyH_take (i := 2) (oi := { dst := some 109, op := Go.Op.fieldAddr 33 (Go.Operand.tmp 108) 1, type := 0, pos := _, after := #[{ on := 1, ground := Go.Ground.data }], guard := none }) (v := ?_) rfl (by kernel_rfl) (by kernel_rfl) (by kernel_rfl) (fun _ _ _ h => h) (Or.inl ⟨by rfl, ?_⟩) (by assumption) ?_
          rotate_left 1
          · intro w' hSw
            try dsimp only at hSw
            go_simp
            try with_reducible rfl
          try simp only [Act.put, List.setIfInBounds_toArray, List.set_cons_zero, List.set_cons_succ]
          refine wpAnyH_take (i := 3) (oi := { dst := some 110, op := Go.Op.load 31 (Go.Operand.tmp 109), type := 31, pos := _, after := #[{ on := 2, ground := Go.Ground.data }], guard := none }) (v := ?_) rfl (by kernel_rfl) (by kernel_rfl) (by kernel_rfl) (fun _ _ _ h => h) (Or.inl ⟨by rfl, ?_⟩) (by assumption) ?_
          rotate_left 1
          · intro w' hSw
            try dsimp only at hSw
            go_simp
            try with_reducible rfl
          try simp only [Act.put, List.setIfInBounds_toArray, List.set_cons_zero, List.set_cons_succ]
          refine wpAnyH_take (i := 4) (oi := { dst := some 111, op := Go.Op.move (Go.Operand.tmp 9), type := 34, pos := _, after := #[], guard := none }) (v := ?_) rfl (by kernel_rfl) (by kernel_rfl) (by kernel_rfl) (fun _ _ _ h => h) (Or.inl ⟨by rfl, ?_⟩) (by assumption) ?_
          rotate_left 1
          · intro w' hSw
            try dsimp only at hSw
            go_simp
            try with_reducible rfl
          try simp only [Act.put, List.setIfInBounds_toArray, List.set_cons_zero, List.set_cons_succ]
          refine wpAnyH_take (i := 5) (oi := { dst := some 112, op := Go.Op.nilCheck (Go.Operand.tmp 111), type := 0, pos := _, after := #[{ on := 4, ground := Go.Ground.data }], guard := none }) (v := ?_) rfl (by kernel_rfl) (by kernel_rfl) (by kernel_rfl) (fun _ _ _ h => h) (Or.inl ⟨by rfl, ?_⟩) (by assumption) ?_
          rotate_left 1
          · intro w' hSw
            try dsimp only at hSw
            go_simp
            try with_reducible rfl
          try simp only [Act.put, List.setIfInBounds_toArray, List.set_cons_zero, List.set_cons_succ]
          refine wpAnyH_take (i := 6) (oi := { dst := some 113, op := Go.Op.fieldAddr 36 (Go.Operand.tmp 112) 3, type := 0, pos := _, after := #[{ on := 5, ground := Go.Ground.data }], guard := none }) (v := ?_) rfl (by kernel_rfl) (by kernel_rfl) (by kernel_rfl) (fun _ _ _ h => h) (Or.inl ⟨by rfl, ?_⟩) (by assumption) ?_
          rotate_left 1
          · intro w' hSw
            try dsimp only at hSw
            go_simp
            try with_reducible rfl
          try simp only [Act.put, List.setIfInBounds_toArray, List.set_cons_zero, List.set_cons_succ]
          refine wpAnyH_take (i := 7) (oi := { dst := some 114, op := Go.Op.load 31 (Go.Operand.tmp 113), type := 31, pos := _, after := #[{ on := 6, ground := Go.Ground.data }], guard := none }) (v := ?_) rfl (by kernel_rfl) (by kernel_rfl) (by kernel_rfl) (fun _ _ _ h => h) (Or.inl ⟨by rfl, ?_⟩) (by assumption) ?_
          rotate_left 1
          · intro w' hSw
            try dsimp only at hSw
            go_simp
            try with_reducible rfl
          try simp only [Act.put, List.setIfInBounds_toArray, List.set_cons_zero, List.set_cons_succ]
          refine wpAnyH_ready (rs := [8]) (by kernel_rfl) (by simp) ?_
          refine AllReadyH.cons rfl (fun K hK => ?_) AllReadyH.nil
          go_simp
          go_wp2_with (go_at_call 16; refine (ref_words_vec _ _ _ (ctlOf ins L1).got ?_ ?_ ?_).mono ?_; (rw [← HGOT.out]; exact HS11.out.gv); exact HS11.out.hv; exact HGL.out; rintro e w12 ⟨rfl, ho12⟩; have HS12 := hid (HS11.out.still ho12); have k1 := HS12.out.g; have k3 := HS12.out.k; have k5 := (HK.out _ HS12.out).1; have k6 := (HK.out _ HS12.out).2; have HO12 := hid (HO11.out.chain ho12 (fun _ _ h => h)); clear ho12)
          refine hK.out _ _ ?_ (fun hHeld => ?_)
          · (try dsimp only); go_keep
          clear hK K
          refine wpAnyH_take (i := 9) (oi := { dst := some 116, op := Go.Op.move (Go.Operand.tmp 115), type := 4, pos := _, after := #[{ on := 8, ground := Go.Ground.data }, { on := 8, ground := Go.Ground.chain }], guard := none }) (v := ?_) rfl (by kernel_rfl) (by kernel_rfl) (by kernel_rfl) (fun _ _ _ h => h) (Or.inl ⟨by rfl, ?_⟩) (by assumption) ?_
          rotate_left 1
          · intro w' hSw
            try dsimp only at hSw
            go_simp
            try with_reducible rfl
          try simp only [Act.put, List.setIfInBounds_toArray, List.set_cons_zero, List.set_cons_succ]
          refine wpAnyH_take (i := 10) (oi := { dst := some 117, op := Go.Op.move (Go.Operand.tmp 14), type := 4, pos := _, after := #[{ on := 9, ground := Go.Ground.guard }], guard := some (9, true) }) (v := ?_) rfl (by kernel_rfl) (by kernel_rfl) (by kernel_rfl) (fun _ _ _ h => h) (Or.inl ⟨by rfl, ?_⟩) (by assumption) ?_
          rotate_left 1
          · intro w' hSw
            try dsimp only at hSw
            go_simp
            try with_reducible rfl
          try simp only [Act.put, List.setIfInBounds_toArray, List.set_cons_zero, List.set_cons_succ]
          refine wpAnyH_take (i := 11) (oi := { dst := some 118, op := Go.Op.move (Go.Operand.tmp 9), type := 34, pos := _, after := #[{ on := 9, ground := Go.Ground.guard }], guard := some (9, true) }) (v := ?_) rfl (by kernel_rfl) (by kernel_rfl) (by kernel_rfl) (fun _ _ _ h => h) (Or.inl ⟨by rfl, ?_⟩) (by assumption) ?_
          rotate_left 1
          · intro w' hSw
            try dsimp only at hSw
            go_simp
            try with_reducible rfl
          try simp only [Act.put, List.setIfInBounds_toArray, List.set_cons_zero, List.set_cons_succ]
          refine wpAnyH_take (i := 12) (oi := { dst := some 119, op := Go.Op.nilCheck (Go.Operand.tmp 118), type := 0, pos := _, after := #[{ on := 11, ground := Go.Ground.data }, { on := 9, ground := Go.Ground.guard }], guard := some (9, true) }) (v := ?_) rfl (by kernel_rfl) (by kernel_rfl) (by kernel_rfl) (fun _ _ _ h => h) (Or.inl ⟨by rfl, ?_⟩) (by assumption) ?_
          rotate_left 1
          · intro w' hSw
            try dsimp only at hSw
            go_simp
            try with_reducible rfl
          try simp only [Act.put, List.setIfInBounds_toArray, List.set_cons_zero, List.set_cons_succ]
          refine wpAnyH_take (i := 13) (oi := { dst := some 120, op := Go.Op.fieldAddr 36 (Go.Operand.tmp 119) 6, type := 0, pos := _, after := #[{ on := 12, ground := Go.Ground.data }, { on := 9, ground := Go.Ground.guard }], guard := some (9, true) }) (v := ?_) rfl (by kernel_rfl) (by kernel_rfl) (by kernel_rfl) (fun _ _ _ h => h) (Or.inl ⟨by rfl, ?_⟩) (by assumption) ?_
          rotate_left 1
          · intro w' hSw
            try dsimp only at hSw
            go_simp
            try with_reducible rfl
          try simp only [Act.put, List.setIfInBounds_toArray, List.set_cons_zero, List.set_cons_succ]
          refine wpAnyH_take (i := 14) (oi := { dst := some 121, op := Go.Op.load 4 (Go.Operand.tmp 120), type := 4, pos := _, after := #[{ on := 13, ground := Go.Ground.data }, { on := 9, ground := Go.Ground.guard }], guard := some (9, true) }) (v := ?_) rfl (by kernel_rfl) (by kernel_rfl) (by kernel_rfl) (fun _ _ _ h => h) (Or.inl ⟨by rfl, ?_⟩) (by assumption) ?_
          rotate_left 1
          · intro w' hSw
            try dsimp only at hSw
            go_simp
            try with_reducible rfl
          try simp only [Act.put, List.setIfInBounds_toArray, List.set_cons_zero, List.set_cons_succ]
          refine wpAnyH_take (i := 15) (oi := { dst := some 122, op := Go.Op.binOp Go.BinOp.eql 4 (Go.Operand.tmp 117) (Go.Operand.tmp 121) 4, type := 4, pos := _, after := #[{ on := 10, ground := Go.Ground.data }, { on := 14, ground := Go.Ground.data }, { on := 9, ground := Go.Ground.guard }], guard := some (9, true) }) (v := ?_) rfl (by kernel_rfl) (by kernel_rfl) (by kernel_rfl) (fun _ _ _ h => h) (Or.inl ⟨by rfl, ?_⟩) (by assumption) ?_
          rotate_left 1
          · intro w' hSw
            try dsimp only at hSw
            go_simp
            try with_reducible rfl
          try simp only [Act.put, List.setIfInBounds_toArray, List.set_cons_zero, List.set_cons_succ]
          refine wpAnyH_take (i := 16) (oi := { dst := some 123, op := Go.Op.pick (Go.Operand.tmp 116) (Go.Operand.tmp 122) (Go.Operand.const (Go.Value.bool false)), type := 4, pos := _, after := #[{ on := 9, ground := Go.Ground.data }, { on := 15, ground := Go.Ground.data }], guard := none }) (v := ?_) rfl (by kernel_rfl) (by kernel_rfl) (by kernel_rfl) (fun _ _ _ h => h) (Or.inl ⟨by rfl, ?_⟩) (by assumption) ?_
          rotate_left 1
          · intro w' hSw
            try dsimp only at hSw
            go_simp
            try with_reducible rfl
          try simp only [Act.put, List.setIfInBounds_toArray, List.set_cons_zero, List.set_cons_succ]
          refine wpAnyH_take (i := 17) (oi := { dst := some 124, op := Go.Op.move (Go.Operand.tmp 123), type := 4, pos := _, after := #[{ on := 16, ground := Go.Ground.data }, { on := 9, ground := Go.Ground.chain }], guard := none }) (v := ?_) rfl (by kernel_rfl) (by kernel_rfl) (by kernel_rfl) (fun _ _ _ h => h) (Or.inl ⟨by rfl, ?_⟩) (by assumption) ?_
          rotate_left 1
          · intro w' hSw
            try dsimp only at hSw
            go_simp
            try with_reducible rfl
          try simp only [Act.put, List.setIfInBounds_toArray, List.set_cons_zero, List.set_cons_succ]
          refine wpAnyH_take (i := 18) (oi := { dst := some 125, op := Go.Op.move (Go.Operand.tmp 14), type := 4, pos := _, after := #[{ on := 17, ground := Go.Ground.guard }], guard := some (17, true) }) (v := ?_) rfl (by kernel_rfl) (by kernel_rfl) (by kernel_rfl) (fun _ _ _ h => h) (Or.inl ⟨by rfl, ?_⟩) (by assumption) ?_
          rotate_left 1
          · intro w' hSw
            try dsimp only at hSw
            go_simp
            try with_reducible rfl
          try simp only [Act.put, List.setIfInBounds_toArray, List.set_cons_zero, List.set_cons_succ]
          refine wpAnyH_take (i := 19) (oi := { dst := some 126, op := Go.Op.unOp Go.UnOp.not 4 (Go.Operand.tmp 125), type := 4, pos := _, after := #[{ on := 18, ground := Go.Ground.data }, { on := 17, ground := Go.Ground.guard }], guard := some (17, true) }) (v := ?_) rfl (by kernel_rfl) (by kernel_rfl) (by kernel_rfl) (fun _ _ _ h => h) (Or.inl ⟨by rfl, ?_⟩) (by assumption) ?_
          rotate_left 1
          · intro w' hSw
            try dsimp only at hSw
            go_simp
            try with_reducible rfl
          try simp only [Act.put, List.setIfInBounds_toArray, List.set_cons_zero, List.set_cons_succ]
          refine wpAnyH_take (i := 20) (oi := { dst := some 127, op := Go.Op.move (Go.Operand.tmp 126), type := 4, pos := _, after := #[{ on := 19, ground := Go.Ground.data }, { on := 17, ground := Go.Ground.chain }, { on := 17, ground := Go.Ground.guard }], guard := some (17, true) }) (v := ?_) rfl (by kernel_rfl) (by kernel_rfl) (by kernel_rfl) (fun _ _ _ h => h) (Or.inl ⟨by rfl, ?_⟩) (by assumption) ?_
          rotate_left 1
          · intro w' hSw
            try dsimp only at hSw
            go_simp
            try with_reducible rfl
          try simp only [Act.put, List.setIfInBounds_toArray, List.set_cons_zero, List.set_cons_succ]
          refine wpAnyH_take (i := 21) (oi := { dst := some 128, op := Go.Op.move (Go.Operand.tmp 13), type := 3, pos := _, after := #[{ on := 20, ground := Go.Ground.guard }], guard := some (20, false) }) (v := undef) rfl (by kernel_rfl) (by kernel_rfl) (by kernel_rfl) (fun _ _ _ h => h) (Or.inr ⟨by rfl, rfl⟩) (by assumption) ?_
          try simp only [Act.put, List.setIfInBounds_toArray, List.set_cons_zero, List.set_cons_succ]
          refine wpAnyH_take (i := 22) (oi := { dst := some 129, op := Go.Op.move (Go.Operand.tmp 9), type := 34, pos := _, after := #[{ on := 20, ground := Go.Ground.guard }], guard := some (20, false) }) (v := undef) rfl (by kernel_rfl) (by kernel_rfl) (by kernel_rfl) (fun _ _ _ h => h) (Or.inr ⟨by rfl, rfl⟩) (by assumption) ?_
          try simp only [Act.put, List.setIfInBounds_toArray, List.set_cons_zero, List.set_cons_succ]
          refine wpAnyH_take (i := 23) (oi := { dst := some 130, op := Go.Op.nilCheck (Go.Operand.tmp 129), type := 0, pos := _, after := #[{ on := 22, ground := Go.Ground.data }, { on := 20, ground := Go.Ground.guard }], guard := some (20, false) }) (v := undef) rfl (by kernel_rfl) (by kernel_rfl) (by kernel_rfl) (fun _ _ _ h => h) (Or.inr ⟨by rfl, rfl⟩) (by assumption) ?_
          try simp only [Act.put, List.setIfInBounds_toArray, List.set_cons_zero, List.set_cons_succ]
          refine wpAnyH_take (i := 24) (oi := { dst := some 131, op := Go.Op.fieldAddr 36 (Go.Operand.tmp 130) 5, type := 0, pos := _, after := #[{ on := 23, ground := Go.Ground.data }, { on := 20, ground := Go.Ground.guard }], guard := some (20, false) }) (v := undef) rfl (by kernel_rfl) (by kernel_rfl) (by kernel_rfl) (fun _ _ _ h => h) (Or.inr ⟨by rfl, rfl⟩) (by assumption) ?_
          try simp only [Act.put, List.setIfInBounds_toArray, List.set_cons_zero, List.set_cons_succ]
          refine wpAnyH_take (i := 25) (oi := { dst := some 132, op := Go.Op.load 3 (Go.Operand.tmp 131), type := 3, pos := _, after := #[{ on := 24, ground := Go.Ground.data }, { on := 20, ground := Go.Ground.guard }], guard := some (20, false) }) (v := undef) rfl (by kernel_rfl) (by kernel_rfl) (by kernel_rfl) (fun _ _ _ h => h) (Or.inr ⟨by rfl, rfl⟩) (by assumption) ?_
          try simp only [Act.put, List.setIfInBounds_toArray, List.set_cons_zero, List.set_cons_succ]
          refine wpAnyH_take (i := 26) (oi := { dst := some 133, op := Go.Op.binOp Go.BinOp.eql 3 (Go.Operand.tmp 128) (Go.Operand.tmp 132) 3, type := 4, pos := _, after := #[{ on := 21, ground := Go.Ground.data }, { on := 25, ground := Go.Ground.data }, { on := 20, ground := Go.Ground.guard }], guard := some (20, false) }) (v := undef) rfl (by kernel_rfl) (by kernel_rfl) (by kernel_rfl) (fun _ _ _ h => h) (Or.inr ⟨by rfl, rfl⟩) (by assumption) ?_
          try simp only [Act.put, List.setIfInBounds_toArray, List.set_cons_zero, List.set_cons_succ]
          refine wpAnyH_take (i := 27) (oi := { dst := some 134, op := Go.Op.pick (Go.Operand.tmp 127) (Go.Operand.const (Go.Value.bool true)) (Go.Operand.tmp 133), type := 4, pos := _, after := #[{ on := 20, ground := Go.Ground.data }, { on := 26, ground := Go.Ground.data }, { on := 17, ground := Go.Ground.guard }], guard := some (17, true) }) (v := ?_) rfl (by kernel_rfl) (by kernel_rfl) (by kernel_rfl) (fun _ _ _ h => h) (Or.inl ⟨by rfl, ?_⟩) (by assumption) ?_
          rotate_left 1
          · intro w' hSw
            try dsimp only at hSw
            go_simp
            try with_reducible rfl
          try simp only [Act.put, List.setIfInBounds_toArray, List.set_cons_zero, List.set_cons_succ]
          refine wpAnyH_take (i := 28) (oi := { dst := some 135, op := Go.Op.pick (Go.Operand.tmp 124) (Go.Operand.tmp 134) (Go.Operand.const (Go.Value.bool false)), type := 4, pos := _, after := #[{ on := 17, ground := Go.Ground.data }, { on := 27, ground := Go.Ground.data }], guard := none }) (v := ?_) rfl (by kernel_rfl) (by kernel_rfl) (by kernel_rfl) (fun _ _ _ h => h) (Or.inl ⟨by rfl, ?_⟩) (by assumption) ?_
          rotate_left 1
          · intro w' hSw
            try dsimp only at hSw
            go_simp
            try with_reducible rfl
          try simp only [Act.put, List.setIfInBounds_toArray, List.set_cons_zero, List.set_cons_succ]
          refine wpAnyH_take (i := 29) (oi := { dst := some 4, op := Go.Op.assign (Go.Operand.tmp 135), type := 4, pos := _, after := #[{ on := 28, ground := Go.Ground.data }, { on := 20, ground := Go.Ground.chain }, { on := 0, ground := Go.Ground.phase }, { on := 1, ground := Go.Ground.phase }, { on := 2, ground := Go.Ground.phase }, { on := 3, ground := Go.Ground.phase }, { on := 4, ground := Go.Ground.phase }, { on := 5, ground := Go.Ground.phase }, { on := 6, ground := Go.Ground.phase }, { on := 7, ground := Go.Ground.phase }, { on := 8, ground := Go.Ground.phase }, { on := 9, ground := Go.Ground.phase }, { on := 10, ground := Go.Ground.phase }, { on := 11, ground := Go.Ground.phase }, { on := 12, ground := Go.Ground.phase }, { on := 13, ground := Go.Ground.phase }, { on := 14, ground := Go.Ground.phase }, { on := 15, ground := Go.Ground.phase }, { on := 16, ground := Go.Ground.phase }, { on := 17, ground := Go.Ground.phase }, { on := 18, ground := Go.Ground.phase }, { on := 19, ground := Go.Ground.phase }, { on := 20, ground := Go.Ground.phase }, { on := 21, ground := Go.Ground.phase }, { on := 22, ground := Go.Ground.phase }, { on := 23, ground := Go.Ground.phase }, { on := 24, ground := Go.Ground.phase }, { on := 25, ground := Go.Ground.phase }, { on := 26, ground := Go.Ground.phase }, { on := 27, ground := Go.Ground.phase }, { on := 28, ground := Go.Ground.phase }], guard := none }) (v := ?_) rfl (by kernel_rfl) (by kernel_rfl) (by kernel_rfl) (fun _ _ _ h => h) (Or.inl ⟨by rfl, ?_⟩) (by assumption) ?_
          rotate_left 1
          · intro w' hSw
            try dsimp only at hSw
            go_simp
            try with_reducible rfl
          try simp only [Act.put, List.setIfInBounds_toArray, List.set_cons_zero, List.set_cons_succ]
          refine wpAnyH_done (by kernel_rfl) ?_ _
          all_goals
            go_wp2_with fail
            go_ret
            exact ⟨by simp, HO12.out.below (Nat.le_refl _) (fun _ _ h => h)⟩
        | some tm =>
          have HMT := hid hmt
          rw [hmt] at hmk hms
          have g1 : w10.cell? ⟨P, 1, none⟩ = some gv := HS10.out.g
          have g3 : w10.cell? ⟨P + 1, 3, none⟩ = some hv := HS10.out.k
          have g5 : w10.cell? ⟨P + 1, 5, none⟩ = some (.int .i64 tm) := by have h9 := HS10.out.m; rw [hmt] at h9; exact h9
          have g6 : w10.cell? ⟨P + 1, 6, none⟩ = some (.bool true) := by have h9 := HS10.out.h; rw [hmt] at h9; exact h9
          have HK : Hid (∀ w', Sight w' F d2.lb P (P + 1) p q rp d1.s (ctlOf ins L1) L1.length d1.got X1 gv hv rv → w'.cell? ⟨P + 1, 5, none⟩ = some (.int .i64 tm) ∧ w'.cell? ⟨P + 1, 6, none⟩ = some (.bool true)) := by
            intro w' hs'
            have h9 := hs'.m
            have h8 := hs'.h
            rw [hmt] at h9 h8
            exact ⟨h9, h8⟩
          have hmk' : d1.s.mark = tm := hmk
          have hms' : d1.s.marked = true := hms
          rw [hmk', hms']
          clear hmt hmk hms hmk' hms' HS10
          go_wp2_with fail
          first
            | go_region_held (fun w' => w'.cell? ⟨P, 1, none⟩ = some gv ∧ w'.cell? ⟨P + 1, 3, none⟩ = some hv ∧ w'.cell? ⟨P + 1, 5, none⟩ = some (.int .i64 tm) ∧ w'.cell? ⟨P + 1, 6, none⟩ = some (.bool true)) (go_keep)
              (first | (go_at_call 16; refine (ref_words_vec _ _ _ (ctlOf ins L1).got ?_ ?_ ?_).mono ?_; (rw [← HGOT.out]; exact HS11.out.gv); exact HS11.out.hv; exact HGL.out; rintro e w12 ⟨rfl, ho12⟩; have HS12 := hid (HS11.out.still ho12); have k1 := HS12.out.g; have k3 := HS12.out.k; have k5 := (HK.out _ HS12.out).1; have k6 := (HK.out _ HS12.out).2; have HO12 := hid (HO11.out.chain ho12 (fun _ _ h => h)); clear ho12))
            | fail
          all_goals
            go_wp2_with fail
            go_ret
            exact ⟨by simp, HO12.out.below (Nat.le_refl _) (fun _ _ h => h)⟩
    · have hdd : decide ((ctlOf ins (ds 0).log).i < ins.length) = false := decide_eq_false hdid
      have hbt : b = true := by
        have h9 := HBB.out.1
        rw [← h9, HO1.out, nx, if_neg hdid, overB, hdd]
        rfl
      subst hbt
      have HGOT := hid (HF.out.2.2.2 rfl).1
      have HS9 := hid (HS8.out.still (Only.refl (fun _ => False) _).drew)
      have HO9 := hid HO8.out.drew
      have g1 : w9.cell? ⟨P, 1, none⟩ = some gv := HS8.out.g
      have g3 : w9.cell? ⟨P + 1, 3, none⟩ = some hv := HS8.out.k
      clear hdid HJ HF HBB HT8 HC2 HC HA HB
      go_wp2_with fail
      go_region_held (fun w' => w'.cell? ⟨P, 1, none⟩ = some gv ∧ w'.cell? ⟨P + 1, 3, none⟩ = some hv) (go_keep)
        (first | (go_at_call 16; refine (ref_words_vec _ _ _ (ctlOf ins L1).got ?_ ?_ ?_).mono ?_; (rw [← HGOT.out]; exact HS9.out.gv); exact HS9.out.hv; exact HGL.out; rintro e w10 ⟨rfl, ho10⟩; have HS10 := hid (HS9.out.still ho10); have k1 := HS10.out.g; have k3 := HS10.out.k; have HO10 := hid (HO9.out.chain ho10 (fun _ _ h => h)); clear ho10))
      go_wp2_with fail
      go_ret
      exact ⟨by simp, HO10.out.below (Nat.le_refl _) (fun _ _ h => h)⟩

theorem walk (lo : Option Addr) (lc LB : Nat) (ins : List Ins) (m : Nat) (hm : m ≤ 255) (w : World) (hI : InsIs w lo LB ins) (hlen : ins.length ≤ 9223372036854775807) :
    Calls Try.prog 3 #[.int .u8 (m : Int), .slice lo ins.length lc] w fun e w' => e = .returned (.bool true) ∧ Below w.heap.size w w' := by
  by_cases h : 60 < ins.length
  · exact walk_out lo ins.length lc m w hlen h
  · exact walk_in lo lc LB ins m hm w hI (by omega)

set_option maxRecDepth 100000 in
theorem lifted (os : Os) (started : os.Started) (H : Type) (enc : TypeId × Value → H) :
    ReturnsInHanded {} Try.checked os 3 .any (Rows.frameStepsSpec.pre6 enc Try.prog Try.f3 Rows.frameStepsRow.domain false) (Rows.frameStepsSpec.post enc Try.prog Try.f3 false true false false) := by
  refine returnsInHanded_of_change (C := Try.checked) own started (by kernel_rfl) Try.func3
    (ChangeSpec.witness6 (enc := enc) (C := Try.checked) false ⟨#[], #[.int .u8 0, .slice none 0 0], []⟩ 8 (by kernel_rfl) (by kernel_rfl) (by kernel_rfl) (by kernel_rfl)) ?_
  intro W base args ds gs before hval0 hW hcnd _
  have hval : ∀ (j : Nat) t v, Try.f3.params[j]? = some t → args[j]? = some v → Value.okWide Try.prog W .any base t v := hval0
  have hW' := hW
  obtain ⟨p, q, hA0, hV, rfl, hfz, hnd⟩ := hW
  have hA : DataW.TrodAll enc Try.prog W 0 (fun _ => true) true Try.f3.params.toList args.toList ds p := hA0
  rw [Try.params3] at hA hval
  obtain ⟨v0, vs0, d0, ds0, p0, q0, hargs, rfl, rfl, h0, r0⟩ := trodAll_cons hA
  obtain ⟨v1, vs1, d1, ds1, p1, q1, rfl, rfl, rfl, h1, r1⟩ := trodAll_cons r0
  obtain ⟨rfl, rfl, rfl⟩ := trodAll_nil r1
  obtain rfl : args = #[v0, v1] := by cases args; simp_all
  obtain ⟨n, rfl, rfl, rfl, wn⟩ := open_int Try.underlying5 (hval 0 5 v0 rfl rfl) h0
  obtain ⟨m, rfl, hm⟩ : ∃ m : Nat, n = m ∧ m ≤ 255 := by
    have := bounds_u8 wn
    exact ⟨n.toNat, by omega, by omega⟩
  obtain ⟨lo, len, lc, rfl⟩ := okWide_slice Try.underlying22 (hval 1 22 v1 rfl rfl)
  obtain ⟨LB, ins, hI, rfl, hlen⟩ := open_insList h1
  refine (walk lo lc LB ins m hm W hI hlen).mono fun e W' ⟨he, hg⟩ => ?_
  subst he
  exact ⟨_, rfl, post_law 2 4 laidOut (by kernel_rfl) rfl rfl rfl Try.underlying4 (fun l hl => by match l, hl with | [_, _], _ => rfl) hW' hg⟩

theorem over : Rows.frameStepsRow.holds Try.pinned (OpenSpec.ofChange Rows.frameStepsSpec) :=
  OpenClaim.holds_of_wide 3 Try.f3 rfl rfl rfl rfl rfl rfl rfl ⟨rfl, rfl, rfl, rfl, rfl⟩ rfl rfl rfl rfl rfl (by kernel_rfl) Try.func3 (by kernel_rfl)
    (of_decide_eq_true (by kernel_rfl)) (by unfold Func.isWrapper; first | (rw [if_pos (by decide +kernel)]; kernel_rfl) | (rw [if_neg (by decide +kernel)]; exact ⟨rfl, rfl⟩))
    (fun os started H enc _ => lifted os started H enc)

theorem proved : Rows.FrameStepsSaid := over
#print axioms proved
end Go.Proofs.Ytfdfjibhbfdloaa.frameSteps

/-
  TicketTurns: for every list of turns, every number of users and every first ticket the law answers true: however the steps of those that use a lock are taken in turns, at most one is inside; each one, in the order of tickets, sees what the one ahead left; when all have gone on long enough all are done. Conditions: none.
-/
import Derived.Test.YtfdfjibhbfdloaaAwake3
import Derived.Test.YtfdfjibhbfdloaaTurns3
import Derived.Test.YtfdfjibhbfdloaaLift
import Derived.Lib.SmallJoins
import Derived.OpenShut
import Derived.BigQuiet
import Derived.Deep.DeepCutAuto
import Derived.Deep.CutBlock
import Derived.Deep.RegionHeld
namespace Go.Proofs.Ytfdfjibhbfdloaa.ticketTurns
open Go.Sept Go.RowKit Go.ChangeShapes Go.WideShapes Go.ChangeAt Go.Joins Go.Deep Go.Sept.Turns

theorem own : ownKnob Try.prog.godebug = none := by kernel_rfl
theorem laidOut : laidOutB Try.prog = true := by kernel_rfl

set_option maxRecDepth 100000 in
set_option maxHeartbeats 1000000 in
theorem walk_out (ta : Option Addr) (L tc : Nat) (n first : Int) (w : World) (hL : 300 < L) (hm : L ≤ 9223372036854775807) :
    Calls Try.prog 6 #[.slice ta L tc, .int .u8 n, .int .i64 first] w fun e w' => e = .returned (.bool true) ∧ Below w.heap.size w w' := by
  have hL' : (300 : Int) < L := by omega
  go_enter Try.func6, Try.ntmps6
  go_wp2_with fail
  refine (awake3_any _).mono ?_
  rintro e w1 ⟨rfl, hb1⟩
  go_wp2_with fail
  refine (awake3_any _).mono ?_
  rintro e w2 ⟨rfl, hb2⟩
  have hF : Hid (Below w.heap.size w w2) := ((Only.of_below hb1 (fun _ => False)).chain (Only.of_below hb2 (fun _ => False)) (fun _ _ h => h)).below (Nat.le_refl _) (fun _ _ h => h)
  clear hb1 hb2
  go_wp2_with fail
  go_ret
  exact ⟨rfl, hF.out⟩

theorem one_ptr (b : Nat) : ∀ u ∈ [ptr b], u.oneCell' = true := by
  intro u hu
  rw [List.mem_singleton] at hu
  subst hu
  rfl

set_option maxRecDepth 100000 in
set_option maxHeartbeats 2000000 in
theorem walk_in (ta : Option Addr) (L tc m : Nat) (first : Int) (T : Nat → Nat) (w : World) (hL : L ≤ 300) (hm255 : m ≤ 255) (hfirst : -9223372036854775808 ≤ first ∧ first ≤ 9223372036854775807) (hT : U8s w ta L T) (hTb : ∀ i, i < L → T i ≤ 255) :
    Calls Try.prog 6 #[.slice ta L tc, .int .u8 (m : Int), .int .i64 first] w fun e w' => e = .returned (.bool true) ∧ Below w.heap.size w w' := by
  have hmf : ∀ (fn : Fn) (first cap : Array Value) (w : World), (Instr.makeFunc fn first cap).run Try.prog w = .ok (.func fn first cap) w := fun _ _ _ _ => rfl
  obtain ⟨k, hk⟩ : ∃ k, k = 1 + m % 5 := ⟨_, rfl⟩
  have hk1 : (1 : Int) + ((m : Int) % 5) = (k : Int) := by omega
  have hk5 : k ≤ 5 := by omega
  have hk0 : 0 < k := by omega
  have hL' : ¬ (300 : Int) < L := by omega
  have HT := hid hT
  have HTB := hid hTb
  have HFI := hid hfirst
  clear hT hTb hfirst hk
  go_enter Try.func6, Try.ntmps6
  go_wp2_with fail
  refine (awake3_any _).mono ?_
  rintro e w0 ⟨rfl, hb0⟩
  have HO0 := hid (Only.of_below hb0 (fun _ => False))
  clear hb0
  go_wp2_with fail
  refine (new_rel _ _).mono ?_
  rintro e w1 ⟨p, q, rfl, hm, hp, hq, ho1⟩
  rw [show clampN 6 = 6 from clamp_nat 6 (by decide)] at hm
  have HM := hid hm
  have HO1 := hid (HO0.out.chain ho1 (fun _ _ h => h))
  have lz : w.heap.size ≤ w0.heap.size := HO0.out.size
  have lp : w.heap.size ≤ p := by omega
  have lq : w.heap.size ≤ q := by omega
  clear hm ho1 HO0 lz hp hq
  go_wp2_with fail
  refine (store_rel _ p q _ HM.out 0 (by decide) first).mono ?_
  rintro e w2 ⟨rfl, hm2, ho2⟩
  have HM2 := hid hm2
  have HO2 := hid (HO1.out.chain ho2 (fun i hi e => by omega))
  clear hm2 ho2 HM HO1
  go_wp2_with fail
  refine (store_rel _ p q _ HM2.out 1 (by simp) first).mono ?_
  rintro e w3 ⟨rfl, hm3, ho3⟩
  have HM3 : Hid (MemIs 74 w3 p q (wordsOf first 0 0 0)) := by
    have e1 : wordsOf first 0 0 0 = [first, first, 0, 0, 0, 0] := by
      show [tk first 0, tk first 0, 0, 0, 0, ((0 : Nat) : Int) + 0] = _
      rw [tk_zero HFI.out]
      rfl
    rw [e1]
    exact hm3
  have HO3 := hid (HO2.out.chain ho3 (fun i hi e => by omega))
  clear hm3 ho3 HM2 HO2
  go_wp2_with fail
  go_loopw [37, 9, 10] (fun i fv uv wx => ∃ (j : Nat) (Fs Us Ls : Nat → Nat) (ss : Nat → FrSt), i = .int .i64 (j : Int) ∧ j ≤ k ∧ Arr w.heap.size wx j p q Fs Us Ls ss (wordsOf first 0 0 0) fv uv ∧ Only (fun _ => False) w wx) (fun i _ _ _ => k - (intOf i).toNat)
  case atStart =>
    have z3 := HO3.out.size
    refine ⟨0, fun _ => 0, fun _ => 0, fun _ => 0, fun _ => fresh none, rfl, Nat.zero_le _, ⟨Users.none lq _ _ _ _ _, ⟨0, Grow.nil _ _ _ _⟩, ⟨0, Grow.nil _ _ _ _⟩, fun b hb => by simp [Value.ownBlock] at hb, fun b hb => by simp [Value.ownBlock] at hb, fun b hb => by simp [Value.ownBlock] at hb, HM3.out, fun i hi => by omega, z3⟩, HO3.out⟩
  case round =>
    obtain ⟨j, Fs, Us, Ls, ss, rfl, hj, hA, hO⟩ := hrel
    have HA := hid hA
    have HO := hid hO
    clear HM3 HO3 hA hO
    by_cases hlt : (j : Int) < k
    · go_wp2_with fail
      refine (fnew_rel _ _).mono ?_
      rintro e w4 ⟨F, rfl, hf4, hF, ho4⟩
      have HF := hid hF
      have HFR := hid hf4
      have HO4 := hid ho4
      obtain ⟨fb0, hG4, hfb0⟩ := arr_f HA.out ho4 (.cells #[ptr F] 28)
      have HG4 := hid hG4
      have HFB := hid hfb0
      clear hF hf4 ho4 hG4 hfb0
      go_wp2_with (at_builtin; refine wpList_append_grown _ rfl (.tmp 39) (.tmp 42) 58 rfl 28 _ 1 8 Try.underlying58 Try.infoPF rfl (by decide) u9 fb0 j (ptrs Fs j) rfl HG4.out ⟨w4.heap.size, 0, none⟩ 1 1 [ptr F] rfl (by decide) rfl (news_of_block (heap_new w4 (.cells #[ptr F] 28))) (one_ptr F) (by unfold maxLen; omega) (by omega) ?_)
      intro b2 c2 w5 hg2 ho5 hb2
      have H5 := hid (And.intro hg2 (And.intro ho5 hb2))
      clear hg2 ho5 hb2 HG4
      obtain ⟨ub0, hG5, hub0⟩ := arr_u HA.out HO4.out (.cells #[ptr F] 28) H5.out.2.1 (.cells (userCells 0 (0, 0, false)) 62) (.cells #[ptr w5.heap.size] 60)
      have hne5 : ((w5.alloc (.cells (userCells 0 (0, 0, false)) 62)).alloc (.cells #[ptr w5.heap.size] 60)).heap[w5.heap.size + 1]? = some (.cells [ptr w5.heap.size].toArray 60) := by
        have h9 := heap_new (w5.alloc (.cells (userCells 0 (0, 0, false)) 62)) (.cells #[ptr w5.heap.size] 60)
        rwa [World.size_alloc] at h9
      have HG5 := hid hG5
      have HUB := hid hub0
      have HN5 := hid hne5
      clear hG5 hub0 hne5
      go_wp2_with (at_builtin; refine wpList_append_grown _ rfl (.tmp 44) (.tmp 47) 59 rfl 60 _ 1 8 Try.underlying59 Try.infoPU rfl (by decide) u10 ub0 j (ptrs Us j) rfl HG5.out ⟨w5.heap.size + 1, 0, none⟩ 1 1 [ptr w5.heap.size] rfl (by decide) rfl (news_of_block HN5.out) (one_ptr _) (by unfold maxLen; omega) (by omega) ?_)
      intro b3 c3 w6 hg3 ho6 hb3
      have HR := hid (arr_step HA.out HFR.out HF.out HO4.out (.cells #[ptr F] 28) HFB.out H5.out.1 H5.out.2.1 (by have h9 := H5.out.2.2; simp only [World.size_alloc]; omega) rfl (.cells #[ptr w5.heap.size] 60) HUB.out hg3 ho6 (by simp only [World.size_alloc]; omega))
      have HO6 : Hid (Only (fun _ => False) w w6) := HO.out.chain HR.out.2 (fun i hi e => by
        rcases e with e | e
        · have := (HA.out.fo i e).1; omega
        · have := (HA.out.uo i e).1; omega)
      clear hg3 ho6 hb3 HG5 HUB HN5 H5 HFB HF HFR HO4 HO
      go_wp2_with fail
      go_roundw
      case rel => exact ⟨j + 1, _, _, _, _, by go_num, by omega, HR.out.1, HO6.out⟩
      case measure => simp [intOf]; omega
    · obtain rfl : j = k := by omega
      have HP : Hid (∃ fb fc ub uc, u9 = .slice (some ⟨fb, 0, none⟩) j fc ∧ u10 = .slice (some ⟨ub, 0, none⟩) j uc ∧ ∃ φ ord c e Ls ss, Play w.heap.size wr j p q fb ub Fs Us first 0 φ ord c e Ls ss) := by
        obtain ⟨fb, hf⟩ := HA.out.f
        obtain ⟨ub, hu⟩ := HA.out.u
        obtain ⟨fc, e1, _, _, hfc⟩ := hf.cells hk0
        obtain ⟨uc, e2, _, _, huc⟩ := hu.cells hk0
        have a1 := HA.out.fo fb (by rw [e1]; rfl)
        have a2 := HA.out.uo ub (by rw [e2]; rfl)
        exact ⟨fb, fc, ub, uc, e1, e2, fun _ => .A, [], 0, 0, Ls, ss, HA.out.users, Good.start _ _, fun i hi => ⟨by rw [HA.out.short i hi]; exact Nat.le_refl _, Nat.zero_le _⟩, fun i hi => hfc i _ (ptrs_get Fs hi), fun i hi => huc i _ (ptrs_get Us hi), a1.2.2.2, a2.2.2.2, a1.2.2.1, a2.2.2.1, hf.lt hk0, hu.lt hk0⟩
      obtain ⟨fb, fc, ub, uc, rfl, rfl, φ0, ord0, c0, e0, Ls0, ss0, hP0⟩ := HP.out
      have HP0 := hid hP0
      clear HA HP hP0 hj hlt
      have hkz : ((j : Int) == 0) = false := beq_eq_false_iff_ne.2 (by omega)
      have hkz2 : ¬ (j : Int) = 0 := by omega
      go_wp2_with fail
      go_loopw [55] (fun i wx => ∃ now : Nat, i = .int .i64 (now : Int) ∧ now ≤ L + 60 * j ∧ (∃ φ ord c e Ls ss, Play w.heap.size wx j p q fb ub Fs Us first now φ ord c e Ls ss ∧ (L ≤ now → Pace j ord c e (now - L) now)) ∧ Only (fun _ => False) w wx) (fun i _ => L + 60 * j + 1 - (intOf i).toNat)
      case atStart =>
        refine ⟨0, rfl, Nat.zero_le _, ⟨_, _, _, _, _, _, HP0.out, fun h9 => ?_⟩, HO.out⟩
        rw [Nat.zero_sub]
        exact HP0.out.good.pace_start hk0 hk5 _
      case round =>
        obtain ⟨now, rfl, hnow, ⟨φ, ord, c, e, Ls, ss, hP, hPace⟩, hOx⟩ := hrel
        have HP := hid hP
        have HPA := hid hPace
        have HOx := hid hOx
        clear HP0 HO hP hPace hOx
        by_cases hlt : (now : Int) < L + 60 * j
        · go_upto_if 64 with fail
          go_cut [12] (fun v wc => wc = wr ∧ ∃ g, g < j ∧ v = .int .i64 (g : Int) ∧ (L ≤ now → g = now % j))
          case first =>
            by_cases hnl : now < L
            · have hnl' : (now : Int) < L := by omega
              obtain ⟨tb, off, hh⟩ := HT.out.only HOx.out
              obtain ⟨rfl, hc⟩ := hh now hnl
              have hT255 : T now ≤ 255 := HTB.out now hnl
              clear hh
              go_wp2_with fail
              go_meet
              case rel => exact ⟨rfl, T now % j, Nat.mod_lt _ hk0, by push_cast; rfl, fun h9 => by omega⟩
            · have hnl' : ¬ (now : Int) < L := by omega
              go_wp2_with fail
              go_meet
              case rel => exact ⟨rfl, now % j, Nat.mod_lt _ hk0, by push_cast; rfl, fun _ => rfl⟩
          case rest =>
            obtain ⟨rfl, g, hg, rfl, hgn⟩ := hcut
            have cF : wc.cell? ⟨fb, g, none⟩ = some (.pointer (some ⟨Fs g, 0, none⟩)) := HP.out.fs g hg
            have cU : wc.cell? ⟨ub, g, none⟩ = some (.pointer (some ⟨Us g, 0, none⟩)) := HP.out.us g hg
            have hg' : (g : Int) < j := by omega
            have HPd := hid (HP.out.only (Only.refl (fun _ => False) _).drew)
            have HOd := hid HOx.out.drew
            have HGN := hid hgn
            have HG := hid hg
            clear HP HOx hgn hg
            go_wp2_with fail
            go_region_held (fun w' => w'.cell? ⟨fb, g, none⟩ = some (.pointer (some ⟨Fs g, 0, none⟩)) ∧ w'.cell? ⟨ub, g, none⟩ = some (.pointer (some ⟨Us g, 0, none⟩))) (go_keep)
              (first | (go_at_call 13; refine (play_step HPd.out hk5 ?_ g HG.out (now : Int)).mono ?_; omega; rintro x w5 ⟨r5, φ5, ord5, c5, e5, Ls5, ss5, rfl, hP5, hs5, ho5⟩; have HP5 := hid hP5; have HS5 := hid hs5; have HO5 := hid (HOd.out.chain ho5 (fun i hi e => by omega)); have d1 : w5.cell? ⟨fb, g, none⟩ = some (.pointer (some ⟨Fs g, 0, none⟩)) := hP5.fs g HG.out; have d2 : w5.cell? ⟨ub, g, none⟩ = some (.pointer (some ⟨Us g, 0, none⟩)) := hP5.us g HG.out; clear hP5 hs5 ho5))
            clear HPd HOd cF cU d1 d2
            go_wp2_with fail
            go_loopw [85, 13] (fun y v wx => wx = w5 ∧ ∃ i z : Nat, y = .int .i64 (i : Int) ∧ v = .int .i64 (z : Int) ∧ i ≤ j ∧ ((z = 0 ∧ ∀ x, x < i → (φ5 x).out.2.2 = false) ∨ (z = 1 ∧ ∃ x, x < i ∧ (φ5 x).out.2.2 = true))) (fun y _ _ => j - (intOf y).toNat)
            case atStart => exact ⟨rfl, 0, 0, rfl, rfl, Nat.zero_le _, .inl ⟨rfl, fun x hx => by omega⟩⟩
            case round =>
              obtain ⟨rfl, i, z, rfl, rfl, hi, hz⟩ := hrel
              have HZ := hid hz
              have hz1 : z ≤ 1 := by
                rcases hz with ⟨h9, _⟩ | ⟨h9, _⟩ <;> omega
              clear hz
              by_cases hij : (i : Int) < j
              · have hij' : i < j := by omega
                have cU : wr.cell? ⟨ub, i, none⟩ = some (.pointer (some ⟨Us i, 0, none⟩)) := HP5.out.us i hij'
                have cI : wr.cell? ⟨Us i, 3, none⟩ = some (.bool (φ5 i).out.2.2) := Sept.cell_of_block (HP5.out.users.one i hij').side.blk 3
                cases hin : (φ5 i).out.2.2
                · rw [hin] at cI
                  have HIN := hid hin
                  clear hin
                  go_wp2_with fail
                  go_roundw
                  case rel =>
                    refine ⟨trivial, i + 1, z, by go_num, rfl, by omega, ?_⟩
                    rcases HZ.out with ⟨h8, h9⟩ | ⟨h8, x, h9⟩
                    · refine .inl ⟨h8, fun x hx => ?_⟩
                      by_cases e9 : x = i
                      · rw [e9]; exact HIN.out
                      · exact h9 x (by omega)
                    · exact .inr ⟨h8, x, by omega, h9.2⟩
                  case measure => simp [intOf]; omega
                · rw [hin] at cI
                  have HIN := hid hin
                  have hz0 : z = 0 := by
                    rcases HZ.out with ⟨h8, _⟩ | ⟨_, x, h9⟩
                    · exact h8
                    · have := HP5.out.good.inside (show x < j by omega) hij' h9.2 hin
                      omega
                  subst hz0
                  clear hin
                  go_wp2_with fail
                  go_roundw
                  case rel => exact ⟨trivial, i + 1, 1, by go_num, by go_num, by omega, .inr ⟨rfl, i, by omega, HIN.out⟩⟩
                  case measure => simp [intOf]; omega
              · have hz2 : ¬ (1 : Int) < z := by omega
                have HN : Hid (L ≤ now + 1 → Pace j ord5 c5 e5 (now + 1 - L) (now + 1)) := by
                  intro h9
                  by_cases h8 : L ≤ now
                  · have h7 := HP5.out.good.pace_step (now := now) hk0 hk5 (HPA.out h8) (by rw [← HGN.out h8]; exact HS5.out)
                    rwa [show now - L + 1 = now + 1 - L by omega] at h7
                  · rw [show now + 1 - L = 0 by omega]
                    exact HP5.out.good.pace_start hk0 hk5 _
                clear HZ HGN HPA HS5
                go_wp2_with fail
                go_roundw
                case rel => exact ⟨now + 1, by go_num, by omega, ⟨_, _, _, _, _, _, HP5.out, HN.out⟩, HO5.out⟩
                case measure => simp [intOf]; omega
        · obtain rfl : now = L + 60 * j := by omega
          have hdone := (HPA.out (by omega)).done hk0 (by omega)
          obtain ⟨hc, he, hord, hall⟩ := HP.out.good.all hdone
          have HALL := hid hall
          have HWS : Hid (wordsOf first ord.length c e = [tk first j, tk first j, 0, 0, 0, (j : Int)]) := by
            rw [hord, hc, he]
            show [tk first j, tk first j, 0, 0, 0, (j : Int) + 0] = _
            rw [Int.add_zero]
          clear hdone hc he hord hall HPA hnow hlt
          go_wp2_with fail
          go_loopw [103] (fun y wx => ∃ i : Nat, y = .int .i64 (i : Int) ∧ i ≤ j ∧ Play w.heap.size wx j p q fb ub Fs Us first (L + 60 * j) φ ord c e Ls ss ∧ Only (fun _ => False) w wx) (fun y _ => j - (intOf y).toNat)
          case atStart => exact ⟨0, rfl, Nat.zero_le _, HP.out, HOx.out⟩
          case round =>
            obtain ⟨i, rfl, hi, hP4, hO4⟩ := hrel
            have HP4 := hid (hP4.only (Only.refl (fun _ => False) _).drew)
            have HO4 := hid hO4.drew
            by_cases hij : (i : Int) < j
            · have hij' : i < j := by omega
              obtain ⟨t, ht, hφ⟩ := HALL.out i hij'
              have hU := hP4.users.one i hij'
              rw [hφ] at hU
              have cF : wr.cell? ⟨fb, i, none⟩ = some (.pointer (some ⟨Fs i, 0, none⟩)) := hP4.fs i hij'
              have cU : wr.cell? ⟨ub, i, none⟩ = some (.pointer (some ⟨Us i, 0, none⟩)) := hP4.us i hij'
              have c1 : wr.cell? ⟨Us i, 1, none⟩ = some (.int .i64 (tk first t)) := Sept.cell_of_block hU.side.blk 1
              have c2 : wr.cell? ⟨Us i, 2, none⟩ = some (.int .i64 (t : Int)) := Sept.cell_of_block hU.side.blk 2
              have HFR := hid (hU.side.fm.frame.only (Only.refl (fun _ => False) wr).drew (fun h => h) (fun h => h))
              have HD : Hid ((ss i).done = true) := hU.over
              have hsub : ((t : Int) != IntKind.i64.wrap (tk first t - first)) = false := by
                have h9 : IntKind.i64.wrap (tk first t - first) = wrap64 (tk first t - first) := by rw [IntKind.wrap_i64]; unfold wrap64; rfl
                rw [h9, tk_sub first t (by omega), bne_self_eq_false]
              clear hP4 hO4 hU hφ HP HOx HALL
              go_wp2_with fail
              go_region_held (fun w' => w'.cell? ⟨fb, i, none⟩ = some (.pointer (some ⟨Fs i, 0, none⟩)) ∧ w'.cell? ⟨ub, i, none⟩ = some (.pointer (some ⟨Us i, 0, none⟩)) ∧ w'.cell? ⟨Us i, 1, none⟩ = some (.int .i64 (tk first t)) ∧ w'.cell? ⟨Us i, 2, none⟩ = some (.int .i64 (t : Int))) (go_keep)
                (first | (go_at_call 19; refine (done_rel _ _ _ _ HFR.out).mono ?_; rintro x w5 ⟨rfl, rfl⟩; rw [HD.out]))
              go_wp2_with fail
              go_roundw
              case rel =>
                refine ⟨_, _, _, _, _, _, _, _, _, _, _, _, _, _, _, _, _, _, _, _, _, _, _, _, _, _, _, _, _, _, _, ⟨i + 1, ?_, by omega, HP4.out, HO4.out⟩, rfl⟩
                go_num
              case measure => simp [intOf]; omega
            · have HM : Hid (MemIs 74 wr p q [tk first j, tk first j, 0, 0, 0, (j : Int)]) := by
                have h9 := (hP4.users.one 0 hk0).mem_holds
                rw [HWS.out] at h9
                exact holds_mem h9 (by simp)
              have HOf := hid hO4
              clear hP4 hO4 HP HOx HALL HWS HP4 HO4
              go_wp2_with fail
              refine (words_rel_pos _ p q _ HM.out (by simp) (by simp)).mono ?_
              rintro x w6 ⟨b6, rfl, hr6, hb6, ho6⟩
              have d0 : w6.cell? ⟨b6, 0, none⟩ = some (.int .i64 (wrap64 (first + j))) := hr6.cell 0 (by simp)
              have d1 : w6.cell? ⟨b6, 1, none⟩ = some (.int .i64 (wrap64 (first + j))) := hr6.cell 1 (by simp)
              have d5 : w6.cell? ⟨b6, 5, none⟩ = some (.int .i64 (j : Int)) := hr6.cell 5 (by simp)
              have HO6 := hid (HOf.out.chain ho6 (fun _ _ h => h))
              clear hr6 hb6 ho6 HM HOf
              go_wp2_with fail
              go_ret
              exact ⟨by simp, HO6.out.below (Nat.le_refl _) (fun _ _ h => h)⟩

theorem walk (ta : Option Addr) (L tc m : Nat) (first : Int) (T : Nat → Nat) (w : World) (hmx : L ≤ 9223372036854775807) (hm255 : m ≤ 255) (hfirst : -9223372036854775808 ≤ first ∧ first ≤ 9223372036854775807) (hT : U8s w ta L T) (hTb : ∀ i, i < L → T i ≤ 255) :
    Calls Try.prog 6 #[.slice ta L tc, .int .u8 (m : Int), .int .i64 first] w fun e w' => e = .returned (.bool true) ∧ Below w.heap.size w w' := by
  by_cases h : 300 < L
  · exact walk_out ta L tc m first w h hmx
  · exact walk_in ta L tc m first T w (by omega) hm255 hfirst hT hTb

set_option maxRecDepth 100000 in
theorem lifted (os : Os) (started : os.Started) (H : Type) (enc : TypeId × Value → H) :
    ReturnsInHanded {} Try.checked os 6 .any (Rows.ticketTurnsSpec.pre6 enc Try.prog Try.f6 Rows.ticketTurnsRow.domain false) (Rows.ticketTurnsSpec.post enc Try.prog Try.f6 false true false false) := by
  refine returnsInHanded_of_change (C := Try.checked) own started (by kernel_rfl) Try.func6
    (ChangeSpec.witness6 (enc := enc) (C := Try.checked) false ⟨#[], #[.slice none 0 0, .int .u8 0, .int .i64 0], []⟩ 8 (by kernel_rfl) (by kernel_rfl) (by kernel_rfl) (by kernel_rfl)) ?_
  intro W base args ds gs before hval0 hW hcnd _
  have hval : ∀ (j : Nat) t v, Try.f6.params[j]? = some t → args[j]? = some v → Value.okWide Try.prog W .any base t v := hval0
  have hW' := hW
  obtain ⟨p, q, hA0, hV, rfl, hfz, hnd⟩ := hW
  have hA : DataW.TrodAll enc Try.prog W 0 (fun _ => true) true Try.f6.params.toList args.toList ds p := hA0
  rw [Try.params6] at hA hval
  obtain ⟨v0, vs0, d0, ds0, p0, q0, hargs, rfl, rfl, h0, r0⟩ := trodAll_cons hA
  obtain ⟨v1, vs1, d1, ds1, p1, q1, rfl, rfl, rfl, h1, r1⟩ := trodAll_cons r0
  obtain ⟨v2, vs2, d2, ds2, p2, q2, rfl, rfl, rfl, h2, r2⟩ := trodAll_cons r1
  obtain ⟨rfl, rfl, rfl⟩ := trodAll_nil r2
  obtain rfl : args = #[v0, v1, v2] := by cases args; simp_all
  obtain ⟨ta, L, tc, rfl⟩ := okWide_slice Try.underlying49 (hval 0 49 v0 rfl rfl)
  obtain ⟨n, rfl, rfl, rfl, wn⟩ := open_int Try.underlying5 (hval 1 5 v1 rfl rfl) h1
  obtain ⟨m, rfl, hm⟩ : ∃ m : Nat, n = m ∧ m ≤ 255 := by
    have := bounds_u8 wn
    exact ⟨n.toNat, by omega, by omega⟩
  obtain ⟨first, rfl, rfl, rfl, wf⟩ := open_int Try.underlying2 (hval 2 2 v2 rfl rfl) h2
  have hfirst := bounds_i64 wf
  obtain ⟨T, hT, hTb, hL⟩ : ∃ T, U8s W ta L T ∧ (∀ i, i < L → T i ≤ 255) ∧ L ≤ 9223372036854775807 := by
    obtain ⟨fuel, hf⟩ := h0
    rcases open_ints Try.underlying49 Try.underlying5 (by kernel_rfl) hf with ⟨hcs, _⟩ | ⟨x, l, c, zs, hcs, _, hl, hm, hz, _, hcell, hwf⟩
    · simp [Value.cells] at hcs
      obtain ⟨rfl, rfl, rfl⟩ := hcs
      exact ⟨fun _ => 0, ⟨0, 0, fun i hi => by omega⟩, fun i hi => by omega, by omega⟩
    · simp [Value.cells] at hcs
      obtain ⟨rfl, rfl, rfl⟩ := hcs
      unfold maxLen at hm
      have hz' : zs.length = tc := by simpa using hz
      obtain ⟨b, off, spot⟩ := x
      have hbd : ∀ i, i < L → 0 ≤ zs.getD i 0 ∧ zs.getD i 0 ≤ 255 := fun i hi => by
        have h9 : zs.getD i 0 ∈ zs := by
          rw [List.getD_eq_getElem?_getD, List.getElem?_eq_getElem (by omega)]
          exact List.getElem_mem _
        exact bounds_u8 (hwf _ h9)
      refine ⟨fun i => (zs.getD i 0).toNat, ⟨b, off, fun i hi => ?_⟩, fun i hi => by have := hbd i hi; show (zs.getD i 0).toNat ≤ 255; omega, by omega⟩
      have hci := hcell i (by omega)
      have hspot : spot = none := by
        have hc0 := hcell 0 (by omega)
        simpa [Addr.add] using World.cell?_spot hc0
      subst hspot
      have e9 : Addr.add ⟨b, off, none⟩ i = ⟨b, off + i, none⟩ := by simp only [Addr.add]; split <;> simp_all
      rw [e9] at hci
      have e8 : (((zs.getD i 0).toNat : Nat) : Int) = zs.getD i 0 := by have := hbd i hi; omega
      rw [e8]
      exact ⟨rfl, hci⟩
  refine (walk ta L tc m first T W hL hm hfirst hT hTb).mono fun e W' ⟨he, hg⟩ => ?_
  subst he
  exact ⟨_, rfl, post_law 3 4 laidOut (by kernel_rfl) rfl rfl rfl Try.underlying4 (fun l hl => by match l, hl with | [_, _, _], _ => rfl) hW' hg⟩

theorem over : Rows.ticketTurnsRow.holds Try.pinned (OpenSpec.ofChange Rows.ticketTurnsSpec) :=
  OpenClaim.holds_of_wide 6 Try.f6 rfl rfl rfl rfl rfl rfl rfl ⟨rfl, rfl, rfl, rfl, rfl⟩ rfl rfl rfl rfl rfl (by kernel_rfl) Try.func6 (by kernel_rfl)
    (of_decide_eq_true (by kernel_rfl)) (by unfold Func.isWrapper; first | (rw [if_pos (by decide +kernel)]; kernel_rfl) | (rw [if_neg (by decide +kernel)]; exact ⟨rfl, rfl⟩))
    (fun os started H enc _ => lifted os started H enc)

theorem proved : Rows.TicketTurnsSaid := over
#print axioms proved
end Go.Proofs.Ytfdfjibhbfdloaa.ticketTurns

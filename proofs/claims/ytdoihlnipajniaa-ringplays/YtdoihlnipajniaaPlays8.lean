/-
  RingPlays: for every size, every beginning and every list of calls the law answers true: each answer is the document's. Conditions: none.
-/
import Derived.Test.YtdoihlnipajniaaAwake8
import Derived.Test.YtdoihlnipajniaaCut8
import Derived.Test.YtdoihlnipajniaaOpens
import Derived.Lib.SmallJoins
import Derived.Deep.Slices
import Derived.OpenShut
import Derived.BigQuiet
import Derived.Deep.DeepCutAuto
import Derived.Deep.CutBlock
namespace Go.Proofs.Ytdoihlnipajniaa.ringPlays
open Go.Sept Go.RowKit Go.ChangeShapes Go.WideShapes Go.ChangeAt Go.Joins Go.Deep

theorem own : ownKnob Try.prog.godebug = none := by kernel_rfl
theorem laidOut : laidOutB Try.prog = true := by kernel_rfl

/-- What the walk is told of a list of calls that came in. -/
def OpsAre (w : World) (ao : Option Addr) (len : Nat) : Prop := ∃ b off, ∀ i, i < len → ao = some ⟨b, off, none⟩ ∧ ∃ k v : Int, w.cell? ⟨b, off + i * 2, none⟩ = some (.int .u8 k) ∧ w.cell? ⟨b, off + i * 2 + 1, none⟩ = some (.int .i64 v)
theorem OpsAre.only {w w' : World} {ao : Option Addr} {len : Nat} (h : OpsAre w ao len) (ho : Only (fun _ => False) w w') : OpsAre w' ao len := by
  obtain ⟨b, off, h⟩ := h
  refine ⟨b, off, fun i hi => ?_⟩
  obtain ⟨h1, k, v, h4, h5⟩ := h i hi
  have e := ho.block b (World.block_lt_of_cell? _ _ h4) (fun h => h)
  exact ⟨h1, k, v, (World.cell?_of_block e).trans h4, (World.cell?_of_block e).trans h5⟩

set_option maxRecDepth 100000 in
set_option maxHeartbeats 1000000 in
theorem walk_long (n : Nat) (g : Int) (ao : Option Addr) (len cap : Nat) (w : World) (hlen : 200 < len) (hm : len ≤ 9223372036854775807) :
    Calls Try.prog 3 #[.int .u8 n, .int .i64 g, .slice ao len cap] w fun e w' => e = .returned (.bool true) ∧ Below w.heap.size w w' := by
  have hlen' : (200 : Int) < len := by omega
  go_enter Try.func3, Try.ntmps3
  go_wp2_with fail
  refine (awake8_any _).mono ?_
  rintro e w1 ⟨rfl, hb1⟩
  have HB := hid hb1
  clear hb1
  go_wp2_with fail
  refine (awake8_any _).mono ?_
  rintro e w2 ⟨rfl, hb2⟩
  have hF : Hid (Below w.heap.size w w2) := ((Only.of_below HB.out (fun _ => False)).chain (Only.of_below hb2 (fun _ => False)) (fun _ _ h => h)).below (Nat.le_refl _) (fun _ _ h => h)
  clear HB hb2
  go_wp2_with fail
  go_ret
  exact ⟨rfl, hF.out⟩

/-- The counts' beginning. -/
theorem ring_at {c k : Nat} : Rg c k [] (setA (setA (List.replicate 30 0) 3 k) 4 k) := by
  have hv : ∀ a, valA (setA (setA (List.replicate 30 0) 3 (k : Int)) 4 k) a = if a = 4 then (k : Int) else if a = 3 then (k : Int) else valA (List.replicate 30 0) a := fun a => by
    rw [valA_setA (by decide) (by rw [length_setA]; decide), valA_setA (by decide) (by decide)]
  exact ⟨by rw [length_setA, length_setA]; rfl, by rw [hv, if_neg (by decide), if_pos rfl], by rw [hv, if_pos rfl]; simp, fun _ hi => absurd hi (Nat.not_lt_zero _), Nat.zero_le _⟩

/-- What stands between the rounds. -/
structure Play (w wx : World) (p q b c k : Nat) (ws xs : List Int) (v : Value) : Prop where
  mem : MemIs 49 wx p q xs
  ring : Rg c k ws xs
  cut : CutIs wx v b ws
  only : Only (fun _ => False) w wx
  nb : w.heap.size ≤ b ∧ b ≠ p ∧ b ≠ q

set_option maxRecDepth 100000 in
set_option maxHeartbeats 2000000 in
theorem walk_in (n : Nat) (g : Int) (ao : Option Addr) (len cap : Nat) (w : World) (hn : n ≤ 255) (hlen : len ≤ 200) (hops : OpsAre w ao len) :
    Calls Try.prog 3 #[.int .u8 n, .int .i64 g, .slice ao len cap] w fun e w' => e = .returned (.bool true) ∧ Below w.heap.size w w' := by
  have hmf : ∀ (fn : Fn) (first cap : Array Value) (w : World), (Instr.makeFunc fn first cap).run Try.prog w = .ok (.func fn first cap) w := fun _ _ _ _ => rfl
  have hlen' : ¬ (200 : Int) < len := by omega
  have HOP := hid hops
  have hne16 : (1 + (n : Int) % 16) ≠ 0 := by omega
  clear hops
  go_enter Try.func3, Try.ntmps3
  go_wp2_with fail
  refine (awake8_any _).mono ?_
  rintro e w1 ⟨rfl, hb1⟩
  have HB := hid (Only.of_below hb1 (fun _ => False))
  clear hb1
  go_wp2_with fail
  refine (new_rel _ _).mono ?_
  rintro e w2 ⟨p, q, rfl, hm, hp, hq, ho2⟩
  rw [show clampN 30 = 30 from clamp_nat 30 (by decide)] at hm
  obtain ⟨c, hc⟩ : ∃ c : Nat, 1 + (n : Int) % 16 = (c : Int) := ⟨1 + n % 16, by omega⟩
  have hc1 : 1 ≤ c := by omega
  have hc16 : c ≤ 16 := by omega
  rw [hc] at hne16 ⊢
  have HM := hid hm
  have HO := hid (HB.out.chain ho2 (fun _ _ h => h))
  have zp : w.heap.size ≤ p := by have := HB.out.size; omega
  have zq : w.heap.size ≤ q := by have := HB.out.size; omega
  clear hm ho2 HB hp hq hc hn
  go_upto_if 34 with fail
  go_cut [9] (fun v wc => ∃ k : Nat, v = .int .i64 (k : Int) ∧ wc = w2)
  case first =>
    by_cases hk0 : wrap64 (g - g.tmod c) < 0
    · go_wp2_with fail
      go_meet
      case rel => exact ⟨0, rfl, rfl⟩
    · go_wp2_with fail
      go_meet
      case rel => exact ⟨(wrap64 (g - g.tmod c)).toNat, by rw [Int.toNat_of_nonneg (by omega)], rfl⟩
  case rest =>
    obtain ⟨k, rfl, rfl⟩ := hcut
    go_wp2_with fail
    refine (sto_rel _ _ p q _ (.inl ⟨rfl, HM.out⟩) 3 k).mono ?_
    rintro e w3 ⟨he3, hm3, ho3⟩
    obtain ⟨er3, her3⟩ : ∃ x, errA (List.replicate 30 0) 3 = x := ⟨_, rfl⟩
    rw [her3] at he3
    subst he3
    clear her3
    have HM3 := hid hm3
    have HO3 := hid (HO.out.chain ho3 (fun i hi e => by omega))
    clear hm3 ho3 HM HO
    go_wp2_with fail
    refine (sto_rel _ _ p q _ HM3.out 4 k).mono ?_
    rintro e w4 ⟨he4, hm4, ho4⟩
    obtain ⟨er4, her4⟩ : ∃ x, errA (setA (List.replicate 30 0) 3 k) 4 = x := ⟨_, rfl⟩
    rw [her4] at he4
    subst he4
    clear her4
    have HM4 := hid (holds_mem hm4 (by rw [length_setA, length_setA]; decide))
    have HO4 := hid (HO3.out.chain ho4 (fun i hi e => by omega))
    clear hm4 ho4 HM3 HO3
    by_cases hk62 : (4611686018427387904 : Int) < k
    · go_wp2_with fail
      go_ret
      exact ⟨rfl, HO4.out.below (Nat.le_refl _) (fun _ _ h => h)⟩
    · go_wp2_with fail
      go_loopw [10, 45] (fun v i wx => ∃ (j b k' : Nat) (ws xs : List Int), i = .int .i64 (j : Int) ∧ j ≤ len ∧ k' + ws.length ≤ k + j ∧ Play w wx p q b c k' ws xs v) (fun _ i _ => len - (intOf i).toNat)
      case atStart =>
        have z4 := HO4.out.size
        have l1 := lt_of_block HM4.out.head
        have l2 := HM4.out.row.lt
        exact ⟨0, w4.heap.size, k, [], _, rfl, Nat.zero_le _, by simp, HM4.out, ring_at, CutIs.nil _ _, HO4.out, by omega, by omega, by omega⟩
      case round =>
        obtain ⟨j, b, k', ws, xs, rfl, hj, hkj, hP⟩ := hrel
        clear HM4 HO4
        by_cases hlt : (j : Int) < len
        · obtain ⟨sb, so, hcel⟩ := HOP.out.only hP.only
          obtain ⟨hao, kd, v, s0, s1⟩ := hcel j (by omega)
          obtain ⟨vo, vc, hv, hvc, hvm⟩ := hP.cut.shape
          subst hao hv
          clear hcel
          obtain ⟨b, hcut, hbn⟩ := hP.cut.norm
          have hW : ∃ W zo, W = (wr.alloc (.cells #[.int .u8 kd, .int .i64 v] 30)).alloc (act8O kd c v 0 false 0) ∧ zo = wr.heap.size ∧ Play w W p q b c k' ws xs (.slice vo ws.length vc) ∧ W.heap[zo]? = some (.cells #[.int .u8 kd, .int .i64 v] 30) ∧ W.heap[zo + 1]? = some (act8O kd c v 0 false 0) ∧ p < zo ∧ q < zo ∧ w.heap.size ≤ zo ∧ b ≠ zo ∧ b ≠ zo + 1 := by
            have l1 := lt_of_block hP.mem.head
            have l2 := hP.mem.row.lt
            have l3 := hP.only.size
            have l4 := hP.nb
            have hO : Only (fun _ => False) wr ((wr.alloc (.cells #[.int .u8 kd, .int .i64 v] 30)).alloc (act8O kd c v 0 false 0)) := ((Only.refl _ _).alloc _).alloc _
            exact ⟨_, _, rfl, rfl, ⟨hP.mem.only hO (fun h => h) (fun h => h), hP.ring, hcut.only hO (fun _ h => h), hP.only.chain hO (fun _ _ h => h), by omega, by omega, by omega⟩, (Below.heap_alloc _ _ _ (by simp)).trans (heap_new _ _), new_at _ _ _ (by simp), l1, l2, l3, by omega, by omega⟩
          obtain ⟨W, zo, hWe, hze, hP2, ho0, hu0, yp, yq, yw, yb0, yb1⟩ := hW
          have HP := hid hP2
          have HV := hid ho0
          have HU := hid hu0
          have HL : Hid (0 < xs.length) := by show 0 < _; rw [hP.ring.len]; decide
          have hwl : ws.length ≤ c := hP.ring.room
          clear hP hcut hbn hP2 ho0 hu0
          simp only [act8O] at hWe
          go_wp2_with fail
          rw [← hWe, ← hze]
          clear hWe hze s0 s1
          by_cases hk0 : kd = 0
          · subst hk0
            have HB := act8_put (zo + 1) c v _ (by decide) (put_does 3 c v (by omega) (by omega))
            by_cases hfu : (ws.length : Int) < c
            · obtain ⟨ys, hal, hR⟩ := HP.out.ring.put_room (by omega) hc1 hc16 (by omega) v
              have HAL := hid hal
              have HR := hid hR
              clear hal hR
              refine (run_turns HB _ p q xs 5000 false HP.out.mem HU.out (by omega) (by omega) (by decide) (by decide) (by decide) (by decide) HL.out).mono ?_
              rintro e w6 ⟨rfl, hm6, hx6, ho6⟩
              rw [HAL.out] at hm6 hx6
              have c4 : w6.cell? ⟨zo + 1, 4, none⟩ = some (.bool true) := Sept.cell_of_block hx6 4
              have hb6 := (ho6.block zo (lt_of_block HV.out) (by omega)).trans HV.out
              have o0 : w6.cell? ⟨zo, 0, none⟩ = some (.int .u8 0) := Sept.cell_of_block hb6 0
              have o1 : w6.cell? ⟨zo, 1, none⟩ = some (.int .i64 v) := Sept.cell_of_block hb6 1
              have HM6 := hid hm6
              have hc6 := HP.out.cut.only ho6 (fun _ => by have := HP.out.nb; omega)
              have HC6 := hid (hc6.only ((Only.refl (fun _ => False) w6).alloc (.cells #[.int .i64 v] 2)) (fun _ h => h))
              have HO6 := hid (HP.out.only.chain ho6 (fun i hi e => by omega))
              have HNB := hid HP.out.nb
              have lp6 : p < w6.heap.size := lt_of_block hm6.head
              have lq6 : q < w6.heap.size := hm6.row.lt
              clear hm6 hx6 ho6 hb6 hc6 HP HV HU HAL HB HL
              go_wp2_with (at_builtin; refine wpList_append_cut _ rfl (.tmp 81) (.tmp 84) 28 rfl Try.underlying28 Try.info2 (.slice vo ws.length vc) b ws rfl HC6.out w6.heap.size 1 v rfl (Sept.cell_of_block (heap_new w6 (.cells #[.int .i64 v] 2)) 0) (by omega) ?_)
              intro b9 ao9 cap9 w9 hc9 ho9 hb9
              have HP9 : Hid (Play w w9 p q b9 c k' (ws ++ [v]) ys (.slice ao9 (ws.length + 1 : Nat) cap9)) := by
                have h1 := HNB.out
                have h2 := HO6.out.size
                exact ⟨(HM6.out.alloc _).only ho9 (by omega) (by omega), HR.out, hc9, (HO6.out.alloc _).chain ho9 (fun i hi e => by omega), by omega, by omega, by omega⟩
              clear hc9 ho9 hb9 HM6 HC6 HO6 HNB HR c4 o0 o1
              go_wp2_with fail
              go_roundw
              case rel => exact ⟨j + 1, b9, k', ws ++ [v], ys, by go_num, by omega, by simp; omega, HP9.out⟩
              case measure => simp [intOf]; omega
            · have HAL := hid (HP.out.ring.put_full hc16 (by omega) v)
              refine (run_turns HB _ p q xs 5000 false HP.out.mem HU.out (by omega) (by omega) (by decide) (by decide) (by decide) (by decide) HL.out).mono ?_
              rintro e w6 ⟨rfl, hm6, hx6, ho6⟩
              rw [HAL.out] at hm6 hx6
              have c4 : w6.cell? ⟨zo + 1, 4, none⟩ = some (.bool false) := Sept.cell_of_block hx6 4
              have hb6 := (ho6.block zo (lt_of_block HV.out) (by omega)).trans HV.out
              have o0 : w6.cell? ⟨zo, 0, none⟩ = some (.int .u8 0) := Sept.cell_of_block hb6 0
              have HP6 : Hid (Play w w6 p q b c k' ws xs (.slice vo ws.length vc)) := ⟨hm6, HP.out.ring, HP.out.cut.only ho6 (fun _ => by have := HP.out.nb; omega), HP.out.only.chain ho6 (fun i hi e => by omega), HP.out.nb⟩
              clear hm6 hx6 ho6 hb6 HP HV HU HAL HB HL
              go_wp2_with fail
              go_roundw
              case rel => exact ⟨j + 1, b, k', ws, xs, by go_num, by omega, by omega, HP6.out⟩
              case measure => simp [intOf]; omega
          · by_cases hk1 : kd = 1
            · subst hk1
              have HB := act8_get (zo + 1) c v _ (by decide) (get_does 3 c (by omega) (by omega))
              by_cases hl0 : (0 : Int) < ws.length
              · obtain ⟨x, r, hws⟩ : ∃ x r, ws = x :: r := by
                  cases ws with
                  | nil => simp at hl0
                  | cons x r => exact ⟨x, r, rfl⟩
                have hr0 := HP.out.ring
                rw [hws] at hr0
                obtain ⟨ys, hal, hR⟩ := hr0.get_some (by omega) hc1 hc16
                have HAL := hid hal
                have HR := hid hR
                have HWS := hid hws
                have hrl : ws.length = r.length + 1 := by rw [hws]; rfl
                clear hal hR hr0 hws
                refine (run_turns HB _ p q xs 5000 (0, false) HP.out.mem HU.out (by omega) (by omega) (by decide) (by decide) (by decide) (by decide) HL.out).mono ?_
                rintro e w6 ⟨rfl, hm6, hx6, ho6⟩
                rw [HAL.out] at hm6 hx6
                have c3 : w6.cell? ⟨zo + 1, 3, none⟩ = some (.int .i64 x) := Sept.cell_of_block hx6 3
                have c4 : w6.cell? ⟨zo + 1, 4, none⟩ = some (.bool true) := Sept.cell_of_block hx6 4
                have hb6 := (ho6.block zo (lt_of_block HV.out) (by omega)).trans HV.out
                have o0 : w6.cell? ⟨zo, 0, none⟩ = some (.int .u8 1) := Sept.cell_of_block hb6 0
                have hc6 := HP.out.cut.only ho6 (fun _ => by have := HP.out.nb; omega)
                rw [HWS.out] at hc6
                obtain ⟨off, cp, hv, cb, hcp, hc7⟩ := hc6.first
                rw [List.length_cons] at hv
                injection hv with hv1 hv2 hv3
                subst hv1 hv3
                have HC7 := hid hc7
                have HM6 := hid hm6
                have HO6 := hid (HP.out.only.chain ho6 (fun i hi e => by omega))
                have HNB := hid HP.out.nb
                clear hm6 hx6 ho6 hb6 hc6 hc7 hv2 HP HV HU HAL HB HL
                go_wp2_with fail
                go_quiet (fail)
                go_wp2_with fail
                go_roundw
                case rel =>
                  have hO : Only (fun _ => False) w6 (w6.drewN nq) := only_drewN (Only.refl _ _) nq
                  exact ⟨j + 1, b, k' + 1, r, ys, by go_num, by omega, by omega, HM6.out.only hO (fun h => h) (fun h => h), HR.out, HC7.out.only hO (fun _ h => h), HO6.out.chain hO (fun _ _ h => h), HNB.out⟩
                case measure => simp [intOf]; omega
              · have hws : ws = [] := List.length_eq_zero_iff.1 (by omega)
                have hr0 := HP.out.ring
                rw [hws] at hr0
                have HAL := hid hr0.get_none
                clear hr0 hws
                refine (run_turns HB _ p q xs 5000 (0, false) HP.out.mem HU.out (by omega) (by omega) (by decide) (by decide) (by decide) (by decide) HL.out).mono ?_
                rintro e w6 ⟨rfl, hm6, hx6, ho6⟩
                rw [HAL.out] at hm6 hx6
                have c4 : w6.cell? ⟨zo + 1, 4, none⟩ = some (.bool false) := Sept.cell_of_block hx6 4
                have hb6 := (ho6.block zo (lt_of_block HV.out) (by omega)).trans HV.out
                have o0 : w6.cell? ⟨zo, 0, none⟩ = some (.int .u8 1) := Sept.cell_of_block hb6 0
                have HP6 : Hid (Play w w6 p q b c k' ws xs (.slice vo ws.length vc)) := ⟨hm6, HP.out.ring, HP.out.cut.only ho6 (fun _ => by have := HP.out.nb; omega), HP.out.only.chain ho6 (fun i hi e => by omega), HP.out.nb⟩
                clear hm6 hx6 ho6 hb6 HP HV HU HAL HB HL
                go_wp2_with fail
                go_roundw
                case rel => exact ⟨j + 1, b, k', ws, xs, by go_num, by omega, by omega, HP6.out⟩
                case measure => simp [intOf]; omega
            · by_cases hk2 : kd = 2
              · subst hk2
                have HAL := hid (HP.out.ring.length hc16)
                refine (run_turns (act8_len (zo + 1) c v) _ p q xs 5000 0 HP.out.mem HU.out (by omega) (by omega) (by decide) (by decide) (by decide) (by decide) HL.out).mono ?_
                rintro e w6 ⟨rfl, hm6, hx6, ho6⟩
                rw [HAL.out] at hm6 hx6
                have c5 : w6.cell? ⟨zo + 1, 5, none⟩ = some (.int .i64 (ws.length : Int)) := Sept.cell_of_block hx6 5
                have hb6 := (ho6.block zo (lt_of_block HV.out) (by omega)).trans HV.out
                have o0 : w6.cell? ⟨zo, 0, none⟩ = some (.int .u8 2) := Sept.cell_of_block hb6 0
                have HP6 : Hid (Play w w6 p q b c k' ws xs (.slice vo ws.length vc)) := ⟨hm6, HP.out.ring, HP.out.cut.only ho6 (fun _ => by have := HP.out.nb; omega), HP.out.only.chain ho6 (fun i hi e => by omega), HP.out.nb⟩
                have hself : ((ws.length : Int) == (ws.length : Int)) = true := by simp
                clear hm6 hx6 ho6 hb6 HP HV HU HAL HL
                go_wp2_with fail
                go_roundw
                case rel => exact ⟨j + 1, b, k', ws, xs, by go_num, by omega, by omega, HP6.out⟩
                case measure => simp [intOf]; omega
              · obtain ⟨ys, hal, hR⟩ := HP.out.ring.clear
                have HAL := hid hal
                have HR := hid hR
                have e0 : (kd == 0) = false := beq_eq_false_iff_ne.2 hk0
                have e1 : (kd == 1) = false := beq_eq_false_iff_ne.2 hk1
                have e2 : (kd == 2) = false := beq_eq_false_iff_ne.2 hk2
                clear hal hR
                refine (run_reads (act8_clear (zo + 1) kd c v hk0 hk1 hk2) _ p q xs 5000 HP.out.mem HU.out (by omega) (by omega) (by decide) (by decide) (by decide) (by decide) HL.out).mono ?_
                rintro e w6 ⟨rfl, hm6, ho6⟩
                rw [HAL.out] at hm6
                have hb6 := (ho6.block zo (lt_of_block HV.out) (by omega)).trans HV.out
                have o0 : w6.cell? ⟨zo, 0, none⟩ = some (.int .u8 kd) := Sept.cell_of_block hb6 0
                have HP6 : Hid (Play w w6 p q b c (k' + ws.length) [] ys (.slice none 0 0)) := ⟨hm6, HR.out, CutIs.nil _ _, HP.out.only.chain ho6 (fun i hi e => by omega), HP.out.nb⟩
                clear hm6 ho6 hb6 HP HV HU HAL HL HR
                go_wp2_with fail
                go_roundw
                case rel => exact ⟨j + 1, b, k' + ws.length, [], ys, by go_num, by omega, by simp; omega, HP6.out⟩
                case measure => simp [intOf]; omega
        · go_wp2_with fail
          go_ret
          exact ⟨rfl, hP.only.below (Nat.le_refl _) (fun _ _ h => h)⟩

theorem walk (n : Nat) (g : Int) (ao : Option Addr) (len cap : Nat) (w : World) (hn : n ≤ 255) (hm : len ≤ 9223372036854775807) (hops : OpsAre w ao len) :
    Calls Try.prog 3 #[.int .u8 n, .int .i64 g, .slice ao len cap] w fun e w' => e = .returned (.bool true) ∧ Below w.heap.size w w' := by
  by_cases h : 200 < len
  · exact walk_long n g ao len cap w h hm
  · exact walk_in n g ao len cap w hn (by omega) hops

set_option maxRecDepth 100000 in
theorem lifted (os : Os) (started : os.Started) (H : Type) (enc : TypeId × Value → H) :
    ReturnsInHanded {} Try.checked os 3 .any (Rows.ringPlaysSpec.pre6 enc Try.prog Try.f3 Rows.ringPlaysRow.domain false) (Rows.ringPlaysSpec.post enc Try.prog Try.f3 false true false false) := by
  refine returnsInHanded_of_change (C := Try.checked) own started (by kernel_rfl) Try.func3
    (ChangeSpec.witness6 (enc := enc) (C := Try.checked) false ⟨#[], #[.int .u8 0, .int .i64 0, .slice none 0 0], []⟩ 8 (by kernel_rfl) (by kernel_rfl) (by kernel_rfl) (by kernel_rfl)) ?_
  intro W base args ds gs before hval0 hW hcnd _
  have hval : ∀ (j : Nat) t v, Try.f3.params[j]? = some t → args[j]? = some v → Value.okWide Try.prog W .any base t v := hval0
  have hW' := hW
  obtain ⟨p, q, hA0, hV, rfl, hfz, hnd⟩ := hW
  have hA : DataW.TrodAll enc Try.prog W 0 (fun _ => true) true Try.f3.params.toList args.toList ds p := hA0
  rw [Try.params3] at hA hval
  obtain ⟨v0, vs0, d0, ds0, p0, q0, hargs, rfl, rfl, h0, r0⟩ := trodAll_cons hA
  obtain ⟨v1, vs1, d1, ds1, p1, q1, rfl, rfl, rfl, h1, r1⟩ := trodAll_cons r0
  obtain ⟨v2, vs2, d2, ds2, p2, q2, rfl, rfl, rfl, h2, r2⟩ := trodAll_cons r1
  obtain ⟨rfl, rfl, rfl⟩ := trodAll_nil r2
  obtain rfl : args = #[v0, v1, v2] := by cases args; simp_all
  obtain ⟨a0, rfl, rfl, rfl, w0⟩ := open_int Try.underlying5 (hval 0 5 v0 rfl rfl) h0
  obtain ⟨m, rfl, hm⟩ : ∃ m : Nat, a0 = m ∧ m ≤ 255 := by
    have := bounds_u8 w0
    exact ⟨a0.toNat, by omega, by omega⟩
  obtain ⟨a1, rfl, rfl, rfl, w1⟩ := open_int Try.underlying2 (hval 1 2 v1 rfl rfl) h1
  obtain ⟨ao, len, cap, rfl⟩ := okWide_slice Try.underlying22 (hval 2 22 v2 rfl rfl)
  obtain ⟨hl, hlen⟩ : OpsAre W ao len ∧ len ≤ 9223372036854775807 := by
    obtain ⟨fuel, hf⟩ := h2
    rcases open_slice Try.underlying22 hf with ⟨hcs, _⟩ | ⟨x, l, c, mm, nn, D, Pl, hcs, _, hl, hmx, hmm, _, hel⟩
    · simp [Value.cells] at hcs
      obtain ⟨rfl, rfl, rfl⟩ := hcs
      exact ⟨⟨0, 0, fun i hi => by omega⟩, by omega⟩
    · simp [Value.cells] at hcs
      obtain ⟨rfl, rfl, rfl⟩ := hcs
      unfold maxLen at hmx
      refine ⟨?_, by omega⟩
      have hmm' : mm = cap := by simpa using hmm
      have hC : Try.prog.cellsOf 30 = 2 := by kernel_rfl
      rw [hC] at hel
      obtain ⟨b, off, spot⟩ := x
      have key : ∀ i, i < len → ∃ k a, W.cell? (Addr.add ⟨b, off, spot⟩ (i * 2)) = some (.int .u8 k) ∧ W.cell? (Addr.add ⟨b, off, spot⟩ (i * 2 + 1)) = some (.int .i64 a) := by
        intro i hi
        obtain ⟨cs', hcs, ht⟩ := hel i (by omega)
        obtain ⟨_, hln, hcl⟩ := World.cells?_some hcs
        obtain ⟨y0, y1, n0, _, _, t0, t1⟩ := trod_struct2 Try.underlying30 ht
        match cs', hln with
        | [e0, e1], _ =>
          have z0 := hcl 0 (by omega)
          have z1 := hcl 1 (by omega)
          rw [Go.Deep.add_add] at z0 z1
          obtain ⟨k, u0, _, _⟩ := DataW.trod_int Try.underlying5 t0
          obtain ⟨a, u1, _, _⟩ := DataW.trod_int Try.underlying2 t1
          have hc5 : Try.prog.cellsOf 5 = 1 := by kernel_rfl
          have hc2 : Try.prog.cellsOf 2 = 1 := by kernel_rfl
          simp [hc5, hc2] at u0 u1
          subst u0 u1
          exact ⟨k, a, by simpa using z0, by simpa using z1⟩
      refine ⟨b, off, fun i hi => ?_⟩
      obtain ⟨k0, _, z0, _⟩ := key 0 (by omega)
      have hspot : spot = none := by simpa [Addr.add] using World.cell?_spot z0
      subst hspot
      refine ⟨rfl, ?_⟩
      obtain ⟨k, a, z0, z1⟩ := key i hi
      have e : ∀ n, Addr.add ⟨b, off, none⟩ n = ⟨b, off + n, none⟩ := by intro n; simp only [Addr.add]; split <;> simp_all
      rw [e] at z0 z1
      exact ⟨k, a, z0, z1⟩
  refine (walk m a1 ao len cap W hm hlen hl).mono fun e W' ⟨he, hg⟩ => ?_
  subst he
  exact ⟨_, rfl, post_law 3 4 laidOut (by kernel_rfl) rfl rfl rfl Try.underlying4 (fun l hl => by match l, hl with | [_, _, _], _ => rfl) hW' hg⟩

theorem over : Rows.ringPlaysRow.holds Try.pinned (OpenSpec.ofChange Rows.ringPlaysSpec) :=
  OpenClaim.holds_of_wide 3 Try.f3 rfl rfl rfl rfl rfl rfl rfl ⟨rfl, rfl, rfl, rfl, rfl⟩ rfl rfl rfl rfl rfl (by kernel_rfl) Try.func3 (by kernel_rfl)
    (of_decide_eq_true (by kernel_rfl)) (by unfold Func.isWrapper; first | (rw [if_pos (by decide +kernel)]; kernel_rfl) | (rw [if_neg (by decide +kernel)]; exact ⟨rfl, rfl⟩))
    (fun os started H enc _ => lifted os started H enc)

theorem proved : Rows.RingPlaysSaid := over
#print axioms proved
end Go.Proofs.Ytdoihlnipajniaa.ringPlays

/-
  TicketWaits: for every number of steps the law answers true: who isn't served waits, access by access, changing nothing; when it is served, it goes on. Conditions: none.
-/
import Derived.Test.YtfdfjibhbfdloaaAwake3
import Derived.Test.YtfdfjibhbfdloaaPhase3
import Derived.Test.YtfdfjibhbfdloaaLift
import Derived.Lib.SmallJoins
import Derived.OpenShut
namespace Go.Proofs.Ytfdfjibhbfdloaa.ticketWaits
open Go.Sept Go.RowKit Go.ChangeShapes Go.WideShapes Go.ChangeAt Go.Joins Go.Deep

theorem own : ownKnob Try.prog.godebug = none := by kernel_rfl
theorem laidOut : laidOutB Try.prog = true := by kernel_rfl

def ph : Nat → Ph
  | 0 => .A
  | j + 1 => .B 1 j
def ws : Nat → List Int
  | 0 => [1, 0, 0, 0, 0, 0]
  | _ + 1 => [2, 0, 0, 0, 0, 0]
theorem ph_next : ∀ j, (ph j).next (ws j) = ph (j + 1)
  | 0 => by
    show Ph.B (valA [1, 0, 0, 0, 0, 0] 0) 0 = _
    rw [show valA [1, 0, 0, 0, 0, 0] 0 = 1 by decide +kernel]
    rfl
  | j + 1 => by
    show (if valA [2, 0, 0, 0, 0, 0] 1 = 1 then Ph.C 1 else Ph.B 1 (j + 1)) = _
    rw [if_neg (by decide +kernel)]
    rfl
theorem ph_words : ∀ j, (ph j).words (ws j) = ws (j + 1)
  | 0 => by decide +kernel
  | _ + 1 => rfl
theorem ph_isZ : ∀ j, (ph j).isZ = false
  | 0 => rfl
  | _ + 1 => rfl
theorem ph_out : ∀ j, (ph (j + 1)).out = (1, 0, false) := fun _ => rfl
theorem ph_waits : ∀ j, (ph j).waits ≤ j
  | 0 => Nat.le_refl _
  | _ + 1 => Nat.le_refl _

def ph2 (n : Nat) : Nat → Ph
  | 0 => .B 1 n
  | 1 => .C 1
  | 2 => .D 1 0
  | 3 => .E 1 0
  | _ => .Z 1 0
def ws2 : Nat → List Int
  | 0 => [2, 1, 0, 0, 0, 0]
  | 1 => [2, 1, 0, 0, 0, 0]
  | 2 => [2, 1, 0, 0, 0, 0]
  | 3 => [2, 1, 0, 0, 0, 1]
  | _ => [2, 2, 0, 0, 0, 1]
theorem ph2_next (n j : Nat) (h : j < 4) : (ph2 n j).next (ws2 j) = ph2 n (j + 1) := by
  match j, h with
  | 0, _ =>
    show (if valA [2, 1, 0, 0, 0, 0] 1 = 1 then Ph.C 1 else Ph.B 1 (n + 1)) = _
    rw [if_pos (by decide +kernel)]
    rfl
  | 1, _ =>
    show Ph.D 1 (valA [2, 1, 0, 0, 0, 0] 5) = _
    rw [show valA [2, 1, 0, 0, 0, 0] 5 = 0 by decide +kernel]
    rfl
  | 2, _ => rfl
  | 3, _ => rfl
theorem ph2_words (n j : Nat) (h : j < 4) : (ph2 n j).words (ws2 j) = ws2 (j + 1) := by
  match j, h with
  | 0, _ => rfl
  | 1, _ => rfl
  | 2, _ =>
    show setA [2, 1, 0, 0, 0, 0] 5 (wrap64 (0 + 1)) = [2, 1, 0, 0, 0, 1]
    decide +kernel
  | 3, _ =>
    show setA [2, 1, 0, 0, 0, 1] 1 (wrap64 (1 + 1)) = [2, 2, 0, 0, 0, 1]
    decide +kernel
theorem ph2_isZ (n j : Nat) (h : j < 4) : (ph2 n j).isZ = false := by
  match j, h with
  | 0, _ => rfl
  | 1, _ => rfl
  | 2, _ => rfl
  | 3, _ => rfl
theorem ph2_waits (n j : Nat) : (ph2 n j).waits ≤ n + 1 + j := by
  unfold ph2
  split
  · show n + 1 ≤ _
    omega
  · show 0 ≤ _
    omega
  · show 0 ≤ _
    omega
  · show 0 ≤ _
    omega
  · show 0 ≤ _
    omega

set_option maxRecDepth 100000 in
set_option maxHeartbeats 1000000 in
theorem walk (m : Nat) (hm255 : m ≤ 255) (w : World) :
    Calls Try.prog 8 #[.int .u8 (m : Int)] w fun e w' => e = .returned (.bool true) ∧ Below w.heap.size w w' := by
  have hmf : ∀ (fn : Fn) (first cap : Array Value) (w : World), (Instr.makeFunc fn first cap).run Try.prog w = .ok (.func fn first cap) w := fun _ _ _ _ => rfl
  obtain ⟨n, hn⟩ : ∃ n, n = 1 + m % 100 := ⟨_, rfl⟩
  have hn1 : (2 : Int) + ((m : Int) % 100) = (n : Int) + 1 := by omega
  have hn2 : n ≤ 100 := by omega
  have HN := hid hn
  clear hn
  go_enter Try.func8, Try.ntmps8
  go_wp2_with fail
  refine (awake3_any _).mono ?_
  rintro e w0 ⟨rfl, hb0⟩
  have HO0 := hid (Only.of_below hb0 (fun _ => False))
  clear hb0
  go_wp2_with fail
  refine (new_rel _ _).mono ?_
  rintro e w1 ⟨p, q, rfl, hm, hp, hq, ho1⟩
  rw [show clampN 6 = 6 from clamp_nat 6 (by decide)] at hm
  have HM := hid hm
  have HO1 := hid (HO0.out.chain ho1 (fun _ _ h => h))
  have lz : w.heap.size ≤ w0.heap.size := HO0.out.size
  have lp : w.heap.size ≤ p := by omega
  have lq : w.heap.size ≤ q := by omega
  clear hm ho1 HO0 lz hp hq
  go_wp2_with fail
  refine (store_rel _ p q _ HM.out 0 (by decide) 1).mono ?_
  rintro e w2 ⟨rfl, hm2, ho2⟩
  have HM2 : Hid (MemIs 74 w2 p q (ws 0)) := hm2
  have HO2 := hid (HO1.out.chain ho2 (fun i hi e => by omega))
  clear hm2 ho2 HM HO1
  go_wp2_with fail
  refine (fnew_rel _ _).mono ?_
  rintro e w3 ⟨F, rfl, hf3, hF, ho3⟩
  obtain ⟨U, hU⟩ : ∃ U, U = w2.heap.size := ⟨_, rfl⟩
  rw [← hU]
  have zp : p < U := by have := lt_of_block HM2.out.head; omega
  have zq : q < U := by have := HM2.out.row.lt; omega
  have zw : w.heap.size ≤ U := by have := HO2.out.size; omega
  have hoA : Only (fun _ => False) w2 (w2.alloc (.cells (userCells 0 (0, 0, false)) 62)) := (Only.refl _ _).alloc _
  have ho9 := hoA.chain ho3 (fun _ _ h => h)
  have zF : U < F := by rw [hF]; simp; omega
  have HU3 : Hid (UserAt w3 F F p q U (fresh (some ⟨p, 0, none⟩)) (ws 0) (ph 0)) :=
    ⟨⟨⟨hf3, .inl ⟨rfl, HM2.out.only ho9 (fun h => h) (fun h => h)⟩, by have := ho9.size; omega, by have := ho9.size; omega, hf3.lt, by omega, by omega, by omega, by omega⟩,
      by rw [ho3.block U (by rw [hU]; simp) (fun h => h), hU]; exact heap_new _ _, by omega, by omega, by omega, by omega⟩, userT_after, rfl, rfl, rfl⟩
  have HO3 := hid (HO2.out.chain ho9 (fun _ _ h => h))
  clear hf3 hF ho3 hoA ho9 HM2 HO2 hU
  go_wp2_with fail
  go_loopw [23] (fun i wx => ∃ j : Nat, i = .int .i64 (j : Int) ∧ j ≤ n + 1 ∧ (∃ lb s, UserAt wx F lb p q U s (ws j) (ph j) ∧ s.log.length = j ∧ w.heap.size ≤ lb) ∧ Only (fun _ => False) w wx) (fun i _ => n + 2 - (intOf i).toNat)
  case atStart => exact ⟨0, rfl, Nat.zero_le _, ⟨F, _, HU3.out, rfl, by omega⟩, HO3.out⟩
  case round =>
    obtain ⟨j, rfl, hj, ⟨lb, s, hu, hs, hlb⟩, hO⟩ := hrel
    have HU := hid hu
    have HS := hid hs
    have HO := hid hO
    have HZ := hid hO.size
    clear HU3 HO3 hu hs hO
    by_cases hlt : (j : Int) < (n : Int) + 1
    · go_wp2_with fail
      refine (user_go _ F lb p q U s _ _ _ HU.out (ph_isZ j) (by rw [HS.out]; omega) (by rw [HS.out]; exact ph_waits j)).mono ?_
      rintro e w4 ⟨lb4, s4, rfl, hu4, hs4, hlb4, ho4⟩
      rw [ph_next, ph_words] at hu4
      rw [ph_next, ph_isZ]
      have c3 : w4.cell? ⟨U, 3, none⟩ = some (.bool false) := Sept.cell_of_block hu4.side.blk 3
      have HU4 := hid hu4
      have HS4 : Hid (s4.log.length = j + 1) := by rw [hs4, HS.out]; rfl
      have HO4 := hid (HO.out.chain ho4 (fun i hi e => by omega))
      have HL4 : Hid (w.heap.size ≤ lb4) := by have := HZ.out; show _ ≤ _; omega
      clear hu4 hs4 hlb4 ho4 HU HS HO HZ
      go_wp2_with fail
      go_roundw
      case rel => exact ⟨j + 1, by go_num, by omega, ⟨lb4, s4, HU4.out, HS4.out, HL4.out⟩, HO4.out⟩
      case measure => simp [intOf]; omega
    · have hjn : j = n + 1 := by omega
      subst hjn
      have HMM := hid (holds_mem HU.out.mem_holds (show 0 < 6 by decide))
      go_wp2_with fail
      refine (store_rel _ p q _ HMM.out 1 (show 1 < 6 by decide) 1).mono ?_
      rintro e w4 ⟨rfl, hm4, ho4⟩
      have HU4 : Hid (UserAt w4 F lb p q U s (ws2 0) (ph2 n 0)) := HU.out.mem ho4 (.inl ⟨rfl, hm4⟩) HU.out.side.fm.n2 HU.out.side.fm.n4 HU.out.side.n4
      have HO4 := hid (HO.out.chain ho4 (fun i hi e => by omega))
      clear HU HO HMM hm4 ho4 HZ hlt hj
      go_wp2_with fail
      go_loopw [40] (fun i wx => ∃ j : Nat, i = .int .i64 (j : Int) ∧ j ≤ 4 ∧ (∃ lb s, UserAt wx F lb p q U s (ws2 j) (ph2 n j) ∧ s.log.length = n + 1 + j ∧ w.heap.size ≤ lb) ∧ Only (fun _ => False) w wx) (fun i _ => 5 - (intOf i).toNat)
      case atStart => exact ⟨0, rfl, Nat.zero_le _, ⟨lb, s, HU4.out, HS.out, hlb⟩, HO4.out⟩
      case round =>
        obtain ⟨j, rfl, hj, ⟨lb5, s5, hu5, hs5, hlb5⟩, hO5⟩ := hrel
        have HU5 := hid hu5
        have HS5 := hid hs5
        have HO5 := hid hO5
        have HZ := hid hO5.size
        clear HU4 HO4 hu5 hs5 hO5 HS
        by_cases hlt : (j : Int) < 4
        · have hj4 : j < 4 := by omega
          go_wp2_with fail
          refine (user_go _ F lb5 p q U s5 _ _ _ HU5.out (ph2_isZ n j hj4) (by rw [HS5.out]; omega) (by rw [HS5.out]; exact ph2_waits n j)).mono ?_
          rintro e w6 ⟨lb6, s6, rfl, hu6, hs6, hlb6, ho6⟩
          rw [ph2_next n j hj4, ph2_words n j hj4] at hu6
          have HU6 := hid hu6
          have HS6 : Hid (s6.log.length = n + 1 + (j + 1)) := by rw [hs6, HS5.out]; rfl
          have HO6 := hid (HO5.out.chain ho6 (fun i hi e => by omega))
          have HL6 : Hid (w.heap.size ≤ lb6) := by have := HZ.out; show _ ≤ _; omega
          clear hu6 hs6 hlb6 ho6 HU5 HS5 HO5 HZ
          go_wp2_with fail
          go_roundw
          case rel => exact ⟨j + 1, by go_num, by omega, ⟨lb6, s6, HU6.out, HS6.out, HL6.out⟩, HO6.out⟩
          case measure => simp [intOf]; omega
        · have hjn : j = 4 := by omega
          subst hjn
          have HF := hid HU5.out.side.fm.frame
          have HD : Hid (s5.done = true) := HU5.out.over
          have HS9 : Hid ((s5.log.length : Int) = (n : Int) + 1 + 4) := by have := HS5.out; show _ = _; omega
          have c1 : wr.cell? ⟨U, 1, none⟩ = some (.int .i64 1) := Sept.cell_of_block HU5.out.side.blk 1
          clear HU5 HS5 hlt hj
          go_wp2_with fail
          refine (done_rel _ _ _ _ HF.out).mono ?_
          rintro e w7 ⟨rfl, rfl⟩
          rw [HD.out]
          go_wp2_with fail
          refine (steps_rel _ _ _ _ HF.out).mono ?_
          rintro e w8 ⟨rfl, rfl⟩
          rw [HS9.out]
          go_wp2_with fail
          go_ret
          exact ⟨by simp, HO5.out.below (Nat.le_refl _) (fun _ _ h => h)⟩

set_option maxRecDepth 100000 in
theorem lifted (os : Os) (started : os.Started) (H : Type) (enc : TypeId × Value → H) :
    ReturnsInHanded {} Try.checked os 8 .any (Rows.ticketWaitsSpec.pre6 enc Try.prog Try.f8 Rows.ticketWaitsRow.domain false) (Rows.ticketWaitsSpec.post enc Try.prog Try.f8 false true false false) := by
  refine returnsInHanded_of_change (C := Try.checked) own started (by kernel_rfl) Try.func8
    (ChangeSpec.witness6 (enc := enc) (C := Try.checked) false ⟨#[], #[.int .u8 0], []⟩ 8 (by kernel_rfl) (by kernel_rfl) (by kernel_rfl) (by kernel_rfl)) ?_
  intro W base args ds gs before hval0 hW hcnd _
  have hval : ∀ (j : Nat) t v, Try.f8.params[j]? = some t → args[j]? = some v → Value.okWide Try.prog W .any base t v := hval0
  have hW' := hW
  obtain ⟨p, q, hA0, hV, rfl, hfz, hnd⟩ := hW
  have hA : DataW.TrodAll enc Try.prog W 0 (fun _ => true) true Try.f8.params.toList args.toList ds p := hA0
  rw [Try.params8] at hA hval
  obtain ⟨v0, vs0, d0, ds0, p0, q0, hargs, rfl, rfl, h0, r0⟩ := trodAll_cons hA
  obtain ⟨rfl, rfl, rfl⟩ := trodAll_nil r0
  obtain rfl : args = #[v0] := by cases args; simp_all
  obtain ⟨n, rfl, rfl, rfl, wn⟩ := open_int Try.underlying5 (hval 0 5 v0 rfl rfl) h0
  obtain ⟨m, rfl, hm⟩ : ∃ m : Nat, n = m ∧ m ≤ 255 := by
    have := bounds_u8 wn
    exact ⟨n.toNat, by omega, by omega⟩
  refine (walk m hm W).mono fun e W' ⟨he, hg⟩ => ?_
  subst he
  exact ⟨_, rfl, post_law 1 4 laidOut (by kernel_rfl) rfl rfl rfl Try.underlying4 (fun l hl => by match l, hl with | [_], _ => rfl) hW' hg⟩

theorem over : Rows.ticketWaitsRow.holds Try.pinned (OpenSpec.ofChange Rows.ticketWaitsSpec) :=
  OpenClaim.holds_of_wide 8 Try.f8 rfl rfl rfl rfl rfl rfl rfl ⟨rfl, rfl, rfl, rfl, rfl⟩ rfl rfl rfl rfl rfl (by kernel_rfl) Try.func8 (by kernel_rfl)
    (of_decide_eq_true (by kernel_rfl)) (by unfold Func.isWrapper; first | (rw [if_pos (by decide +kernel)]; kernel_rfl) | (rw [if_neg (by decide +kernel)]; exact ⟨rfl, rfl⟩))
    (fun os started H enc _ => lifted os started H enc)

theorem proved : Rows.TicketWaitsSaid := over
#print axioms proved
end Go.Proofs.Ytfdfjibhbfdloaa.ticketWaits

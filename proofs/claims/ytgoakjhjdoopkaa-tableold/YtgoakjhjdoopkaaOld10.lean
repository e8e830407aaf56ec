/-
  TableOld: for every size, every two slots and every count the law answers true: a handle counts till its slot's next generation. Conditions: none.
-/
import Derived.Test.YtgoakjhjdoopkaaMath10
import Derived.Test.YtgoakjhjdoopkaaOpens
import Derived.Lib.SmallJoins
import Derived.Deep.Slices
import Derived.OpenShut
import Derived.BigQuiet
import Derived.BigRegion
import Derived.Deep.DeepCutAuto
import Derived.Deep.CutBlock
namespace Go.Proofs.Ytgoakjhjdoopkaa.tableOld
open Go.Sept Go.RowKit Go.ChangeShapes Go.WideShapes Go.ChangeAt Go.Joins Go.Deep

theorem own : ownKnob Try.prog.godebug = none := by kernel_rfl
theorem laidOut : laidOutB Try.prog = true := by kernel_rfl

theorem aft_next {k : Int} {a : Nat} {gs : List Int} (ha : (a : Int) < k) : aftG 2 k a gs = gs.set a (gs.getD a 0 + 1) := by
  rw [aftG, if_pos ⟨by decide, by decide, by omega, ha⟩, Int.toNat_natCast]
theorem aft_read {kd k i : Int} {gs : List Int} (h : kd = 0 ∨ kd = 1) : aftG kd k i gs = gs := if_neg (fun x => by omega)
theorem ans_handle {k h : Int} {a : Nat} {gs : List Int} {g : Int} (ha : (a : Int) < k) (hg : gs.getD a 0 = g) : ansG 0 k a h gs = (g * 256 + a, true) := by
  rw [ansG, if_pos rfl, if_pos ⟨by omega, ha⟩, Int.toNat_natCast, hg, Int.mul_comm]
theorem ans_check {k i : Int} {a : Nat} {gs : List Int} {g g' : Int} (ha : (a : Int) < k) (hk : k ≤ 8) (hg : gs.getD a 0 = g) (h0 : 0 ≤ g') : ansG 1 k i (g' * 256 + a) gs = if g = g' then ((a : Int), true) else (0, false) := by
  have e1 : (g' * 256 + (a : Int)) % 256 = a := by omega
  have e2 : (g' * 256 + (a : Int)) / 256 = g' := by omega
  rw [ansG, if_neg (by decide), if_pos rfl, e1, e2, Int.toNat_natCast, hg]
  by_cases h : g = g'
  · rw [if_pos h, if_pos ⟨by omega, ha, h⟩]
  · rw [if_neg h, if_neg (fun x => h x.2.2)]

theorem ans_fresh {k i : Int} {a : Nat} {gs : List Int} {g : Int} (ha : (a : Int) < k) (hk : k ≤ 8) (hg : gs.getD a 0 = g + 1) (h0 : 0 ≤ g) : ansG 1 k i (g * 256 + a + 256) gs = ((a : Int), true) := by
  rw [show g * 256 + (a : Int) + 256 = (g + 1) * 256 + a by omega, ans_check ha hk hg (by omega), if_pos rfl]

/-- What stands between the rounds. -/
structure Play (w wx : World) (p q a : Nat) (m : Int) (gs : List Int) : Prop where
  mem : MemIs 38 wx p q (Tab gs)
  gens : Gens m gs
  at_ : gs.getD a 0 = m
  only : Only (fun _ => False) w wx
  np : w.heap.size ≤ p
  nq : w.heap.size ≤ q

/-- Three new blocks. -/
structure Three (w wc : World) (A B C : Nat) (oa ob oc : Obj) : Prop where
  a : wc.heap[A]? = some oa
  b : wc.heap[B]? = some ob
  c : wc.heap[C]? = some oc
  ab : A ≠ B
  ac : A ≠ C
  bc : B ≠ C
  la : w.heap.size ≤ A
  lb : w.heap.size ≤ B
  lc : w.heap.size ≤ C
  only : Only (fun _ => False) w wc

theorem three_new (w : World) (oa ob oc : Obj) : Three w (((w.alloc oa).alloc ob).alloc oc).drew w.heap.size (w.heap.size + 1) (w.heap.size + 1 + 1) oa ob oc :=
  ⟨(Below.heap_alloc _ _ _ (by simp; omega)).trans ((Below.heap_alloc _ _ _ (by simp)).trans (heap_new _ _)), (Below.heap_alloc _ _ _ (by simp)).trans (new_at _ _ _ (by simp)), new_at _ _ _ (by simp), by omega, by omega, by omega, by omega, by omega, by omega, ((((Only.refl _ w).alloc _).alloc _).alloc _).drew⟩
theorem Three.swap {w wc : World} {A B C : Nat} {oa ob oc : Obj} (h : Three w wc A B C oa ob oc) : Three w wc A C B oa oc ob := ⟨h.a, h.c, h.b, h.ac, h.ab, fun e => h.bc e.symm, h.la, h.lc, h.lb, h.only⟩
theorem Three.turn {w wc : World} {A B C : Nat} {oa ob oc : Obj} (h : Three w wc A B C oa ob oc) : Three w wc B C A ob oc oa := ⟨h.b, h.c, h.a, h.bc, fun e => h.ab e.symm, fun e => h.ac e.symm, h.lb, h.lc, h.la, h.only⟩

set_option maxRecDepth 100000 in
set_option maxHeartbeats 2000000 in
theorem walk (n i c t : Nat) (w : World) (hn : n ≤ 255) (hi : i ≤ 255) (hc : c ≤ 255) (ht : t ≤ 255) :
    Calls Try.prog 4 #[.int .u8 n, .int .u8 i, .int .u8 c, .int .u8 t] w fun e w' => e = .returned (.bool true) ∧ Below w.heap.size w w' := by
  have hmf : ∀ (fn : Fn) (first cap : Array Value) (w : World), (Instr.makeFunc fn first cap).run Try.prog w = .ok (.func fn first cap) w := fun _ _ _ _ => rfl
  have hne : (1 + (n : Int) % 8) ≠ 0 := by omega
  go_enter Try.func4, Try.ntmps4
  go_wp2_with fail
  refine (awake10_any _).mono ?_
  rintro e w1 ⟨rfl, hb1⟩
  have HB := hid (Only.of_below hb1 (fun _ => False))
  clear hb1
  go_wp2_with fail
  go_quiet (fail)
  go_wp2_with fail
  refine (new_rel _ _).mono ?_
  rintro e w2 ⟨p, q, rfl, hm, hp, hq, ho2⟩
  rw [show clampN 20 = 20 from clamp_nat 20 (by decide), ← tab_zero] at hm
  obtain ⟨k, hk⟩ : ∃ k : Nat, 1 + (n : Int) % 8 = (k : Int) := ⟨1 + n % 8, by omega⟩
  have hk1 : 1 ≤ k := by omega
  have hk8 : k ≤ 8 := by omega
  rw [hk] at hne ⊢
  obtain ⟨a, ha⟩ : ∃ a : Nat, (i : Int) % (k : Int) = (a : Int) := ⟨i % k, by omega⟩
  obtain ⟨b, hb⟩ : ∃ b : Nat, (c : Int) % (k : Int) = (b : Int) := ⟨c % k, by omega⟩
  have hak : (a : Int) < k := by rw [← ha]; exact Int.emod_lt_of_pos _ (by omega)
  have hbk : (b : Int) < k := by rw [← hb]; exact Int.emod_lt_of_pos _ (by omega)
  rw [ha, hb]
  have hO2 : Only (fun _ => False) w w2 := (only_drewN HB.out nq).chain ho2 (fun _ _ h => h)
  have zs : w.heap.size ≤ (w1.drewN nq).heap.size := (only_drewN HB.out nq).size
  have HP0 : Hid (Play w w2 p q a 0 (List.replicate 8 0)) := ⟨hm, gens_zero, getD_zeros _ _, hO2, by omega, by omega⟩
  clear hm ho2 HB hp hq hO2 zs hne hk ha hb hn hi hc
  go_wp2_with fail
  go_loopw [36] (fun v wx => ∃ (j : Nat) (gs : List Int), v = .int .u8 (j : Int) ∧ j ≤ t ∧ Play w wx p q a (j : Int) gs) (fun v _ => t - (intOf v).toNat)
  case atStart => exact ⟨0, _, rfl, Nat.zero_le _, HP0.out⟩
  case round =>
    obtain ⟨j, gs, rfl, hj, hP⟩ := hrel
    clear HP0
    by_cases hlt : (j : Int) < (t : Int)
    · have hW : ∃ W z, W = wr.alloc (act10O 2 k a 0 0 false) ∧ z = wr.heap.size ∧ MemIs 38 W p q (Tab gs) ∧ W.heap[z]? = some (act10O 2 k a 0 0 false) ∧ p < z ∧ q < z ∧ w.heap.size ≤ z ∧ Only (fun _ => False) w W :=
        ⟨_, _, rfl, rfl, hP.mem.alloc _, heap_new _ _, lt_of_block hP.mem.head, hP.mem.row.lt, hP.only.size, hP.only.alloc _⟩
      obtain ⟨W, z, hWe, hze, h1, h2, zp, zq, zw, h3⟩ := hW
      have HM := hid h1
      have HU := hid h2
      have HO := hid h3
      have HP := hid hP
      clear hP h1 h2 h3
      simp only [act10O] at hWe
      go_wp2_with fail
      rw [← hWe, ← hze]
      clear hWe hze
      refine (run_act _ p q z HP.out.gens (by omega) (by omega) HM.out HU.out (by omega) (by omega)).mono ?_
      rintro e w6 ⟨rfl, hm6, hx6, ho6⟩
      rw [aft_next hak, HP.out.at_] at hm6
      have hgs := HP.out.gens.set a (by omega)
      rw [HP.out.at_] at hgs
      have HP6 : Hid (Play w w6 p q a ((j + 1 : Nat) : Int) (gs.set a (j + 1))) :=
        ⟨hm6, hgs, by rw [getD_set _ _ _ _ (by rw [HP.out.gens.len]; omega), if_pos rfl]; rfl, HO.out.chain ho6 (fun i hi e => by have := HP.out.nq; rcases e with e | e <;> omega), HP.out.np, HP.out.nq⟩
      clear hm6 hx6 ho6 hgs HM HU HO HP
      go_wp2_with fail
      go_roundw
      case rel => exact ⟨j + 1, _, by go_num, by omega, HP6.out⟩
      case measure => simp [intOf]; omega
    · obtain rfl : j = t := by omega
      obtain ⟨gb, hgb, gb0, gb1⟩ : ∃ gb : Int, gs.getD b 0 = gb ∧ 0 ≤ gb ∧ gb ≤ 255 := ⟨_, rfl, hP.gens.low b, Int.le_trans (hP.gens.high b) (by omega)⟩
      have hW : ∃ W z, W = ((wr.alloc (act10O 0 k a 0 0 false)).alloc (act10O 0 k b 0 0 false)).alloc (act10O 2 k a 0 0 false) ∧ z = wr.heap.size ∧ MemIs 38 W p q (Tab gs) ∧ W.heap[z]? = some (act10O 0 k a 0 0 false) ∧ W.heap[z + 1]? = some (act10O 0 k b 0 0 false) ∧ W.heap[z + 1 + 1]? = some (act10O 2 k a 0 0 false) ∧ p < z ∧ q < z ∧ w.heap.size ≤ z ∧ Only (fun _ => False) w W :=
        ⟨_, _, rfl, rfl, ((hP.mem.alloc _).alloc _).alloc _, (Below.heap_alloc _ _ _ (by simp; omega)).trans ((Below.heap_alloc _ _ _ (by simp)).trans (heap_new _ _)), (Below.heap_alloc _ _ _ (by simp)).trans (new_at _ _ _ (by simp)), new_at _ _ _ (by simp), lt_of_block hP.mem.head, hP.mem.row.lt, hP.only.size, ((hP.only.alloc _).alloc _).alloc _⟩
      obtain ⟨W, z, hWe, hze, h1, h2, h3, h4, zp, zq, zw, h5⟩ := hW
      have HM := hid h1
      have HU := hid h2
      have HV := hid h3
      have HX := hid h4
      have HO := hid h5
      have HG := hid hP.gens
      have HA := hid hP.at_
      have HGB := hid hgb
      have HJB : Hid (a = b → gb = j) := fun e => by rw [← hgb, ← e]; exact hP.at_
      have wp := hP.np
      have wq := hP.nq
      clear hP h1 h2 h3 h4 h5 hgb hlt hj
      simp only [act10O] at hWe
      go_wp2_with fail
      rw [← hWe, ← hze]
      clear hWe hze
      refine (run_act _ p q z HG.out (by omega) (by omega) HM.out HU.out (by omega) (by omega)).mono ?_
      rintro e w3 ⟨rfl, hm3, hx3, ho3⟩
      rw [ans_handle hak HA.out] at hx3
      rw [aft_read (.inl rfl)] at hm3
      have HM3 := hid hm3
      have HU3 := hid hx3
      have HV3 := hid ((ho3.block _ (lt_of_block HV.out) (by omega)).trans HV.out)
      have HX3 := hid ((ho3.block _ (lt_of_block HX.out) (by omega)).trans HX.out)
      have HO3 := hid (HO.out.chain ho3 (fun i hi e => by rcases e with e | e <;> omega))
      clear hm3 hx3 ho3 HM HU HV HX HO
      go_wp2_with fail
      refine (run_act _ p q (z + 1) HG.out (by omega) (by omega) HM3.out HV3.out (by omega) (by omega)).mono ?_
      rintro e w4 ⟨rfl, hm4, hx4, ho4⟩
      rw [ans_handle hbk HGB.out] at hx4
      rw [aft_read (.inl rfl)] at hm4
      have HM4 := hid hm4
      have HU4 := hid ((ho4.block _ (lt_of_block HU3.out) (by omega)).trans HU3.out)
      have HV4 := hid hx4
      have HX4 := hid ((ho4.block _ (lt_of_block HX3.out) (by omega)).trans HX3.out)
      have HO4 := hid (HO3.out.chain ho4 (fun i hi e => by rcases e with e | e <;> omega))
      clear hm4 hx4 ho4 HM3 HU3 HV3 HX3 HO3
      go_wp2_with fail
      refine (run_act _ p q (z + 1 + 1) HG.out (by omega) (by omega) HM4.out HX4.out (by omega) (by omega)).mono ?_
      rintro e w5 ⟨rfl, hm5, hx5, ho5⟩
      rw [aft_next hak, HA.out] at hm5
      have hgs := HG.out.set a (by omega)
      rw [HA.out] at hgs
      obtain ⟨gs', hgse⟩ : ∃ gs', gs' = gs.set a (j + 1) := ⟨_, rfl⟩
      rw [← hgse] at hm5 hgs
      have HA5 : Hid (gs'.getD a 0 = j + 1) := by show _ = _; rw [hgse, getD_set _ _ _ _ (by rw [HG.out.len]; omega), if_pos rfl]
      have HB5 : Hid (a ≠ b → gs'.getD b 0 = gb) := fun e => by rw [hgse, getD_set _ _ _ _ (by rw [HG.out.len]; omega), if_neg (fun x => e x.symm)]; exact HGB.out
      have HM5 := hid hm5
      have HG5 := hid hgs
      have hu5 := (ho5.block _ (lt_of_block HU4.out) (by omega)).trans HU4.out
      have hv5 := (ho5.block _ (lt_of_block HV4.out) (by omega)).trans HV4.out
      have HU5 := hid hu5
      have HV5 := hid hv5
      have HO5 := hid (HO4.out.chain ho5 (fun i hi e => by rcases e with e | e <;> omega))
      have c1 : w5.cell? ⟨z, 4, none⟩ = some (.int .i64 ((j : Int) * 256 + a)) := Sept.cell_of_block hu5 4
      have c2 : w5.cell? ⟨z + 1, 4, none⟩ = some (.int .i64 (gb * 256 + b)) := Sept.cell_of_block hv5 4
      have hself : ((j : Int) * 256 + (a : Int) != (j : Int) * 256 + a) = false := by simp
      clear hm5 hx5 ho5 hu5 hv5 hgs hgse HM4 HU4 HV4 HX4 HO4 HG HA
      have lz : z < w5.heap.size := lt_of_block HU5.out
      have lz1 : z + 1 < w5.heap.size := lt_of_block HV5.out
      go_upto_region 15 with fail
      go_cut [17, 18, 19] (fun vo vf vs wc => ∃ O Fb St : Nat, vo = ptrV O ∧ vf = ptrV Fb ∧ vs = ptrV St ∧ Three w5 wc O Fb St (act10O 1 k 0 ((j : Int) * 256 + a) 0 false) (act10O 1 k 0 ((j : Int) * 256 + a + 256) 0 false) (act10O 1 k 0 (gb * 256 + b) 0 false))
      case first =>
        go_region
        all_goals go_wp2_with fail
        all_goals go_meet
        all_goals refine ⟨_, _, _, rfl, rfl, rfl, ?_⟩
        all_goals first
          | exact three_new _ _ _ _
          | exact (three_new _ _ _ _).swap
          | exact (three_new _ _ _ _).turn
          | exact (three_new _ _ _ _).turn.turn
          | exact (three_new _ _ _ _).turn.swap
          | exact (three_new _ _ _ _).turn.turn.swap
      case rest =>
        obtain ⟨O, Fb, St, rfl, rfl, rfl, hT⟩ := hcut
        have hsz := hT.only.size
        have lp : p < w5.heap.size := lt_of_block HM5.out.head
        have lq : q < w5.heap.size := HM5.out.row.lt
        have hab1 := hT.ab
        have hac1 := hT.ac
        have hbc1 := hT.bc
        have la1 := hT.la
        have lb1 := hT.lb
        have lc1 := hT.lc
        have lw := HO5.out.size
        have HM6 := hid (HM5.out.only hT.only (fun h => h) (fun h => h))
        have HO6 := hid (HO5.out.chain hT.only (fun _ _ h => h))
        have HA6 := hid hT.a
        have HB6 := hid hT.b
        have HC6 := hid hT.c
        clear hT HM5 HO5 HU5 HV5 c1 c2 hself
        go_wp2_with fail
        refine (run_act _ p q O HG5.out (by omega) (by omega) HM6.out HA6.out (by omega) (by omega)).mono ?_
        rintro e w7 ⟨rfl, hm7, hx7, ho7⟩
        rw [ans_check hak (by omega) HA5.out (by omega), if_neg (by omega)] at hx7
        rw [aft_read (.inr rfl)] at hm7
        have HM7 := hid hm7
        have HA7 := hid hx7
        have HB7 := hid ((ho7.block _ (lt_of_block HB6.out) (by omega)).trans HB6.out)
        have HC7 := hid ((ho7.block _ (lt_of_block HC6.out) (by omega)).trans HC6.out)
        have HO7 := hid (HO6.out.chain ho7 (fun i hi e => by rcases e with e | e <;> omega))
        clear hm7 hx7 ho7 HM6 HO6 HA6 HB6 HC6
        go_wp2_with fail
        refine (run_act _ p q Fb HG5.out (by omega) (by omega) HM7.out HB7.out (by omega) (by omega)).mono ?_
        rintro e w8 ⟨rfl, hm8, hx8, ho8⟩
        rw [ans_fresh hak (by omega) HA5.out (by omega)] at hx8
        rw [aft_read (.inr rfl)] at hm8
        have HM8 := hid hm8
        have HA8 := hid ((ho8.block _ (lt_of_block HA7.out) (by omega)).trans HA7.out)
        have HB8 := hid hx8
        have HC8 := hid ((ho8.block _ (lt_of_block HC7.out) (by omega)).trans HC7.out)
        have HO8 := hid (HO7.out.chain ho8 (fun i hi e => by rcases e with e | e <;> omega))
        clear hm8 hx8 ho8 HM7 HO7 HA7 HB7 HC7
        go_wp2_with fail
        refine (run_act _ p q St HG5.out (by omega) (by omega) HM8.out HC8.out (by omega) (by omega)).mono ?_
        rintro e w9 ⟨rfl, hm9, hx9, ho9⟩
        have ha9 := (ho9.block _ (lt_of_block HA8.out) (by omega)).trans HA8.out
        have hb9 := (ho9.block _ (lt_of_block HB8.out) (by omega)).trans HB8.out
        have d1 : w9.cell? ⟨O, 5, none⟩ = some (.bool false) := Sept.cell_of_block ha9 5
        have d2 : w9.cell? ⟨Fb, 5, none⟩ = some (.bool true) := Sept.cell_of_block hb9 5
        have d3 : w9.cell? ⟨Fb, 4, none⟩ = some (.int .i64 a) := Sept.cell_of_block hb9 4
        have hself : ((a : Int) == (a : Int)) = true := by simp
        have HO9 := hid (HO8.out.chain ho9 (fun i hi e => by rcases e with e | e <;> omega))
        by_cases hab : a = b
        · have hgj := HJB.out hab
          subst hab hgj
          rw [ans_check hbk (by omega) HA5.out (by omega), if_neg (by omega)] at hx9
          have d4 : w9.cell? ⟨St, 5, none⟩ = some (.bool false) := Sept.cell_of_block hx9 5
          have hne : ((a : Int) != (a : Int)) = false := by simp
          clear hm9 hx9 ho9 ha9 hb9 HM8 HO8 HA8 HB8 HC8
          go_wp2_with fail
          go_ret
          exact ⟨rfl, HO9.out.below (Nat.le_refl _) (fun _ _ h => h)⟩
        · rw [ans_check hbk (by omega) (HB5.out hab) (by omega), if_pos rfl] at hx9
          have d4 : w9.cell? ⟨St, 5, none⟩ = some (.bool true) := Sept.cell_of_block hx9 5
          have hne : ((a : Int) != (b : Int)) = true := bne_iff_ne.2 (by omega)
          clear hm9 hx9 ho9 ha9 hb9 HM8 HO8 HA8 HB8 HC8
          go_wp2_with fail
          go_ret
          exact ⟨rfl, HO9.out.below (Nat.le_refl _) (fun _ _ h => h)⟩

set_option maxRecDepth 100000 in
theorem lifted (os : Os) (started : os.Started) (H : Type) (enc : TypeId × Value → H) :
    ReturnsInHanded {} Try.checked os 4 .any (Rows.tableOldSpec.pre6 enc Try.prog Try.f4 Rows.tableOldRow.domain false) (Rows.tableOldSpec.post enc Try.prog Try.f4 false true false false) := by
  refine returnsInHanded_of_change (C := Try.checked) own started (by kernel_rfl) Try.func4
    (ChangeSpec.witness6 (enc := enc) (C := Try.checked) false ⟨#[], #[.int .u8 0, .int .u8 0, .int .u8 0, .int .u8 0], []⟩ 8 (by kernel_rfl) (by kernel_rfl) (by kernel_rfl) (by kernel_rfl)) ?_
  intro W base args ds gs before hval0 hW hcnd _
  have hval : ∀ (j : Nat) t v, Try.f4.params[j]? = some t → args[j]? = some v → Value.okWide Try.prog W .any base t v := hval0
  have hW' := hW
  obtain ⟨p, q, hA0, hV, rfl, hfz, hnd⟩ := hW
  have hA : DataW.TrodAll enc Try.prog W 0 (fun _ => true) true Try.f4.params.toList args.toList ds p := hA0
  rw [Try.params4] at hA hval
  obtain ⟨v0, vs0, d0, ds0, p0, q0, hargs, rfl, rfl, h0, r0⟩ := trodAll_cons hA
  obtain ⟨v1, vs1, d1, ds1, p1, q1, rfl, rfl, rfl, h1, r1⟩ := trodAll_cons r0
  obtain ⟨v2, vs2, d2, ds2, p2, q2, rfl, rfl, rfl, h2, r2⟩ := trodAll_cons r1
  obtain ⟨v3, vs3, d3, ds3, p3, q3, rfl, rfl, rfl, h3, r3⟩ := trodAll_cons r2
  obtain ⟨rfl, rfl, rfl⟩ := trodAll_nil r3
  obtain rfl : args = #[v0, v1, v2, v3] := by cases args; simp_all
  obtain ⟨a0, rfl, rfl, rfl, w0⟩ := open_int Try.underlying5 (hval 0 5 v0 rfl rfl) h0
  obtain ⟨m0, rfl, hm0⟩ : ∃ m : Nat, a0 = m ∧ m ≤ 255 := by
    have := bounds_u8 w0
    exact ⟨a0.toNat, by omega, by omega⟩
  obtain ⟨a1, rfl, rfl, rfl, w1⟩ := open_int Try.underlying5 (hval 1 5 v1 rfl rfl) h1
  obtain ⟨m1, rfl, hm1⟩ : ∃ m : Nat, a1 = m ∧ m ≤ 255 := by
    have := bounds_u8 w1
    exact ⟨a1.toNat, by omega, by omega⟩
  obtain ⟨a2, rfl, rfl, rfl, w2⟩ := open_int Try.underlying5 (hval 2 5 v2 rfl rfl) h2
  obtain ⟨m2, rfl, hm2⟩ : ∃ m : Nat, a2 = m ∧ m ≤ 255 := by
    have := bounds_u8 w2
    exact ⟨a2.toNat, by omega, by omega⟩
  obtain ⟨a3, rfl, rfl, rfl, w3⟩ := open_int Try.underlying5 (hval 3 5 v3 rfl rfl) h3
  obtain ⟨m3, rfl, hm3⟩ : ∃ m : Nat, a3 = m ∧ m ≤ 255 := by
    have := bounds_u8 w3
    exact ⟨a3.toNat, by omega, by omega⟩
  refine (walk m0 m1 m2 m3 W hm0 hm1 hm2 hm3).mono fun e W' ⟨he, hg⟩ => ?_
  subst he
  exact ⟨_, rfl, post_law 4 4 laidOut (by kernel_rfl) rfl rfl rfl Try.underlying4 (fun l hl => by match l, hl with | [_, _, _, _], _ => rfl) hW' hg⟩

theorem over : Rows.tableOldRow.holds Try.pinned (OpenSpec.ofChange Rows.tableOldSpec) :=
  OpenClaim.holds_of_wide 4 Try.f4 rfl rfl rfl rfl rfl rfl rfl ⟨rfl, rfl, rfl, rfl, rfl⟩ rfl rfl rfl rfl rfl (by kernel_rfl) Try.func4 (by kernel_rfl)
    (of_decide_eq_true (by kernel_rfl)) (by unfold Func.isWrapper; first | (rw [if_pos (by decide +kernel)]; kernel_rfl) | (rw [if_neg (by decide +kernel)]; exact ⟨rfl, rfl⟩))
    (fun os started H enc _ => lifted os started H enc)

theorem proved : Rows.TableOldSaid := over
#print axioms proved
end Go.Proofs.Ytgoakjhjdoopkaa.tableOld

/-
  TablePlays: for every size and every list of calls the law answers true: each answer is the document's. Conditions: none.
-/
import Derived.Test.YtgoakjhjdoopkaaMath10
import Derived.Test.YtgoakjhjdoopkaaOpens
import Derived.Lib.SmallJoins
import Derived.Deep.Slices
import Derived.Deep.Strs
import Derived.OpenShut
import Derived.BigQuiet
import Derived.Deep.DeepCutAuto
import Derived.Deep.CutBlock
namespace Go.Proofs.Ytgoakjhjdoopkaa.tablePlays
open Go.Sept Go.RowKit Go.ChangeShapes Go.WideShapes Go.ChangeAt Go.Joins Go.Deep

theorem own : ownKnob Try.prog.godebug = none := by kernel_rfl
theorem laidOut : laidOutB Try.prog = true := by kernel_rfl

/-- What the walk is told of a list of calls that came in. -/
def OpsAre (w : World) (ao : Option Addr) (len : Nat) : Prop := ∃ b off, ∀ i, i < len → ao = some ⟨b, off, none⟩ ∧ ∃ k v h : Int, w.cell? ⟨b, off + i * 3, none⟩ = some (.int .u8 k) ∧ w.cell? ⟨b, off + i * 3 + 1, none⟩ = some (.int .i64 v) ∧ w.cell? ⟨b, off + i * 3 + 2, none⟩ = some (.int .i64 h) ∧ h ≤ 9223372036854775807
theorem OpsAre.only {w w' : World} {ao : Option Addr} {len : Nat} (h : OpsAre w ao len) (ho : Only (fun _ => False) w w') : OpsAre w' ao len := by
  obtain ⟨b, off, h⟩ := h
  refine ⟨b, off, fun i hi => ?_⟩
  obtain ⟨h1, k, v, h, h4, h5, h6, h7⟩ := h i hi
  have e := ho.block b (World.block_lt_of_cell? _ _ h4) (fun h => h)
  exact ⟨h1, k, v, h, (World.cell?_of_block e).trans h4, (World.cell?_of_block e).trans h5, (World.cell?_of_block e).trans h6, h7⟩

set_option maxRecDepth 100000 in
set_option maxHeartbeats 1000000 in
theorem walk_long (n : Nat) (ao : Option Addr) (len cap : Nat) (w : World) (hlen : 200 < len) (hm : len ≤ 9223372036854775807) :
    Calls Try.prog 3 #[.int .u8 n, .slice ao len cap] w fun e w' => e = .returned (.bool true) ∧ Below w.heap.size w w' := by
  have hlen' : (200 : Int) < len := by omega
  go_enter Try.func3, Try.ntmps3
  go_wp2_with fail
  refine (awake10_any _).mono ?_
  rintro e w1 ⟨rfl, hb1⟩
  have HB := hid hb1
  clear hb1
  go_wp2_with fail
  refine (awake10_any _).mono ?_
  rintro e w2 ⟨rfl, hb2⟩
  have hF : Hid (Below w.heap.size w w2) := ((Only.of_below HB.out (fun _ => False)).chain (Only.of_below hb2 (fun _ => False)) (fun _ _ h => h)).below (Nat.le_refl _) (fun _ _ h => h)
  clear HB hb2
  go_wp2_with fail
  go_ret
  exact ⟨rfl, hF.out⟩

/-- The law's own array of generations. -/
def ArrIs (w : World) (G : Nat) (gs : List Int) : Prop := w.heap[G]? = some (.cells (gs.map (Value.int .i64)).toArray 26)
theorem ArrIs.cell {w : World} {G : Nat} {gs : List Int} (h : ArrIs w G gs) (i : Nat) (hi : i < gs.length) : w.cell? ⟨G, i, none⟩ = some (.int .i64 (gs.getD i 0)) := by
  rw [Sept.cell_of_block h]
  simp [hi]
theorem ArrIs.set {w : World} {G : Nat} {gs : List Int} (h : ArrIs w G gs) (i : Nat) (v : Int) : ArrIs (w.setCell ⟨G, i, none⟩ (.int .i64 v)) G (gs.set i v) := by
  unfold ArrIs at *
  simp [World.setCell, Array.getElem?_modify, h]
theorem ArrIs.only {w w' : World} {G : Nat} {gs : List Int} {S : Nat → Prop} (h : ArrIs w G gs) (ho : Only S w w') (hG : ¬ S G) : ArrIs w' G gs := (ho.block G (lt_of_block h) hG).trans h

/-- What stands between the rounds. -/
structure Play (w wx : World) (p q G : Nat) (m : Int) (gs : List Int) : Prop where
  mem : MemIs 38 wx p q (Tab gs)
  gens : Gens m gs
  arr : ArrIs wx G gs
  only : Only (fun _ => False) w wx
  side : w.heap.size ≤ p ∧ w.heap.size ≤ q ∧ w.heap.size ≤ G ∧ G ≠ p ∧ G ≠ q

set_option maxRecDepth 100000 in
set_option maxHeartbeats 2000000 in
theorem walk_in (n : Nat) (ao : Option Addr) (len cap : Nat) (w : World) (hn : n ≤ 255) (hlen : len ≤ 200) (hops : OpsAre w ao len) :
    Calls Try.prog 3 #[.int .u8 n, .slice ao len cap] w fun e w' => e = .returned (.bool true) ∧ Below w.heap.size w w' := by
  have hmf : ∀ (fn : Fn) (first cap : Array Value) (w : World), (Instr.makeFunc fn first cap).run Try.prog w = .ok (.func fn first cap) w := fun _ _ _ _ => rfl
  have hlen' : ¬ (200 : Int) < len := by omega
  have HOP := hid hops
  clear hops
  go_enter Try.func3, Try.ntmps3
  go_wp2_with fail
  refine (awake10_any _).mono ?_
  rintro e w1 ⟨rfl, hb1⟩
  have HB := hid (Only.of_below hb1 (fun _ => False))
  clear hb1
  go_wp2_with fail
  refine (new_rel _ _).mono ?_
  rintro e w2 ⟨p, q, rfl, hm, hp, hq, ho2⟩
  rw [show clampN 20 = 20 from clamp_nat 20 (by decide), ← tab_zero] at hm
  obtain ⟨k, hk⟩ : ∃ k : Nat, (n : Int) % 9 = (k : Int) := ⟨n % 9, by omega⟩
  have hk8 : k ≤ 8 := by omega
  rw [hk]
  have lp := lt_of_block hm.head
  have lq := hm.row.lt
  have zs := HB.out.size
  have hz := ho2.size
  have hW : ∃ W G, W = w2.alloc (.cells #[.int .i64 0, .int .i64 0, .int .i64 0, .int .i64 0, .int .i64 0, .int .i64 0, .int .i64 0, .int .i64 0] 26) ∧ G = w2.heap.size ∧ Play w W p q G 0 (List.replicate 8 0) :=
    ⟨_, _, rfl, rfl, hm.alloc _, gens_zero, heap_new _ _, (HB.out.chain ho2 (fun _ _ h => h)).alloc _, by omega⟩
  obtain ⟨W, G, hWe, hze, hP0⟩ := hW
  have HP0 := hid hP0
  clear hm ho2 HB hp hq hP0 hk hn lp lq zs hz
  go_wp2_with fail
  rw [← hWe, ← hze]
  clear hWe hze
  go_loopw [29] (fun i wx => ∃ (j : Nat) (gs : List Int), i = .int .i64 (j : Int) ∧ j ≤ len ∧ Play w wx p q G (j : Int) gs) (fun i _ => len - (intOf i).toNat)
  case atStart => exact ⟨0, _, rfl, Nat.zero_le _, HP0.out⟩
  case round =>
    obtain ⟨j, gs, rfl, hj, hP⟩ := hrel
    clear HP0
    by_cases hlt : (j : Int) < len
    · obtain ⟨sb, so, hcel⟩ := HOP.out.only hP.only
      obtain ⟨hao, kd, v, h, s0, s1, s2, hmax⟩ := hcel j (by omega)
      subst hao
      clear hcel
      have hW : ∃ W zo, W = (wr.alloc (.cells #[.int .u8 kd, .int .i64 v, .int .i64 h] 28)).alloc (act10O kd k v h 0 false) ∧ zo = wr.heap.size ∧ Play w W p q G j gs ∧ W.heap[zo]? = some (.cells #[.int .u8 kd, .int .i64 v, .int .i64 h] 28) ∧ W.heap[zo + 1]? = some (act10O kd k v h 0 false) ∧ p < zo ∧ q < zo ∧ w.heap.size ≤ zo ∧ G < zo := by
        have l1 := lt_of_block hP.mem.head
        have l2 := hP.mem.row.lt
        have l3 := hP.only.size
        have l4 : G < wr.heap.size := lt_of_block hP.arr
        have hO : Only (fun _ => False) wr ((wr.alloc (.cells #[.int .u8 kd, .int .i64 v, .int .i64 h] 28)).alloc (act10O kd k v h 0 false)) := ((Only.refl _ _).alloc _).alloc _
        exact ⟨_, _, rfl, rfl, ⟨hP.mem.only hO (fun h => h) (fun h => h), hP.gens, hP.arr.only hO (fun h => h), hP.only.chain hO (fun _ _ h => h), hP.side⟩, (Below.heap_alloc _ _ _ (by simp)).trans (heap_new _ _), new_at _ _ _ (by simp), l1, l2, l3, l4⟩
      obtain ⟨W, zo, hWe, hze, hP2, ho0, hu0, yp, yq, yw, yG⟩ := hW
      have HP := hid hP2
      have HV := hid ho0
      have HU := hid hu0
      clear hP hP2 ho0 hu0
      simp only [act10O] at hWe
      go_wp2_with fail
      rw [← hWe, ← hze]
      clear hWe hze s0 s1 s2
      refine (run_act _ p q (zo + 1) HP.out.gens (by omega) (by omega) HP.out.mem HU.out (by omega) (by omega)).mono ?_
      rintro e w6 ⟨rfl, hm6, hx6, ho6⟩
      have hb6 := (ho6.block zo (lt_of_block HV.out) (by omega)).trans HV.out
      have o0 : w6.cell? ⟨zo, 0, none⟩ = some (.int .u8 kd) := Sept.cell_of_block hb6 0
      have o1 : w6.cell? ⟨zo, 1, none⟩ = some (.int .i64 v) := Sept.cell_of_block hb6 1
      have o2 : w6.cell? ⟨zo, 2, none⟩ = some (.int .i64 h) := Sept.cell_of_block hb6 2
      have c4 : w6.cell? ⟨zo + 1, 4, none⟩ = some (.int .i64 (ansG kd k v h gs).1) := Sept.cell_of_block hx6 4
      have c5 : w6.cell? ⟨zo + 1, 5, none⟩ = some (.bool (ansG kd k v h gs).2) := Sept.cell_of_block hx6 5
      have HG := hid HP.out.gens
      have HM6 := hid hm6
      have HN := hid HP.out.side
      have HA6 := hid (HP.out.arr.only ho6 (by have := HP.out.side; omega))
      have HO6 := hid (HP.out.only.chain ho6 (fun i hi e => by have := HP.out.side; rcases e with e | e <;> omega))
      clear hm6 hx6 ho6 hb6 HP HV HU HOP
      go_upto_region 13 with fail
      go_cut [11] (fun x wc => ∃ b : Bool, x = .bool b ∧ b = decide (0 ≤ v ∧ v < (k : Int)) ∧ wc = w6)
      case first =>
        by_cases v0 : 0 ≤ v
        · by_cases v1 : v < (k : Int)
          · go_wp2_with fail
            go_meet
            case rel => exact ⟨true, rfl, (decide_eq_true ⟨v0, v1⟩).symm, rfl⟩
          · go_wp2_with fail
            go_meet
            case rel => exact ⟨false, rfl, (decide_eq_false (by omega)).symm, rfl⟩
        · go_wp2_with fail
          go_meet
          case rel => exact ⟨false, rfl, (decide_eq_false (by omega)).symm, rfl⟩
      case rest =>
        obtain ⟨bh, rfl, hbh, rfl⟩ := hcut
        by_cases hk0 : kd = 0
        · subst hk0
          cases bh
          · have hh : ¬ (0 ≤ v ∧ v < (k : Int)) := of_decide_eq_false hbh.symm
            rw [show ansG 0 k v h gs = (0, false) by rw [ansG, if_pos rfl, if_neg hh]] at c4 c5
            have ea : aftG 0 k v gs = gs := if_neg (fun h => h.1 rfl)
            have HM7 := HM6
            rw [ea] at HM7
            simp only at c4 c5
            clear HM6 ea hh hbh
            go_wp2_with fail
            go_roundw
            case rel => exact ⟨j + 1, gs, by go_num, by omega, HM7.out, HG.out.mono (by omega), HA6.out, HO6.out, HN.out⟩
            case measure => simp [intOf]; omega
          · have hh : 0 ≤ v ∧ v < (k : Int) := of_decide_eq_true hbh.symm
            obtain ⟨x, rfl⟩ : ∃ x : Nat, v = x := ⟨v.toNat, by omega⟩
            have hx8 : x < gs.length := by rw [HG.out.len]; omega
            obtain ⟨g, hg⟩ : ∃ g : Int, gs.getD x 0 = g := ⟨_, rfl⟩
            have g0 : 0 ≤ g := hg ▸ HG.out.low x
            have g1 : g ≤ j := hg ▸ HG.out.high x
            have cg : wc.cell? ⟨G, x, none⟩ = some (.int .i64 g) := hg ▸ HA6.out.cell x hx8
            rw [ansG, if_pos rfl, if_pos hh, Int.toNat_natCast, hg, Int.mul_comm] at c4 c5
            have ea : aftG 0 k x gs = gs := if_neg (fun h => h.1 rfl)
            have HM7 := HM6
            rw [ea] at HM7
            have hself : (g * 256 + (x : Int) != g * 256 + (x : Int)) = false := by simp
            simp only at c4 c5
            clear HM6 ea hbh hg hx8
            go_wp2_with fail
            go_quiet (fail)
            go_wp2_with fail
            go_roundw
            case rel =>
              have hO : Only (fun _ => False) wc (wc.drewN nq) := only_drewN (Only.refl _ _) nq
              exact ⟨j + 1, gs, by go_num, by omega, HM7.out.only hO (fun h => h) (fun h => h), HG.out.mono (by omega), HA6.out.only hO (fun h => h), HO6.out.chain hO (fun _ _ h => h), HN.out⟩
            case measure => simp [intOf]; omega
        · by_cases hk1 : kd = 1
          · subst hk1
            have ea : aftG 1 k v gs = gs := if_neg (fun h => h.2.1 rfl)
            have HM7 := HM6
            rw [ea] at HM7
            have e0 : ((1 : Int) == 0) = false := by decide
            clear HM6 ea hbh
            by_cases h0 : 0 ≤ h
            · by_cases h1 : h % 256 < (k : Int)
              · have hx8 : (h % 256).toNat < gs.length := by rw [HG.out.len]; omega
                obtain ⟨g, hg⟩ : ∃ g : Int, gs.getD (h % 256).toNat 0 = g := ⟨_, rfl⟩
                have cg : wc.cell? ⟨G, (h % 256).toNat, none⟩ = some (.int .i64 g) := hg ▸ HA6.out.cell _ hx8
                by_cases h2 : g = h / 256
                · rw [show ansG 1 k v h gs = (h % 256, true) by rw [ansG, if_neg (by decide), if_pos rfl, if_pos ⟨h0, h1, hg.trans h2⟩]] at c4 c5
                  have hd : (g == h / 256) = true := beq_iff_eq.2 h2
                  have hself : (h % 256 != h % 256) = false := by simp
                  simp only at c4 c5
                  clear hg hx8 h2
                  go_wp2_with fail
                  go_quiet (fail)
                  go_wp2_with fail
                  go_roundw
                  case rel =>
                    have hO : Only (fun _ => False) wc (wc.drewN nq) := only_drewN (Only.refl _ _) nq
                    exact ⟨j + 1, gs, by go_num, by omega, HM7.out.only hO (fun h => h) (fun h => h), HG.out.mono (by omega), HA6.out.only hO (fun h => h), HO6.out.chain hO (fun _ _ h => h), HN.out⟩
                  case measure => simp [intOf]; omega
                · rw [show ansG 1 k v h gs = (0, false) by rw [ansG, if_neg (by decide), if_pos rfl, if_neg (fun x => h2 (hg.symm.trans x.2.2))]] at c4 c5
                  have hd : (g == h / 256) = false := beq_eq_false_iff_ne.2 h2
                  simp only at c4 c5
                  clear hg hx8 h2
                  go_wp2_with fail
                  go_quiet (fail)
                  go_wp2_with fail
                  go_roundw
                  case rel =>
                    have hO : Only (fun _ => False) wc (wc.drewN nq) := only_drewN (Only.refl _ _) nq
                    exact ⟨j + 1, gs, by go_num, by omega, HM7.out.only hO (fun h => h) (fun h => h), HG.out.mono (by omega), HA6.out.only hO (fun h => h), HO6.out.chain hO (fun _ _ h => h), HN.out⟩
                  case measure => simp [intOf]; omega
              · rw [show ansG 1 k v h gs = (0, false) by rw [ansG, if_neg (by decide), if_pos rfl, if_neg (fun x => h1 x.2.1)]] at c4 c5
                have hd : decide (h % 256 < (k : Int)) = false := decide_eq_false h1
                simp only at c4 c5
                go_wp2_with fail
                go_quiet (fail)
                go_wp2_with fail
                go_roundw
                case rel =>
                  have hO : Only (fun _ => False) wc (wc.drewN nq) := only_drewN (Only.refl _ _) nq
                  exact ⟨j + 1, gs, by go_num, by omega, HM7.out.only hO (fun h => h) (fun h => h), HG.out.mono (by omega), HA6.out.only hO (fun h => h), HO6.out.chain hO (fun _ _ h => h), HN.out⟩
                case measure => simp [intOf]; omega
            · rw [show ansG 1 k v h gs = (0, false) by rw [ansG, if_neg (by decide), if_pos rfl, if_neg (fun x => h0 x.1)]] at c4 c5
              have hd : decide (0 ≤ h) = false := decide_eq_false h0
              simp only at c4 c5
              go_wp2_with fail
              go_quiet (fail)
              go_wp2_with fail
              go_roundw
              case rel =>
                have hO : Only (fun _ => False) wc (wc.drewN nq) := only_drewN (Only.refl _ _) nq
                exact ⟨j + 1, gs, by go_num, by omega, HM7.out.only hO (fun h => h) (fun h => h), HG.out.mono (by omega), HA6.out.only hO (fun h => h), HO6.out.chain hO (fun _ _ h => h), HN.out⟩
              case measure => simp [intOf]; omega
          · have e0 : (kd == 0) = false := beq_eq_false_iff_ne.2 hk0
            have e1 : (kd == 1) = false := beq_eq_false_iff_ne.2 hk1
            rw [show ansG kd k v h gs = (0, decide (0 ≤ v ∧ v < (k : Int))) by rw [ansG, if_neg hk0, if_neg hk1], ← hbh] at c4 c5
            simp only at c4 c5
            cases bh
            · have hh : ¬ (0 ≤ v ∧ v < (k : Int)) := of_decide_eq_false hbh.symm
              have ea : aftG kd k v gs = gs := if_neg (fun h => hh h.2.2)
              have HM7 := HM6
              rw [ea] at HM7
              clear HM6 ea hh hbh
              go_wp2_with fail
              go_roundw
              case rel => exact ⟨j + 1, gs, by go_num, by omega, HM7.out, HG.out.mono (by omega), HA6.out, HO6.out, HN.out⟩
              case measure => simp [intOf]; omega
            · have hh : 0 ≤ v ∧ v < (k : Int) := of_decide_eq_true hbh.symm
              obtain ⟨x, rfl⟩ : ∃ x : Nat, v = x := ⟨v.toNat, by omega⟩
              have hx8 : x < gs.length := by rw [HG.out.len]; omega
              have hgs := HG.out.set x (by omega)
              have ea : aftG kd k x gs = gs.set x (gs.getD x 0 + 1) := by rw [aftG, if_pos ⟨hk0, hk1, hh.1, hh.2⟩, Int.toNat_natCast]
              have HM7 := HM6
              rw [ea] at HM7
              obtain ⟨g, hg⟩ : ∃ g : Int, gs.getD x 0 = g := ⟨_, rfl⟩
              have g0 : 0 ≤ g := hg ▸ HG.out.low x
              have g1 : g ≤ j := hg ▸ HG.out.high x
              have cg : wc.cell? ⟨G, x, none⟩ = some (.int .i64 g) := hg ▸ HA6.out.cell x hx8
              have fg : wc.frozen? ⟨G, x, none⟩ = false := frozen_of_block HA6.out x
              rw [hg] at hgs HM7
              have hO : Only (fun b => b = G) wc (wc.setCell ⟨G, x, none⟩ (.int .i64 (g + 1))) := (Only.refl (fun b => b = G) wc).setCell (p := ⟨G, x, none⟩) (.inr rfl) _
              have HP8 : Hid (Play w (wc.setCell ⟨G, x, none⟩ (.int .i64 (g + 1))) p q G (j + 1 : Nat) (gs.set x (g + 1))) := by
                have hN := HN.out
                exact ⟨HM7.out.only hO (by omega) (by omega), hgs, HA6.out.set x _, HO6.out.chain hO (fun i hi e => by omega), hN⟩
              have nz : zo + 1 ≠ G := by omega
              clear HM6 HM7 ea hbh hg hgs hO hx8 HN HG HA6 HO6
              go_wp2_with fail
              go_roundw
              case rel => exact ⟨j + 1, _, by go_num, by omega, HP8.out⟩
              case measure => simp [intOf]; omega
    · go_wp2_with fail
      go_ret
      exact ⟨rfl, hP.only.below (Nat.le_refl _) (fun _ _ h => h)⟩

theorem walk (n : Nat) (ao : Option Addr) (len cap : Nat) (w : World) (hn : n ≤ 255) (hm : len ≤ 9223372036854775807) (hops : OpsAre w ao len) :
    Calls Try.prog 3 #[.int .u8 n, .slice ao len cap] w fun e w' => e = .returned (.bool true) ∧ Below w.heap.size w w' := by
  by_cases h : 200 < len
  · exact walk_long n ao len cap w h hm
  · exact walk_in n ao len cap w hn (by omega) hops

set_option maxRecDepth 100000 in
theorem lifted (os : Os) (started : os.Started) (H : Type) (enc : TypeId × Value → H) :
    ReturnsInHanded {} Try.checked os 3 .any (Rows.tablePlaysSpec.pre6 enc Try.prog Try.f3 Rows.tablePlaysRow.domain false) (Rows.tablePlaysSpec.post enc Try.prog Try.f3 false true false false) := by
  refine returnsInHanded_of_change (C := Try.checked) own started (by kernel_rfl) Try.func3
    (ChangeSpec.witness6 (enc := enc) (C := Try.checked) false ⟨#[], #[.int .u8 0, .slice none 0 0], []⟩ 8 (by kernel_rfl) (by kernel_rfl) (by kernel_rfl) (by kernel_rfl)) ?_
  intro W base args ds gs before hval0 hW hcnd _
  have hval : ∀ (j : Nat) t v, Try.f3.params[j]? = some t → args[j]? = some v → Value.okWide Try.prog W .any base t v := hval0
  have hW' := hW
  obtain ⟨p, q, hA0, hV, rfl, hfz, hnd⟩ := hW
  have hA : DataW.TrodAll enc Try.prog W 0 (fun _ => true) true Try.f3.params.toList args.toList ds p := hA0
  rw [Try.params3] at hA hval
  obtain ⟨v0, vs0, d0, ds0, p0, q0, hargs, rfl, rfl, h0, r0⟩ := trodAll_cons hA
  obtain ⟨v1, vs1, d1, ds1, p1, q1, rfl, rfl, rfl, h1, r1⟩ := trodAll_cons r0
  obtain ⟨rfl, rfl, rfl⟩ := trodAll_nil r1
  obtain rfl : args = #[v0, v1] := by cases args; simp_all
  obtain ⟨a0, rfl, rfl, rfl, w0⟩ := open_int Try.underlying5 (hval 0 5 v0 rfl rfl) h0
  obtain ⟨m, rfl, hm⟩ : ∃ m : Nat, a0 = m ∧ m ≤ 255 := by
    have := bounds_u8 w0
    exact ⟨a0.toNat, by omega, by omega⟩
  obtain ⟨ao, len, cap, rfl⟩ := okWide_slice Try.underlying22 (hval 1 22 v1 rfl rfl)
  obtain ⟨hl, hlen⟩ : OpsAre W ao len ∧ len ≤ 9223372036854775807 := by
    obtain ⟨fuel, hf⟩ := h1
    rcases open_slice Try.underlying22 hf with ⟨hcs, _⟩ | ⟨x, l, c, mm, nn, D, Pl, hcs, _, hl, hmx, hmm, _, hel⟩
    · simp [Value.cells] at hcs
      obtain ⟨rfl, rfl, rfl⟩ := hcs
      exact ⟨⟨0, 0, fun i hi => by omega⟩, by omega⟩
    · simp [Value.cells] at hcs
      obtain ⟨rfl, rfl, rfl⟩ := hcs
      unfold maxLen at hmx
      refine ⟨?_, by omega⟩
      have hmm' : mm = cap := by simpa using hmm
      have hC : Try.prog.cellsOf 28 = 3 := by kernel_rfl
      rw [hC] at hel
      obtain ⟨b, off, spot⟩ := x
      have key : ∀ i, i < len → ∃ k a h, W.cell? (Addr.add ⟨b, off, spot⟩ (i * 3)) = some (.int .u8 k) ∧ W.cell? (Addr.add ⟨b, off, spot⟩ (i * 3 + 1)) = some (.int .i64 a) ∧ W.cell? (Addr.add ⟨b, off, spot⟩ (i * 3 + 2)) = some (.int .i64 h) ∧ h ≤ 9223372036854775807 := by
        intro i hi
        obtain ⟨cs', hcs, ht⟩ := hel i (by omega)
        obtain ⟨_, hln, hcl⟩ := World.cells?_some hcs
        obtain ⟨y0, y1, y2, n0, _, _, t0, t1, t2⟩ := trod_struct3 Try.underlying28 ht
        match cs', hln with
        | [e0, e1, e2], _ =>
          have z0 := hcl 0 (by omega)
          have z1 := hcl 1 (by omega)
          have z2 := hcl 2 (by omega)
          rw [Go.Deep.add_add] at z0 z1 z2
          obtain ⟨k, u0, _, _⟩ := DataW.trod_int Try.underlying5 t0
          obtain ⟨a, u1, _, _⟩ := DataW.trod_int Try.underlying3 t1
          obtain ⟨h, u2, _, wf2⟩ := DataW.trod_int Try.underlying2 t2
          have hc5 : Try.prog.cellsOf 5 = 1 := by kernel_rfl
          have hc3 : Try.prog.cellsOf 3 = 1 := by kernel_rfl
          have hc2 : Try.prog.cellsOf 2 = 1 := by kernel_rfl
          simp [hc5, hc3, hc2] at u0 u1 u2
          subst u0 u1 u2
          exact ⟨k, a, h, by simpa using z0, by simpa using z1, by simpa using z2, (bounds_i64 wf2).2⟩
      refine ⟨b, off, fun i hi => ?_⟩
      obtain ⟨k0, _, _, z0, _⟩ := key 0 (by omega)
      have hspot : spot = none := by simpa [Addr.add] using World.cell?_spot z0
      subst hspot
      refine ⟨rfl, ?_⟩
      obtain ⟨k, a, h, z0, z1, z2, hb⟩ := key i hi
      have e : ∀ n, Addr.add ⟨b, off, none⟩ n = ⟨b, off + n, none⟩ := by intro n; simp only [Addr.add]; split <;> simp_all
      rw [e] at z0 z1 z2
      exact ⟨k, a, h, z0, z1, z2, hb⟩
  refine (walk m ao len cap W hm hlen hl).mono fun e W' ⟨he, hg⟩ => ?_
  subst he
  exact ⟨_, rfl, post_law 2 4 laidOut (by kernel_rfl) rfl rfl rfl Try.underlying4 (fun l hl => by match l, hl with | [_, _], _ => rfl) hW' hg⟩

theorem over : Rows.tablePlaysRow.holds Try.pinned (OpenSpec.ofChange Rows.tablePlaysSpec) :=
  OpenClaim.holds_of_wide 3 Try.f3 rfl rfl rfl rfl rfl rfl rfl ⟨rfl, rfl, rfl, rfl, rfl⟩ rfl rfl rfl rfl rfl (by kernel_rfl) Try.func3 (by kernel_rfl)
    (of_decide_eq_true (by kernel_rfl)) (by unfold Func.isWrapper; first | (rw [if_pos (by decide +kernel)]; kernel_rfl) | (rw [if_neg (by decide +kernel)]; exact ⟨rfl, rfl⟩))
    (fun os started H enc _ => lifted os started H enc)

theorem proved : Rows.TablePlaysSaid := over
#print axioms proved
end Go.Proofs.Ytgoakjhjdoopkaa.tablePlays

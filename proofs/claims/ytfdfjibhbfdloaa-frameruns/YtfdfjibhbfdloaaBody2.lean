/-
  The body of septumlaw02, underway in a frame's step: it does its rounds. Conditions: all of it lies in blocks that are not the same; at most 60 accesses.
-/
import Derived.Test.YtfdfjibhbfdloaaProg2
import Derived.Deep.DeepCutAuto
import Derived.Deep.CutBlock
import Derived.Deep.LoopGhost
namespace Go.Proofs.Ytfdfjibhbfdloaa
open Go.RowKit Go.Sept

theorem Try.infoI64 : (Try.prog.info? 2).map (fun i => (i.zero, i.size, i.bytes)) = some (some (.int .i64 0), 1, 8) := by kernel_rfl

/-- The access of this round, as it lies in a box. -/
def BoxIns (w : World) (b : Nat) (x : Ins) : Prop := w.heap[b]? = some (.cells #[.int .u8 x.k, .int .i64 x.a, .int .i64 x.v, .int .i64 x.u, .bool x.dep, .bool x.skip, .bool x.mark] 70)

theorem BoxIns.only {w w' : World} {b : Nat} {x : Ins} {S : Nat → Prop} (h : BoxIns w b x) (ho : Only S w w') (hb : ¬ S b) : BoxIns w' b x := (ho.block b (lt_of_block h) hb).trans h
theorem BoxIns.cells {w : World} {b : Nat} {x : Ins} (h : BoxIns w b x) :
    w.cell? ⟨b, 0, none⟩ = some (.int .u8 x.k) ∧ w.cell? ⟨b, 1, none⟩ = some (.int .i64 x.a) ∧ w.cell? ⟨b, 3, none⟩ = some (.int .i64 x.u) ∧ w.cell? ⟨b, 5, none⟩ = some (.bool x.skip) ∧ w.cell? ⟨b, 6, none⟩ = some (.bool x.mark) :=
  ⟨cell_of_block h 0, cell_of_block h 1, cell_of_block h 3, cell_of_block h 5, cell_of_block h 6⟩

theorem got_new {w w1 W : World} {F lb p q P gb LB b' cap' : Nat} {lo : Option Addr} {lc : Nat} {ins : List Ins} {s : FrSt} {xs : List Int} {last : Int} {got : List Int} {gv : Value} {o : Obj} (h : Under w F lb p q P gb LB lo lc ins s xs last got)
    (g1 : w.heap[P]? = some (.cells #[.slice lo ins.length lc, gv, .int .i64 last] 33)) (g2 : Grow 2 1 w gv gb got.length (got.map (Value.int .i64))) (eW : W.heap = (w.alloc o).heap) (et : W.os = w.os ∧ W.tape = w.tape ∧ W.output = w.output)
    (hg : Grow 2 1 w1 (.slice (some ⟨b', 0, none⟩) (got.length + 1 : Nat) cap') b' (got.length + 1) (got.map (Value.int .i64) ++ [.int .i64 last])) (ho : Only (fun k => gv.ownBlock = some k) W w1) (hb : b' = gb ∨ W.heap.size ≤ b') :
    w1.heap[P]? = some (.cells #[.slice lo ins.length lc, gv, .int .i64 last] 33) ∧ Under (w1.setCell ⟨P, 1, none⟩ (.slice (some ⟨b', 0, none⟩) (got.length + 1 : Nat) cap')) F lb p q P b' LB lo lc ins s xs last (got ++ [last]) ∧ (b' = gb ∨ w.heap.size ≤ b') ∧
      Only (fun k => k = P ∨ k = gb) w (w1.setCell ⟨P, 1, none⟩ (.slice (some ⟨b', 0, none⟩) (got.length + 1 : Nat) cap')) := by
  have hO0 : Only (fun _ => False) w W := by
    have h0 := (Only.refl (fun _ => False) w).alloc o
    exact ⟨et.1, et.2.1, et.2.2, by rw [eW]; exact h0.size, fun k hk hs => by rw [eW]; exact h0.block k hk hs⟩
  have hP := lt_of_block g1
  have hfar := g2.far (by decide) g1
  have hP1 : w1.heap[P]? = some (.cells #[.slice lo ins.length lc, gv, .int .i64 last] 33) := (ho.block P (Nat.lt_of_lt_of_le hP hO0.size) hfar).trans ((hO0.block P hP (fun h => h)).trans g1)
  have hO1 : Only (fun k => k = P ∨ k = gb) w w1 := (hO0.mono (T := fun k => k = P ∨ k = gb) (fun _ _ h => h.elim)).chain ho (fun i _ e => .inr (g2.spot i e))
  have hO2 := hO1.setCell (p := ⟨P, 1, none⟩) (.inr (.inl rfl)) (.slice (some ⟨b', 0, none⟩) (got.length + 1 : Nat) cap')
  have hO3 : Only (· = P) w1 (w1.setCell ⟨P, 1, none⟩ (.slice (some ⟨b', 0, none⟩) (got.length + 1 : Nat) cap')) := (Only.self P w1).own 1 _
  have hb' : b' = gb ∨ w.heap.size ≤ b' := by
    rcases hb with h | h
    · exact .inl h
    · exact .inr (Nat.le_trans hO0.size h)
  obtain ⟨h1, h2, h3, h4⟩ := h.sep
  have not2 : ∀ {x : Nat}, x ≠ P → x ≠ gb → ¬ (x = P ∨ x = gb) := fun a b e => by
    rcases e with e | e
    · exact a e
    · exact b e
  have hbl : b' < (w1.setCell ⟨P, 1, none⟩ (.slice (some ⟨b', 0, none⟩) (got.length + 1 : Nat) cap')).heap.size := Nat.lt_of_lt_of_le (hg.lt (Nat.succ_pos _)) hO3.size
  refine ⟨hP1, ⟨h.fm.only hO2 (not2 h2.1.symm h3.1.symm) (not2 h2.2.1.symm h3.2.1.symm) (not2 h2.2.2.1.symm h3.2.2.1.symm) (not2 h2.2.2.2.symm h3.2.2.2.symm), ⟨_, by rw [block_setCell hP1]; rfl, ?_⟩,
    h.il.only hO2 (fun h0 => not2 (h4 h0).2.2.2.2.1 (h4 h0).2.2.2.2.2), h.sep.gb hO2.size hb' hbl⟩, hb', hO2⟩
  have hg' := hg.only' hO3 (fun cur hc e => by
    subst e
    rw [hP1] at hc
    injection hc with hc
    injection hc with _ hc
    exact absurd hc (by decide))
  rw [List.length_append, List.map_append]
  exact hg'

set_option maxRecDepth 100000 in
set_option maxHeartbeats 4000000 in
theorem body_rounds (w : World) (F lb p q P gb LB : Nat) (lo : Option Addr) (lc : Nat) (ins : List Ins) (s : FrSt) (xs : List Int) (last : Int) (got : List Int) (hlen : ins.length ≤ 60)
    (h : Under w F lb p q P gb LB lo lc ins s xs last got) (hi : Inv 0 s s) (hm : s.most ≤ 100000) :
    Calls Try.prog 14 #[.pointer (some ⟨P, 0, none⟩), .pointer (some ⟨F, 0, none⟩)] w fun e w' => e = .returned (.tuple #[]) ∧ ∃ lb' gb', Under w' F lb' p q P gb' LB lo lc ins (rounds ins ins.length ⟨Ctl.zero, s, xs⟩).s (rounds ins ins.length ⟨Ctl.zero, s, xs⟩).xs (rounds ins ins.length ⟨Ctl.zero, s, xs⟩).c.last (rounds ins ins.length ⟨Ctl.zero, s, xs⟩).c.got ∧
      (lb' = lb ∨ w.heap.size ≤ lb') ∧ (gb' = P ∨ w.heap.size ≤ gb') ∧ Only (fun k => k = F ∨ k = lb ∨ k = q ∨ k = P) w w' := by
  have hO0 : Only (· = P) w ((w.setCell ⟨P, 1, none⟩ (.slice none 0 0)).setCell ⟨P, 2, none⟩ (.int .i64 0)) := ((Only.self P w).own 1 _).own 2 _
  have hU0 : Under ((w.setCell ⟨P, 1, none⟩ (.slice none 0 0)).setCell ⟨P, 2, none⟩ (.int .i64 0)) F lb p q P P LB lo lc ins s xs 0 [] := by
    obtain ⟨h1, h2, h3, h4⟩ := h.sep
    refine ⟨h.fm.only hO0 h2.1.symm h2.2.1.symm h2.2.2.1.symm h2.2.2.2.symm, ?_, h.il.only hO0 (fun h0 => (h4 h0).2.2.2.2.1), ?_⟩
    · obtain ⟨gv, g1, g2⟩ := h.pr
      exact ⟨.slice none 0 0, by rw [block_setCell (block_setCell g1 1 _) 2]; rfl, Grow.nil _ _ _ _⟩
    · refine ⟨⟨?_, ?_, ?_, ?_, ?_, ?_⟩, h2, h2, fun h0 => ⟨?_, (h4 h0).2.1, (h4 h0).2.2.1, (h4 h0).2.2.2.1, (h4 h0).2.2.2.2.1, (h4 h0).2.2.2.2.1⟩⟩
      all_goals (simp; first | exact h1.1 | exact h1.2.1 | exact h1.2.2.1 | exact h1.2.2.2.1 | exact h1.2.2.2.2.1 | exact (h4 h0).1)
  have hc := h.cells
  obtain ⟨gv, hg⟩ : ∃ gv, w.cell? ⟨P, 1, none⟩ = some gv := by
    obtain ⟨gv, g1, _⟩ := h.pr
    exact ⟨gv, cell_of_block g1 1⟩
  obtain ⟨hc0, hc2, hf2, hf1⟩ := hc
  have HU0 := hid hU0
  have HO0 := hid hO0
  have HI := hid hi
  have HM := hid hm
  clear hU0 hO0 h hi hm
  go_enter Try.func14, Try.ntmps14
  go_wp2_with fail
  generalize hw0 : ((w.setCell ⟨P, 1, none⟩ (.slice none 0 0)).setCell ⟨P, 2, none⟩ (.int .i64 0)) = w0 at *
  clear hw0 hc0 hc2 hf2 hf1 hg
  go_loopg [4] (ins.length + 1) (fun g i wr => ∃ j c s1 xs1 lb1 gb1, (⟨c, s1, xs1⟩ : St) = rounds ins j ⟨Ctl.zero, s, xs⟩ ∧ j ≤ ins.length ∧ j ≤ c.i ∧ c.i ≤ ins.length + 1 ∧ c.got.length ≤ j ∧ g = ins.length + 1 - c.i ∧ i = .int .i64 (c.i : Int) ∧
    Under wr F lb1 p q P gb1 LB lo lc ins s1 xs1 c.last c.got ∧ (lb1 = lb ∨ w.heap.size ≤ lb1) ∧ (gb1 = P ∨ w.heap.size ≤ gb1) ∧ Only (fun k => k = F ∨ k = lb ∨ k = q ∨ k = P) w wr)
  case atStart => exact ⟨0, Ctl.zero, s, xs, lb, P, rfl, Nat.zero_le _, Nat.zero_le _, Nat.zero_le _, Nat.le_refl _, rfl, rfl, HU0.out, .inl rfl, .inl rfl, HO0.out.mono (fun _ _ e => .inr (.inr (.inr e)))⟩
  case round =>
    obtain ⟨j, c, s1, xs1, lb1, gb1, hst, hj1, hj2, hci, hgl, rfl, rfl, hU, hlb, hgb, hO⟩ := hrel
    have HST := hid hst
    have HU := hid hU
    have hlens : (ins.length : Int) ≤ 60 := by omega
    have hcis : (c.i : Int) ≤ ins.length + 1 := by omega
    obtain ⟨hc0, hc2, hf2, hf1⟩ := hU.cells
    clear HU0 HO0
    by_cases hlt : c.i < ins.length
    · have hlt' : (c.i : Int) < ins.length := by omega
      obtain ⟨off, hins⟩ := hU.il
      obtain ⟨rfl, d0, d1, d2, d3, d4, d5, d6⟩ := hins c.i hlt
      obtain ⟨x, hx⟩ : ∃ x, x = ins.getD c.i noIns := ⟨_, rfl⟩
      rw [← hx] at d0 d1 d2 d3 d4 d5 d6
      have HX := hid hx
      clear hst hU hx hins
      have hI1 : Inv j s s1 := by
        have h1 := rounds_inv (ins := ins) (st := ⟨Ctl.zero, s, xs⟩) HI.out j
        rw [← HST.out] at h1
        exact h1
      have hR : Ready s1 := ⟨by have := hI1.unheard; omega, by have h1 := hI1.short; have h2 := hI1.most; have h3 := HM.out; omega, hI1.behind⟩
      have HR := hid hR
      have HI1 := hid hI1
      clear hR hI1
      have hPlt : P < wr.heap.size := HU.out.sep.z.2.2.2.2.1
      have hO1 : Only (fun _ => False) wr (wr.alloc (.cells #[.int .u8 x.k, .int .i64 x.a, .int .i64 x.v, .int .i64 x.u, .bool x.dep, .bool x.skip, .bool x.mark] 70)) := (Only.refl _ _).alloc _
      have hX1 : BoxIns (wr.alloc (.cells #[.int .u8 x.k, .int .i64 x.a, .int .i64 x.v, .int .i64 x.u, .bool x.dep, .bool x.skip, .bool x.mark] 70)) wr.heap.size x := heap_new _ _
      have HU1 := hid (HU.out.only hO1)
      have HX1 := hid hX1
      have HO1 := hid hO1
      clear hX1 hO1
      go_upto_if 33 with fail
      go_cut [6] (fun v wc => v = .int .i64 (c.val x) ∧ wc = wr.alloc (.cells #[.int .u8 x.k, .int .i64 x.a, .int .i64 x.v, .int .i64 x.u, .bool x.dep, .bool x.skip, .bool x.mark] 70))
      case first =>
        cases hdep : x.dep
        · go_wp2_with fail
          go_meet
          case rel => exact ⟨by simp [Ctl.val, hdep], by rw [hdep]⟩
        · go_wp2_with fail
          go_meet
          case rel => exact ⟨by simp [Ctl.val, hdep], by rw [hdep]⟩
      case rest =>
        obtain ⟨rfl, rfl⟩ := hcut
        have hXn : ¬ wr.heap.size < wr.heap.size := Nat.lt_irrefl _
        have hXn2 : ∀ k, k < wr.heap.size → k ≠ wr.heap.size := fun k hk e => by omega
        have HXn := hid hXn2
        clear hXn hXn2 d0 d1 d2 d3 d4 d5 d6 hc0 hc2 hf2 hf1
        generalize hw1 : wr.alloc (.cells #[.int .u8 x.k, .int .i64 x.a, .int .i64 x.v, .int .i64 x.u, .bool x.dep, .bool x.skip, .bool x.mark] 70) = w1 at *
        clear hw1
        obtain ⟨X, hXe⟩ : ∃ X, X = wr.heap.size := ⟨_, rfl⟩
        rw [← hXe] at HX1 HXn hPlt
        have HXe := hid hXe
        have hg0 := HX1.out.cells.1
        obtain ⟨_, hc2, hf2, _⟩ := HU1.out.cells
        rw [show wr.heap.size = X from hXe.symm]
        clear hXe
        have HU2 := hid (HU1.out.put 0)
        have HX2 := hid (HX1.out.only HU2.out.2 (fun e => HXn.out P hPlt e.symm))
        go_upto_block 2 with fail
        generalize hw2 : w1.setCell ⟨P, 2, none⟩ (.int .i64 0) = w2 at *
        clear hw2 hc2 hf2 hg0
        obtain ⟨R, hRR⟩ : ∃ R, R = acc x.k x.a (c.val x) x.u s1 xs1 := ⟨_, rfl⟩
        have HRR := hid hRR
        clear hRR
        obtain ⟨e0, e1, e3, e5, e6⟩ := HX2.out.cells
        go_cut [7] (fun o wc => o = .bool c.odd ∧ ∃ lb2, Under wc F lb2 p q P gb1 LB (some ⟨LB, off, none⟩) lc ins R.2.1 R.2.2 (lastOf x R.1) c.got ∧ BoxIns wc X x ∧ (lb2 = lb1 ∨ w2.heap.size ≤ lb2) ∧ Only (fun k => k = F ∨ k = lb1 ∨ k = q ∨ k = P) w2 wc)
        case first =>
          have hFX : F ≠ X := HXn.out F (by have := HU.out.sep.z.1; have := HXe.out; omega)
          have hlX : lb1 ≠ X := HXn.out lb1 (by have := HU.out.sep.z.2.1; have := HXe.out; omega)
          have hqX : q ≠ X := HXn.out q (by have := HU.out.sep.z.2.2.2.1; have := HXe.out; omega)
          have hPX : P ≠ X := HXn.out P hPlt
          have HN := hid (not3 hFX.symm hlX.symm hqX.symm)
          have HPX := hid hPX
          clear hFX hlX hqX hPX
          by_cases k0 : x.k = 0
          · have b0 : (x.k == 0) = true := by simp [k0]
            have HK := hid k0
            clear k0
            have HRk : Hid (R = acc 0 x.a (c.val x) x.u s1 xs1) := by have h9 := HRR.out; rw [HK.out] at h9; exact h9
            go_wp2_with fail
            refine (fload_rel _ F lb1 p q s1 xs1 HU2.out.1.fm HR.out _ (c.val x) x.u).mono ?_
            rintro e w3 ⟨rfl, hL⟩
            rw [← HRk.out] at hL
            rw [← HRk.out]
            obtain ⟨lb3, hU3, hb3, hO3⟩ := HU2.out.1.acc hL
            have hX3 := HX2.out.only hO3 HN.out
            obtain ⟨_, m2, n2, _⟩ := hU3.cells
            have H3 := hid (hU3.put R.1)
            have HX3 := hid (hX3.only H3.out.2 HPX.out.symm)
            have HO3 := hid ((hO3.mono (T := fun k => k = F ∨ k = lb1 ∨ k = q ∨ k = P) (fun _ _ e => by rcases e with e | e | e; exact .inl e; exact .inr (.inl e); exact .inr (.inr (.inl e)))).chain H3.out.2 (fun _ _ e => .inr (.inr (.inr e))))
            have HB3 := hid hb3
            clear hL hU3 hb3 hO3 hX3
            go_wp2_with fail
            go_meet
            case rel =>
              refine ⟨rfl, lb3, ?_, HX3.out, HB3.out, HO3.out⟩
              rw [lastOf, if_pos HK.out]
              exact H3.out.1
          · have b0 : (x.k == 0) = false := beq_eq_false_iff_ne.2 k0
            have HK0 := hid k0
            clear k0
            by_cases k1 : x.k = 1
            · have b1 : (x.k == 1) = true := by simp [k1]
              have HK := hid k1
              clear k1
              have HRk : Hid (R = acc 1 x.a (c.val x) x.u s1 xs1) := by have h9 := HRR.out; rw [HK.out] at h9; exact h9
              go_wp2_with fail
              refine (fstore_rel _ F lb1 p q s1 xs1 HU2.out.1.fm HR.out _ (c.val x) x.u).mono ?_
              rintro e w3 ⟨rfl, hL⟩
              rw [← HRk.out] at hL
              obtain ⟨lb3, hU3, hb3, hO3⟩ := HU2.out.1.acc hL
              have hX3 := HX2.out.only hO3 HN.out
              have H3 := hid hU3
              have HX3 := hid hX3
              have HO3 := hid (hO3.mono (T := fun k => k = F ∨ k = lb1 ∨ k = q ∨ k = P) (fun _ _ e => by rcases e with e | e | e; exact .inl e; exact .inr (.inl e); exact .inr (.inr (.inl e))))
              have HB3 := hid hb3
              clear hL hU3 hb3 hO3 hX3
              go_wp2_with fail
              go_meet
              case rel =>
                refine ⟨rfl, lb3, ?_, HX3.out, HB3.out, HO3.out⟩
                rw [lastOf, if_neg HK0.out, if_pos HK.out]
                exact H3.out
            · have b1 : (x.k == 1) = false := beq_eq_false_iff_ne.2 k1
              have HK1 := hid k1
              clear k1
              by_cases k2 : x.k = 2
              · have b2 : (x.k == 2) = true := by simp [k2]
                have HK := hid k2
                clear k2
                have HRk : Hid (R = acc 2 x.a (c.val x) x.u s1 xs1) := by have h9 := HRR.out; rw [HK.out] at h9; exact h9
                go_wp2_with fail
                refine (fadd_rel _ F lb1 p q s1 xs1 HU2.out.1.fm HR.out _ (c.val x) x.u).mono ?_
                rintro e w3 ⟨rfl, hL⟩
                rw [← HRk.out] at hL
                rw [← HRk.out]
                obtain ⟨lb3, hU3, hb3, hO3⟩ := HU2.out.1.acc hL
                have hX3 := HX2.out.only hO3 HN.out
                obtain ⟨_, m2, n2, _⟩ := hU3.cells
                have H3 := hid (hU3.put R.1)
                have HX3 := hid (hX3.only H3.out.2 HPX.out.symm)
                have HO3 := hid ((hO3.mono (T := fun k => k = F ∨ k = lb1 ∨ k = q ∨ k = P) (fun _ _ e => by rcases e with e | e | e; exact .inl e; exact .inr (.inl e); exact .inr (.inr (.inl e)))).chain H3.out.2 (fun _ _ e => .inr (.inr (.inr e))))
                have HB3 := hid hb3
                clear hL hU3 hb3 hO3 hX3
                go_wp2_with fail
                go_meet
                case rel =>
                  refine ⟨rfl, lb3, ?_, HX3.out, HB3.out, HO3.out⟩
                  rw [lastOf, if_neg HK0.out, if_neg HK1.out, if_pos HK.out]
                  exact H3.out.1
              · have b2 : (x.k == 2) = false := beq_eq_false_iff_ne.2 k2
                have HK2 := hid k2
                clear k2
                go_wp2_with fail
                refine (fswap_rel _ F lb1 p q s1 xs1 HU2.out.1.fm HR.out x.k _ (c.val x) x.u HK0.out HK1.out HK2.out).mono ?_
                rintro e w3 ⟨rfl, hL⟩
                rw [← HRR.out] at hL
                rw [← HRR.out]
                obtain ⟨lb3, hU3, hb3, hO3⟩ := HU2.out.1.acc hL
                have hX3 := HX2.out.only hO3 HN.out
                cases hsw : (R.1 != 0)
                · have H3 := hid hU3
                  have HX3 := hid hX3
                  have HO3 := hid (hO3.mono (T := fun k => k = F ∨ k = lb1 ∨ k = q ∨ k = P) (fun _ _ e => by rcases e with e | e | e; exact .inl e; exact .inr (.inl e); exact .inr (.inr (.inl e))))
                  have HB3 := hid hb3
                  have HSW := hid hsw
                  clear hL hU3 hb3 hO3 hX3 hsw
                  go_wp2_with fail
                  go_meet
                  case rel =>
                    refine ⟨rfl, lb3, ?_, HX3.out, HB3.out, HO3.out⟩
                    rw [lastOf, if_neg HK0.out, if_neg HK1.out, if_neg HK2.out, if_neg (by rw [HSW.out]; exact Bool.false_ne_true)]
                    exact H3.out
                · obtain ⟨_, m2, n2, _⟩ := hU3.cells
                  have H3 := hid (hU3.put 1)
                  have HX3 := hid (hX3.only H3.out.2 HPX.out.symm)
                  have HO3 := hid ((hO3.mono (T := fun k => k = F ∨ k = lb1 ∨ k = q ∨ k = P) (fun _ _ e => by rcases e with e | e | e; exact .inl e; exact .inr (.inl e); exact .inr (.inr (.inl e)))).chain H3.out.2 (fun _ _ e => .inr (.inr (.inr e))))
                  have HB3 := hid hb3
                  have HSW := hid hsw
                  clear hL hU3 hb3 hO3 hX3 hsw
                  go_wp2_with fail
                  go_meet
                  case rel =>
                    refine ⟨rfl, lb3, ?_, HX3.out, HB3.out, HO3.out⟩
                    rw [lastOf, if_neg HK0.out, if_neg HK1.out, if_neg HK2.out, if_pos HSW.out]
                    exact H3.out.1
        case rest =>
          obtain ⟨rfl, lb2, hU3, hX3, hb2, hO3⟩ := hcut
          obtain ⟨wB, rfl⟩ : ∃ wB, wB = wc := ⟨wc, rfl⟩
          obtain ⟨r, hr⟩ : ∃ r, r = lastOf x R.1 := ⟨_, rfl⟩
          rw [← hr] at hU3
          obtain ⟨gv, g1, g2⟩ := hU3.pr
          obtain ⟨ga, gc, rfl, _, _⟩ := g2.shape
          have c1 : wB.cell? ⟨P, 1, none⟩ = some (.slice ga c.got.length gc) := cell_of_block g1 1
          have c2 : wB.cell? ⟨P, 2, none⟩ = some (.int .i64 r) := cell_of_block g1 2
          have hPc : P < wB.heap.size := lt_of_block g1
          have HX3 := hid hX3
          have HU3 := hid hU3
          have HG1 := hid g1
          have HG2 := hid g2
          have HB2 := hid hb2
          have HO3 := hid hO3
          have Hr := hid hr
          clear hX3 hU3 g1 g2 hb2 hO3 hr e0 e1 e3 e5 e6
          go_upto_region 19 with fail
          go_cut [] (fun wd => ∃ gb2, Under wd F lb2 p q P gb2 LB (some ⟨LB, off, none⟩) lc ins R.2.1 R.2.2 r (c.got ++ [r]) ∧ BoxIns wd X x ∧ (gb2 = gb1 ∨ wB.heap.size ≤ gb2) ∧ Only (fun k => k = P ∨ k = gb1) wB wd)
          case first =>
            have hgX : gb1 ≠ X := HXn.out gb1 (by have := HU.out.sep.z.2.2.2.2.2; have := HXe.out; omega)
            have hPX : P ≠ X := HXn.out P hPlt
            have HNX : Hid (¬ (X = P ∨ X = gb1)) := fun e => by
              rcases e with e | e
              · exact hPX e.symm
              · exact hgX e.symm
            clear hgX hPX
            go_region_law (refine step_append_grown _ rfl (.tmp 91) (.tmp 96) 31 rfl 2 _ 1 8 Try.underlying31 Try.infoI64 rfl (by decide) (.slice ga c.got.length gc) gb1 c.got.length (c.got.map (Value.int .i64)) rfl ((HG2.out.only ((Only.refl (fun _ => False) wB).alloc (.cells #[.int .i64 r] 2)) (fun h => h)).same rfl) ⟨wB.heap.size, 0, none⟩ 1 1 [.int .i64 r] rfl (by decide) rfl (news_of_block (heap_new wB (.cells #[.int .i64 r] 2))) (by intro u hu; simp at hu; subst hu; rfl) (by unfold maxLen; omega) (by omega) ?_; intro b' cap' w5 hg ho hbb; have HK := got_new HU3.out HG1.out HG2.out (o := .cells #[.int .i64 r] 2) (W := (wB.alloc (.cells #[.int .i64 r] 2)).drew) rfl ⟨rfl, rfl, rfl⟩ hg ho hbb; have d1 : w5.cell? ⟨P, 1, none⟩ = some (.slice ga c.got.length gc) := cell_of_block HK.1 1; have f1 := frozen_of_block HK.1 1; have HK2 := hid HK.2; clear HK hg ho hbb)
            all_goals
              go_wp2_with fail
              go_meet
              case rel => exact ⟨b', HK2.out.1, HX3.out.only HK2.out.2.2 HNX.out, HK2.out.2.1, HK2.out.2.2⟩
          case rest =>
            obtain ⟨gb2, hU4, hX4, hgb2, hO4⟩ := hcut
            obtain ⟨wD, rfl⟩ : ∃ wD, wD = wc := ⟨wc, rfl⟩
            obtain ⟨_, _, _, _, e6⟩ := hX4.cells
            have HU4 := hid hU4
            have HX4 := hid hX4
            have HGB2 := hid hgb2
            have HO4 := hid hO4
            clear hU4 hX4 hgb2 hO4 c1 c2 hPc
            have hI2 : Inv (j + 1) s R.2.1 := by
              rw [HRR.out]
              exact HI1.out.acc _ _ _ _ _
            have HI2 := hid hI2
            clear hI2
            go_upto_if 101 with fail
            go_cut [] (fun we => Under we F lb2 p q P gb2 LB (some ⟨LB, off, none⟩) lc ins (if x.mark = true then R.2.1.toMark else R.2.1) R.2.2 r (c.got ++ [r]) ∧ BoxIns we X x ∧ Only (· = F) wD we)
            case first =>
              cases hmk : x.mark
              · have HMK := hid hmk
                clear hmk
                go_wp2_with fail
                go_meet
                case rel => exact ⟨by rw [if_neg (by rw [HMK.out]; exact Bool.false_ne_true)]; exact HU4.out, HX4.out, Only.refl _ _⟩
              · have HMK := hid hmk
                clear hmk
                go_wp2_with fail
                refine (mark_rel _ F lb2 p q R.2.1 R.2.2 HU4.out.fm HI2.out.behind (by have h1 := HI2.out.short; have h2 := HI2.out.most; have h3 := HM.out; omega)).mono ?_
                rintro e w6 ⟨rfl, hf6, ho6⟩
                have HF6 := hid hf6
                have HO6 := hid ho6
                clear hf6 ho6
                go_wp2_with fail
                go_meet
                case rel =>
                  obtain ⟨h1, h2, h3, h4⟩ := HU4.out.sep
                  have hFX : F ≠ X := HXn.out F (by have := HU.out.sep.z.1; have := HXe.out; omega)
                  exact ⟨by rw [if_pos HMK.out]; exact ⟨HF6.out, HU4.out.pr.only HO6.out h2.1 h3.1, HU4.out.il.only HO6.out (fun h0 => (h4 h0).2.1), HU4.out.sep.lb HO6.out.size (.inl rfl) (Nat.lt_of_lt_of_le h1.2.1 HO6.out.size)⟩, HX4.out.only HO6.out hFX.symm, HO6.out⟩
            case rest =>
              obtain ⟨hU5, hX5, hO5⟩ := hcut
              obtain ⟨_, _, _, e5, _⟩ := hX5.cells
              have HFIN : Hid (∃ c' : Ctl, (⟨c', if x.mark = true then R.2.1.toMark else R.2.1, R.2.2⟩ : St) = rounds ins (j + 1) ⟨Ctl.zero, s, xs⟩ ∧ c'.i = c.i + 1 + (if (x.skip && c.odd) = true then 1 else 0) ∧ c'.last = r ∧ c'.got = c.got ++ [r]) := by
                refine ⟨adv ins c R.1 (R.2.1.log.getD (R.2.1.asked - 1) (0, 0)).2, ?_, ?_, ?_, ?_⟩
                · show _ = round ins (rounds ins j ⟨Ctl.zero, s, xs⟩)
                  rw [← HST.out, round, if_pos hlt]
                  dsimp only
                  rw [← HX.out, ← HRR.out]
                · rw [HX.out]
                  rfl
                · rw [Hr.out, HX.out]
                  rfl
                · rw [Hr.out, HX.out]
                  rfl
              have HONLY : Hid (Only (fun k => k = F ∨ k = lb ∨ k = q ∨ k = P) w wc) := by
                have z0 := hO.size
                have z1 := HO1.out.size
                have z2 := HU2.out.2.size
                have z3 := HO3.out.size
                refine ((((hO.chain HO1.out (fun _ _ e => e.elim)).chain HU2.out.2 (fun _ _ e => .inr (.inr (.inr e)))).chain HO3.out (fun i hi e => ?_)).chain HO4.out (fun i hi e => ?_)).chain hO5 (fun _ _ e => .inl e)
                · rcases e with e | e | e | e
                  · exact .inl e
                  · rcases hlb with h9 | h9
                    · exact .inr (.inl (e.trans h9))
                    · omega
                  · exact .inr (.inr (.inl e))
                  · exact .inr (.inr (.inr e))
                · rcases e with e | e
                  · exact .inr (.inr (.inr e))
                  · rcases hgb with h9 | h9
                    · exact .inr (.inr (.inr (e.trans h9)))
                    · omega
              have HLB : Hid (lb2 = lb ∨ w.heap.size ≤ lb2) := by
                have z0 := hO.size
                have z1 := HO1.out.size
                have z2 := HU2.out.2.size
                rcases HB2.out with h9 | h9
                · rcases hlb with h8 | h8
                  · exact .inl (h9.trans h8)
                  · exact .inr (by omega)
                · exact .inr (by omega)
              have HGB : Hid (gb2 = P ∨ w.heap.size ≤ gb2) := by
                have z0 := hO.size
                have z1 := HO1.out.size
                have z2 := HU2.out.2.size
                have z3 := HO3.out.size
                rcases HGB2.out with h9 | h9
                · rcases hgb with h8 | h8
                  · exact .inl (h9.trans h8)
                  · exact .inr (by omega)
                · exact .inr (by omega)
              have HU5 := hid hU5
              clear hU5 hX5 hO5 hlb hgb hO e6
              cases hsk : x.skip
              · have HSK := hid hsk
                rw [hsk] at e5
                clear hsk
                go_wp2_with fail
                obtain ⟨c', q1, q2, q3, q4⟩ := HFIN.out
                rw [HSK.out, Bool.false_and, if_neg Bool.false_ne_true] at q2
                go_roundg (ins.length + 1 - c'.i)
                case measure => omega
                case rel => exact ⟨j + 1, c', _, R.2.2, lb2, gb2, q1, by omega, by omega, by omega, by rw [q4]; simp; omega, rfl, by rw [q2]; go_num, by rw [q3, q4]; exact HU5.out, HLB.out, HGB.out, HONLY.out⟩
              · cases hod : c.odd
                · have HSK := hid hsk
                  have HOD := hid hod
                  rw [hsk] at e5
                  clear hsk hod
                  go_wp2_with fail
                  obtain ⟨c', q1, q2, q3, q4⟩ := HFIN.out
                  rw [HSK.out, HOD.out, Bool.true_and, if_neg Bool.false_ne_true] at q2
                  go_roundg (ins.length + 1 - c'.i)
                  case measure => omega
                  case rel => exact ⟨j + 1, c', _, R.2.2, lb2, gb2, q1, by omega, by omega, by omega, by rw [q4]; simp; omega, rfl, by rw [q2]; go_num, by rw [q3, q4]; exact HU5.out, HLB.out, HGB.out, HONLY.out⟩
                · have HSK := hid hsk
                  have HOD := hid hod
                  rw [hsk] at e5
                  clear hsk hod
                  go_wp2_with fail
                  obtain ⟨c', q1, q2, q3, q4⟩ := HFIN.out
                  rw [HSK.out, HOD.out, Bool.true_and, if_pos rfl] at q2
                  go_roundg (ins.length + 1 - c'.i)
                  case measure => omega
                  case rel => exact ⟨j + 1, c', _, R.2.2, lb2, gb2, q1, by omega, by omega, by omega, by rw [q4]; simp; omega, rfl, by rw [q2]; go_num, by rw [q3, q4]; exact HU5.out, HLB.out, HGB.out, HONLY.out⟩
    · have HEND : Hid (rounds ins ins.length ⟨Ctl.zero, s, xs⟩ = ⟨c, s1, xs1⟩) := by
        obtain ⟨d, hd⟩ : ∃ d, ins.length = j + d := ⟨ins.length - j, by omega⟩
        show rounds ins ins.length ⟨Ctl.zero, s, xs⟩ = ⟨c, s1, xs1⟩
        have e1 : rounds ins ins.length ⟨Ctl.zero, s, xs⟩ = rounds ins d (rounds ins j ⟨Ctl.zero, s, xs⟩) := by rw [← rounds_add, ← hd]
        rw [e1, ← HST.out]
        exact rounds_over hlt d
      have HLB := hid hlb
      have HGB := hid hgb
      have HO := hid hO
      clear hst hU hlb hgb hO hf2 hf1 hc2
      go_wp2_with fail
      go_end0
      refine ⟨rfl, lb1, gb1, ?_, HLB.out, HGB.out, HO.out⟩
      rw [HEND.out]
      exact HU.out
end Go.Proofs.Ytfdfjibhbfdloaa

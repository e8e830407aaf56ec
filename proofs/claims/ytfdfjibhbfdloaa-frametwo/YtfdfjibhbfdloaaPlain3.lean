/-
  septumlaw02's plain accesses: a step that does the next one. Conditions: all of it lies in blocks that are not the same; at most 60 accesses.
-/
import Derived.Test.YtfdfjibhbfdloaaPlain2
namespace Go.Proofs.Ytfdfjibhbfdloaa
open Go.RowKit Go.Sept

set_option maxRecDepth 100000 in
set_option maxHeartbeats 4000000 in
theorem pstep_go (w : World) (Q gb rp rq LB : Nat) (lo : Option Addr) (lc : Nat) (ins : List Ins) (c : Ctl) (n : Nat) (ys : List Int) (now : Int) (h : Plain w Q gb rp rq LB lo lc ins (PR.of c n) ys) (hlen : ins.length ≤ 60) (hc : c.i < ins.length) (hn : n ≤ 1000) (hgl : c.got.length ≤ 1000) (x : Ins) (hx : x = ins.getD c.i noIns) :
    Calls Try.prog 15 #[.pointer (some ⟨Q, 0, none⟩), .pointer (some ⟨rp, 0, none⟩), .int .i64 now] w fun e w' => e = .returned (.bool true) ∧ ∃ gb', Plain w' Q gb' rp rq LB lo lc ins (PR.of (adv ins c (ansA x.k x.a x.u ys) now) (n + 1)) (aftA x.k x.a (c.val x) x.u ys) ∧
      (gb' = gb ∨ w.heap.size ≤ gb') ∧ Only (fun k => k = Q ∨ k = gb ∨ k = rq) w w' := by
  have hc' : ¬ (ins.length : Int) ≤ c.i := by omega
  have hci : (c.i : Int) < ins.length := by omega
  have hci2 : (0 : Int) ≤ (c.i : Int) ∧ (c.i : Int) < ins.length := by omega
  have hlens : (ins.length : Int) ≤ 60 := by omega
  have hn' : (n : Int) ≤ 1000 := by omega
  obtain ⟨c0, c1, _⟩ := h.cells
  have c1' : w.cell? ⟨Q, 1, none⟩ = some (.int .i64 (c.i : Int)) := c1
  obtain ⟨off, hins⟩ := h.il
  obtain ⟨hlo, d0, d1, d2, d3, d4, d5, d6⟩ := hins c.i hc
  rw [← hx] at d0 d1 d2 d3 d4 d5 d6
  subst hlo
  have H := hid h
  have HX := hid hx
  have hQ : Q < w.heap.size := h.z.1
  clear h c1 hins hx
  go_enter Try.func15, Try.ntmps15
  go_wp2_with fail
  go_quiet (fail)
  have HW0 : Hid (Only (fun _ => False) w (w.drewN nq)) := only_drewN (Only.refl _ _) _
  have H0 := hid (H.out.still HW0.out)
  have k0 : (w.drewN nq).cell? ⟨Q, 0, none⟩ = some (.slice (some ⟨LB, off, none⟩) ins.length lc) := c0
  have k1 : (w.drewN nq).cell? ⟨Q, 1, none⟩ = some (.int .i64 (c.i : Int)) := c1'
  have e0 : (w.drewN nq).cell? ⟨LB, off + c.i * 7, none⟩ = some (.int .u8 x.k) := d0
  have e1 : (w.drewN nq).cell? ⟨LB, off + c.i * 7 + 1, none⟩ = some (.int .i64 x.a) := d1
  have e2 : (w.drewN nq).cell? ⟨LB, off + c.i * 7 + 2, none⟩ = some (.int .i64 x.v) := d2
  have e3 : (w.drewN nq).cell? ⟨LB, off + c.i * 7 + 3, none⟩ = some (.int .i64 x.u) := d3
  have e4 : (w.drewN nq).cell? ⟨LB, off + c.i * 7 + 4, none⟩ = some (.bool x.dep) := d4
  have e5 : (w.drewN nq).cell? ⟨LB, off + c.i * 7 + 5, none⟩ = some (.bool x.skip) := d5
  have e6 : (w.drewN nq).cell? ⟨LB, off + c.i * 7 + 6, none⟩ = some (.bool x.mark) := d6
  have hQ0 : Q < (w.drewN nq).heap.size := hQ
  have hL0 : LB < (w.drewN nq).heap.size := World.block_lt_of_cell? _ _ d0
  clear c0 c1' d0 d1 d2 d3 d4 d5 d6 hQ H
  generalize w.drewN nq = w0 at *
  go_upto_region 3 with fail
  go_cut [7] (fun xp wc => ∃ X, xp = .pointer (some ⟨X, 0, none⟩) ∧ BoxIns wc X x ∧ w0.heap.size ≤ X ∧ Only (fun _ => False) w0 wc)
  case first =>
    go_region
    all_goals
      go_wp2_with fail
      go_meet
      case rel => exact ⟨w0.heap.size, rfl, heap_new _ _, Nat.le_refl _, ((Only.refl (fun _ => False) w0).alloc _).drew⟩
  case rest =>
    obtain ⟨X, rfl, hX1, hXw, hO1⟩ := hcut
    obtain ⟨w1, rfl⟩ : ∃ w1, w1 = wc := ⟨wc, rfl⟩
    have P1 := hid (H0.out.still hO1)
    have HX1 := hid hX1
    have HO1 := hid (HW0.out.chain hO1 (fun _ _ h => h))
    have x2 : w1.cell? ⟨X, 2, none⟩ = some (.int .i64 x.v) := cell_of_block hX1 2
    have x4 : w1.cell? ⟨X, 4, none⟩ = some (.bool x.dep) := cell_of_block hX1 4
    have x0 : w1.cell? ⟨X, 0, none⟩ = some (.int .u8 x.k) := cell_of_block hX1 0
    obtain ⟨_, _, q2, _, _, _, qf⟩ := P1.out.cells
    have q2' : w1.cell? ⟨Q, 2, none⟩ = some (.int .i64 c.last) := q2
    have f2 := qf 2
    have hQX : Q ≠ X := by omega
    have hzw : w.heap.size ≤ w0.heap.size := HW0.out.size
    have Hgx : Hid (gb ≠ X ∧ rq ≠ X) := ⟨by have := H0.out.z.2.1; omega, by have := H0.out.z.2.2.2; omega⟩
    have HQX := hid hQX
    clear hX1 hO1 k0 k1 e0 e1 e2 e3 e4 e5 e6 q2 qf hQX
    go_upto_if 35 with fail
    go_cut [8] (fun v wc => v = .int .i64 (c.val x) ∧ wc = w1)
    case first =>
      cases hdep : x.dep
      · rw [hdep] at x4
        go_wp2_with fail
        go_meet
        case rel => exact ⟨by simp [Ctl.val, hdep], rfl⟩
      · rw [hdep] at x4
        go_wp2_with fail
        go_meet
        case rel => exact ⟨by simp [Ctl.val, hdep], rfl⟩
    case rest =>
      obtain ⟨rfl, rfl⟩ := hcut
      have P2 := hid (P1.out.put (r' := { PR.of c n with last := 0 }) 2 (.int .i64 0) (fun _ _ => rfl) rfl)
      have HX2 := hid (HX1.out.only P2.out.2 HQX.out.symm)
      go_upto_block 0 with fail
      generalize hw2 : wc.setCell ⟨Q, 2, none⟩ (.int .i64 0) = w2 at *
      clear hw2 x2 x4 x0 q2' f2
      obtain ⟨y0, y1, y3, y5, y6⟩ := HX2.out.cells
      have HO2 := hid (HO1.out.mono (T := fun k => k = Q ∨ k = gb ∨ k = rq) (fun _ _ h => h.elim) |>.chain P2.out.2 (fun _ _ e => .inl e))
      obtain ⟨A, hA⟩ : ∃ A, A = ansA x.k x.a x.u ys := ⟨_, rfl⟩
      have HA := hid hA
      clear hA
      go_cut [9] (fun o wc => o = .bool c.odd ∧ Plain wc Q gb rp rq LB (some ⟨LB, off, none⟩) lc ins { PR.of c n with last := lastOf x A } (aftA x.k x.a (c.val x) x.u ys) ∧ BoxIns wc X x ∧ Only (fun k => k = Q ∨ k = rq) w2 wc)
      case first =>
        by_cases k0 : x.k = 0
        · have b0 : (x.k == 0) = true := by simp [k0]
          have HK := hid k0
          clear k0
          go_wp2_with fail
          refine (ref_load_rel _ _ rp rq ys P2.out.1.rm (by simp) _).mono ?_
          rintro e w3 ⟨rfl, rfl⟩
          obtain ⟨_, _, m2, _, _, _, mf⟩ := P2.out.1.cells
          have n2 := mf 2
          have P3 := hid (P2.out.1.put (r' := { PR.of c n with last := valA ys x.a }) 2 (.int .i64 (valA ys x.a)) (fun _ _ => rfl) rfl)
          clear mf
          go_wp2_with fail
          go_meet
          case rel =>
            refine ⟨rfl, ?_, HX2.out.only P3.out.2 HQX.out.symm, P3.out.2.mono (fun _ _ e => .inl e)⟩
            rw [HA.out, ansA, if_pos HK.out, lastOf, if_pos HK.out, aftA, if_pos HK.out]
            exact P3.out.1
        · have b0 : (x.k == 0) = false := beq_eq_false_iff_ne.2 k0
          have HK0 := hid k0
          clear k0
          by_cases k1 : x.k = 1
          · have b1 : (x.k == 1) = true := by simp [k1]
            have HK := hid k1
            clear k1
            go_wp2_with fail
            refine (ref_sto_rel _ _ rp rq ys P2.out.1.rm (by simp) _ _).mono ?_
            rintro e w3 ⟨rfl, hh3, ho3⟩
            have P3 := hid (P2.out.1.mem hh3 ho3)
            have HX3 := hid (HX2.out.only ho3 Hgx.out.2.symm)
            have HO3 := hid ho3
            clear hh3 ho3
            go_wp2_with fail
            go_meet
            case rel =>
              refine ⟨rfl, ?_, HX3.out, HO3.out.mono (fun _ _ e => .inr e)⟩
              rw [lastOf, if_neg HK0.out, if_pos HK.out, aftA, if_neg HK0.out, if_pos HK.out]
              exact P3.out
          · have b1 : (x.k == 1) = false := beq_eq_false_iff_ne.2 k1
            have HK1 := hid k1
            clear k1
            by_cases k2 : x.k = 2
            · have b2 : (x.k == 2) = true := by simp [k2]
              have HK := hid k2
              clear k2
              go_wp2_with fail
              refine (ref_add_rel _ _ rp rq ys P2.out.1.rm (by simp) _ _).mono ?_
              rintro e w3 ⟨rfl, hh3, ho3⟩
              have P3 := hid (P2.out.1.mem hh3 ho3)
              have HX3 := hid (HX2.out.only ho3 Hgx.out.2.symm)
              obtain ⟨_, _, m2, _, _, _, mf⟩ := P3.out.cells
              have n2 := mf 2
              have P4 := hid (P3.out.put (r' := { PR.of c n with last := valA ys x.a }) 2 (.int .i64 (valA ys x.a)) (fun _ _ => rfl) rfl)
              have HO3 := hid ((ho3.mono (T := fun k => k = Q ∨ k = rq) (fun _ _ e => .inr e)).chain P4.out.2 (fun _ _ e => .inl e))
              clear hh3 ho3 mf
              go_wp2_with fail
              go_meet
              case rel =>
                refine ⟨rfl, ?_, HX3.out.only P4.out.2 HQX.out.symm, HO3.out⟩
                rw [HA.out, ansA, if_neg HK0.out, if_neg HK1.out, if_pos HK.out, lastOf, if_neg HK0.out, if_neg HK1.out, if_pos HK.out, aftA, if_neg HK0.out, if_neg HK1.out, if_pos HK.out]
                exact P4.out.1
            · have b2 : (x.k == 2) = false := beq_eq_false_iff_ne.2 k2
              have HK2 := hid k2
              clear k2
              go_wp2_with fail
              refine (ref_swap_rel _ _ rp rq ys P2.out.1.rm (by simp) _ _ _).mono ?_
              rintro e w3 ⟨rfl, hh3, ho3⟩
              have P3 := hid (P2.out.1.mem hh3 ho3)
              have HX3 := hid (HX2.out.only ho3 Hgx.out.2.symm)
              have HO3 := hid (ho3.mono (T := fun k => k = Q ∨ k = rq) (fun _ _ e => .inr e))
              cases hsw : hitA ys x.a x.u
              · have HSW := hid hsw
                clear hh3 ho3 hsw
                go_wp2_with fail
                go_meet
                case rel =>
                  refine ⟨rfl, ?_, HX3.out, HO3.out⟩
                  have eA : A = 0 := by rw [HA.out, ansA, if_neg HK0.out, if_neg HK1.out, if_neg HK2.out, HSW.out]; rfl
                  rw [eA, lastOf, if_neg HK0.out, if_neg HK1.out, if_neg HK2.out, aftA, if_neg HK0.out, if_neg HK1.out, if_neg HK2.out]
                  exact P3.out
              · have HSW := hid hsw
                obtain ⟨_, _, m2, _, _, _, mf⟩ := P3.out.cells
                have n2 := mf 2
                have P4 := hid (P3.out.put (r' := { PR.of c n with last := 1 }) 2 (.int .i64 1) (fun _ _ => rfl) rfl)
                clear hh3 ho3 mf hsw
                go_wp2_with fail
                go_meet
                case rel =>
                  refine ⟨rfl, ?_, HX3.out.only P4.out.2 HQX.out.symm, HO3.out.chain P4.out.2 (fun _ _ e => .inl e)⟩
                  have eA : A = 1 := by rw [HA.out, ansA, if_neg HK0.out, if_neg HK1.out, if_neg HK2.out, HSW.out]; rfl
                  rw [eA, lastOf, if_neg HK0.out, if_neg HK1.out, if_neg HK2.out, aftA, if_neg HK0.out, if_neg HK1.out, if_neg HK2.out]
                  exact P4.out.1
      case rest =>
        obtain ⟨rfl, hP3, hX3, hO3⟩ := hcut
        obtain ⟨wB, rfl⟩ : ∃ wB, wB = wc := ⟨wc, rfl⟩
        obtain ⟨r, hr⟩ : ∃ r, r = lastOf x A := ⟨_, rfl⟩
        obtain ⟨ys', hys⟩ : ∃ ys', ys' = aftA x.k x.a (c.val x) x.u ys := ⟨_, rfl⟩
        rw [← hr, ← hys] at hP3
        have Hr := hid hr
        have HY := hid hys
        obtain ⟨gv, g1, g2⟩ := hP3.pl
        obtain ⟨ga, gc, rfl, _, _⟩ := g2.shape
        have c3 : wB.cell? ⟨Q, 3, none⟩ = some (.slice ga c.got.length gc) := cell_of_block g1 3
        have c2 : wB.cell? ⟨Q, 2, none⟩ = some (.int .i64 r) := cell_of_block g1 2
        have hQB : Q < wB.heap.size := lt_of_block g1
        have P3 := hid hP3
        have HX3 := hid hX3
        have G1 := hid g1
        have G2 : Hid (Grow 2 1 wB (.slice ga c.got.length gc) gb c.got.length (c.got.map (Value.int .i64))) := g2
        have HO3 := hid (HO2.out.chain hO3 (fun _ _ e => by rcases e with e | e; exact .inl e; exact .inr (.inr e)))
        clear hr hys hP3 hX3 hO3 g1 g2 y0 y1 y3 y5 y6 P2 HX2 HO2 P1 HX1
        go_upto_region 19 with fail
        go_cut [] (fun wd => ∃ gb2, Plain wd Q gb2 rp rq LB (some ⟨LB, off, none⟩) lc ins { PR.of c n with last := r, got := c.got ++ [r] } ys' ∧ BoxIns wd X x ∧ (gb2 = gb ∨ wB.heap.size ≤ gb2) ∧ Only (fun k => k = Q ∨ k = gb) wB wd)
        case first =>
          have HNX : Hid (¬ (X = Q ∨ X = gb)) := fun e => by
            rcases e with e | e
            · exact HQX.out e.symm
            · exact Hgx.out.1 e.symm
          go_region_law (refine step_append_grown _ rfl (.tmp 103) (.tmp 108) 31 rfl 2 _ 1 8 Try.underlying31 Try.infoI64 rfl (by decide) (.slice ga c.got.length gc) gb c.got.length (c.got.map (Value.int .i64)) rfl ((G2.out.only ((Only.refl (fun _ => False) wB).alloc (.cells #[.int .i64 r] 2)) (fun h => h)).same rfl) ⟨wB.heap.size, 0, none⟩ 1 1 [.int .i64 r] rfl (by decide) rfl (news_of_block (heap_new wB (.cells #[.int .i64 r] 2))) (by intro u hu; simp at hu; subst hu; rfl) (by unfold maxLen; omega) (by omega) ?_; intro b' cap' w5 hg ho hbb; have HK := plain_got P3.out G1.out G2.out (o := .cells #[.int .i64 r] 2) (W := (wB.alloc (.cells #[.int .i64 r] 2)).drew) rfl ⟨rfl, rfl, rfl⟩ hg ho hbb; have d1 : w5.cell? ⟨Q, 3, none⟩ = some (.slice ga c.got.length gc) := cell_of_block HK.1 3; have f1 := frozen_of_block HK.1 3; have HK2 := hid HK.2; clear HK hg ho hbb)
          all_goals
            go_wp2_with fail
            go_meet
            case rel => exact ⟨b', HK2.out.1, HX3.out.only HK2.out.2.2 HNX.out, HK2.out.2.1, HK2.out.2.2⟩
        case rest =>
          obtain ⟨gb2, hP4, hX4, hgb2, hO4⟩ := hcut
          obtain ⟨wD, rfl⟩ : ∃ wD, wD = wc := ⟨wc, rfl⟩
          obtain ⟨_, _, _, q4, _, _, qf⟩ := hP4.cells
          have q4' : wD.cell? ⟨Q, 4, none⟩ = some (.int .i64 (n : Int)) := q4
          have f4 := qf 4
          have P5 := hid (hP4.put (r' := { PR.of c n with last := r, got := c.got ++ [r], n := (n : Int) + 1 }) 4 (.int .i64 ((n : Int) + 1)) (fun _ _ => rfl) rfl)
          have HX5 := hid (hX4.only P5.out.2 HQX.out.symm)
          have x6 : wD.cell? ⟨X, 6, none⟩ = some (.bool x.mark) := cell_of_block hX4 6
          have HO5 := hid (((HO3.out.chain hO4 (fun _ _ e => by rcases e with e | e; exact .inl e; exact .inr (.inl e)))).chain P5.out.2 (fun _ _ e => .inl e))
          have HGB : Hid (gb2 = gb ∨ w.heap.size ≤ gb2) := by
            have z1 := HO3.out.size
            rcases hgb2 with h9 | h9
            · exact .inl h9
            · exact .inr (by omega)
          have hQX' : ¬ X = Q := fun e => HQX.out e.symm
          clear hP4 hX4 hgb2 hO4 q4 qf c3 c2 hQB P3 HX3 G1 G2 HO3
          go_upto_if 120 with fail
          generalize hw5 : wD.setCell ⟨Q, 4, none⟩ (.int .i64 ((n : Int) + 1)) = w5 at *
          clear hw5 q4' f4 x6
          obtain ⟨_, _, _, _, q5, q6, qf⟩ := P5.out.1.cells
          have f5 := qf 5
          have f6 := qf 6
          clear qf
          go_cut [] (fun we => Plain we Q gb2 rp rq LB (some ⟨LB, off, none⟩) lc ins { PR.of c n with last := r, got := c.got ++ [r], n := (n : Int) + 1, mt := if x.mark = true then now else c.mt.getD 0, has := if x.mark = true then true else c.mt.isSome } ys' ∧ BoxIns we X x ∧ Only (· = Q) w5 we)
          case first =>
            cases hmk : x.mark
            · have HMK := hid hmk
              clear hmk
              go_wp2_with fail
              go_meet
              case rel =>
                rw [if_neg (by rw [HMK.out]; exact Bool.false_ne_true), if_neg (by rw [HMK.out]; exact Bool.false_ne_true)]
                exact ⟨P5.out.1, HX5.out, Only.refl _ _⟩
            · have HMK := hid hmk
              have P6 := hid (P5.out.1.put (r' := { PR.of c n with last := r, got := c.got ++ [r], n := (n : Int) + 1, mt := now }) 5 (.int .i64 now) (fun _ _ => rfl) rfl)
              have P7 := hid (P6.out.1.put (r' := { PR.of c n with last := r, got := c.got ++ [r], n := (n : Int) + 1, mt := now, has := true }) 6 (.bool true) (fun _ _ => rfl) rfl)
              clear hmk
              go_wp2_with fail
              go_meet
              case rel =>
                rw [if_pos HMK.out, if_pos HMK.out]
                exact ⟨P7.out.1, (HX5.out.only P6.out.2 HQX.out.symm).only P7.out.2 HQX.out.symm, P6.out.2.trans P7.out.2⟩
          case rest =>
            obtain ⟨hP6, hX6, hO6⟩ := hcut
            obtain ⟨w6, rfl⟩ : ∃ w6, w6 = wc := ⟨wc, rfl⟩
            obtain ⟨_, q1, _, _, _, _, qf⟩ := hP6.cells
            have q1' : w6.cell? ⟨Q, 1, none⟩ = some (.int .i64 (c.i : Int)) := q1
            have f1 := qf 1
            have x5 : w6.cell? ⟨X, 5, none⟩ = some (.bool x.skip) := cell_of_block hX6 5
            have P7 := hid (hP6.put (r' := { PR.of c n with last := r, got := c.got ++ [r], n := (n : Int) + 1, mt := if x.mark = true then now else c.mt.getD 0, has := if x.mark = true then true else c.mt.isSome, i := (c.i : Int) + 1 }) 1 (.int .i64 ((c.i : Int) + 1)) (fun _ _ => rfl) rfl)
            have P8 := hid (P7.out.1.put (r' := { PR.of c n with last := r, got := c.got ++ [r], n := (n : Int) + 1, mt := if x.mark = true then now else c.mt.getD 0, has := if x.mark = true then true else c.mt.isSome, i := (c.i : Int) + 1 + 1 }) 1 (.int .i64 ((c.i : Int) + 1 + 1)) (fun _ _ => rfl) rfl)
            have HO6 := hid ((HO5.out.chain hO6 (fun _ _ e => .inl e)).chain P7.out.2 (fun _ _ e => .inl e))
            have HEQ : Hid (∀ b : Bool, (x.skip && c.odd) = b → PR.of (adv ins c A now) (n + 1) = { PR.of c n with last := r, got := c.got ++ [r], n := (n : Int) + 1, mt := if x.mark = true then now else c.mt.getD 0, has := if x.mark = true then true else c.mt.isSome, i := (c.i : Int) + 1 + (if b = true then 1 else 0) }) := by
              intro b hb
              subst hb
              rw [PR.of, adv, ← HX.out, ← Hr.out]
              by_cases hm : x.mark = true
              · by_cases hs : (x.skip && c.odd) = true
                · simp only [if_pos hm, if_pos hs, Option.getD_some, Option.isSome_some]
                  simp
                · simp only [if_pos hm, if_neg hs, Option.getD_some, Option.isSome_some]
                  simp
              · by_cases hs : (x.skip && c.odd) = true
                · simp only [if_neg hm, if_pos hs]
                  simp
                · simp only [if_neg hm, if_neg hs]
                  simp
            rw [HA.out] at HEQ
            rw [HY.out] at P7 P8
            clear hP6 hX6 hO6 q1 qf q5 q6 f5 f6 P5 HX5 HO5
            cases hsk : x.skip
            · have e1 := HEQ.out false (by rw [hsk]; rfl)
              have HE1 := hid e1
              rw [hsk] at x5
              clear hsk e1
              go_wp2_with fail
              go_ret
              refine ⟨rfl, gb2, ?_, HGB.out, HO6.out⟩
              rw [HE1.out, if_neg Bool.false_ne_true, Int.add_zero]
              exact P7.out.1
            · cases hod : c.odd
              · have e1 := HEQ.out false (by rw [hsk, hod]; rfl)
                have HE1 := hid e1
                rw [hsk] at x5
                clear hsk hod e1
                go_wp2_with fail
                go_ret
                refine ⟨rfl, gb2, ?_, HGB.out, HO6.out⟩
                rw [HE1.out, if_neg Bool.false_ne_true, Int.add_zero]
                exact P7.out.1
              · have e1 := HEQ.out true (by rw [hsk, hod]; rfl)
                have HE1 := hid e1
                rw [hsk] at x5
                clear hsk hod e1
                go_wp2_with fail
                go_ret
                refine ⟨rfl, gb2, ?_, HGB.out, HO6.out.chain P8.out.2 (fun _ _ e => .inl e)⟩
                rw [HE1.out, if_pos trivial]
                exact P8.out.1
end Go.Proofs.Ytfdfjibhbfdloaa

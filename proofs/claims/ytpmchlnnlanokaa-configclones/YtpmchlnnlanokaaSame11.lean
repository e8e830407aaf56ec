/-
  septumlaw11's same, samePart, SameCall: of two that read as the same they answer true. Conditions: none.
-/
import Derived.Test.YtpmchlnnlanokaaLead11
import Derived.Deep.RegionHeld
import Derived.BigRegion
namespace Go.Proofs.Ytpmchlnnlanokaa
open Go.RowKit Go.Sept

theorem new_at11 (w : World) (o : Obj) (k : Nat) (h : k = w.heap.size) : (w.alloc o).heap[k]? = some o := by
  subst h
  exact heap_new w o
abbrev clO (k h a b : Int) (v : Value) (t : Int) : Obj := .cells #[.int .i64 k, .int .i64 h, .int .i64 a, .int .i64 b, v, .int .i64 t] 46

set_option maxRecDepth 100000 in
set_option maxHeartbeats 1000000 in
theorem sameCall_yes {P Q : Nat → Prop} (w : World) (k h a b t : Int) (v1 v2 : Value) (ws : List Int) (h1 : SlOf P 1 intE w v1 ws) (h2 : SlOf Q 1 intE w v2 ws) :
    Calls Try.prog 36 #[.agg #[.int .i64 k, .int .i64 h, .int .i64 a, .int .i64 b, v1, .int .i64 t], .agg #[.int .i64 k, .int .i64 h, .int .i64 a, .int .i64 b, v2, .int .i64 t]] w fun e w' => e = .returned (.bool true) ∧ Only (fun _ => False) w w' := by
  obtain ⟨wa, wc, rfl, wm⟩ := h1.shape
  obtain ⟨ua, uc, rfl, um⟩ := h2.shape
  obtain ⟨n, hn⟩ : ∃ n, ws.length = n := ⟨_, rfl⟩
  have HN := hid hn
  rw [hn] at h1 h2 wm um ⊢
  clear hn
  have hW : ∃ W z, W = (w.alloc (clO k h a b (.slice wa n wc) t)).alloc (clO k h a b (.slice ua n uc) t) ∧ z = w.heap.size ∧ Only (fun _ => False) w W ∧ W.heap[z]? = some (clO k h a b (.slice wa n wc) t) ∧ W.heap[z + 1]? = some (clO k h a b (.slice ua n uc) t) :=
    ⟨_, _, rfl, rfl, ((Only.refl _ _).alloc _).alloc _, (Below.heap_alloc _ _ _ (by simp)).trans (heap_new _ _), new_at11 _ _ _ (by simp)⟩
  obtain ⟨W, z, hWe, hze, hoW, hbz, hbz1⟩ := hW
  have HA := hid (h1.only (stay_int hoW (fun _ _ h => h)))
  have HB := hid (h2.only (stay_int hoW (fun _ _ h => h)))
  have HO := hid hoW
  have c0 : W.cell? ⟨z, 0, none⟩ = some (.int .i64 k) := cell_of_block hbz 0
  have c1 : W.cell? ⟨z, 1, none⟩ = some (.int .i64 h) := cell_of_block hbz 1
  have c2 : W.cell? ⟨z, 2, none⟩ = some (.int .i64 a) := cell_of_block hbz 2
  have c3 : W.cell? ⟨z, 3, none⟩ = some (.int .i64 b) := cell_of_block hbz 3
  have c4 : W.cell? ⟨z, 4, none⟩ = some (.slice wa n wc) := cell_of_block hbz 4
  have c5 : W.cell? ⟨z, 5, none⟩ = some (.int .i64 t) := cell_of_block hbz 5
  have d0 : W.cell? ⟨z + 1, 0, none⟩ = some (.int .i64 k) := cell_of_block hbz1 0
  have d1 : W.cell? ⟨z + 1, 1, none⟩ = some (.int .i64 h) := cell_of_block hbz1 1
  have d2 : W.cell? ⟨z + 1, 2, none⟩ = some (.int .i64 a) := cell_of_block hbz1 2
  have d3 : W.cell? ⟨z + 1, 3, none⟩ = some (.int .i64 b) := cell_of_block hbz1 3
  have d4 : W.cell? ⟨z + 1, 4, none⟩ = some (.slice ua n uc) := cell_of_block hbz1 4
  have d5 : W.cell? ⟨z + 1, 5, none⟩ = some (.int .i64 t) := cell_of_block hbz1 5
  have s0 : (k != k) = false := by simp
  have s1 : (h != h) = false := by simp
  have s2 : (a != a) = false := by simp
  have s3 : (b != b) = false := by simp
  have s5 : (t != t) = false := by simp
  have s6 : ((n : Int) != (n : Int)) = false := by simp
  clear h1 h2 hoW hbz hbz1
  simp only [clO] at hWe
  go_enter Try.func36, Try.ntmps36
  go_upto_region 1 with fail
  rw [← hWe, ← hze]
  clear hWe hze
  go_wp2_with fail
  clear c0 c1 c2 c3 c5 d0 d1 d2 d3 d5
  go_loopw [51] (fun i wx => ∃ (j dn : Nat), i = .int .i64 (j : Int) ∧ j ≤ n ∧ wx = W.drewN dn) (fun i _ => n - (intOf i).toNat)
  case atStart => exact ⟨0, 0, rfl, Nat.zero_le _, rfl⟩
  case round =>
  obtain ⟨j, dn, rfl, hj, rfl⟩ := hrel
  by_cases hlt : (j : Int) < (n : Int)
  · obtain ⟨b1, o1, rfl, _, x, hx, k1⟩ := HA.out.get j (by rw [HN.out]; omega)
    obtain ⟨b2, o2, rfl, _, y, hy, k2⟩ := HB.out.get j (by rw [HN.out]; omega)
    rw [hx] at hy
    injection hy with hy
    subst hy
    have e0 : W.cell? ⟨b1, o1 + j * 1, none⟩ = some (.int .i64 x) := k1.1
    have e1 : W.cell? ⟨b2, o2 + j * 1, none⟩ = some (.int .i64 x) := k2.1
    rw [Nat.mul_one] at e0 e1
    have sx : (x != x) = false := by simp
    clear k1 k2 hx
    go_wp2_with fail
    go_quiet (fail)
    go_wp2_with fail
    go_roundw
    case rel => exact ⟨j + 1, dn + nq, by go_num, by omega, rfl⟩
    case measure => simp [intOf]; omega
  · go_wp2_with fail
    go_ret
    exact ⟨rfl, only_drewN HO.out dn⟩

/-- Two new blocks. -/
theorem two_new (w : World) (oa ob : Obj) : ((w.alloc oa).alloc ob).drew.heap[w.heap.size]? = some oa ∧ ((w.alloc oa).alloc ob).drew.heap[w.heap.size + 1]? = some ob ∧ Only (fun _ => False) w ((w.alloc oa).alloc ob).drew :=
  ⟨(Below.heap_alloc _ _ _ (by simp)).trans (heap_new _ _), new_at11 _ _ _ (by simp), (((Only.refl _ w).alloc _).alloc _).drew⟩
theorem swap_two {a b c : Prop} (h : a ∧ b ∧ c) : b ∧ a ∧ c := ⟨h.2.1, h.1, h.2.2⟩

set_option maxRecDepth 100000 in
set_option maxHeartbeats 2000000 in
theorem samePart_yes {P Q : Nat → Prop} (w : World) (p : Pt) (v0 v1 u0 u1 : Value) (h1 : PtIs P w v0 v1 p) (h2 : PtIs Q w u0 u1 p) :
    Calls Try.prog 27 #[.agg #[v0, v1], .agg #[u0, u1]] w fun e w' => e = .returned (.bool true) ∧ Only (fun _ => False) w w' := by
  obtain ⟨ta, tc, rfl, tm⟩ := h1.1.shape
  obtain ⟨oa, oc, rfl, om⟩ := h1.2.shape
  obtain ⟨ta2, tc2, rfl, _⟩ := h2.1.shape
  obtain ⟨oa2, oc2, rfl, _⟩ := h2.2.shape
  obtain ⟨n, hn⟩ : ∃ n, p.ths.length = n := ⟨_, rfl⟩
  obtain ⟨m, hm⟩ : ∃ m, p.obs.length = m := ⟨_, rfl⟩
  have HN := hid hn
  have HM := hid hm
  rw [hn] at tm
  rw [hm] at om
  rw [hn, hm] at h1 h2 ⊢
  clear hn hm
  have hW : ∃ W z, W = (w.alloc (ptO (.slice ta n tc) (.slice oa m oc))).alloc (ptO (.slice ta2 n tc2) (.slice oa2 m oc2)) ∧ z = w.heap.size ∧ Only (fun _ => False) w W ∧ W.heap[z]? = some (ptO (.slice ta n tc) (.slice oa m oc)) ∧ W.heap[z + 1]? = some (ptO (.slice ta2 n tc2) (.slice oa2 m oc2)) :=
    ⟨_, _, rfl, rfl, ((Only.refl _ _).alloc _).alloc _, (Below.heap_alloc _ _ _ (by simp)).trans (heap_new _ _), new_at11 _ _ _ (by simp)⟩
  obtain ⟨W, z, hWe, hze, hoW, hbz, hbz1⟩ := hW
  have HA := hid (h1.only hoW (fun _ _ h => h))
  have HB := hid (h2.only hoW (fun _ _ h => h))
  have HO := hid hoW
  have HZ := hid (And.intro hbz hbz1)
  have c0 : W.cell? ⟨z, 0, none⟩ = some (.slice ta n tc) := cell_of_block hbz 0
  have c1 : W.cell? ⟨z, 1, none⟩ = some (.slice oa m oc) := cell_of_block hbz 1
  have d0 : W.cell? ⟨z + 1, 0, none⟩ = some (.slice ta2 n tc2) := cell_of_block hbz1 0
  have d1 : W.cell? ⟨z + 1, 1, none⟩ = some (.slice oa2 m oc2) := cell_of_block hbz1 1
  have s6 : ((n : Int) != (n : Int)) = false := by simp
  have s7 : ((m : Int) != (m : Int)) = false := by simp
  clear h1 h2 hoW hbz hbz1
  simp only [ptO] at hWe
  go_enter Try.func27, Try.ntmps27
  go_upto_region 1 with fail
  rw [← hWe, ← hze]
  clear hWe hze
  go_wp2_with fail
  clear s6 s7
  go_loopw [29] (fun i wx => ∃ (j dn : Nat), i = .int .i64 (j : Int) ∧ j ≤ m ∧ wx = W.drewN dn) (fun i _ => m - (intOf i).toNat)
  case atStart => exact ⟨0, 0, rfl, Nat.zero_le _, rfl⟩
  case round =>
  obtain ⟨j, dn, rfl, hj, rfl⟩ := hrel
  by_cases hlt : (j : Int) < (m : Int)
  · obtain ⟨b1, o1, rfl, _, x, hx, k1, k2, k3⟩ := HA.out.2.get j (by rw [HM.out]; omega)
    obtain ⟨b2, o2, rfl, _, y, hy, l1, l2, l3⟩ := HB.out.2.get j (by rw [HM.out]; omega)
    rw [hx] at hy
    injection hy with hy
    subst hy
    obtain ⟨xk, xs, xp⟩ := x
    have e0 : W.cell? ⟨b1, o1 + j * 3, none⟩ = some (.int .i64 xk) := k1.1
    have e1 : W.cell? ⟨b1, o1 + j * 3 + 1, none⟩ = some (.int .i64 xs) := k2.1
    have e2 : W.cell? ⟨b1, o1 + j * 3 + 2, none⟩ = some (.bool xp) := k3
    have f0 : W.cell? ⟨b2, o2 + j * 3, none⟩ = some (.int .i64 xk) := l1.1
    have f1 : W.cell? ⟨b2, o2 + j * 3 + 1, none⟩ = some (.int .i64 xs) := l2.1
    have f2 : W.cell? ⟨b2, o2 + j * 3 + 2, none⟩ = some (.bool xp) := l3
    clear k1 k2 k3 l1 l2 l3 hx
    go_wp2_with fail
    go_quiet (fail)
    go_wp2_with fail
    go_roundw
    case rel => exact ⟨j + 1, dn + nq, by go_num, by omega, rfl⟩
    case measure => simp [intOf]; omega
  go_wp2_with fail
  have HX0 : Hid (Only (fun _ => False) W (W.drewN dn)) := only_drewN (Only.refl _ _) dn
  clear hlt hj c0 c1 d0 d1
  go_loopw [47] (fun i wx => ∃ j : Nat, i = .int .i64 (j : Int) ∧ j ≤ n ∧ Only (fun _ => False) W wx) (fun i _ => n - (intOf i).toNat)
  case atStart => exact ⟨0, rfl, Nat.zero_le _, HX0.out⟩
  case round =>
  clear HX0
  obtain ⟨i, rfl, hi, hox⟩ := hrel
  have HX := hid hox
  have hbz := (hox.block z (lt_of_block HZ.out.1) (fun h => h)).trans HZ.out.1
  have hbz1 := (hox.block (z + 1) (lt_of_block HZ.out.2) (fun h => h)).trans HZ.out.2
  have c0 : wr.cell? ⟨z, 0, none⟩ = some (.slice ta n tc) := cell_of_block hbz 0
  have d0 : wr.cell? ⟨z + 1, 0, none⟩ = some (.slice ta2 n tc2) := cell_of_block hbz1 0
  clear hox hbz hbz1
  by_cases hlt : (i : Int) < (n : Int)
  · obtain ⟨b1, o1, rfl, _, x, hx, k1, k2, k3, k4, va, k5, k6⟩ := (HA.out.1.only (stay_th HX.out (fun _ _ h => h))).get i (by rw [HN.out]; omega)
    obtain ⟨b2, o2, rfl, _, y, hy, l1, l2, l3, l4, vb, l5, l6⟩ := (HB.out.1.only (stay_th HX.out (fun _ _ h => h))).get i (by rw [HN.out]; omega)
    rw [hx] at hy
    injection hy with hy
    subst hy
    obtain ⟨pa, pc, rfl, pm⟩ := k6.shape
    obtain ⟨qa, qc, rfl, _⟩ := l6.shape
    obtain ⟨l, hl⟩ : ∃ l, x.prog.length = l := ⟨_, rfl⟩
    obtain ⟨xp, hxp⟩ : ∃ u, x.prio = u := ⟨_, rfl⟩
    obtain ⟨xc, hxc⟩ : ∃ u, x.caps = u := ⟨_, rfl⟩
    obtain ⟨xt, hxt⟩ : ∃ u, x.ctl = u := ⟨_, rfl⟩
    have e0 : wr.cell? ⟨b1, o1 + i * 4, none⟩ = some (.int .i64 x.prio) := k1.1
    have e1 : wr.cell? ⟨b1, o1 + i * 4 + 1, none⟩ = some (.int .u32 x.caps) := k2
    have e2 : wr.cell? ⟨b1, o1 + i * 4 + 2, none⟩ = some (.bool x.ctl) := k4
    have e3 : wr.cell? ⟨b1, o1 + i * 4 + 3, none⟩ = some (.slice pa x.prog.length pc) := k5
    have f0 : wr.cell? ⟨b2, o2 + i * 4, none⟩ = some (.int .i64 x.prio) := l1.1
    have f1 : wr.cell? ⟨b2, o2 + i * 4 + 1, none⟩ = some (.int .u32 x.caps) := l2
    have f2 : wr.cell? ⟨b2, o2 + i * 4 + 2, none⟩ = some (.bool x.ctl) := l4
    have f3 : wr.cell? ⟨b2, o2 + i * 4 + 3, none⟩ = some (.slice qa x.prog.length qc) := l5
    have HP1 := hid k6
    have HP2 := hid l6
    have HL := hid hl
    rw [hl] at e3 f3 pm HP1 HP2
    rw [hxp] at e0 f0
    rw [hxc] at e1 f1
    rw [hxt] at e2 f2
    clear k1 k2 k3 k4 k5 k6 l1 l2 l3 l4 l5 l6 hx hl hxp hxc hxt
    have lz := World.block_lt_of_cell? _ _ c0
    have lz1 := World.block_lt_of_cell? _ _ d0
    have lb1 := World.block_lt_of_cell? _ _ e0
    have lb2 := World.block_lt_of_cell? _ _ f0
    simp only at lz lz1 lb1 lb2
    go_upto_region 12 with fail
    go_cut [7, 8] (fun v u wc => ∃ A B : Nat, v = .pointer (some ⟨A, 0, none⟩) ∧ u = .pointer (some ⟨B, 0, none⟩) ∧ wc.heap[A]? = some (.cells #[.int .i64 xp, .int .u32 xc, .bool xt, .slice pa l pc] 43) ∧ wc.heap[B]? = some (.cells #[.int .i64 xp, .int .u32 xc, .bool xt, .slice qa l qc] 43) ∧ Only (fun _ => False) wr wc)
    case first =>
      go_region
      all_goals go_wp2_with fail
      all_goals go_meet
      all_goals refine ⟨_, _, rfl, rfl, ?_⟩
      all_goals first
        | exact two_new _ _ _
        | exact swap_two (two_new _ _ _)
    case rest =>
    obtain ⟨A, B, rfl, rfl, hT⟩ := hcut
    have hTA := hT.1
    have hTB := hT.2.1
    have HTO := hid hT.2.2
    have HTA := hid hTA
    have HTB := hid hTB
    have g0 : wc.cell? ⟨A, 0, none⟩ = some (.int .i64 xp) := cell_of_block hTA 0
    have g1 : wc.cell? ⟨A, 1, none⟩ = some (.int .u32 xc) := cell_of_block hTA 1
    have g2 : wc.cell? ⟨A, 2, none⟩ = some (.bool xt) := cell_of_block hTA 2
    have g3 : wc.cell? ⟨A, 3, none⟩ = some (.slice pa l pc) := cell_of_block hTA 3
    have q0 : wc.cell? ⟨B, 0, none⟩ = some (.int .i64 xp) := cell_of_block hTB 0
    have q1 : wc.cell? ⟨B, 1, none⟩ = some (.int .u32 xc) := cell_of_block hTB 1
    have q2 : wc.cell? ⟨B, 2, none⟩ = some (.bool xt) := cell_of_block hTB 2
    have q3 : wc.cell? ⟨B, 3, none⟩ = some (.slice qa l qc) := cell_of_block hTB 3
    have s0 : (xp != xp) = false := by simp
    have s1 : (xc != xc) = false := by simp
    have s2 : (xt != xt) = false := by simp
    have s3 : ((l : Int) != (l : Int)) = false := by simp
    have HX2 := hid (HX.out.chain HTO.out (fun _ _ h => h))
    have HQ1 := hid (HP1.out.only (stay_cl HTO.out (fun _ _ h => h)))
    have HQ2 := hid (HP2.out.only (stay_cl HTO.out (fun _ _ h => h)))
    clear hT hTA hTB c0 d0 e0 e1 e2 e3 f0 f1 f2 f3 lz lz1 lb1 lb2 HP1 HP2
    go_wp2_with fail
    clear g0 g1 g2 g3 q0 q1 q2 q3 s0 s1 s2 s3
    go_loopw [91] (fun i wx => ∃ j : Nat, i = .int .i64 (j : Int) ∧ j ≤ l ∧ Only (fun _ => False) wc wx) (fun i _ => l - (intOf i).toNat)
    case atStart => exact ⟨0, rfl, Nat.zero_le _, Only.refl _ _⟩
    case round =>
    obtain ⟨q, rfl, hq, hox⟩ := hrel
    have HY := hid hox
    clear hox
    by_cases hlt2 : (q : Int) < (l : Int)
    · obtain ⟨r1, t1, rfl, _, a, ha, k1, k2, k3, k4, ⟨va, k5, k6⟩, k7⟩ := (HQ1.out.only (stay_cl HY.out (fun _ _ h => h))).get q (by rw [HL.out]; omega)
      obtain ⟨r2, t2, rfl, _, b, hb, l1, l2, l3, l4, ⟨vb, l5, l6⟩, l7⟩ := (HQ2.out.only (stay_cl HY.out (fun _ _ h => h))).get q (by rw [HL.out]; omega)
      rw [ha] at hb
      injection hb with hb
      subst hb
      obtain ⟨ak, ah, aa, ab, aw, at_⟩ := a
      have HF : Hid (∀ w', Only (fun _ => False) wr w' → w'.cell? ⟨A, 3, none⟩ = some (.slice (some ⟨r1, t1, none⟩) l pc) ∧ w'.cell? ⟨B, 3, none⟩ = some (.slice (some ⟨r2, t2, none⟩) l qc) ∧
          w'.cell? ⟨r1, t1 + q * 6, none⟩ = some (.int .i64 ak) ∧ w'.cell? ⟨r1, t1 + q * 6 + 1, none⟩ = some (.int .i64 ah) ∧ w'.cell? ⟨r1, t1 + q * 6 + 2, none⟩ = some (.int .i64 aa) ∧ w'.cell? ⟨r1, t1 + q * 6 + 3, none⟩ = some (.int .i64 ab) ∧ w'.cell? ⟨r1, t1 + q * 6 + 4, none⟩ = some va ∧ w'.cell? ⟨r1, t1 + q * 6 + 5, none⟩ = some (.int .i64 at_) ∧
          w'.cell? ⟨r2, t2 + q * 6, none⟩ = some (.int .i64 ak) ∧ w'.cell? ⟨r2, t2 + q * 6 + 1, none⟩ = some (.int .i64 ah) ∧ w'.cell? ⟨r2, t2 + q * 6 + 2, none⟩ = some (.int .i64 aa) ∧ w'.cell? ⟨r2, t2 + q * 6 + 3, none⟩ = some (.int .i64 ab) ∧ w'.cell? ⟨r2, t2 + q * 6 + 4, none⟩ = some vb ∧ w'.cell? ⟨r2, t2 + q * 6 + 5, none⟩ = some (.int .i64 at_)) := fun w' ho =>
        ⟨Cel.only (Cel.only (cell_of_block HTA.out 3) HY.out (fun h => h)) ho (fun h => h), Cel.only (Cel.only (cell_of_block HTB.out 3) HY.out (fun h => h)) ho (fun h => h), (k1.only ho (fun h => h)).1, (k2.only ho (fun h => h)).1, (k3.only ho (fun h => h)).1, (k4.only ho (fun h => h)).1, k5.only ho (fun h => h), (k7.only ho (fun h => h)).1, (l1.only ho (fun h => h)).1, (l2.only ho (fun h => h)).1, (l3.only ho (fun h => h)).1, (l4.only ho (fun h => h)).1, l5.only ho (fun h => h), (l7.only ho (fun h => h)).1⟩
      have HS1 := hid k6
      have HS2 := hid l6
      have HCALL : Hid (∀ w', w' = wr.drew → Calls Try.prog 36 #[.agg #[.int .i64 ak, .int .i64 ah, .int .i64 aa, .int .i64 ab, va, .int .i64 at_], .agg #[.int .i64 ak, .int .i64 ah, .int .i64 aa, .int .i64 ab, vb, .int .i64 at_]] w' fun e w'' => e = .returned (.bool true) ∧ Only (fun _ => False) wr w'') := fun w' hw => by
        have hO : Only (fun _ => False) wr w' := by rw [hw]; exact (Only.refl _ _).drew
        refine (sameCall_yes w' ak ah aa ab at_ va vb aw (HS1.out.only (stay_int hO (fun _ _ h => h))) (HS2.out.only (stay_int hO (fun _ _ h => h)))).mono ?_
        rintro e w2 ⟨rfl, ho2⟩
        exact ⟨rfl, hO.chain ho2 (fun _ _ h => h)⟩
      obtain ⟨g0, g1, m0, m1, m2, m3, m4, m5, p0, p1, p2, p3, p4, p5⟩ := HF.out wr (Only.refl _ _)
      clear k1 k2 k3 k4 k5 k6 k7 l1 l2 l3 l4 l5 l6 l7 ha
      go_upto_region 18 with fail
      go_region_held (fun w' => w'.cell? ⟨A, 3, none⟩ = some (.slice (some ⟨r1, t1, none⟩) l pc) ∧ w'.cell? ⟨B, 3, none⟩ = some (.slice (some ⟨r2, t2, none⟩) l qc) ∧
          w'.cell? ⟨r1, t1 + q * 6, none⟩ = some (.int .i64 ak) ∧ w'.cell? ⟨r1, t1 + q * 6 + 1, none⟩ = some (.int .i64 ah) ∧ w'.cell? ⟨r1, t1 + q * 6 + 2, none⟩ = some (.int .i64 aa) ∧ w'.cell? ⟨r1, t1 + q * 6 + 3, none⟩ = some (.int .i64 ab) ∧ w'.cell? ⟨r1, t1 + q * 6 + 4, none⟩ = some va ∧ w'.cell? ⟨r1, t1 + q * 6 + 5, none⟩ = some (.int .i64 at_) ∧
          w'.cell? ⟨r2, t2 + q * 6, none⟩ = some (.int .i64 ak) ∧ w'.cell? ⟨r2, t2 + q * 6 + 1, none⟩ = some (.int .i64 ah) ∧ w'.cell? ⟨r2, t2 + q * 6 + 2, none⟩ = some (.int .i64 aa) ∧ w'.cell? ⟨r2, t2 + q * 6 + 3, none⟩ = some (.int .i64 ab) ∧ w'.cell? ⟨r2, t2 + q * 6 + 4, none⟩ = some vb ∧ w'.cell? ⟨r2, t2 + q * 6 + 5, none⟩ = some (.int .i64 at_)) (go_keep)
        (first | (go_at_call 36; refine (HCALL.out _ rfl).mono ?_; rintro e w2 ⟨rfl, ho2⟩; have HO2 := hid ho2; obtain ⟨g0', g1', m0', m1', m2', m3', m4', m5', p0', p1', p2', p3', p4', p5'⟩ := HF.out w2 ho2; clear ho2))
      clear g0 g1 m0 m1 m2 m3 m4 m5 p0 p1 p2 p3 p4 p5 g0' g1' m0' m1' m2' m3' m4' m5' p0' p1' p2' p3' p4' p5'
      go_wp2_with fail
      go_roundw
      case rel => exact ⟨q + 1, by go_num, by omega, HY.out.chain HO2.out (fun _ _ h => h)⟩
      case measure => simp [intOf]; omega
    · go_wp2_with fail
      go_roundw
      case rel => exact ⟨i + 1, by go_num, by omega, HX2.out.chain HY.out (fun _ _ h => h)⟩
      case measure => simp [intOf]; omega
  · go_wp2_with fail
    go_ret
    exact ⟨rfl, HO.out.chain HX.out (fun _ _ h => h)⟩

set_option maxRecDepth 100000 in
set_option maxHeartbeats 2000000 in
theorem same_yes {P Q : Nat → Prop} (w : World) (c : Cf) (v0 v1 v2 u0 u1 u2 : Value) (h1 : CfIs P w v0 v1 v2 c) (h2 : CfIs Q w u0 u1 u2 c) :
    Calls Try.prog 17 #[.agg #[v0, v1, v2], .agg #[u0, u1, u2]] w fun e w' => e = .returned (.bool true) ∧ Only (fun _ => False) w w' := by
  obtain ⟨pa, pc, rfl, pm⟩ := h1.parts.shape
  obtain ⟨wa, wc, rfl, wm⟩ := h1.wins.shape
  obtain ⟨ca, cc, rfl, cm⟩ := h1.chans.shape
  obtain ⟨pa2, pc2, rfl, _⟩ := h2.parts.shape
  obtain ⟨wa2, wc2, rfl, _⟩ := h2.wins.shape
  obtain ⟨ca2, cc2, rfl, _⟩ := h2.chans.shape
  obtain ⟨n, hn⟩ : ∃ n, c.parts.length = n := ⟨_, rfl⟩
  obtain ⟨m, hm⟩ : ∃ m, c.wins.length = m := ⟨_, rfl⟩
  obtain ⟨k, hk⟩ : ∃ k, c.chans.length = k := ⟨_, rfl⟩
  have HN := hid hn
  have HM := hid hm
  have HK := hid hk
  rw [hn] at pm
  rw [hm] at wm
  rw [hk] at cm
  rw [hn, hm, hk] at h1 h2 ⊢
  clear hn hm hk
  have hW : ∃ W z, W = (w.alloc (cfO (.slice pa n pc) (.slice wa m wc) (.slice ca k cc))).alloc (cfO (.slice pa2 n pc2) (.slice wa2 m wc2) (.slice ca2 k cc2)) ∧ z = w.heap.size ∧ Only (fun _ => False) w W ∧ W.heap[z]? = some (cfO (.slice pa n pc) (.slice wa m wc) (.slice ca k cc)) ∧ W.heap[z + 1]? = some (cfO (.slice pa2 n pc2) (.slice wa2 m wc2) (.slice ca2 k cc2)) :=
    ⟨_, _, rfl, rfl, ((Only.refl _ _).alloc _).alloc _, (Below.heap_alloc _ _ _ (by simp)).trans (heap_new _ _), new_at11 _ _ _ (by simp)⟩
  obtain ⟨W, z, hWe, hze, hoW, hbz, hbz1⟩ := hW
  have HA := hid (h1.only hoW (fun _ _ h => h))
  have HB := hid (h2.only hoW (fun _ _ h => h))
  have HO := hid hoW
  have HZ := hid (And.intro hbz hbz1)
  obtain ⟨c0, c1, c2⟩ := cf_cells hbz (Only.refl _ _)
  obtain ⟨d0, d1, d2⟩ := cf_cells hbz1 (Only.refl _ _)
  have s6 : ((n : Int) != (n : Int)) = false := by simp
  have s7 : ((m : Int) != (m : Int)) = false := by simp
  have s8 : ((k : Int) != (k : Int)) = false := by simp
  clear h1 h2 hoW hbz hbz1
  simp only [cfO] at hWe
  go_enter Try.func17, Try.ntmps17
  go_upto_region 1 with fail
  rw [← hWe, ← hze]
  clear hWe hze
  go_wp2_with fail
  clear s6 s7 s8
  go_loopw [36] (fun i wx => ∃ (j dn : Nat), i = .int .i64 (j : Int) ∧ j ≤ m ∧ wx = W.drewN dn) (fun i _ => m - (intOf i).toNat)
  case atStart => exact ⟨0, 0, rfl, Nat.zero_le _, rfl⟩
  case round =>
  obtain ⟨j, dn, rfl, hj, rfl⟩ := hrel
  by_cases hlt : (j : Int) < (m : Int)
  · obtain ⟨b1, o1, rfl, _, x, hx, k1, k2⟩ := HA.out.wins.get j (by rw [HM.out]; omega)
    obtain ⟨b2, o2, rfl, _, y, hy, l1, l2⟩ := HB.out.wins.get j (by rw [HM.out]; omega)
    rw [hx] at hy
    injection hy with hy
    subst hy
    obtain ⟨xp, xt⟩ := x
    have e0 : W.cell? ⟨b1, o1 + j * 2, none⟩ = some (.int .i64 xp) := k1.1
    have e1 : W.cell? ⟨b1, o1 + j * 2 + 1, none⟩ = some (.int .i64 xt) := k2.1
    have f0 : W.cell? ⟨b2, o2 + j * 2, none⟩ = some (.int .i64 xp) := l1.1
    have f1 : W.cell? ⟨b2, o2 + j * 2 + 1, none⟩ = some (.int .i64 xt) := l2.1
    clear k1 k2 l1 l2 hx
    go_wp2_with fail
    go_quiet (fail)
    go_wp2_with fail
    go_roundw
    case rel => exact ⟨j + 1, dn + nq, by go_num, by omega, rfl⟩
    case measure => simp [intOf]; omega
  go_wp2_with fail
  clear hlt hj
  go_loopw [54] (fun i wx => ∃ (j dn : Nat), i = .int .i64 (j : Int) ∧ j ≤ k ∧ wx = W.drewN dn) (fun i _ => k - (intOf i).toNat)
  case atStart => exact ⟨0, dn, rfl, Nat.zero_le _, rfl⟩
  case round =>
  clear dn
  obtain ⟨j2, dn, rfl, hj2, rfl⟩ := hrel
  by_cases hlt : (j2 : Int) < (k : Int)
  · obtain ⟨b1, o1, rfl, _, x, hx, k1, k2, k3, k4⟩ := HA.out.chans.get j2 (by rw [HK.out]; omega)
    obtain ⟨b2, o2, rfl, _, y, hy, l1, l2, l3, l4⟩ := HB.out.chans.get j2 (by rw [HK.out]; omega)
    rw [hx] at hy
    injection hy with hy
    subst hy
    obtain ⟨xf, xo, xt, xi⟩ := x
    have e0 : W.cell? ⟨b1, o1 + j2 * 4, none⟩ = some (.int .i64 xf) := k1.1
    have e1 : W.cell? ⟨b1, o1 + j2 * 4 + 1, none⟩ = some (.int .i64 xo) := k2.1
    have e2 : W.cell? ⟨b1, o1 + j2 * 4 + 2, none⟩ = some (.int .i64 xt) := k3.1
    have e3 : W.cell? ⟨b1, o1 + j2 * 4 + 3, none⟩ = some (.int .i64 xi) := k4.1
    have f0 : W.cell? ⟨b2, o2 + j2 * 4, none⟩ = some (.int .i64 xf) := l1.1
    have f1 : W.cell? ⟨b2, o2 + j2 * 4 + 1, none⟩ = some (.int .i64 xo) := l2.1
    have f2 : W.cell? ⟨b2, o2 + j2 * 4 + 2, none⟩ = some (.int .i64 xt) := l3.1
    have f3 : W.cell? ⟨b2, o2 + j2 * 4 + 3, none⟩ = some (.int .i64 xi) := l4.1
    clear k1 k2 k3 k4 l1 l2 l3 l4 hx
    go_wp2_with fail
    go_quiet (fail)
    go_wp2_with fail
    go_roundw
    case rel => exact ⟨j2 + 1, dn + nq, by go_num, by omega, rfl⟩
    case measure => simp [intOf]; omega
  go_wp2_with fail
  have HX0 : Hid (Only (fun _ => False) W (W.drewN dn)) := only_drewN (Only.refl _ _) dn
  clear hlt hj2 c0 c1 c2 d0 d1 d2
  go_loopw [72] (fun i wx => ∃ j : Nat, i = .int .i64 (j : Int) ∧ j ≤ n ∧ Only (fun _ => False) W wx) (fun i _ => n - (intOf i).toNat)
  case atStart => exact ⟨0, rfl, Nat.zero_le _, HX0.out⟩
  case round =>
  clear HX0
  obtain ⟨i, rfl, hi, hox⟩ := hrel
  have HX := hid hox
  clear hox
  by_cases hlt : (i : Int) < (n : Int)
  · obtain ⟨b1, o1, rfl, _, x, hx, ⟨x0, k0, k1⟩, ⟨x1, k2, k3⟩⟩ := (HA.out.parts.only (stay_pt HX.out (fun _ _ h => h))).get i (by rw [HN.out]; omega)
    obtain ⟨b2, o2, rfl, _, y, hy, ⟨y0, l0, l1⟩, ⟨y1, l2, l3⟩⟩ := (HB.out.parts.only (stay_pt HX.out (fun _ _ h => h))).get i (by rw [HN.out]; omega)
    rw [hx] at hy
    injection hy with hy
    subst hy
    have HF : Hid (∀ w', Only (fun _ => False) wr w' → w'.cell? ⟨z, 0, none⟩ = some (.slice (some ⟨b1, o1, none⟩) n pc) ∧ w'.cell? ⟨z + 1, 0, none⟩ = some (.slice (some ⟨b2, o2, none⟩) n pc2) ∧
        w'.cell? ⟨b1, o1 + i * 2, none⟩ = some x0 ∧ w'.cell? ⟨b1, o1 + i * 2 + 1, none⟩ = some x1 ∧ w'.cell? ⟨b2, o2 + i * 2, none⟩ = some y0 ∧ w'.cell? ⟨b2, o2 + i * 2 + 1, none⟩ = some y1) := fun w' ho =>
      ⟨Cel.only (Cel.only (cell_of_block HZ.out.1 0) HX.out (fun h => h)) ho (fun h => h), Cel.only (Cel.only (cell_of_block HZ.out.2 0) HX.out (fun h => h)) ho (fun h => h), k0.only ho (fun h => h), k2.only ho (fun h => h), l0.only ho (fun h => h), l2.only ho (fun h => h)⟩
    have HS1 : Hid (PtIs P wr x0 x1 x) := ⟨k1, k3⟩
    have HS2 : Hid (PtIs Q wr y0 y1 x) := ⟨l1, l3⟩
    have HCALL : Hid (∀ w', w' = wr.drew → Calls Try.prog 27 #[.agg #[x0, x1], .agg #[y0, y1]] w' fun e w'' => e = .returned (.bool true) ∧ Only (fun _ => False) wr w'') := fun w' hw => by
      have hO : Only (fun _ => False) wr w' := by rw [hw]; exact (Only.refl _ _).drew
      refine (samePart_yes w' x x0 x1 y0 y1 (HS1.out.only hO (fun _ _ h => h)) (HS2.out.only hO (fun _ _ h => h))).mono ?_
      rintro e w2 ⟨rfl, ho2⟩
      exact ⟨rfl, hO.chain ho2 (fun _ _ h => h)⟩
    obtain ⟨g0, g1, m0, m1, p0, p1⟩ := HF.out wr (Only.refl _ _)
    clear k0 k1 k2 k3 l0 l1 l2 l3 hx
    go_upto_region 18 with fail
    go_region_held (fun w' => w'.cell? ⟨z, 0, none⟩ = some (.slice (some ⟨b1, o1, none⟩) n pc) ∧ w'.cell? ⟨z + 1, 0, none⟩ = some (.slice (some ⟨b2, o2, none⟩) n pc2) ∧
        w'.cell? ⟨b1, o1 + i * 2, none⟩ = some x0 ∧ w'.cell? ⟨b1, o1 + i * 2 + 1, none⟩ = some x1 ∧ w'.cell? ⟨b2, o2 + i * 2, none⟩ = some y0 ∧ w'.cell? ⟨b2, o2 + i * 2 + 1, none⟩ = some y1) (go_keep)
      (first | (go_at_call 27; refine (HCALL.out _ rfl).mono ?_; rintro e w2 ⟨rfl, ho2⟩; have HO2 := hid ho2; obtain ⟨g0', g1', m0', m1', p0', p1'⟩ := HF.out w2 ho2; clear ho2))
    clear g0 g1 m0 m1 p0 p1 g0' g1' m0' m1' p0' p1'
    go_wp2_with fail
    go_roundw
    case rel => exact ⟨i + 1, by go_num, by omega, HX.out.chain HO2.out (fun _ _ h => h)⟩
    case measure => simp [intOf]; omega
  · go_wp2_with fail
    go_ret
    exact ⟨rfl, HO.out.chain HX.out (fun _ _ h => h)⟩
end Go.Proofs.Ytpmchlnnlanokaa

/-
  septumref11: end and Frame answer as the plain mathematics. Conditions: none.
-/
import Derived.Test.YtpmchlnnlanokaaRef11
namespace Go.Proofs.Ytpmchlnnlanokaa
open Go.RowKit Go.Sept

theorem endOk_neg {ps : List Pt} {p o k : Int} (h : ¬ (0 ≤ p ∧ 0 ≤ o)) : endOk ps p o k = false := by
  rw [endOk, decide_eq_false h, Bool.false_and]
theorem endOk_part {ps : List Pt} {p o k : Int} (h : ps.length ≤ p.toNat) : endOk ps p o k = false := by
  rw [endOk, List.getElem?_eq_none h, Option.bind_none, Option.any_none, Bool.and_false]
theorem endOk_some {ps : List Pt} {p o : Nat} {k : Int} {x : Pt} (h : ps[p]? = some x) : endOk ps p o k = (x.obs[o]?).any fun y => decide (y.kind = k) := by
  rw [endOk, decide_eq_true ⟨by omega, by omega⟩, Bool.true_and, Int.toNat_natCast, Int.toNat_natCast, h, Option.bind_some]

set_option maxRecDepth 100000 in
set_option maxHeartbeats 1000000 in
theorem rEnd {P : Nat → Prop} (w : World) (v0 v1 v2 : Value) (c : Cf) (h : CfIs P w v0 v1 v2 c) (p o k : Int) :
    Calls Try.prog 32 #[.agg #[v0, v1, v2], .int .i64 p, .int .i64 o, .int .i64 k] w fun e w' => e = .returned (.bool (endOk c.parts p o k)) ∧ Only (fun _ => False) w w' := by
  obtain ⟨pa, pc, rfl, pm⟩ := h.parts.shape
  have hW : ∃ W z, W = w.alloc (cfO (.slice pa c.parts.length pc) v1 v2) ∧ z = w.heap.size ∧ Only (fun _ => False) w W ∧ W.heap[z]? = some (cfO (.slice pa c.parts.length pc) v1 v2) := ⟨_, _, rfl, rfl, (Only.refl _ _).alloc _, heap_new _ _⟩
  obtain ⟨W, z, hWe, hze, hoW, hbz⟩ := hW
  have HP := hid (h.parts.only (stay_pt hoW (fun _ _ h => h)))
  have HO := hid hoW
  have c0 : W.cell? ⟨z, 0, none⟩ = some (.slice pa c.parts.length pc) := cell_of_block hbz 0
  obtain ⟨n, hn⟩ : ∃ n, c.parts.length = n := ⟨_, rfl⟩
  have HN := hid hn
  obtain ⟨r, hr⟩ : ∃ r, endOk c.parts p o k = r := ⟨_, rfl⟩
  have HR := hid hr
  rw [hr]
  clear hoW hbz h hr
  rw [hn] at hWe c0 pm ⊢
  clear hn
  simp only [cfO] at hWe
  go_enter Try.func32, Try.ntmps32
  go_upto_region 1 with fail
  rw [← hWe, ← hze]
  clear hWe hze
  by_cases h1 : 0 ≤ p
  · by_cases h2 : p < n
    · obtain ⟨pn, rfl⟩ : ∃ x : Nat, p = x := ⟨p.toNat, by omega⟩
      obtain ⟨b, off, rfl, _, x, hx, ⟨u0, k0, k1⟩, ⟨u1, k2, k3⟩⟩ := HP.out.get pn (by rw [HN.out]; omega)
      obtain ⟨oa, oc, rfl, om⟩ := k3.shape
      have e1 : W.cell? ⟨b, off + pn * 2 + 1, none⟩ = some (.slice oa x.obs.length oc) := k2
      obtain ⟨m, hm⟩ : ∃ m, x.obs.length = m := ⟨_, rfl⟩
      have HQ := hid k3
      have HX := hid hx
      have HM := hid hm
      rw [hm] at e1 om
      clear k0 k1 k2 k3 hx hm
      by_cases h3 : 0 ≤ o
      · by_cases h4 : o < m
        · obtain ⟨on, rfl⟩ : ∃ x : Nat, o = x := ⟨o.toNat, by omega⟩
          obtain ⟨b2, off2, rfl, _, y, hy, j1, _, _⟩ := HQ.out.get on (by rw [HM.out]; omega)
          have f0 : W.cell? ⟨b2, off2 + on * 3, none⟩ = some (.int .i64 y.kind) := j1.1
          have hb := endOk_some (k := k) (o := on) HX.out
          rw [hy, Option.any_some, HR.out] at hb
          obtain ⟨yk, hyk⟩ : ∃ x, y.kind = x := ⟨_, rfl⟩
          rw [hyk] at f0 hb
          have HRE := hid hb
          clear j1 hy hyk hb
          go_wp2_with fail
          go_ret
          exact ⟨by rw [HRE.out]; exact congrArg (fun b => Ending.returned (.bool b)) (by by_cases e : yk = k <;> simp [e]), HO.out⟩
        · have HRE : Hid (r = false) := by
            show _ = _
            obtain ⟨on, rfl⟩ : ∃ x : Nat, o = x := ⟨o.toNat, by omega⟩
            rw [← HR.out, endOk_some HX.out, List.getElem?_eq_none (by rw [HM.out]; omega), Option.any_none]
          go_wp2_with fail
          go_ret
          exact ⟨by rw [HRE.out]; rfl, HO.out⟩
      · have HRE : Hid (r = false) := by show _ = _; rw [← HR.out, endOk_neg (by omega)]
        go_wp2_with fail
        go_ret
        exact ⟨by rw [HRE.out]; rfl, HO.out⟩
    · have HRE : Hid (r = false) := by show _ = _; rw [← HR.out, endOk_part (by rw [HN.out]; omega)]
      go_wp2_with fail
      go_ret
      exact ⟨by rw [HRE.out]; rfl, HO.out⟩
  · have HRE : Hid (r = false) := by show _ = _; rw [← HR.out, endOk_neg (by omega)]
    go_wp2_with fail
    go_ret
    exact ⟨by rw [HRE.out]; rfl, HO.out⟩

theorem min_if (a : Int) : (if 2147483647 < a then 2147483647 else a) = min a 2147483647 := by
  rw [Int.min_def]
  split <;> split <;> omega
theorem frameW_drop {n : Int} {ws : List Win} {j : Nat} {x : Win} (h : ws[j]? = some x) : frameW n (ws.drop j) = frameW (if 1 ≤ x.ticks ∧ x.ticks ≤ 100 then min (n + x.ticks) 2147483647 else n) (ws.drop (j + 1)) := by
  rw [drop_of h, frameW]
theorem frameW_end {n : Int} {ws : List Win} {j : Nat} (h : ws.length ≤ j) : frameW n (ws.drop j) = n := by
  rw [drop_end h, frameW]

set_option maxRecDepth 100000 in
set_option maxHeartbeats 1000000 in
theorem rFrame {P : Nat → Prop} (w : World) (v0 v1 v2 : Value) (c : Cf) (h : CfIs P w v0 v1 v2 c) :
    Calls Try.prog 12 #[.agg #[v0, v1, v2]] w fun e w' => e = .returned (.int .i64 (frameW 0 c.wins)) ∧ Only (fun _ => False) w w' := by
  obtain ⟨wa, wc, rfl, wm⟩ := h.wins.shape
  have hW : ∃ W z, W = w.alloc (cfO v0 (.slice wa c.wins.length wc) v2) ∧ z = w.heap.size ∧ Only (fun _ => False) w W ∧ W.heap[z]? = some (cfO v0 (.slice wa c.wins.length wc) v2) := ⟨_, _, rfl, rfl, (Only.refl _ _).alloc _, heap_new _ _⟩
  obtain ⟨W, z, hWe, hze, hoW, hbz⟩ := hW
  have HP := hid (h.wins.only (stay_win hoW (fun _ _ h => h)))
  have HO := hid hoW
  have c1 : W.cell? ⟨z, 1, none⟩ = some (.slice wa c.wins.length wc) := cell_of_block hbz 1
  obtain ⟨m, hm⟩ : ∃ m, c.wins.length = m := ⟨_, rfl⟩
  have HN := hid hm
  obtain ⟨r, hr⟩ : ∃ r, frameW 0 c.wins = r := ⟨_, rfl⟩
  have HR := hid hr
  rw [hr]
  clear hoW hbz h hr
  rw [hm] at hWe c1 wm ⊢
  clear hm
  simp only [cfO] at hWe
  go_enter Try.func12, Try.ntmps12
  go_upto_region 1 with fail
  rw [← hWe, ← hze]
  clear hWe hze
  go_wp2_with fail
  go_loopw [3, 8] (fun v i wx => ∃ (j : Nat) (n : Int), v = .int .i64 n ∧ i = .int .i64 (j : Int) ∧ j ≤ m ∧ 0 ≤ n ∧ n ≤ 2147483647 ∧ frameW n (c.wins.drop j) = r ∧ wx = W) (fun _ i _ => m - (intOf i).toNat)
  case atStart => exact ⟨0, 0, rfl, rfl, Nat.zero_le _, by decide, by decide, HR.out, rfl⟩
  case round =>
    obtain ⟨j, n, rfl, rfl, hj, n0, n1, hf, rfl⟩ := hrel
    have HF := hid hf
    clear hf
    by_cases hlt : (j : Int) < (m : Int)
    · obtain ⟨b, off, rfl, _, x, hx, k1, k2⟩ := HP.out.get j (by rw [HN.out]; omega)
      obtain ⟨tk, htk⟩ : ∃ y, x.ticks = y := ⟨_, rfl⟩
      have hstep := frameW_drop (n := n) hx
      rw [htk, HF.out] at hstep
      have HS := hid hstep
      have e1 : wr.cell? ⟨b, off + j * 2 + 1, none⟩ = some (.int .i64 x.ticks) := k2.1
      rw [htk] at e1
      clear k1 k2 hx htk hstep HF
      by_cases t1 : 1 ≤ tk
      · by_cases t2 : tk ≤ 100
        · go_wp2_with fail
          go_roundw
          case rel => exact ⟨j + 1, _, rfl, by go_num, by omega, by split <;> omega, by split <;> omega, by rw [min_if, HS.out, if_pos ⟨t1, t2⟩], trivial⟩
          case measure => simp [intOf]; omega
        · go_wp2_with fail
          go_roundw
          case rel => exact ⟨j + 1, n, rfl, by go_num, by omega, n0, n1, by rw [HS.out, if_neg (by omega)], trivial⟩
          case measure => simp [intOf]; omega
      · go_wp2_with fail
        go_roundw
        case rel => exact ⟨j + 1, n, rfl, by go_num, by omega, n0, n1, by rw [HS.out, if_neg (by omega)], trivial⟩
        case measure => simp [intOf]; omega
    · go_wp2_with fail
      go_ret
      exact ⟨by rw [← HF.out, frameW_end (by rw [HN.out]; omega)]; rfl, HO.out⟩
end Go.Proofs.Ytpmchlnnlanokaa

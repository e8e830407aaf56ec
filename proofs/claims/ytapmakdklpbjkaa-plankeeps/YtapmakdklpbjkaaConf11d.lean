/-
  Package config: what is wrong with the windows, the channels, with all; Valid, Frame. Conditions: none.
-/
import Derived.Test.YtapmakdklpbjkaaConf11c
namespace Go.Proofs.Ytapmakdklpbjkaa
open Go.RowKit Go.Sept

/-- The array of the partitions that have a window. -/
def HasIs (w : World) (z : Nat) (f : Nat → Bool) : Prop := w.heap[z]? = some (.cells #[.bool (f 0), .bool (f 1), .bool (f 2), .bool (f 3)] 143)
theorem HasIs.cell {w : World} {z : Nat} {f : Nat → Bool} (h : HasIs w z f) (i : Nat) (hi : i < 4) : w.cell? ⟨z, i, none⟩ = some (.bool (f i)) := by
  rw [cell_of_block h]
  match i, hi with
  | 0, _ => rfl
  | 1, _ => rfl
  | 2, _ => rfl
  | 3, _ => rfl
theorem HasIs.set {w : World} {z : Nat} {f g : Nat → Bool} (h : HasIs w z f) (i : Nat) (hi : i < 4) (hg : ∀ k, g k = (f k || decide (i = k))) : HasIs (w.setCell ⟨z, i, none⟩ (.bool true)) z g := by
  unfold HasIs at *
  rw [hg 0, hg 1, hg 2, hg 3]
  match i, hi with
  | 0, _ => simp [World.setCell, Array.getElem?_modify, h]
  | 1, _ => simp [World.setCell, Array.getElem?_modify, h]
  | 2, _ => simp [World.setCell, Array.getElem?_modify, h]
  | 3, _ => simp [World.setCell, Array.getElem?_modify, h]
theorem HasIs.only {w w' : World} {z : Nat} {f : Nat → Bool} {S : Nat → Prop} (h : HasIs w z f) (ho : Only S w w') (hz : ¬ S z) : HasIs w' z f := (ho.block z (lt_of_block h) hz).trans h
theorem has_take {l : List Win} {j : Nat} {x : Win} {p : Nat} (h : l[j]? = some x) (hp : x.part = p) (k : Nat) : hasWin (l.take (j + 1)) k = (hasWin (l.take j) k || decide (p = k)) := by
  rw [take_of h, hasWin, hasWin, List.any_append, List.any_cons, List.any_nil, Bool.or_false, hp]
  congr 1
  exact decide_eq_decide.2 (by omega)

theorem slice_has (w : World) (z n : Nat) (h : n ≤ 4) : (Instr.sliceAt 143 (.pointer (some ⟨z, 0, none⟩)) none (some (.int .i64 (n : Int))) none).run Try.prog w = .ok (.slice (some ⟨z, 0, none⟩) n 4) w := by
  have ha : Try.prog.arrayLen 143 = 4 := by kernel_rfl
  rw [run_sliceAt_array_h w 143 ⟨z, 0, none⟩ (by kernel_rfl) .i64 n (by omega) (by rw [ha]; omega), ha]
  have hs : (sizeOf (Try.prog.elem 143)).run Try.prog w = .ok 1 w := by kernel_rfl
  rw [hs]
  simp [Result.andThen, slicedAt, Addr.add]

set_option maxRecDepth 100000 in
set_option maxHeartbeats 1000000 in
theorem cWins {P : Nat → Prop} (w : World) (v : Value) (l : List Win) (h : SlOf P 2 winE w v l) (n : Nat) (hn4 : n ≤ 4) :
    Calls Try.prog 54 #[v, .int .i64 (n : Int)] w fun e w' => e = .returned (.int .i64 (winsW n l)) ∧ Only (fun _ => False) w w' := by
  obtain ⟨wa, wc, rfl, wm⟩ := h.shape
  obtain ⟨m, hm⟩ : ∃ m, l.length = m := ⟨_, rfl⟩
  have HM := hid hm
  have HP := hid h
  obtain ⟨r, hr⟩ : ∃ r, winsW n l = r := ⟨_, rfl⟩
  have HR : Hid ((if m < 1 ∨ 16 < m then 6 else if l.all (winOk n) = false then 7 else if (List.range n).all (hasWin l) = false then 8 else 0) = r) := by show _ = _; rw [← hr, winsW, hm]
  rw [hm] at wm HP ⊢
  rw [hr]
  clear h hm hr
  go_enter Try.func54, Try.ntmps54
  by_cases q1 : (m : Int) < 1
  · go_wp2_with fail
    go_ret
    exact ⟨by rw [← HR.out, if_pos (by omega)]; rfl, Only.refl _ _⟩
  by_cases q2 : (16 : Int) < m
  · go_wp2_with fail
    go_ret
    exact ⟨by rw [← HR.out, if_pos (by omega)]; rfl, Only.refl _ _⟩
  have HR2 : Hid ((if l.all (winOk n) = false then 7 else if (List.range n).all (hasWin l) = false then 8 else 0) = r) := by show _ = _; rw [← HR.out, if_neg (c := m < 1 ∨ 16 < m) (by omega)]
  clear HR
  have hW : ∃ W z, W = w.alloc (.cells #[.bool false, .bool false, .bool false, .bool false] 143) ∧ z = w.heap.size ∧ Only (fun _ => False) w W ∧ HasIs W z (hasWin (l.take 0)) ∧ z < W.heap.size :=
    ⟨_, _, rfl, rfl, (Only.refl _ _).alloc _, heap_new _ _, by simp⟩
  obtain ⟨W, z, hWe, hze, hoW, hhas, hzl⟩ := hW
  have HO := hid hoW
  have HH0 := hid hhas
  clear hoW hhas
  go_upto_region 4 with fail
  rw [← hWe, ← hze]
  have hzw : w.heap.size ≤ z := Nat.le_of_eq hze.symm
  clear hWe hze
  go_wp2_with fail
  go_loopw [20] (fun i wx => ∃ j : Nat, i = .int .i64 (j : Int) ∧ j ≤ m ∧ (∀ a x, a < j → l[a]? = some x → winOk n x = true) ∧ HasIs wx z (hasWin (l.take j)) ∧ Only (fun _ => False) w wx) (fun i _ => m - (intOf i).toNat)
  case atStart => exact ⟨0, rfl, Nat.zero_le _, (fun a x ha => absurd ha (Nat.not_lt_zero _)), HH0.out, HO.out⟩
  case round =>
  clear HO HH0 hzl
  obtain ⟨j, rfl, hj, hall, hhas, hox⟩ := hrel
  have HA := hid hall
  have HX := hid hox
  have HH := hid hhas
  clear hall hox hhas
  by_cases hlt : (j : Int) < (m : Int)
  · obtain ⟨b, off, rfl, _, x, hx, k1, k2⟩ := (HP.out.only (stay_win HX.out (fun _ _ h => h))).get j (by rw [HM.out]; omega)
    obtain ⟨xp, hxp⟩ : ∃ y, x.part = y := ⟨_, rfl⟩
    obtain ⟨xt, hxt⟩ : ∃ y, x.ticks = y := ⟨_, rfl⟩
    have e0 : wr.cell? ⟨b, off + j * 2, none⟩ = some (.int .i64 x.part) := k1.1
    have e1 : wr.cell? ⟨b, off + j * 2 + 1, none⟩ = some (.int .i64 x.ticks) := k2.1
    have HG := hid hx
    have HXP := hid hxp
    have HW : Hid (winOk n x = decide (0 ≤ xp ∧ xp < n ∧ 1 ≤ xt ∧ xt ≤ 100)) := by show _ = _; rw [winOk, hxp, hxt]
    rw [hxp] at e0
    rw [hxt] at e1
    have hV : ∃ V y, V = wr.alloc (.cells #[.int .i64 xp, .int .i64 xt] 55) ∧ y = wr.heap.size ∧ Only (fun _ => False) w V ∧ HasIs V z (hasWin (l.take j)) ∧ V.cell? ⟨y, 0, none⟩ = some (.int .i64 xp) ∧ V.cell? ⟨y, 1, none⟩ = some (.int .i64 xt) :=
      ⟨_, _, rfl, rfl, HX.out.alloc _, HH.out.only ((Only.refl (fun _ => False) _).alloc _) (fun h => h), cell_of_block (heap_new _ _) 0, cell_of_block (heap_new _ _) 1⟩
    obtain ⟨V, y, hVe, hye, hoV, hhV, f0, f1⟩ := hV
    have HV := hid hoV
    have HHV := hid hhV
    clear hoV hhV k1 k2 hx hxp hxt
    go_upto_region 7 with fail
    rw [← hVe, ← hye]
    clear hVe hye e0 e1
    have HBAD : Hid (¬ (0 ≤ xp ∧ xp < n ∧ 1 ≤ xt ∧ xt ≤ 100) → r = 7) := fun e => by rw [← HR2.out, if_pos (all_no HG.out (by rw [HW.out]; exact decide_eq_false e))]
    go_wp2_with fail
    refine (cNumber _ _ _).mono ?_
    rintro e w3 ⟨rfl, rfl⟩
    by_cases t1 : 0 ≤ xp ∧ xp < n
    · rw [decide_eq_true t1]
      obtain ⟨t1, t2⟩ := t1
      obtain ⟨pn, rfl⟩ : ∃ x : Nat, xp = x := ⟨xp.toNat, by omega⟩
      go_wp2_with fail
      refine (cTicks _ _).mono ?_
      rintro e w4 ⟨rfl, rfl⟩
      by_cases t3 : 1 ≤ xt ∧ xt ≤ 100
      · rw [decide_eq_true t3]
        have c4 := HHV.out.cell pn (by omega)
        have fz : w4.frozen? ⟨z, pn, none⟩ = false := frozen_of_block HHV.out pn
        have p4 : pn < 4 := by omega
        go_wp2_with fail
        go_roundw
        case rel =>
          refine ⟨j + 1, by go_num, by omega, ?_, HHV.out.set pn (by omega) (has_take HG.out HXP.out), ?_⟩
          · intro a y ha hy
            by_cases e : a = j
            · subst e
              rw [HG.out] at hy
              injection hy with hy
              subst hy
              rw [HW.out]
              exact decide_eq_true ⟨by omega, by omega, by omega, by omega⟩
            · exact HA.out a y (by omega) hy
          · exact HV.out.setCell (.inl hzw) _
        case measure => simp [intOf]; omega
      · rw [decide_eq_false t3]
        have HE := hid (HBAD.out (by omega))
        clear t3
        go_wp2_with fail
        go_ret
        exact ⟨by rw [HE.out]; rfl, HV.out⟩
    · rw [decide_eq_false t1]
      have HE := hid (HBAD.out (by omega))
      clear t1
      go_wp2_with fail
      go_ret
      exact ⟨by rw [HE.out]; rfl, HV.out⟩
  have HR3 : Hid ((if (List.range n).all (hasWin l) = false then 8 else 0) = r) := by
    show _ = _
    rw [← HR2.out, if_neg (c := l.all (winOk n) = false) (by rw [all_yes (f := winOk n) (fun a x ha hx => HA.out a x (by rw [HM.out] at ha; omega) hx)]; decide)]
  have HHA : Hid (HasIs wr z (hasWin l)) := by
    have h9 := HH.out
    rw [List.take_of_length_le (by rw [HM.out]; omega)] at h9
    exact h9
  clear HR2 HA HH hj
  have hS := slice_has wr z n hn4
  go_wp2_with fail
  clear hS hlt
  go_loopw [42] (fun i wx => ∃ j : Nat, i = .int .i64 (j : Int) ∧ j ≤ n ∧ (∀ a, a < j → hasWin l a = true) ∧ wx = wr) (fun i _ => n - (intOf i).toNat)
  case atStart => exact ⟨0, rfl, Nat.zero_le _, (fun a ha => absurd ha (Nat.not_lt_zero _)), rfl⟩
  case round =>
  obtain ⟨i, rfl, hi, hall, rfl⟩ := hrel
  have HA := hid hall
  clear hall
  by_cases hlt : (i : Int) < (n : Int)
  · have c4 := HHA.out.cell i (by omega)
    obtain ⟨bb, hbb⟩ : ∃ bb, hasWin l i = bb := ⟨_, rfl⟩
    have HBB := hid hbb
    rw [hbb] at c4
    clear hbb
    cases bb
    · go_wp2_with fail
      go_ret
      exact ⟨by rw [← HR3.out, if_pos (all_no (get_range (show i < n by omega)) HBB.out)]; rfl, HX.out⟩
    · go_wp2_with fail
      go_roundw
      case rel =>
        refine ⟨i + 1, by go_num, by omega, ?_, trivial⟩
        intro a ha
        by_cases e : a = i
        · subst e
          exact HBB.out
        · exact HA.out a (by omega)
      case measure => simp [intOf]; omega
  · have HE : Hid (r = 0) := by
      show _ = _
      rw [← HR3.out, if_neg]
      rw [all_yes (fun a x ha hx => by
        obtain ⟨e1, e2⟩ := range_get hx
        rw [e1]
        exact HA.out a (by omega))]
      decide
    go_wp2_with fail
    go_ret
    exact ⟨by rw [HE.out]; rfl, HX.out⟩
end Go.Proofs.Ytapmakdklpbjkaa

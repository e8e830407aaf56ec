/-
  septumref01.Has, septumref01.Queue's Order, septumref13.Model's Best: as plain lists. Conditions: how many there are.
-/
import Derived.Test.YtmcmjcaigipoaaaGreatFresh11
import Derived.Test.YtmcmjcaigipoaaaGreatFew11
import Derived.Deep.LoopGhost
namespace Go.Sept
open Go.RowKit
/-- The sixteen lists of a queue that lies at a place. -/
def QIs (P : Nat → Prop) (w : World) (M o : Nat) (qs : Nat → List Int) : Prop := ∀ p, p < 16 → ∃ v, Cel w M (o + p) v ∧ SlOf P 1 intE w v (qs p)
theorem QIs.only {P S : Nat → Prop} {w w' : World} {M o : Nat} {qs : Nat → List Int} (h : QIs P w M o qs) (ho : Only S w w') (hM : ¬ S M) (hP : ∀ k, P k → ¬ S k) : QIs P w' M o qs := fun p hp => by
  obtain ⟨v, h1, h2⟩ := h p hp
  exact ⟨v, h1.only ho hM, h2.only (stay_int ho hP)⟩
/-- The first r lists, from the most urgent one on. -/
def ordN (qs : Nat → List Int) : Nat → List Int
  | 0 => []
  | r + 1 => ordN qs r ++ qs (15 - r)
theorem ordN_len (qs : Nat → List Int) {a b : Nat} (h : a ≤ b) : (ordN qs a).length ≤ (ordN qs b).length := by
  induction h with
  | refl => exact Nat.le_refl _
  | step _ ih => exact Nat.le_trans ih (by rw [ordN, List.length_append]; exact Nat.le_add_right _ _)
/-- The first n of them, but some. -/
def bestF (n : Int) (but : List Int) : List Int → List Int → List Int
  | out, [] => out
  | out, x :: r => bestF n but (if (out.length : Int) < n ∧ but.contains x = false then out ++ [x] else out) r
theorem bestF_drop {n : Int} {but out l : List Int} {j : Nat} {x : Int} (h : l[j]? = some x) : bestF n but out (l.drop j) = bestF n but (if (out.length : Int) < n ∧ but.contains x = false then out ++ [x] else out) (l.drop (j + 1)) := by
  obtain ⟨hi, he⟩ := List.getElem?_eq_some_iff.1 h
  rw [List.drop_eq_getElem_cons hi, he, bestF]
theorem bestF_end {n : Int} {but out l : List Int} {j : Nat} (h : l.length ≤ j) : bestF n but out (l.drop j) = out := by
  rw [List.drop_eq_nil_of_le h, bestF]
end Go.Sept
namespace Go.Proofs.YtmcmjcaigipoaaaGreat
open Go.RowKit Go.Sept

theorem infoInt13 : (Tryz.prog.info? 3).map (fun i => (i.zero, i.size, i.bytes)) = some (some (.int .i64 0), 1, 8) := by kernel_rfl
theorem one_int13 (x : Int) : ∀ u ∈ [Value.int .i64 x], u.oneCell' = true := by
  intro u hu
  rw [List.mem_singleton] at hu
  subst hu
  rfl
/-- A slice of ints of its own. -/
def Own13 (w : World) (v : Value) (b : Nat) (xs : List Int) : Prop := Grow 3 1 w v b xs.length (xs.map (Value.int .i64))
theorem Own13.sl {w : World} {v : Value} {b : Nat} {xs : List Int} (h : Own13 w v b xs) (hb : ∀ x ∈ xs, -9223372036854775808 ≤ x ∧ x ≤ 9223372036854775807) : SlOf (fun k => k = b) 1 intE w v xs := by
  obtain ⟨ao, cap, hv, hc, hm⟩ := Grow.shape h
  unfold maxLen at hm
  refine ⟨ao, cap, hv, ⟨hc, by omega⟩, b, 0, fun i x hx => ?_⟩
  have h0 : 0 < xs.length := Nat.lt_of_le_of_lt (Nat.zero_le _) (List.getElem?_eq_some_iff.1 hx).1
  obtain ⟨cap', hv', _, _, hcs⟩ := Grow.cells h h0
  rw [hv] at hv'
  injection hv' with h1 _ _
  refine ⟨h1, rfl, ?_, hb x (List.mem_of_getElem? hx)⟩
  rw [Nat.zero_add, Nat.mul_one]
  exact hcs i _ (by rw [List.getElem?_map, hx]; rfl)
theorem sl_bounds {P : Nat → Prop} {w : World} {v : Value} {xs : List Int} (h : SlOf P 1 intE w v xs) : ∀ x ∈ xs, -9223372036854775808 ≤ x ∧ x ≤ 9223372036854775807 := fun x hx => by
  obtain ⟨i, hi, he⟩ := List.getElem_of_mem hx
  obtain ⟨ao, cap, _, _, b, off, h3⟩ := h
  exact (h3 i x (by rw [List.getElem?_eq_getElem hi, he])).2.2.2

set_option maxRecDepth 100000 in
set_option maxHeartbeats 1000000 in
theorem has13 {P : Nat → Prop} (w : World) (v : Value) (xs : List Int) (x : Int) (h : SlOf P 1 intE w v xs) :
    Calls Tryz.prog 50 #[v, .int .i64 x] w fun e w' => e = .returned (.bool (xs.contains x)) ∧ w' = w := by
  obtain ⟨ao, cap, rfl, hm⟩ := h.shape
  obtain ⟨n, hn⟩ : ∃ n, xs.length = n := ⟨_, rfl⟩
  have HN := hid hn
  have HI := hid h
  rw [hn] at hm HI ⊢
  obtain ⟨r, hr⟩ : ∃ r, xs.contains x = r := ⟨_, rfl⟩
  have HR := hid hr
  rw [hr]
  clear h hn hr
  go_enter Tryz.func50, Tryz.ntmps50
  go_wp2_with fail
  go_loopw [8] (fun i wx => ∃ j : Nat, i = .int .i64 (j : Int) ∧ j ≤ n ∧ (∀ a y, a < j → xs[a]? = some y → y ≠ x) ∧ wx = w) (fun i _ => n - (intOf i).toNat)
  case atStart => exact ⟨0, rfl, Nat.zero_le _, (fun a y ha => absurd ha (Nat.not_lt_zero _)), rfl⟩
  case round =>
  obtain ⟨j, rfl, hj, hall, rfl⟩ := hrel
  have HA := hid hall
  clear hall
  by_cases hlt : (j : Int) < (n : Int)
  · obtain ⟨b, off, rfl, _, y, hy, hc⟩ := HI.out.get j (by rw [HN.out]; omega)
    have e0 : wr.cell? ⟨b, off + j * 1, none⟩ = some (.int .i64 y) := hc.1
    rw [Nat.mul_one] at e0
    have HY := hid hy
    clear hc hy
    by_cases hxy : y = x
    · have hb : (y == x) = true := beq_iff_eq.2 hxy
      have HE : Hid (r = true) := by
        show _ = _
        rw [← HR.out, List.contains_iff_mem, ← hxy]
        exact List.mem_of_getElem? HY.out
      clear hxy
      go_wp2_with fail
      go_ret
      exact ⟨by rw [HE.out]; rfl, rfl⟩
    · have hb : (y == x) = false := beq_eq_false_iff_ne.2 hxy
      have HNE := hid hxy
      clear hxy
      go_wp2_with fail
      go_roundw
      case rel =>
        refine ⟨j + 1, by go_num, by omega, ?_, trivial⟩
        intro a z ha hz
        by_cases ea : a = j
        · subst ea
          rw [HY.out] at hz
          injection hz with hz
          subst hz
          exact HNE.out
        · exact HA.out a z (by omega) hz
      case measure => simp [intOf]; omega
  · have HE : Hid (r = false) := by
      show _ = _
      rw [← HR.out]
      cases hc : xs.contains x with
      | false => rfl
      | true =>
        rw [List.contains_iff_mem] at hc
        obtain ⟨i, hi, he⟩ := List.getElem_of_mem hc
        exact absurd he (HA.out i _ (by rw [HN.out] at hi; omega) (List.getElem?_eq_getElem hi))
    go_wp2_with fail
    go_ret
    exact ⟨by rw [HE.out]; rfl, rfl⟩

set_option maxRecDepth 100000 in
set_option maxHeartbeats 1000000 in
theorem order13 {P : Nat → Prop} (w : World) (M o : Nat) (qs : Nat → List Int) (h : QIs P w M o qs) (hlen : (ordN qs 16).length ≤ 1000) :
    Calls Tryz.prog 87 #[.pointer (some ⟨M, o, none⟩)] w fun e w' => ∃ v b, e = .returned v ∧ Own13 w' v b (ordN qs 16) ∧ w.heap.size ≤ b ∧ Only (fun _ => False) w w' := by
  have HQ := hid h
  have HL := hid hlen
  clear h hlen
  go_enter Tryz.func87, Tryz.ntmps87
  go_wp2_with fail
  go_loopw [3, 4] (fun v i wx => ∃ (r b : Nat), i = .int .i64 (15 - (r : Int)) ∧ r ≤ 16 ∧ Own13 wx v b (ordN qs r) ∧ w.heap.size ≤ b ∧ Only (fun _ => False) w wx) (fun _ i _ => (intOf i + 1).toNat)
  case atStart => exact ⟨0, w.heap.size, rfl, Nat.zero_le _, Grow.nil _ _ _ _, Nat.le_refl _, Only.refl _ _⟩
  case round =>
  obtain ⟨r, b, rfl, hr, hown, hbw, hox⟩ := hrel
  have HO := hid hown
  have HX := hid hox
  have HB := hid hbw
  clear hox hbw
  by_cases hlt : r < 16
  · obtain ⟨p, hp⟩ : ∃ p : Nat, 15 - r = p := ⟨_, rfl⟩
    have hp16 : p ≤ 15 := by omega
    have hpr : (15 : Int) - (r : Int) = (p : Int) := by omega
    have HP : Hid (15 - r = p ∧ r = 15 - p) := ⟨hp, by omega⟩
    rw [hpr]
    obtain ⟨u, k1, k2⟩ := (HQ.out.only HX.out (fun h => h) (fun _ _ h => h)) p (by omega)
    obtain ⟨ao, cap, rfl, hm⟩ := k2.shape
    have e0 : wr.cell? ⟨M, o + p, none⟩ = some (.slice ao (qs p).length cap) := k1
    obtain ⟨news, n1, n2, n3, n4⟩ := news_of k2 (whole_int wr)
    obtain ⟨k, hk⟩ : ∃ k, (qs p).length = k := ⟨_, rfl⟩
    obtain ⟨va, vc, rfl, _⟩ := Grow.shape hown
    obtain ⟨n, hn⟩ : ∃ n, (ordN qs r).length = n := ⟨_, rfl⟩
    have hsum : n + k ≤ 1000 := by
      have h1 := ordN_len qs (show r + 1 ≤ 16 by omega)
      rw [ordN, List.length_append, HP.out.1, hn, hk] at h1
      have := HL.out
      omega
    have HN := hid hn
    have HK := hid hk
    have HNW : Hid (news = (qs p).map (Value.int .i64)) := by
      show _ = _
      apply List.ext_getElem?
      intro i
      by_cases hi : i < (qs p).length
      · have hx : (qs p)[i]? = some (qs p)[i] := List.getElem?_eq_getElem hi
        obtain ⟨ao', cap', h1, _, b', off', h3⟩ := k2
        obtain ⟨h4, _, h5⟩ := h3 i _ hx
        injection h1 with h1 _ _
        have hi2 : i < news.length := by rw [n1]; omega
        obtain ⟨a, ha, hc⟩ := n2 i _ (List.getElem?_eq_getElem hi2)
        rw [h1, h4] at ha
        injection ha with ha
        subst ha
        rw [show (⟨b', off', none⟩ : Addr).add i = ⟨b', off' + i * 1, none⟩ by unfold Addr.add; split <;> simp_all, h5.1] at hc
        rw [List.getElem?_eq_getElem hi2, List.getElem?_map, hx, ← hc]
        rfl
      · rw [List.getElem?_eq_none (by rw [n1]; omega), List.getElem?_eq_none (by rw [List.length_map]; omega)]
    rw [hk] at e0 n1 hm
    rw [hn]
    have HG : Hid (Grow 3 1 wr (.slice va n vc) b n ((ordN qs r).map (Value.int .i64))) := by
      have h9 := HO.out
      unfold Own13 at h9
      rw [hn] at h9
      exact h9
    have HN2 := hid n2
    have HN3 := hid n3
    clear hown k1 k2 n2 n3 n4 hn hk hpr hp
    go_wp2_with (at_builtin; refine wpList_append_any _ rfl (.tmp 9) (.tmp 14) 30 rfl 3 _ 1 8 Tryz.underlying30 infoInt13 rfl (by decide) (.slice va n vc) b n ((ordN qs r).map (Value.int .i64)) rfl HG.out ao k cap news rfl n1 HN2.out HN3.out (by unfold maxLen; omega) (by omega) ?_)
    intro v' b' w' h1 h2 h3
    have HOW : Hid (Own13 w' v' b' (ordN qs (r + 1))) := by
      show Grow 3 1 _ _ _ _ _
      rw [ordN, HP.out.1, List.length_append, HN.out, HK.out, List.map_append, ← HNW.out]
      exact h1
    have HBW : Hid (w.heap.size ≤ b') := by
      have := HB.out
      have := HX.out.size
      show _ ≤ _
      rcases h3 with h3 | h3 <;> omega
    have HOX : Hid (Only (fun _ => False) w w') := HX.out.chain h2 (fun i hi e => by
      have := HG.out.spot i e
      have := HB.out
      omega)
    clear h1 h2 h3
    go_wp2_with fail
    go_roundw
    case rel => exact ⟨r + 1, b', by first | trivial | (have := HP.out; congr 1 <;> omega), by have := HP.out; omega, HOW.out, HBW.out, HOX.out⟩
    case measure => simp [intOf] <;> omega
  · have HR : Hid (r = 16) := by show _ = _; omega
    have hneg : (15 : Int) - (r : Int) = -1 := by omega
    rw [hneg]
    clear hneg hlt hr
    go_wp2_with fail
    go_ret
    exact ⟨_, b, rfl, by rw [← HR.out]; exact HO.out, HB.out, HX.out⟩

set_option maxRecDepth 100000 in
set_option maxHeartbeats 1000000 in
theorem best13 {P P2 : Nat → Prop} (w : World) (M : Nat) (qs : Nat → List Int) (n : Int) (bv : Value) (but : List Int) (h : QIs P w M 4 qs) (hlen : (ordN qs 16).length ≤ 1000) (hq : ∀ p, p < 16 → ∀ x ∈ qs p, -9223372036854775808 ≤ x ∧ x ≤ 9223372036854775807) (hb : SlOf P2 1 intE w bv but) :
    Calls Tryz.prog 49 #[.pointer (some ⟨M, 0, none⟩), .int .i64 n, bv] w fun e w' => ∃ v b, e = .returned v ∧ Own13 w' v b (bestF n but [] (ordN qs 16)) ∧ w.heap.size ≤ b ∧ Only (fun _ => False) w w' := by
  obtain ⟨ba, bc, rfl, bm⟩ := hb.shape
  have HB := hid hb
  have HOR := hid (order13 w M 4 qs h hlen)
  have HLE := hid hlen
  have HBD : Hid (∀ r, r ≤ 16 → ∀ x ∈ ordN qs r, -9223372036854775808 ≤ x ∧ x ≤ 9223372036854775807) := fun r => by
    induction r with
    | zero => exact fun _ x hx => by simp [ordN] at hx
    | succ r ih =>
      intro hr x hx
      rw [ordN] at hx
      rcases List.mem_append.1 hx with hx | hx
      · exact ih (by omega) x hx
      · exact hq _ (by omega) x hx
  obtain ⟨c0, hc0, _⟩ := h 0 (by omega)
  obtain ⟨L, hL⟩ : ∃ L, ordN qs 16 = L := ⟨_, rfl⟩
  have HLB : Hid (L.length ≤ 1000) := by show _ ≤ _; rw [← hL]; exact HLE.out
  have HXB : Hid (∀ x ∈ L, -9223372036854775808 ≤ x ∧ x ≤ 9223372036854775807) := by rw [← hL]; exact HBD.out 16 (Nat.le_refl _)
  obtain ⟨R, hR⟩ : ∃ R, bestF n but [] L = R := ⟨_, rfl⟩
  have HR := hid hR
  have HRL := hid hL
  rw [hL, hR]
  clear h hb hlen hq hL hR
  go_enter Tryz.func49, Tryz.ntmps49
  go_wp2_with fail
  refine HOR.out.mono ?_
  rintro e w1 ⟨v1, b1, rfl, hown, hb1, ho1⟩
  rw [HRL.out] at hown
  have hsl := Own13.sl hown HXB.out
  obtain ⟨va, vc, rfl, vm⟩ := hsl.shape
  obtain ⟨m, hm⟩ : ∃ m, L.length = m := ⟨_, rfl⟩
  have HM := hid hm
  have HSL := hid hsl
  have HO1 := hid ho1
  have HBT := hid (HB.out.only (stay_int ho1 (fun _ _ h => h)))
  have hm1000 : m ≤ 1000 := by rw [← hm]; exact HLB.out
  rw [hm] at vm HSL ⊢
  clear hown hsl hm hb1 ho1 HOR HLE HBD HB HRL
  go_wp2_with fail
  go_loopw [7, 16] (fun v i wx => ∃ (j b : Nat) (out : List Int), i = .int .i64 (j : Int) ∧ j ≤ m ∧ out.length ≤ j ∧ bestF n but out (L.drop j) = R ∧ Own13 wx v b out ∧ w1.heap.size ≤ b ∧ Only (fun _ => False) w1 wx) (fun _ i _ => m - (intOf i).toNat)
  case atStart => exact ⟨0, w1.heap.size, [], rfl, Nat.zero_le _, Nat.le_refl _, HR.out, Grow.nil _ _ _ _, Nat.le_refl _, Only.refl _ _⟩
  case round =>
  obtain ⟨j, b, out, rfl, hj, hol, hbf, hown, hbw, hox⟩ := hrel
  have HBF := hid hbf
  have HOW := hid hown
  have HX := hid hox
  have HBW := hid hbw
  obtain ⟨oa, oc, rfl, _⟩ := Grow.shape hown
  obtain ⟨k, hk⟩ : ∃ k, out.length = k := ⟨_, rfl⟩
  have HK := hid hk
  rw [hk] at hol ⊢
  clear hbf hox hbw hown
  by_cases hlt : (j : Int) < (m : Int)
  · obtain ⟨b2, off, rfl, hb2, x, hx, hc⟩ := (HSL.out.only (stay_int HX.out (fun _ _ h => h))).get j (by rw [HM.out]; omega)
    have e0 : wr.cell? ⟨b2, off + j * 1, none⟩ = some (.int .i64 x) := hc.1
    rw [Nat.mul_one] at e0
    have HST : Hid (R = bestF n but (if (k : Int) < n ∧ but.contains x = false then out ++ [x] else out) (L.drop (j + 1))) := by
      show _ = _
      rw [← HBF.out, bestF_drop hx, HK.out]
    clear hx hc hb2 hk
    by_cases hkn : (k : Int) < n
    · obtain ⟨r, hr⟩ : ∃ r, but.contains x = r := ⟨_, rfl⟩
      have HRR := hid hr
      clear hr
      go_wp2_with fail
      refine (has13 _ _ but x (HBT.out.only (stay_int HX.out (fun _ _ h => h)))).mono ?_
      rintro e w2 ⟨rfl, rfl⟩
      rw [HRR.out]
      cases r
      · have HG0 : Hid (Grow 3 1 (w2.alloc (.cells #[.int .i64 x] 3)) (.slice oa k oc) b k (out.map (Value.int .i64))) := by
          have h9 := HOW.out
          unfold Own13 at h9
          rw [HK.out] at h9
          exact Grow.only h9 ((Only.refl (fun _ => False) _).alloc _) (fun h => h)
        go_wp2_with (at_builtin; refine wpList_append_grown _ rfl (.tmp 32) (.tmp 37) 30 rfl 3 _ 1 8 Tryz.underlying30 infoInt13 rfl (by decide) (.slice oa k oc) b k (out.map (Value.int .i64)) rfl HG0.out ⟨w2.heap.size, 0, none⟩ 1 1 [.int .i64 x] rfl (by decide) rfl (news_of_block (heap_new w2 (.cells #[.int .i64 x] 3))) (one_int13 _) (by unfold maxLen; omega) (by omega) ?_)
        intro b' cap' w' h1 h2 h3
        have HOW2 : Hid (Own13 w' (.slice (some ⟨b', 0, none⟩) (k + 1 : Nat) cap') b' (out ++ [x])) := by
          show Grow 3 1 _ _ _ _ _
          rw [List.length_append, List.length_singleton, HK.out, List.map_append]
          exact h1
        have HBW2 : Hid (w1.heap.size ≤ b') := by
          have := HBW.out
          have := HX.out.size
          show _ ≤ _
          rcases h3 with h3 | h3 <;> omega
        have HX2 : Hid (Only (fun _ => False) w1 w') := (HX.out.alloc (.cells #[.int .i64 x] 3)).chain h2 (fun i hi e => by
          have := HG0.out.spot i e
          have := HBW.out
          omega)
        have HB2 : Hid (bestF n but (out ++ [x]) (L.drop (j + 1)) = R) := by
          show _ = _
          rw [HST.out, if_pos ⟨hkn, HRR.out⟩]
        have HL2 : Hid ((out ++ [x]).length ≤ j + 1) := by show _ ≤ _; rw [List.length_append, List.length_singleton, HK.out]; omega
        clear h1 h2 h3 HG0 e0
        go_wp2_with fail
        go_roundw
        case rel => exact ⟨j + 1, b', out ++ [x], by go_num, by omega, HL2.out, HB2.out, HOW2.out, HBW2.out, HX2.out⟩
        case measure => simp [intOf]; omega
      · have HB2 : Hid (bestF n but out (L.drop (j + 1)) = R) := by
          show _ = _
          rw [HST.out, if_neg (fun e => by rw [HRR.out] at e; exact Bool.noConfusion e.2)]
        go_wp2_with fail
        go_roundw
        case rel => exact ⟨j + 1, b, out, by go_num, by omega, by rw [HK.out]; omega, HB2.out, by have := HOW.out; unfold Own13 at *; rw [HK.out] at this ⊢; exact this, HBW.out, HX.out⟩
        case measure => simp [intOf]; omega
    · have HB2 : Hid (bestF n but out (L.drop (j + 1)) = R) := by
        show _ = _
        rw [HST.out, if_neg (fun e => hkn e.1)]
      go_wp2_with fail
      go_roundw
      case rel => exact ⟨j + 1, b, out, by go_num, by omega, by rw [HK.out]; omega, HB2.out, by have := HOW.out; unfold Own13 at *; rw [HK.out] at this ⊢; exact this, HBW.out, HX.out⟩
      case measure => simp [intOf]; omega
  · have HE : Hid (out = R) := by
      show _ = _
      rw [← HBF.out, bestF_end (by rw [HM.out]; omega)]
    go_wp2_with fail
    go_ret
    refine ⟨_, rfl, b, ?_, ?_, HO1.out.chain HX.out (fun _ _ h => h)⟩
    · rw [← HE.out]
      have := HOW.out
      unfold Own13 at *
      rw [HK.out] at this ⊢
      exact this
    · have := HBW.out
      have := HO1.out.size
      omega
end Go.Proofs.YtmcmjcaigipoaaaGreat

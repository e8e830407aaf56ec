/-
  Package ready: Ready, Unready, Change, Yield as trees of accesses. Conditions: the plan is one that Of makes.
-/
import Derived.Test.YtmcmjcaigipoaaaGreatBody13
import Derived.Test.YtmcmjcaigipoaaaGreatRings14
import Derived.Test.YtmcmjcaigipoaaaGreatMath12a
namespace Go.Sept
open Go.RowKit
def isReadyT (n m : Nat) (t : Int) : Tree Bool 1 := (getT n m t 0).bind fun v => (Tree.ret (v == 0) : Tree Bool 0)
def prioT (n m : Nat) (t : Int) : Tree (Int × Bool) 1 := (getT n m t 2).bind fun v => (Tree.ret (if 0 ≤ v ∧ v < 16 then (v, true) else (0, false)) : Tree (Int × Bool) 0)
def standT (n m : Nat) (t : Int) : Tree (Int × Bool) 2 := if 0 ≤ t ∧ t < n then (isReadyT n m t).bind fun b => if b = true then prioT n m t else .ret (0, false) else .ret (0, false)
def readyT (n m : Nat) (t : Int) : Tree Unit (7 + 1 + 1 + 1) := if 0 ≤ t ∧ t < n then (isReadyT n m t).bind fun b => if b = true then .ret () else (prioT n m t).bind fun x => if x.2 = true then (setT n m t 0 0).bind fun _ => qAddT 8 (tplaceV n m t 0) x.1 else .ret () else .ret ()
def unreadyT {k : Nat} (drop : Int → Tree Unit k) (n m : Nat) (t s : Int) : Tree Unit (1 + k + 2) := if 1 ≤ s ∧ s ≤ 3 then (standT n m t).bind fun x => if x.2 = true then (drop x.1).bind fun _ => setT n m t 0 s else .ret () else .ret ()
def changeT {k : Nat} (drop : Int → Tree Unit k) (n m : Nat) (t p : Int) (first : Bool) : Tree Unit (7 + 1 + k + 1 + 1) := if (0 ≤ t ∧ t < n) ∧ (0 ≤ p ∧ p < 16) then (isReadyT n m t).bind fun b => if b = true then ((prioT n m t).bind fun x => if x.2 = true then (drop x.1).bind fun _ => (setT n m t 2 p).bind fun _ => if first = true then qFrontT 8 (tplaceV n m t 0) p else qAddT 8 (tplaceV n m t 0) p else .ret ()) else ((setT n m t 2 p).bind fun _ => .ret ()) else .ret ()
def yieldT {k : Nat} (drop : Int → Tree Unit k) (n m : Nat) (t : Int) : Tree Unit (7 + k + 2) := (standT n m t).bind fun x => if x.2 = true then (drop x.1).bind fun _ => qAddT 8 (tplaceV n m t 0) x.1 else .ret ()
end Go.Sept

namespace Go.Proofs.YtmcmjcaigipoaaaGreat
open Go.RowKit Go.Sept

abbrev PlC14 (w : World) (y n m : Nat) (ta oa : Option Addr) (u v : Value) : Prop := w.cell? ⟨y, 0, none⟩ = some (.int .i64 0) ∧ w.cell? ⟨y, 1, none⟩ = some (.int .i64 2) ∧ w.cell? ⟨y, 2, none⟩ = some (.int .i64 4) ∧ w.cell? ⟨y, 3, none⟩ = some (.int .i64 3) ∧ w.cell? ⟨y, 4, none⟩ = some (.int .i64 5) ∧ w.cell? ⟨y, 5, none⟩ = some (.int .i64 6) ∧ w.cell? ⟨y, 6, none⟩ = some (.int .i64 8) ∧ w.cell? ⟨y, 7, none⟩ = some (.int .i64 41) ∧ w.cell? ⟨y, 8, none⟩ = some (.int .i64 43) ∧ w.cell? ⟨y, 9, none⟩ = some (.slice ta n n) ∧ w.cell? ⟨y, 10, none⟩ = some (.slice oa m m) ∧ w.cell? ⟨y, 11, none⟩ = some (.int .i64 (43 + (m : Int) + (n : Int) * 24 + (m : Int) * 24)) ∧ w.cell? ⟨y, 12, none⟩ = some (u) ∧ w.cell? ⟨y, 13, none⟩ = some (v)
theorem tplace_node {n m : Nat} {t : Int} (h : 0 ≤ t ∧ t < n) : tplaceV n m t 0 = nodeA m t := by
  unfold tplaceV nodeA
  rw [if_pos h]
  omega

set_option maxHeartbeats 400000 in
theorem valid14 (w : World) (p : Int) : Calls Tryz.prog 78 #[.int .i64 p] w fun e w' => e = .returned (.bool (decide (0 ≤ p ∧ p < 16))) ∧ w' = w := by
  by_cases h0 : 0 ≤ p
  · by_cases h1 : p < 16
    · rw [show decide (0 ≤ p ∧ p < 16) = true from decide_eq_true ⟨h0, h1⟩]
      go_enter Tryz.func78, Tryz.ntmps78
      go_wp2
      go_ret
      exact ⟨by simp, rfl⟩
    · rw [show decide (0 ≤ p ∧ p < 16) = false from decide_eq_false (fun h => h1 h.2)]
      go_enter Tryz.func78, Tryz.ntmps78
      go_wp2
      go_ret
      exact ⟨by simp, rfl⟩
  · rw [show decide (0 ≤ p ∧ p < 16) = false from decide_eq_false (fun h => h0 h.1)]
    go_enter Tryz.func78, Tryz.ntmps78
    go_wp2
    go_ret
    exact ⟨by simp, rfl⟩

set_option maxRecDepth 100000 in
set_option maxHeartbeats 1000000 in
theorem there14 {Q : Nat → Prop} (w : World) (cs : Array Value) (n m : Nat) (h : ThIs Q w cs n m) (t : Int) :
    Calls Tryz.prog 72 #[.agg cs, .int .i64 t] w fun e w' => e = .returned (.bool (decide (0 ≤ t ∧ t < n))) ∧ Only (fun _ => False) w w' := by
  have hT := h
  obtain ⟨hn, hm, ta, oa, za, zb, zc, zd, rfl, _⟩ := h
  have hW : ∃ W y, W = w.alloc (plO (planCs n m ta oa (.slice za n zc) (.slice zb m zd))) ∧ y = w.heap.size ∧ Only (fun _ => False) w W ∧ W.heap[y]? = some (plO (planCs n m ta oa (.slice za n zc) (.slice zb m zd))) := ⟨_, _, rfl, rfl, (Only.refl _ _).alloc _, heap_new _ _⟩
  obtain ⟨W, y, hWe, hye, hoW, hby⟩ := hW
  have HO := hid hoW
  have HBY := hid hby
  have HND := hid (tNode_rel W _ n m (hT.only hoW (fun _ _ h => h)) t)
  obtain ⟨c0, c1, c2, c3, c4, c5, c6, c7, c8, c9, c10, c11, c12, c13⟩ := plan_cells hby
  obtain ⟨bb, hbb⟩ : ∃ bb, decide (0 ≤ t ∧ t < n) = bb := ⟨_, rfl⟩
  have HBB := hid hbb
  rw [hbb]
  clear hT hoW hby hbb
  go_enter Tryz.func72, Tryz.ntmps72
  go_upto_region 1 with fail
  rw [← hWe, ← hye]
  clear hWe hye
  go_wp2_with fail
  refine HND.out.mono ?_
  rintro e w2 ⟨rfl, ho2⟩
  have HO2 := hid (HO.out.chain ho2 (fun _ _ h => h))
  obtain ⟨d0, d1, d2, d3, d4, d5, d6, d7, d8, d9, d10, d11, d12, d13⟩ := plan_cells ((ho2.block y (lt_of_block HBY.out) (fun h => h)).trans HBY.out)
  clear ho2 c0 c1 c2 c3 c4 c5 c6 c7 c8 c9 c10 c11 c12 c13 d0 d1 d2 d3 d4 d5 d6 d7 d8 d9 d10 d12 d13
  by_cases ht : 0 ≤ t ∧ t < n
  · have hbt : bb = true := by rw [← HBB.out]; exact decide_eq_true ht
    subst hbt
    rw [tplace_node ht]
    obtain ⟨o, rfl⟩ : ∃ o : Nat, t = (o : Int) := ⟨t.toNat, by omega⟩
    have hon : o < n := by omega
    have hb1 : 0 ≤ nodeA m (o : Int) := by unfold nodeA; omega
    have hb3 : nodeA m (o : Int) ≤ 1000 := by unfold nodeA; omega
    have hb2 : nodeA m (o : Int) + 24 ≤ 43 + (m : Int) + (n : Int) * 24 + (m : Int) * 24 := by unfold nodeA; omega
    obtain ⟨A, hA⟩ : ∃ A, nodeA m (o : Int) = A := ⟨_, rfl⟩
    rw [hA] at hb1 hb2 hb3 ⊢
    have g1 : decide (A + 24 ≤ 43 + (m : Int) + (n : Int) * 24 + (m : Int) * 24) = true := decide_eq_true hb2
    clear hA ht HBB
    go_wp2_with fail
    go_ret
    exact ⟨rfl, HO2.out⟩
  · have e0 : tplaceV n m t 0 = -1 := by rw [tplaceV, if_neg ht]
    have hbt : bb = false := by rw [← HBB.out]; exact decide_eq_false ht
    subst hbt
    rw [e0]
    clear e0 ht HBB
    go_wp2_with fail
    go_ret
    exact ⟨rfl, HO2.out⟩

set_option maxRecDepth 100000 in
set_option maxHeartbeats 1000000 in
theorem isReady14 (Q : Nat → Prop) (cs : Array Value) (n m : Nat) (t : Int) : DoesIn (thBag cs n m Q) 73 (fun F => #[F, .agg cs, .int .i64 t]) (isReadyT n m t) .bool := by
  refine DoesIn.of fun w F lb p q R h => ?_
  have hT := h.bag.1
  obtain ⟨hn, hm, ta, oa, za, zb, zc, zd, rfl, _⟩ := h.bag.1
  have HA := hid (h.alloc (plO (planCs n m ta oa (.slice za n zc) (.slice zb m zd))))
  have hV : ∃ V y, V = w.alloc (plO (planCs n m ta oa (.slice za n zc) (.slice zb m zd))) ∧ y = w.heap.size := ⟨_, _, rfl, rfl⟩
  obtain ⟨V, y, hVe, hye⟩ := hV
  obtain ⟨BG, hBG⟩ : ∃ BG, (thBag (planCs n m ta oa (.slice za n zc) (.slice zb m zd)) n m Q).and (Bag.one y (plO (planCs n m ta oa (.slice za n zc) (.slice zb m zd)))) = BG := ⟨_, rfl⟩
  have H : Hid (At w F lb p q (fun _ => False) BG (isReadyT n m t) R V) := by rw [← hBG, hVe, hye]; exact HA.out
  have HLE : Hid ((thBag (planCs n m ta oa (.slice za n zc) (.slice zb m zd)) n m Q).Le BG) := hBG ▸ ⟨fun _ h => h.1, fun _ h => .inl h⟩
  have HTH : Hid (∀ wx, BG.P wx → ThIs Q wx (planCs n m ta oa (.slice za n zc) (.slice zb m zd)) n m) := hBG ▸ fun _ h => h.1.1
  have HPC : Hid (∀ wx, BG.P wx → PlC14 wx y n m ta oa (.slice za n zc) (.slice zb m zd)) := hBG ▸ fun _ h => plan_cells h.2
  obtain ⟨c0, c1, c2, c3, c4, c5, c6, c7, c8, c9, c10, c11, c12, c13⟩ := HPC.out _ H.out.bag
  clear hT h HA hBG
  go_enter Tryz.func73, Tryz.ntmps73
  go_upto_region 1 with fail
  rw [← hVe, ← hye]
  clear hVe hye
  go_wp2_with fail
  refine (H.out.callIn (tGet_does Q _ n m t 0) HLE.out).mono ?_
  rintro e w2 ⟨x, rfl, h2⟩
  have H2 := hid h2
  clear H h2 c0 c1 c2 c3 c4 c5 c6 c7 c8 c9 c10 c11 c12 c13
  go_wp2_with fail
  go_ret
  exact ⟨_, BG, rfl, H2.out.fin⟩

set_option maxRecDepth 100000 in
set_option maxHeartbeats 1000000 in
theorem prio14 (Q : Nat → Prop) (cs : Array Value) (n m : Nat) (t : Int) : DoesIn (thBag cs n m Q) 74 (fun F => #[F, .agg cs, .int .i64 t]) (prioT n m t) (fun x => .tuple #[.int .i64 x.1, .bool x.2]) := by
  refine DoesIn.of fun w F lb p q R h => ?_
  have hT := h.bag.1
  obtain ⟨hn, hm, ta, oa, za, zb, zc, zd, rfl, _⟩ := h.bag.1
  have HA := hid (h.alloc (plO (planCs n m ta oa (.slice za n zc) (.slice zb m zd))))
  have hV : ∃ V y, V = w.alloc (plO (planCs n m ta oa (.slice za n zc) (.slice zb m zd))) ∧ y = w.heap.size := ⟨_, _, rfl, rfl⟩
  obtain ⟨V, y, hVe, hye⟩ := hV
  obtain ⟨BG, hBG⟩ : ∃ BG, (thBag (planCs n m ta oa (.slice za n zc) (.slice zb m zd)) n m Q).and (Bag.one y (plO (planCs n m ta oa (.slice za n zc) (.slice zb m zd)))) = BG := ⟨_, rfl⟩
  have H : Hid (At w F lb p q (fun _ => False) BG (prioT n m t) R V) := by rw [← hBG, hVe, hye]; exact HA.out
  have HLE : Hid ((thBag (planCs n m ta oa (.slice za n zc) (.slice zb m zd)) n m Q).Le BG) := hBG ▸ ⟨fun _ h => h.1, fun _ h => .inl h⟩
  have HTH : Hid (∀ wx, BG.P wx → ThIs Q wx (planCs n m ta oa (.slice za n zc) (.slice zb m zd)) n m) := hBG ▸ fun _ h => h.1.1
  have HPC : Hid (∀ wx, BG.P wx → PlC14 wx y n m ta oa (.slice za n zc) (.slice zb m zd)) := hBG ▸ fun _ h => plan_cells h.2
  obtain ⟨c0, c1, c2, c3, c4, c5, c6, c7, c8, c9, c10, c11, c12, c13⟩ := HPC.out _ H.out.bag
  clear hT h HA hBG
  go_enter Tryz.func74, Tryz.ntmps74
  go_upto_region 1 with fail
  rw [← hVe, ← hye]
  clear hVe hye
  go_wp2_with fail
  refine (H.out.callIn (tGet_does Q _ n m t 2) HLE.out).mono ?_
  rintro e w2 ⟨v, rfl, h2⟩
  have H2 := hid h2
  clear H h2 c0 c1 c2 c3 c4 c5 c6 c7 c8 c9 c10 c11 c12 c13
  go_wp2_with fail
  refine (valid14 _ v).mono ?_
  rintro e w3 ⟨rfl, rfl⟩
  by_cases hv : 0 ≤ v ∧ v < 16
  · rw [if_pos hv] at H2
    rw [decide_eq_true hv]
    clear hv
    go_wp2_with fail
    go_ret2
    exact ⟨_, BG, rfl, H2.out.fin⟩
  · rw [if_neg hv] at H2
    rw [decide_eq_false hv]
    clear hv
    go_wp2_with fail
    go_ret2
    exact ⟨_, BG, rfl, H2.out.fin⟩

set_option maxRecDepth 100000 in
set_option maxHeartbeats 1000000 in
theorem stand14 (Q : Nat → Prop) (cs : Array Value) (n m : Nat) (t : Int) : DoesIn (thBag cs n m Q) 76 (fun F => #[F, .agg cs, .int .i64 t]) (standT n m t) (fun x => .tuple #[.int .i64 x.1, .bool x.2]) := by
  refine DoesIn.of fun w F lb p q R h => ?_
  have hT := h.bag.1
  obtain ⟨hn, hm, ta, oa, za, zb, zc, zd, rfl, _⟩ := h.bag.1
  have HA := hid (h.alloc (plO (planCs n m ta oa (.slice za n zc) (.slice zb m zd))))
  have hV : ∃ V y, V = w.alloc (plO (planCs n m ta oa (.slice za n zc) (.slice zb m zd))) ∧ y = w.heap.size := ⟨_, _, rfl, rfl⟩
  obtain ⟨V, y, hVe, hye⟩ := hV
  obtain ⟨BG, hBG⟩ : ∃ BG, (thBag (planCs n m ta oa (.slice za n zc) (.slice zb m zd)) n m Q).and (Bag.one y (plO (planCs n m ta oa (.slice za n zc) (.slice zb m zd)))) = BG := ⟨_, rfl⟩
  have H : Hid (At w F lb p q (fun _ => False) BG (standT n m t) R V) := by rw [← hBG, hVe, hye]; exact HA.out
  have HLE : Hid ((thBag (planCs n m ta oa (.slice za n zc) (.slice zb m zd)) n m Q).Le BG) := hBG ▸ ⟨fun _ h => h.1, fun _ h => .inl h⟩
  have HTH : Hid (∀ wx, BG.P wx → ThIs Q wx (planCs n m ta oa (.slice za n zc) (.slice zb m zd)) n m) := hBG ▸ fun _ h => h.1.1
  have HPC : Hid (∀ wx, BG.P wx → PlC14 wx y n m ta oa (.slice za n zc) (.slice zb m zd)) := hBG ▸ fun _ h => plan_cells h.2
  obtain ⟨c0, c1, c2, c3, c4, c5, c6, c7, c8, c9, c10, c11, c12, c13⟩ := HPC.out _ H.out.bag
  clear hT h HA hBG
  go_enter Tryz.func76, Tryz.ntmps76
  go_upto_region 1 with fail
  rw [← hVe, ← hye]
  clear hVe hye
  by_cases ht : 0 ≤ t ∧ t < n
  · go_wp2_with fail
    refine (there14 _ _ n m (HTH.out _ H.out.bag) t).mono ?_
    rintro e w1 ⟨rfl, ho⟩
    rw [decide_eq_true ht]
    have H1 := hid (H.out.still ho)
    clear H ho c0 c1 c2 c3 c4 c5 c6 c7 c8 c9 c10 c11 c12 c13
    have H2 := hid (H1.out.pos ht)
    clear H1
    obtain ⟨c0, c1, c2, c3, c4, c5, c6, c7, c8, c9, c10, c11, c12, c13⟩ := HPC.out _ H2.out.bag
    go_wp2_with fail
    refine (H2.out.callIn (isReady14 Q _ n m t) HLE.out).mono ?_
    rintro e w2 ⟨b, rfl, h2⟩
    have H3 := hid h2
    clear H2 h2 c0 c1 c2 c3 c4 c5 c6 c7 c8 c9 c10 c11 c12 c13
    cases b
    · have H4 := hid (H3.out.neg (fun h => Bool.noConfusion h))
      clear H3
      go_wp2_with fail
      go_ret2
      exact ⟨_, BG, rfl, H4.out.fin⟩
    · have H4 := hid (H3.out.pos rfl)
      clear H3
      obtain ⟨c0, c1, c2, c3, c4, c5, c6, c7, c8, c9, c10, c11, c12, c13⟩ := HPC.out _ H4.out.bag
      go_wp2_with fail
      refine (H4.out.tailIn (prio14 Q _ n m t) HLE.out).mono ?_
      rintro e w3 ⟨u9, rfl, h9⟩
      have H5 := hid h9
      clear H4 h9 c0 c1 c2 c3 c4 c5 c6 c7 c8 c9 c10 c11 c12 c13
      go_wp2_with fail
      go_ret2
      exact ⟨_, BG, rfl, H5.out⟩
  · go_wp2_with fail
    refine (there14 _ _ n m (HTH.out _ H.out.bag) t).mono ?_
    rintro e w1 ⟨rfl, ho⟩
    rw [decide_eq_false ht]
    have H1 := hid (H.out.still ho)
    clear H ho c0 c1 c2 c3 c4 c5 c6 c7 c8 c9 c10 c11 c12 c13
    have H2 := hid (H1.out.neg ht)
    clear H1
    go_wp2_with fail
    go_ret2
    exact ⟨_, BG, rfl, H2.out.fin⟩

set_option maxRecDepth 100000 in
set_option maxHeartbeats 1000000 in
theorem ready14 (Q : Nat → Prop) (cs : Array Value) (n m : Nat) (t : Int) : DoesIn (thBag cs n m Q) 42 (fun F => #[F, .agg cs, .int .i64 t]) (readyT n m t) (fun _ => .tuple #[]) := by
  refine DoesIn.of fun w F lb p q R h => ?_
  have hT := h.bag.1
  obtain ⟨hn, hm, ta, oa, za, zb, zc, zd, rfl, _⟩ := h.bag.1
  have HA := hid (h.alloc (plO (planCs n m ta oa (.slice za n zc) (.slice zb m zd))))
  have hV : ∃ V y, V = w.alloc (plO (planCs n m ta oa (.slice za n zc) (.slice zb m zd))) ∧ y = w.heap.size := ⟨_, _, rfl, rfl⟩
  obtain ⟨V, y, hVe, hye⟩ := hV
  obtain ⟨BG, hBG⟩ : ∃ BG, (thBag (planCs n m ta oa (.slice za n zc) (.slice zb m zd)) n m Q).and (Bag.one y (plO (planCs n m ta oa (.slice za n zc) (.slice zb m zd)))) = BG := ⟨_, rfl⟩
  have H : Hid (At w F lb p q (fun _ => False) BG (readyT n m t) R V) := by rw [← hBG, hVe, hye]; exact HA.out
  have HLE : Hid ((thBag (planCs n m ta oa (.slice za n zc) (.slice zb m zd)) n m Q).Le BG) := hBG ▸ ⟨fun _ h => h.1, fun _ h => .inl h⟩
  have HTH : Hid (∀ wx, BG.P wx → ThIs Q wx (planCs n m ta oa (.slice za n zc) (.slice zb m zd)) n m) := hBG ▸ fun _ h => h.1.1
  have HPC : Hid (∀ wx, BG.P wx → PlC14 wx y n m ta oa (.slice za n zc) (.slice zb m zd)) := hBG ▸ fun _ h => plan_cells h.2
  obtain ⟨c0, c1, c2, c3, c4, c5, c6, c7, c8, c9, c10, c11, c12, c13⟩ := HPC.out _ H.out.bag
  clear hT h HA hBG
  go_enter Tryz.func42, Tryz.ntmps42
  go_upto_region 1 with fail
  rw [← hVe, ← hye]
  clear hVe hye
  by_cases ht : 0 ≤ t ∧ t < n
  · go_wp2_with fail
    refine (there14 _ _ n m (HTH.out _ H.out.bag) t).mono ?_
    rintro e w1 ⟨rfl, ho⟩
    rw [decide_eq_true ht]
    have H1 := hid (H.out.still ho)
    clear H ho c0 c1 c2 c3 c4 c5 c6 c7 c8 c9 c10 c11 c12 c13
    have H2 := hid (H1.out.pos ht)
    clear H1
    obtain ⟨c0, c1, c2, c3, c4, c5, c6, c7, c8, c9, c10, c11, c12, c13⟩ := HPC.out _ H2.out.bag
    go_wp2_with fail
    refine (H2.out.callIn (isReady14 Q _ n m t) HLE.out).mono ?_
    rintro e w2 ⟨b, rfl, h2⟩
    have H3 := hid h2
    clear H2 h2 c0 c1 c2 c3 c4 c5 c6 c7 c8 c9 c10 c11 c12 c13
    cases b
    · have H4 := hid (H3.out.neg (fun h => Bool.noConfusion h))
      clear H3
      obtain ⟨c0, c1, c2, c3, c4, c5, c6, c7, c8, c9, c10, c11, c12, c13⟩ := HPC.out _ H4.out.bag
      go_wp2_with fail
      refine (H4.out.callIn (prio14 Q _ n m t) HLE.out).mono ?_
      rintro e w3 ⟨⟨x, ok⟩, rfl, h9⟩
      have H5 := hid h9
      clear H4 h9 c0 c1 c2 c3 c4 c5 c6 c7 c8 c9 c10 c11 c12 c13
      cases ok
      · have H6 := hid (H5.out.neg (fun h => Bool.noConfusion h))
        clear H5
        go_wp2_with fail
        refine bodyPost_ret (results_none rfl _ _ _) rfl ?_
        have HE := H6.out.fin
        first
          | exact ⟨_, BG, rfl, HE⟩
          | exact ⟨BG, _, rfl, HE⟩
          | exact ⟨rfl, _, BG, HE⟩
          | exact ⟨rfl, BG, _, HE⟩
      · have H6 := hid (H5.out.pos rfl)
        clear H5
        obtain ⟨c0, c1, c2, c3, c4, c5, c6, c7, c8, c9, c10, c11, c12, c13⟩ := HPC.out _ H6.out.bag
        go_wp2_with fail
        refine (H6.out.callIn (tSet_does Q _ n m t 0 0) HLE.out).mono ?_
        rintro e w4 ⟨u9, rfl, h9⟩
        have H7 := hid h9
        clear H6 h9 c0 c1 c2 c3 c4 c5 c6 c7 c8 c9 c10 c11 c12 c13
        have H7d := hid (H7.out.drew)
        obtain ⟨c0, c1, c2, c3, c4, c5, c6, c7, c8, c9, c10, c11, c12, c13⟩ := HPC.out _ H7.out.bag
        clear H7
        go_wp2_with fail
        go_region_held (fun w' => w'.cell? ⟨y, 0, none⟩ = some (.int .i64 0) ∧ w'.cell? ⟨y, 1, none⟩ = some (.int .i64 2) ∧ w'.cell? ⟨y, 2, none⟩ = some (.int .i64 4) ∧ w'.cell? ⟨y, 3, none⟩ = some (.int .i64 3) ∧ w'.cell? ⟨y, 4, none⟩ = some (.int .i64 5) ∧ w'.cell? ⟨y, 5, none⟩ = some (.int .i64 6) ∧ w'.cell? ⟨y, 6, none⟩ = some (.int .i64 8) ∧ w'.cell? ⟨y, 7, none⟩ = some (.int .i64 41) ∧ w'.cell? ⟨y, 8, none⟩ = some (.int .i64 43) ∧ w'.cell? ⟨y, 9, none⟩ = some (.slice ta n n) ∧ w'.cell? ⟨y, 10, none⟩ = some (.slice oa m m) ∧ w'.cell? ⟨y, 11, none⟩ = some (.int .i64 (43 + (m : Int) + (n : Int) * 24 + (m : Int) * 24)) ∧ w'.cell? ⟨y, 12, none⟩ = some (.slice za n zc) ∧ w'.cell? ⟨y, 13, none⟩ = some (.slice zb m zd)) (go_keep)
          (first | (go_at_call 75; refine (tNode_rel _ _ n m (HTH.out _ H7d.out.bag) t).mono ?_; rintro e w7 ⟨rfl, ho⟩
                    have H7n := hid (H7d.out.still ho)
                    clear H7d ho c0 c1 c2 c3 c4 c5 c6 c7 c8 c9 c10 c11 c12 c13
                    obtain ⟨c0, c1, c2, c3, c4, c5, c6, c7, c8, c9, c10, c11, c12, c13⟩ := HPC.out _ H7n.out.bag)
                 | (go_at_call 65; refine (H7n.out.tail (qAdd_does 8 (tplaceV n m t 0) x)).mono ?_; rintro e w8 ⟨x9, rfl, h9⟩
                    have H8 := hid h9
                    clear H7n h9 c0 c1 c2 c3 c4 c5 c6 c7 c8 c9 c10 c11 c12 c13
                    obtain ⟨c0, c1, c2, c3, c4, c5, c6, c7, c8, c9, c10, c11, c12, c13⟩ := HPC.out _ H8.out.bag))
        clear c0 c1 c2 c3 c4 c5 c6 c7 c8 c9 c10 c11 c12 c13
        go_wp2_with fail
        go_end0
        exact ⟨_, BG, rfl, H8.out⟩
    · have H4 := hid (H3.out.pos rfl)
      clear H3
      go_wp2_with fail
      refine bodyPost_ret (results_none rfl _ _ _) rfl ?_
      have HE := H4.out.fin
      first
        | exact ⟨_, BG, rfl, HE⟩
        | exact ⟨BG, _, rfl, HE⟩
        | exact ⟨rfl, _, BG, HE⟩
        | exact ⟨rfl, BG, _, HE⟩
  · go_wp2_with fail
    refine (there14 _ _ n m (HTH.out _ H.out.bag) t).mono ?_
    rintro e w1 ⟨rfl, ho⟩
    rw [decide_eq_false ht]
    have H1 := hid (H.out.still ho)
    clear H ho c0 c1 c2 c3 c4 c5 c6 c7 c8 c9 c10 c11 c12 c13
    have H2 := hid (H1.out.neg ht)
    clear H1
    go_wp2_with fail
    refine bodyPost_ret (results_none rfl _ _ _) rfl ?_
    have HE := H2.out.fin
    first
      | exact ⟨_, BG, rfl, HE⟩
      | exact ⟨BG, _, rfl, HE⟩
      | exact ⟨rfl, _, BG, HE⟩
      | exact ⟨rfl, BG, _, HE⟩

set_option maxRecDepth 100000 in
set_option maxHeartbeats 1000000 in
theorem unready14F (Q : Nat → Prop) (cs : Array Value) (n m : Nat) (t s : Int) : DoesIn (thBag cs n m Q) 43 (fun F => #[F, .agg cs, .int .i64 t, .int .i64 s]) (unreadyT (qDropT 8 (tplaceV n m t 0)) n m t s) (fun _ => .tuple #[]) := by
  refine DoesIn.of fun w F lb p q R h => ?_
  have hT := h.bag.1
  obtain ⟨hn, hm, ta, oa, za, zb, zc, zd, rfl, _⟩ := h.bag.1
  have HA := hid (h.alloc (plO (planCs n m ta oa (.slice za n zc) (.slice zb m zd))))
  have hV : ∃ V y, V = w.alloc (plO (planCs n m ta oa (.slice za n zc) (.slice zb m zd))) ∧ y = w.heap.size := ⟨_, _, rfl, rfl⟩
  obtain ⟨V, y, hVe, hye⟩ := hV
  obtain ⟨BG, hBG⟩ : ∃ BG, (thBag (planCs n m ta oa (.slice za n zc) (.slice zb m zd)) n m Q).and (Bag.one y (plO (planCs n m ta oa (.slice za n zc) (.slice zb m zd)))) = BG := ⟨_, rfl⟩
  have H : Hid (At w F lb p q (fun _ => False) BG (unreadyT (qDropT 8 (tplaceV n m t 0)) n m t s) R V) := by rw [← hBG, hVe, hye]; exact HA.out
  have HLE : Hid ((thBag (planCs n m ta oa (.slice za n zc) (.slice zb m zd)) n m Q).Le BG) := hBG ▸ ⟨fun _ h => h.1, fun _ h => .inl h⟩
  have HTH : Hid (∀ wx, BG.P wx → ThIs Q wx (planCs n m ta oa (.slice za n zc) (.slice zb m zd)) n m) := hBG ▸ fun _ h => h.1.1
  have HPC : Hid (∀ wx, BG.P wx → PlC14 wx y n m ta oa (.slice za n zc) (.slice zb m zd)) := hBG ▸ fun _ h => plan_cells h.2
  obtain ⟨c0, c1, c2, c3, c4, c5, c6, c7, c8, c9, c10, c11, c12, c13⟩ := HPC.out _ H.out.bag
  clear hT h HA hBG
  go_enter Tryz.func43, Tryz.ntmps43
  go_upto_region 1 with fail
  rw [← hVe, ← hye]
  clear hVe hye
  by_cases h0 : s < 1
  · have H2 := hid (H.out.neg (by omega))
    clear H c0 c1 c2 c3 c4 c5 c6 c7 c8 c9 c10 c11 c12 c13
    go_wp2_with fail
    refine bodyPost_ret (results_none rfl _ _ _) rfl ?_
    have HE := H2.out.fin
    first
      | exact ⟨_, BG, rfl, HE⟩
      | exact ⟨BG, _, rfl, HE⟩
      | exact ⟨rfl, _, BG, HE⟩
      | exact ⟨rfl, BG, _, HE⟩
  by_cases h1 : 3 < s
  · have H2 := hid (H.out.neg (by omega))
    clear H c0 c1 c2 c3 c4 c5 c6 c7 c8 c9 c10 c11 c12 c13
    go_wp2_with fail
    refine bodyPost_ret (results_none rfl _ _ _) rfl ?_
    have HE := H2.out.fin
    first
      | exact ⟨_, BG, rfl, HE⟩
      | exact ⟨BG, _, rfl, HE⟩
      | exact ⟨rfl, _, BG, HE⟩
      | exact ⟨rfl, BG, _, HE⟩
  have H1 := hid (H.out.pos (by omega))
  clear H
  go_wp2_with fail
  refine (H1.out.callIn (stand14 Q _ n m t) HLE.out).mono ?_
  rintro e w3 ⟨⟨x, ok⟩, rfl, h9⟩
  have H2 := hid h9
  clear H1 h9 c0 c1 c2 c3 c4 c5 c6 c7 c8 c9 c10 c11 c12 c13
  cases ok
  · have H3 := hid (H2.out.neg (fun h => Bool.noConfusion h))
    clear H2
    go_wp2_with fail
    refine bodyPost_ret (results_none rfl _ _ _) rfl ?_
    have HE := H3.out.fin
    first
      | exact ⟨_, BG, rfl, HE⟩
      | exact ⟨BG, _, rfl, HE⟩
      | exact ⟨rfl, _, BG, HE⟩
      | exact ⟨rfl, BG, _, HE⟩
  have H3 := hid (H2.out.pos rfl)
  clear H2
  have H3d := hid (H3.out.drew)
  obtain ⟨c0, c1, c2, c3, c4, c5, c6, c7, c8, c9, c10, c11, c12, c13⟩ := HPC.out _ H3.out.bag
  clear H3
  go_wp2_with fail
  go_region_held (fun w' => w'.cell? ⟨y, 0, none⟩ = some (.int .i64 0) ∧ w'.cell? ⟨y, 1, none⟩ = some (.int .i64 2) ∧ w'.cell? ⟨y, 2, none⟩ = some (.int .i64 4) ∧ w'.cell? ⟨y, 3, none⟩ = some (.int .i64 3) ∧ w'.cell? ⟨y, 4, none⟩ = some (.int .i64 5) ∧ w'.cell? ⟨y, 5, none⟩ = some (.int .i64 6) ∧ w'.cell? ⟨y, 6, none⟩ = some (.int .i64 8) ∧ w'.cell? ⟨y, 7, none⟩ = some (.int .i64 41) ∧ w'.cell? ⟨y, 8, none⟩ = some (.int .i64 43) ∧ w'.cell? ⟨y, 9, none⟩ = some (.slice ta n n) ∧ w'.cell? ⟨y, 10, none⟩ = some (.slice oa m m) ∧ w'.cell? ⟨y, 11, none⟩ = some (.int .i64 (43 + (m : Int) + (n : Int) * 24 + (m : Int) * 24)) ∧ w'.cell? ⟨y, 12, none⟩ = some (.slice za n zc) ∧ w'.cell? ⟨y, 13, none⟩ = some (.slice zb m zd)) (go_keep)
    (first | (go_at_call 75; refine (tNode_rel _ _ n m (HTH.out _ H3d.out.bag) t).mono ?_; rintro e w7 ⟨rfl, ho⟩
              have H3n := hid (H3d.out.still ho)
              clear H3d ho c0 c1 c2 c3 c4 c5 c6 c7 c8 c9 c10 c11 c12 c13
              obtain ⟨c0, c1, c2, c3, c4, c5, c6, c7, c8, c9, c10, c11, c12, c13⟩ := HPC.out _ H3n.out.bag)
           | (go_at_call 77; refine (H3n.out.call (qDrop_does 8 (tplaceV n m t 0) x)).mono ?_; rintro e w8 ⟨x9, rfl, h9⟩
              have H4 := hid h9
              clear H3n h9 c0 c1 c2 c3 c4 c5 c6 c7 c8 c9 c10 c11 c12 c13
              obtain ⟨c0, c1, c2, c3, c4, c5, c6, c7, c8, c9, c10, c11, c12, c13⟩ := HPC.out _ H4.out.bag))
  go_wp2_with fail
  refine (H4.out.tailIn (tSet_does Q _ n m t 0 s) HLE.out).mono ?_
  rintro e w9 ⟨u9, rfl, h9⟩
  have H5 := hid h9
  clear H4 h9 c0 c1 c2 c3 c4 c5 c6 c7 c8 c9 c10 c11 c12 c13
  go_wp2_with fail
  go_end0
  exact ⟨_, BG, rfl, H5.out⟩

set_option maxRecDepth 100000 in
set_option maxHeartbeats 1000000 in
theorem change14F (Q : Nat → Prop) (cs : Array Value) (n m : Nat) (t p : Int) (first : Bool) : DoesIn (thBag cs n m Q) 44 (fun F => #[F, .agg cs, .int .i64 t, .int .i64 p, .bool first]) (changeT (qDropT 8 (tplaceV n m t 0)) n m t p first) (fun _ => .tuple #[]) := by
  refine DoesIn.of fun w F lb pp q R h => ?_
  have hT := h.bag.1
  obtain ⟨hn, hm, ta, oa, za, zb, zc, zd, rfl, _⟩ := h.bag.1
  have HA := hid (h.alloc (plO (planCs n m ta oa (.slice za n zc) (.slice zb m zd))))
  have hV : ∃ V y, V = w.alloc (plO (planCs n m ta oa (.slice za n zc) (.slice zb m zd))) ∧ y = w.heap.size := ⟨_, _, rfl, rfl⟩
  obtain ⟨V, y, hVe, hye⟩ := hV
  obtain ⟨BG, hBG⟩ : ∃ BG, (thBag (planCs n m ta oa (.slice za n zc) (.slice zb m zd)) n m Q).and (Bag.one y (plO (planCs n m ta oa (.slice za n zc) (.slice zb m zd)))) = BG := ⟨_, rfl⟩
  have H : Hid (At w F lb pp q (fun _ => False) BG (changeT (qDropT 8 (tplaceV n m t 0)) n m t p first) R V) := by rw [← hBG, hVe, hye]; exact HA.out
  have HLE : Hid ((thBag (planCs n m ta oa (.slice za n zc) (.slice zb m zd)) n m Q).Le BG) := hBG ▸ ⟨fun _ h => h.1, fun _ h => .inl h⟩
  have HTH : Hid (∀ wx, BG.P wx → ThIs Q wx (planCs n m ta oa (.slice za n zc) (.slice zb m zd)) n m) := hBG ▸ fun _ h => h.1.1
  have HPC : Hid (∀ wx, BG.P wx → PlC14 wx y n m ta oa (.slice za n zc) (.slice zb m zd)) := hBG ▸ fun _ h => plan_cells h.2
  obtain ⟨c0, c1, c2, c3, c4, c5, c6, c7, c8, c9, c10, c11, c12, c13⟩ := HPC.out _ H.out.bag
  clear hT h HA hBG
  go_enter Tryz.func44, Tryz.ntmps44
  go_upto_region 1 with fail
  rw [← hVe, ← hye]
  clear hVe hye
  by_cases ht : 0 ≤ t ∧ t < n
  · go_wp2_with fail
    refine (there14 _ _ n m (HTH.out _ H.out.bag) t).mono ?_
    rintro e w1 ⟨rfl, ho⟩
    rw [decide_eq_true ht]
    have H1 := hid (H.out.still ho)
    clear H ho c0 c1 c2 c3 c4 c5 c6 c7 c8 c9 c10 c11 c12 c13
    obtain ⟨c0, c1, c2, c3, c4, c5, c6, c7, c8, c9, c10, c11, c12, c13⟩ := HPC.out _ H1.out.bag
    go_wp2_with fail
    refine (valid14 _ p).mono ?_
    rintro e w2 ⟨rfl, rfl⟩
    by_cases hp : 0 ≤ p ∧ p < 16
    · rw [decide_eq_true hp]
      have H2 := hid (H1.out.pos ⟨ht, hp⟩)
      clear H1
      go_wp2_with fail
      refine (H2.out.callIn (isReady14 Q _ n m t) HLE.out).mono ?_
      rintro e w3 ⟨b, rfl, h2⟩
      have H3 := hid h2
      clear H2 h2 c0 c1 c2 c3 c4 c5 c6 c7 c8 c9 c10 c11 c12 c13
      cases b
      · have H4 := hid (H3.out.neg (fun h => Bool.noConfusion h))
        clear H3
        obtain ⟨c0, c1, c2, c3, c4, c5, c6, c7, c8, c9, c10, c11, c12, c13⟩ := HPC.out _ H4.out.bag
        go_wp2_with fail
        refine (H4.out.callIn (tSet_does Q _ n m t 2 p) HLE.out).mono ?_
        rintro e w4 ⟨u9, rfl, h9⟩
        have H5 := hid h9
        clear H4 h9 c0 c1 c2 c3 c4 c5 c6 c7 c8 c9 c10 c11 c12 c13
        go_wp2_with fail
        refine bodyPost_ret (results_none rfl _ _ _) rfl ?_
        have HE := H5.out.fin
        first
          | exact ⟨_, BG, rfl, HE⟩
          | exact ⟨BG, _, rfl, HE⟩
          | exact ⟨rfl, _, BG, HE⟩
          | exact ⟨rfl, BG, _, HE⟩
      · have H4 := hid (H3.out.pos rfl)
        clear H3
        obtain ⟨c0, c1, c2, c3, c4, c5, c6, c7, c8, c9, c10, c11, c12, c13⟩ := HPC.out _ H4.out.bag
        go_wp2_with fail
        refine (H4.out.callIn (prio14 Q _ n m t) HLE.out).mono ?_
        rintro e w4 ⟨⟨x, ok⟩, rfl, h9⟩
        have H5 := hid h9
        clear H4 h9 c0 c1 c2 c3 c4 c5 c6 c7 c8 c9 c10 c11 c12 c13
        cases ok
        · have H6 := hid (H5.out.neg (fun h => Bool.noConfusion h))
          clear H5
          go_wp2_with fail
          refine bodyPost_ret (results_none rfl _ _ _) rfl ?_
          have HE := H6.out.fin
          first
            | exact ⟨_, BG, rfl, HE⟩
            | exact ⟨BG, _, rfl, HE⟩
            | exact ⟨rfl, _, BG, HE⟩
            | exact ⟨rfl, BG, _, HE⟩
        · have H6 := hid (H5.out.pos rfl)
          clear H5
          obtain ⟨c0, c1, c2, c3, c4, c5, c6, c7, c8, c9, c10, c11, c12, c13⟩ := HPC.out _ H6.out.bag
          go_wp2_with fail
          refine (tNode_rel _ _ n m (HTH.out _ H6.out.bag) t).mono ?_
          rintro e w5 ⟨rfl, ho⟩
          have H7 := hid (H6.out.still ho)
          clear H6 ho c0 c1 c2 c3 c4 c5 c6 c7 c8 c9 c10 c11 c12 c13
          obtain ⟨c0, c1, c2, c3, c4, c5, c6, c7, c8, c9, c10, c11, c12, c13⟩ := HPC.out _ H7.out.bag
          go_wp2_with fail
          refine (H7.out.call (qDrop_does 8 (tplaceV n m t 0) x)).mono ?_
          rintro e w6 ⟨x9, rfl, h9⟩
          have H8 := hid h9
          clear H7 h9 c0 c1 c2 c3 c4 c5 c6 c7 c8 c9 c10 c11 c12 c13
          obtain ⟨c0, c1, c2, c3, c4, c5, c6, c7, c8, c9, c10, c11, c12, c13⟩ := HPC.out _ H8.out.bag
          go_wp2_with fail
          refine (H8.out.callIn (tSet_does Q _ n m t 2 p) HLE.out).mono ?_
          rintro e w7 ⟨u9, rfl, h9⟩
          have H9 := hid h9
          clear H8 h9 c0 c1 c2 c3 c4 c5 c6 c7 c8 c9 c10 c11 c12 c13
          obtain ⟨c0, c1, c2, c3, c4, c5, c6, c7, c8, c9, c10, c11, c12, c13⟩ := HPC.out _ H9.out.bag
          cases first
          · have H10 := hid (H9.out.neg (fun h => Bool.noConfusion h))
            clear H9
            go_wp2_with fail
            refine (H10.out.tail (qAdd_does 8 (tplaceV n m t 0) p)).mono ?_
            rintro e w8 ⟨x9, rfl, h9⟩
            have H11 := hid h9
            clear H10 h9 c0 c1 c2 c3 c4 c5 c6 c7 c8 c9 c10 c11 c12 c13
            go_wp2_with fail
            go_end0
            exact ⟨_, BG, rfl, H11.out⟩
          · have H10 := hid (H9.out.pos rfl)
            clear H9
            go_wp2_with fail
            refine (H10.out.tail (qFront_does 8 (tplaceV n m t 0) p)).mono ?_
            rintro e w8 ⟨x9, rfl, h9⟩
            have H11 := hid h9
            clear H10 h9 c0 c1 c2 c3 c4 c5 c6 c7 c8 c9 c10 c11 c12 c13
            go_wp2_with fail
            go_end0
            exact ⟨_, BG, rfl, H11.out⟩
    · rw [decide_eq_false hp]
      have H2 := hid (H1.out.neg (fun h => hp h.2))
      clear H1 c0 c1 c2 c3 c4 c5 c6 c7 c8 c9 c10 c11 c12 c13
      go_wp2_with fail
      refine bodyPost_ret (results_none rfl _ _ _) rfl ?_
      have HE := H2.out.fin
      first
        | exact ⟨_, BG, rfl, HE⟩
        | exact ⟨BG, _, rfl, HE⟩
        | exact ⟨rfl, _, BG, HE⟩
        | exact ⟨rfl, BG, _, HE⟩
  · go_wp2_with fail
    refine (there14 _ _ n m (HTH.out _ H.out.bag) t).mono ?_
    rintro e w1 ⟨rfl, ho⟩
    rw [decide_eq_false ht]
    have H1 := hid (H.out.still ho)
    clear H ho c0 c1 c2 c3 c4 c5 c6 c7 c8 c9 c10 c11 c12 c13
    have H2 := hid (H1.out.neg (fun h => ht h.1))
    clear H1
    go_wp2_with fail
    refine bodyPost_ret (results_none rfl _ _ _) rfl ?_
    have HE := H2.out.fin
    first
      | exact ⟨_, BG, rfl, HE⟩
      | exact ⟨BG, _, rfl, HE⟩
      | exact ⟨rfl, _, BG, HE⟩
      | exact ⟨rfl, BG, _, HE⟩

set_option maxRecDepth 100000 in
set_option maxHeartbeats 1000000 in
theorem yield14F (Q : Nat → Prop) (cs : Array Value) (n m : Nat) (t : Int) : DoesIn (thBag cs n m Q) 45 (fun F => #[F, .agg cs, .int .i64 t]) (yieldT (qDropT 8 (tplaceV n m t 0)) n m t) (fun _ => .tuple #[]) := by
  refine DoesIn.of fun w F lb p q R h => ?_
  have hT := h.bag.1
  obtain ⟨hn, hm, ta, oa, za, zb, zc, zd, rfl, _⟩ := h.bag.1
  have HA := hid (h.alloc (plO (planCs n m ta oa (.slice za n zc) (.slice zb m zd))))
  have hV : ∃ V y, V = w.alloc (plO (planCs n m ta oa (.slice za n zc) (.slice zb m zd))) ∧ y = w.heap.size := ⟨_, _, rfl, rfl⟩
  obtain ⟨V, y, hVe, hye⟩ := hV
  obtain ⟨BG, hBG⟩ : ∃ BG, (thBag (planCs n m ta oa (.slice za n zc) (.slice zb m zd)) n m Q).and (Bag.one y (plO (planCs n m ta oa (.slice za n zc) (.slice zb m zd)))) = BG := ⟨_, rfl⟩
  have H : Hid (At w F lb p q (fun _ => False) BG (yieldT (qDropT 8 (tplaceV n m t 0)) n m t) R V) := by rw [← hBG, hVe, hye]; exact HA.out
  have HLE : Hid ((thBag (planCs n m ta oa (.slice za n zc) (.slice zb m zd)) n m Q).Le BG) := hBG ▸ ⟨fun _ h => h.1, fun _ h => .inl h⟩
  have HTH : Hid (∀ wx, BG.P wx → ThIs Q wx (planCs n m ta oa (.slice za n zc) (.slice zb m zd)) n m) := hBG ▸ fun _ h => h.1.1
  have HPC : Hid (∀ wx, BG.P wx → PlC14 wx y n m ta oa (.slice za n zc) (.slice zb m zd)) := hBG ▸ fun _ h => plan_cells h.2
  obtain ⟨c0, c1, c2, c3, c4, c5, c6, c7, c8, c9, c10, c11, c12, c13⟩ := HPC.out _ H.out.bag
  clear hT h HA hBG
  go_enter Tryz.func45, Tryz.ntmps45
  go_upto_region 1 with fail
  rw [← hVe, ← hye]
  clear hVe hye
  go_wp2_with fail
  refine (H.out.callIn (stand14 Q _ n m t) HLE.out).mono ?_
  rintro e w3 ⟨⟨x, ok⟩, rfl, h9⟩
  have H2 := hid h9
  clear H h9 c0 c1 c2 c3 c4 c5 c6 c7 c8 c9 c10 c11 c12 c13
  cases ok
  · have H3 := hid (H2.out.neg (fun h => Bool.noConfusion h))
    clear H2
    go_wp2_with fail
    refine bodyPost_ret (results_none rfl _ _ _) rfl ?_
    have HE := H3.out.fin
    first
      | exact ⟨_, BG, rfl, HE⟩
      | exact ⟨BG, _, rfl, HE⟩
      | exact ⟨rfl, _, BG, HE⟩
      | exact ⟨rfl, BG, _, HE⟩
  · have H3 := hid (H2.out.pos rfl)
    clear H2
    obtain ⟨c0, c1, c2, c3, c4, c5, c6, c7, c8, c9, c10, c11, c12, c13⟩ := HPC.out _ H3.out.bag
    go_wp2_with fail
    refine (tNode_rel _ _ n m (HTH.out _ H3.out.bag) t).mono ?_
    rintro e w4 ⟨rfl, ho⟩
    have H4 := hid (H3.out.still ho)
    clear H3 ho c0 c1 c2 c3 c4 c5 c6 c7 c8 c9 c10 c11 c12 c13
    obtain ⟨c0, c1, c2, c3, c4, c5, c6, c7, c8, c9, c10, c11, c12, c13⟩ := HPC.out _ H4.out.bag
    go_wp2_with fail
    refine (H4.out.call (qDrop_does 8 (tplaceV n m t 0) x)).mono ?_
    rintro e w5 ⟨x9, rfl, h9⟩
    have H5 := hid h9
    clear H4 h9 c0 c1 c2 c3 c4 c5 c6 c7 c8 c9 c10 c11 c12 c13
    obtain ⟨c0, c1, c2, c3, c4, c5, c6, c7, c8, c9, c10, c11, c12, c13⟩ := HPC.out _ H5.out.bag
    go_wp2_with fail
    refine (H5.out.tail (qAdd_does 8 (tplaceV n m t 0) x)).mono ?_
    rintro e w6 ⟨x9, rfl, h9⟩
    have H6 := hid h9
    clear H5 h9 c0 c1 c2 c3 c4 c5 c6 c7 c8 c9 c10 c11 c12 c13
    go_wp2_with fail
    go_end0
    exact ⟨_, BG, rfl, H6.out⟩
end Go.Proofs.YtmcmjcaigipoaaaGreat

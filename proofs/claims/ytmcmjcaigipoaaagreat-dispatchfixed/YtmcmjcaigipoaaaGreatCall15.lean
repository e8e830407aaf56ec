/-
  Package dispatch: Current, Called, running, look, choose, needsCall: as trees of accesses, and as plain functions. Conditions: the plan is one that Of makes.
-/
import Derived.Test.YtmcmjcaigipoaaaGreatBest14
import Derived.Test.YtmcmjcaigipoaaaGreatSettle15
import Derived.Deep.RegionHeld
import Derived.Laws.NewBlocks
namespace Go.Sept
open Go.RowKit
def curA (k : Int) : Int := if k = 0 then 3 else 5
def ipiA (k : Int) : Int := if k = 0 then 2 else 4
/-- Which thread a word tells of; -1: none. -/
def whoV (n : Nat) (v : Int) : Int := if 0 ≤ IntKind.i64.wrap (v - 1) ∧ IntKind.i64.wrap (v - 1) < (n : Int) then IntKind.i64.wrap (v - 1) else -1
theorem whoV_rng (n : Nat) (v : Int) : -1 ≤ whoV n v ∧ whoV n v < (n : Int) := by
  unfold whoV
  split <;> omega
def whoT (n : Nat) (k : Int) : Tree Int 1 := (loadT (curA k)).bind fun v => (Tree.ret (whoV n v) : Tree Int 0)
def curT (n : Nat) (k : Int) : Tree (Int × Bool) 1 := if 0 ≤ k ∧ k < 2 then (whoT n k).bind fun t => (Tree.ret (if t = -1 then (0, false) else (t, true)) : Tree (Int × Bool) 0) else .ret (0, false)
def calT (k : Int) : Tree Bool 1 := if 0 ≤ k ∧ k < 2 then (loadT (ipiA k)).bind fun v => (Tree.ret (v == 1) : Tree Bool 0) else .ret false
def lookT (n m : Nat) (k : Int) : Tree (Int × Bool) 3 := (whoT n k).bind fun t => (getT n m t 0).bind fun v => if v = 0 then (getT n m t 10).bind fun h => (Tree.ret (t, decide (0 < h)) : Tree (Int × Bool) 0) else .ret (t, false)
/-- Who is to run where nobody is fixed. -/
def chooseV (l : List Int) (h t : Int) : Int := if h ∈ l then h else firstNot t l
/-- Whether the other core is called. -/
def callV (l : List Int) (h : Int) (b : Int × Bool) : Bool := if b.2 = true then false else if b.1 ≠ -1 ∧ b.1 ∉ l then true else l.any fun t => t != h && t != b.1
/-- All that a tree may answer. -/
def Tree.Ans {α : Type} {n : Nat} (P : α → Prop) (T : Tree α n) : Prop := ∀ s xs, P (T.run s xs).1
theorem Tree.Ans.ret {α : Type} {n : Nat} {P : α → Prop} {x : α} (h : P x) : Tree.Ans P (Tree.ret x : Tree α n) := fun s xs => by rw [Tree.run_ret]; exact h
theorem Tree.Ans.bind {α β : Type} {n m : Nat} {P : α → Prop} {P2 : β → Prop} {t : Tree α n} {g : α → Tree β m} (h : Tree.Ans P t) (hg : ∀ x, P x → Tree.Ans P2 (g x)) : Tree.Ans P2 (Tree.bind t g) := fun s xs => by
  rw [Tree.run_bind]
  exact hg _ (h s xs) _ _
theorem Tree.Ans.any {α : Type} {n : Nat} (T : Tree α n) : Tree.Ans (fun _ => True) T := fun _ _ => trivial
theorem who_ans (n : Nat) (k : Int) : Tree.Ans (fun t => -1 ≤ t ∧ t < (n : Int)) (whoT n k) := by
  unfold whoT
  exact (Tree.Ans.any _).bind fun v _ => Tree.Ans.ret (whoV_rng n v)
theorem look_ans (n m : Nat) (k : Int) : Tree.Ans (fun x : Int × Bool => -1 ≤ x.1 ∧ x.1 < (n : Int)) (lookT n m k) := by
  unfold lookT
  refine (who_ans n k).bind fun t ht => (Tree.Ans.any _).bind fun v _ => ?_
  split
  · exact (Tree.Ans.any _).bind fun h _ => Tree.Ans.ret ht
  · exact Tree.Ans.ret ht
end Go.Sept

namespace Go.Proofs.YtmcmjcaigipoaaaGreat
open Go.RowKit Go.Sept

section
variable {w w1 w2 : World} {F lb p q : Nat} {S : Nat → Prop} {B C : Bag} {α β : Type} {n m : Nat} {R : β × FrSt × List Int}
theorem At.callInP {P : α → Prop} {t : Tree α n} {g : α → Tree β m} {fn : Nat} {args : Value → Array Value} {out : α → Value} (h : At w F lb p q S B (Tree.bind t g) R w1) (hc : DoesIn C fn args t out) (hle : C.Le B) (hP : Tree.Ans P t) :
    Calls Tryz.prog fn (args (ptrV F)) w1 fun e w2 => ∃ x, P x ∧ e = .returned (out x) ∧ At w F lb p q S B (g x) R w2 := by
  obtain ⟨s, xs, lb1, h1, h2, h3, h4, h5, h6⟩ := h
  refine (hc w1 F lb1 p q s xs h1 (h5.mono (Nat.le_add_left _ _)) (hle.p _ h4.1) (fun k hk => h4.2 k (hle.v k hk))).mono ?_
  rintro e w2 ⟨rfl, hL⟩
  exact ⟨_, hP s xs, rfl, At.over h2 h3 h4 hL (t.fit (by rwa [Nat.add_comm]) xs) (by rw [← h6, Tree.run_bind])⟩
/-- What does nothing is done. -/
theorem At.thru {x : α} {g : α → Tree β m} (h : At w F lb p q S B (Tree.bind (Tree.ret x : Tree α n) g) R w1) : At w F lb p q S B (g x) R w1 := by
  obtain ⟨s, xs, lb1, h1, h2, h3, h4, h5, h6⟩ := h
  exact ⟨s, xs, lb1, h1, h2, h3, h4, h5.mono (Nat.le_add_right _ _), by rw [← h6, Tree.run_bind, Tree.run_ret]⟩
/-- A store into a new block beside the frame. -/
theorem At.own {T : Tree β n} {U : Nat} {c : Array Value} {t : TypeId} (h : At w F lb p q S (B.and (Bag.one U (.cells c t))) T R w1) (hU : w.heap.size ≤ U) (hB : ¬ B.V U) (i : Nat) (v : Value) : At w F lb p q S (B.and (Bag.one U (.cells (c.setIfInBounds i v) t))) T R (w1.setCell ⟨U, i, none⟩ v) :=
  h.turn (S2 := fun k => k = U) ((Only.self U w1).own i v) (fun _ h => .inr h) (fun k hk e => by have e' : k = U := e; omega) ⟨B.keep _ _ _ h.bag.1 ((Only.self U w1).own i v) (fun k hk e => hB (by have e' : k = U := e; rwa [← e'])), block_setCell h.bag.2 i v⟩ (fun _ h => .inl h)
end

set_option maxHeartbeats 400000 in
theorem valid15 (w : World) (p : Int) : Calls Tryz.prog 81 #[.int .i64 p] w fun e w' => e = .returned (.bool (decide (0 ≤ p ∧ p < 2))) ∧ w' = w := by
  by_cases h0 : 0 ≤ p
  · by_cases h1 : p < 2
    · rw [show decide (0 ≤ p ∧ p < 2) = true from decide_eq_true ⟨h0, h1⟩]
      go_enter Tryz.func81, Tryz.ntmps81
      go_wp2
      go_ret
      exact ⟨by simp, rfl⟩
    · rw [show decide (0 ≤ p ∧ p < 2) = false from decide_eq_false (fun h => h1 h.2)]
      go_enter Tryz.func81, Tryz.ntmps81
      go_wp2
      go_ret
      exact ⟨by simp, rfl⟩
  · rw [show decide (0 ≤ p ∧ p < 2) = false from decide_eq_false (fun h => h0 h.1)]
    go_enter Tryz.func81, Tryz.ntmps81
    go_wp2
    go_ret
    exact ⟨by simp, rfl⟩

set_option maxRecDepth 100000 in
set_option maxHeartbeats 1000000 in
theorem exists15 {Q : Nat → Prop} (w : World) (cs : Array Value) (n m : Nat) (h : ThIs Q w cs n m) (t : Int) :
    Calls Tryz.prog 117 #[.agg cs, .int .i64 t] w fun e w' => e = .returned (.bool (decide (0 ≤ t ∧ t < n))) ∧ Only (fun _ => False) w w' := by
  have hT := h
  obtain ⟨hn, hm, ta, oa, za, zb, zc, zd, rfl, _⟩ := h
  have hW : ∃ W y, W = w.alloc (plO (planCs n m ta oa (.slice za n zc) (.slice zb m zd))) ∧ y = w.heap.size ∧ Only (fun _ => False) w W ∧ W.heap[y]? = some (plO (planCs n m ta oa (.slice za n zc) (.slice zb m zd))) := ⟨_, _, rfl, rfl, (Only.refl _ _).alloc _, heap_new _ _⟩
  obtain ⟨W, y, hWe, hye, hoW, hby⟩ := hW
  have HO := hid hoW
  have HBY := hid hby
  have HND := hid (tNode_rel W _ n m (hT.only hoW (fun _ _ h => h)) t)
  obtain ⟨c0, c1, c2, c3, c4, c5, c6, c7, c8, c9, c10, c11, c12, c13⟩ := plan_cells hby
  obtain ⟨bb, hbb⟩ : ∃ bb, decide (0 ≤ t ∧ t < n) = bb := ⟨_, rfl⟩
  have HBB := hid hbb
  rw [hbb]
  clear hT hoW hby hbb
  go_enter Tryz.func117, Tryz.ntmps117
  go_upto_region 1 with fail
  rw [← hWe, ← hye]
  clear hWe hye
  go_wp2_with fail
  refine HND.out.mono ?_
  rintro e w2 ⟨rfl, ho2⟩
  have HO2 := hid (HO.out.chain ho2 (fun _ _ h => h))
  obtain ⟨d0, d1, d2, d3, d4, d5, d6, d7, d8, d9, d10, d11, d12, d13⟩ := plan_cells ((ho2.block y (lt_of_block HBY.out) (fun h => h)).trans HBY.out)
  clear ho2 c0 c1 c2 c3 c4 c5 c6 c7 c8 c9 c10 c11 c12 c13 d0 d1 d2 d3 d4 d5 d6 d7 d8 d9 d10 d12 d13
  by_cases ht : 0 ≤ t ∧ t < n
  · have hbt : bb = true := by rw [← HBB.out]; exact decide_eq_true ht
    subst hbt
    rw [tplace_node ht]
    obtain ⟨o, rfl⟩ : ∃ o : Nat, t = (o : Int) := ⟨t.toNat, by omega⟩
    have hon : o < n := by omega
    have hb1 : 0 ≤ nodeA m (o : Int) := by unfold nodeA; omega
    have hb3 : nodeA m (o : Int) ≤ 1000 := by unfold nodeA; omega
    have hb2 : nodeA m (o : Int) + 24 ≤ 43 + (m : Int) + (n : Int) * 24 + (m : Int) * 24 := by unfold nodeA; omega
    obtain ⟨A, hA⟩ : ∃ A, nodeA m (o : Int) = A := ⟨_, rfl⟩
    rw [hA] at hb1 hb2 hb3 ⊢
    have g1 : decide (A + 24 ≤ 43 + (m : Int) + (n : Int) * 24 + (m : Int) * 24) = true := decide_eq_true hb2
    clear hA ht HBB
    go_wp2_with fail
    go_ret
    exact ⟨rfl, HO2.out⟩
  · have e0 : tplaceV n m t 0 = -1 := by rw [tplaceV, if_neg ht]
    have hbt : bb = false := by rw [← HBB.out]; exact decide_eq_false ht
    subst hbt
    rw [e0]
    clear e0 ht HBB
    go_wp2_with fail
    go_ret
    exact ⟨rfl, HO2.out⟩

set_option maxRecDepth 100000 in
set_option maxHeartbeats 1000000 in
theorem run15 (Q : Nat → Prop) (cs : Array Value) (n m : Nat) (k : Int) (hk : k = 0 ∨ k = 1) : DoesIn (thBag cs n m Q) 88 (fun F => #[F, .agg cs, .int .i64 k]) (whoT n k) (.int .i64) := by
  rcases hk with rfl | rfl
  · refine DoesIn.of fun w F lb p q R h => ?_
    have hT := h.bag.1
    obtain ⟨hn, hm, ta, oa, za, zb, zc, zd, rfl, _⟩ := h.bag.1
    have HA := hid (h.alloc (plO (planCs n m ta oa (.slice za n zc) (.slice zb m zd))))
    have hV : ∃ V y, V = w.alloc (plO (planCs n m ta oa (.slice za n zc) (.slice zb m zd))) ∧ y = w.heap.size := ⟨_, _, rfl, rfl⟩
    obtain ⟨V, y, hVe, hye⟩ := hV
    obtain ⟨BG, hBG⟩ : ∃ BG, (thBag (planCs n m ta oa (.slice za n zc) (.slice zb m zd)) n m Q).and (Bag.one y (plO (planCs n m ta oa (.slice za n zc) (.slice zb m zd)))) = BG := ⟨_, rfl⟩
    have H : Hid (At w F lb p q (fun _ => False) BG (whoT n 0) R V) := by rw [← hBG, hVe, hye]; exact HA.out
    have HLE : Hid ((thBag (planCs n m ta oa (.slice za n zc) (.slice zb m zd)) n m Q).Le BG) := hBG ▸ ⟨fun _ h => h.1, fun _ h => .inl h⟩
    have HTH : Hid (∀ wx, BG.P wx → ThIs Q wx (planCs n m ta oa (.slice za n zc) (.slice zb m zd)) n m) := hBG ▸ fun _ h => h.1.1
    have HPC : Hid (∀ wx, BG.P wx → PlC14 wx y n m ta oa (.slice za n zc) (.slice zb m zd)) := hBG ▸ fun _ h => plan_cells h.2
    obtain ⟨c0, c1, c2, c3, c4, c5, c6, c7, c8, c9, c10, c11, c12, c13⟩ := HPC.out _ H.out.bag
    clear hT h HA hBG
    go_enter Tryz.func88, Tryz.ntmps88
    go_upto_region 1 with fail
    rw [← hVe, ← hye]
    clear hVe hye
    have H1 : Hid (At w F lb p q (fun _ => False) BG ((loadT 3).bind fun v => (Tree.ret (whoV n v) : Tree Int 0)) R V) := H.out
    clear H
    go_wp2_with fail
    refine (H1.out.call (load_does 3)).mono ?_
    rintro e w2 ⟨v, rfl, h2⟩
    have H2 := hid h2
    clear H1 h2 c0 c1 c2 c3 c4 c5 c6 c7 c8 c9 c10 c11 c12 c13
    obtain ⟨c0, c1, c2, c3, c4, c5, c6, c7, c8, c9, c10, c11, c12, c13⟩ := HPC.out _ H2.out.bag
    obtain ⟨t, ht⟩ : ∃ t, IntKind.i64.wrap (v - 1) = t := ⟨_, rfl⟩
    have HWH : Hid (whoV n v = if 0 ≤ t ∧ t < (n : Int) then t else -1) := by show whoV n v = _; unfold whoV; rw [ht]
    go_wp2_with fail
    refine (exists15 _ _ n m (HTH.out _ H2.out.bag) t).mono ?_
    rintro e w3 ⟨rfl, ho⟩
    have H3 := hid (H2.out.still ho)
    clear H2 ho ht c0 c1 c2 c3 c4 c5 c6 c7 c8 c9 c10 c11 c12 c13
    by_cases hc : 0 ≤ t ∧ t < (n : Int)
    · rw [decide_eq_true hc]
      rw [HWH.out, if_pos hc] at H3
      clear hc HWH
      go_wp2_with fail
      go_ret
      exact ⟨_, BG, rfl, H3.out.fin⟩
    · rw [decide_eq_false hc]
      rw [HWH.out, if_neg hc] at H3
      clear hc HWH
      go_wp2_with fail
      go_ret
      exact ⟨_, BG, rfl, H3.out.fin⟩
  · refine DoesIn.of fun w F lb p q R h => ?_
    have hT := h.bag.1
    obtain ⟨hn, hm, ta, oa, za, zb, zc, zd, rfl, _⟩ := h.bag.1
    have HA := hid (h.alloc (plO (planCs n m ta oa (.slice za n zc) (.slice zb m zd))))
    have hV : ∃ V y, V = w.alloc (plO (planCs n m ta oa (.slice za n zc) (.slice zb m zd))) ∧ y = w.heap.size := ⟨_, _, rfl, rfl⟩
    obtain ⟨V, y, hVe, hye⟩ := hV
    obtain ⟨BG, hBG⟩ : ∃ BG, (thBag (planCs n m ta oa (.slice za n zc) (.slice zb m zd)) n m Q).and (Bag.one y (plO (planCs n m ta oa (.slice za n zc) (.slice zb m zd)))) = BG := ⟨_, rfl⟩
    have H : Hid (At w F lb p q (fun _ => False) BG (whoT n 1) R V) := by rw [← hBG, hVe, hye]; exact HA.out
    have HLE : Hid ((thBag (planCs n m ta oa (.slice za n zc) (.slice zb m zd)) n m Q).Le BG) := hBG ▸ ⟨fun _ h => h.1, fun _ h => .inl h⟩
    have HTH : Hid (∀ wx, BG.P wx → ThIs Q wx (planCs n m ta oa (.slice za n zc) (.slice zb m zd)) n m) := hBG ▸ fun _ h => h.1.1
    have HPC : Hid (∀ wx, BG.P wx → PlC14 wx y n m ta oa (.slice za n zc) (.slice zb m zd)) := hBG ▸ fun _ h => plan_cells h.2
    obtain ⟨c0, c1, c2, c3, c4, c5, c6, c7, c8, c9, c10, c11, c12, c13⟩ := HPC.out _ H.out.bag
    clear hT h HA hBG
    go_enter Tryz.func88, Tryz.ntmps88
    go_upto_region 1 with fail
    rw [← hVe, ← hye]
    clear hVe hye
    have H1 : Hid (At w F lb p q (fun _ => False) BG ((loadT 5).bind fun v => (Tree.ret (whoV n v) : Tree Int 0)) R V) := H.out
    clear H
    go_wp2_with fail
    refine (H1.out.call (load_does 5)).mono ?_
    rintro e w2 ⟨v, rfl, h2⟩
    have H2 := hid h2
    clear H1 h2 c0 c1 c2 c3 c4 c5 c6 c7 c8 c9 c10 c11 c12 c13
    obtain ⟨c0, c1, c2, c3, c4, c5, c6, c7, c8, c9, c10, c11, c12, c13⟩ := HPC.out _ H2.out.bag
    obtain ⟨t, ht⟩ : ∃ t, IntKind.i64.wrap (v - 1) = t := ⟨_, rfl⟩
    have HWH : Hid (whoV n v = if 0 ≤ t ∧ t < (n : Int) then t else -1) := by show whoV n v = _; unfold whoV; rw [ht]
    go_wp2_with fail
    refine (exists15 _ _ n m (HTH.out _ H2.out.bag) t).mono ?_
    rintro e w3 ⟨rfl, ho⟩
    have H3 := hid (H2.out.still ho)
    clear H2 ho ht c0 c1 c2 c3 c4 c5 c6 c7 c8 c9 c10 c11 c12 c13
    by_cases hc : 0 ≤ t ∧ t < (n : Int)
    · rw [decide_eq_true hc]
      rw [HWH.out, if_pos hc] at H3
      clear hc HWH
      go_wp2_with fail
      go_ret
      exact ⟨_, BG, rfl, H3.out.fin⟩
    · rw [decide_eq_false hc]
      rw [HWH.out, if_neg hc] at H3
      clear hc HWH
      go_wp2_with fail
      go_ret
      exact ⟨_, BG, rfl, H3.out.fin⟩

set_option maxRecDepth 100000 in
set_option maxHeartbeats 1000000 in
theorem cur15 (Q : Nat → Prop) (cs : Array Value) (n m : Nat) (k : Int) : DoesIn (thBag cs n m Q) 51 (fun F => #[F, .agg cs, .int .i64 k]) (curT n k) (fun x => .tuple #[.int .i64 x.1, .bool x.2]) := by
  refine DoesIn.of fun w F lb p q R h => ?_
  have hT := h.bag.1
  obtain ⟨hn, hm, ta, oa, za, zb, zc, zd, rfl, _⟩ := h.bag.1
  have HA := hid (h.alloc (plO (planCs n m ta oa (.slice za n zc) (.slice zb m zd))))
  have hV : ∃ V y, V = w.alloc (plO (planCs n m ta oa (.slice za n zc) (.slice zb m zd))) ∧ y = w.heap.size := ⟨_, _, rfl, rfl⟩
  obtain ⟨V, y, hVe, hye⟩ := hV
  obtain ⟨BG, hBG⟩ : ∃ BG, (thBag (planCs n m ta oa (.slice za n zc) (.slice zb m zd)) n m Q).and (Bag.one y (plO (planCs n m ta oa (.slice za n zc) (.slice zb m zd)))) = BG := ⟨_, rfl⟩
  have H : Hid (At w F lb p q (fun _ => False) BG (curT n k) R V) := by rw [← hBG, hVe, hye]; exact HA.out
  have HLE : Hid ((thBag (planCs n m ta oa (.slice za n zc) (.slice zb m zd)) n m Q).Le BG) := hBG ▸ ⟨fun _ h => h.1, fun _ h => .inl h⟩
  have HTH : Hid (∀ wx, BG.P wx → ThIs Q wx (planCs n m ta oa (.slice za n zc) (.slice zb m zd)) n m) := hBG ▸ fun _ h => h.1.1
  have HPC : Hid (∀ wx, BG.P wx → PlC14 wx y n m ta oa (.slice za n zc) (.slice zb m zd)) := hBG ▸ fun _ h => plan_cells h.2
  obtain ⟨c0, c1, c2, c3, c4, c5, c6, c7, c8, c9, c10, c11, c12, c13⟩ := HPC.out _ H.out.bag
  clear hT h HA hBG
  go_enter Tryz.func51, Tryz.ntmps51
  go_upto_region 1 with fail
  rw [← hVe, ← hye]
  clear hVe hye
  by_cases hk : 0 ≤ k ∧ k < 2
  · have H1 : Hid (At w F lb p q (fun _ => False) BG ((whoT n k).bind fun t => (Tree.ret (if t = -1 then (0, false) else (t, true)) : Tree (Int × Bool) 0)) R V) := H.out.pos hk
    clear H
    go_wp2_with fail
    refine (valid15 _ k).mono ?_
    rintro e w1 ⟨rfl, rfl⟩
    rw [decide_eq_true hk]
    have HR := hid (run15 Q (planCs n m ta oa (.slice za n zc) (.slice zb m zd)) n m k (by omega))
    clear hk
    go_wp2_with fail
    refine (H1.out.callInP HR.out HLE.out (who_ans n k)).mono ?_
    rintro e w2 ⟨t, ht, rfl, h2⟩
    have H2 := hid h2
    clear H1 h2 c0 c1 c2 c3 c4 c5 c6 c7 c8 c9 c10 c11 c12 c13
    by_cases h1 : t = -1
    · rw [if_pos h1] at H2
      subst h1
      go_wp2_with fail
      go_ret2
      exact ⟨_, BG, rfl, H2.out.fin⟩
    · rw [if_neg h1] at H2
      have hb : (t == -1) = false := beq_eq_false_iff_ne.2 h1
      go_wp2_with fail
      go_ret2
      exact ⟨_, BG, rfl, H2.out.fin⟩
  · have H1 := hid (H.out.neg hk)
    clear H
    go_wp2_with fail
    refine (valid15 _ k).mono ?_
    rintro e w1 ⟨rfl, rfl⟩
    rw [decide_eq_false hk]
    clear hk
    go_wp2_with fail
    go_ret2
    exact ⟨_, BG, rfl, H1.out.fin⟩

set_option maxRecDepth 100000 in
set_option maxHeartbeats 1000000 in
theorem cal15 (Q : Nat → Prop) (cs : Array Value) (n m : Nat) (k : Int) : DoesIn (thBag cs n m Q) 52 (fun F => #[F, .agg cs, .int .i64 k]) (calT k) .bool := by
  by_cases hk : k = 0 ∨ k = 1
  · rcases hk with rfl | rfl
    · refine DoesIn.of fun w F lb p q R h => ?_
      have hT := h.bag.1
      obtain ⟨hn, hm, ta, oa, za, zb, zc, zd, rfl, _⟩ := h.bag.1
      have HA := hid (h.alloc (plO (planCs n m ta oa (.slice za n zc) (.slice zb m zd))))
      have hV : ∃ V y, V = w.alloc (plO (planCs n m ta oa (.slice za n zc) (.slice zb m zd))) ∧ y = w.heap.size := ⟨_, _, rfl, rfl⟩
      obtain ⟨V, y, hVe, hye⟩ := hV
      obtain ⟨BG, hBG⟩ : ∃ BG, (thBag (planCs n m ta oa (.slice za n zc) (.slice zb m zd)) n m Q).and (Bag.one y (plO (planCs n m ta oa (.slice za n zc) (.slice zb m zd)))) = BG := ⟨_, rfl⟩
      have H : Hid (At w F lb p q (fun _ => False) BG (calT 0) R V) := by rw [← hBG, hVe, hye]; exact HA.out
      have HLE : Hid ((thBag (planCs n m ta oa (.slice za n zc) (.slice zb m zd)) n m Q).Le BG) := hBG ▸ ⟨fun _ h => h.1, fun _ h => .inl h⟩
      have HTH : Hid (∀ wx, BG.P wx → ThIs Q wx (planCs n m ta oa (.slice za n zc) (.slice zb m zd)) n m) := hBG ▸ fun _ h => h.1.1
      have HPC : Hid (∀ wx, BG.P wx → PlC14 wx y n m ta oa (.slice za n zc) (.slice zb m zd)) := hBG ▸ fun _ h => plan_cells h.2
      obtain ⟨c0, c1, c2, c3, c4, c5, c6, c7, c8, c9, c10, c11, c12, c13⟩ := HPC.out _ H.out.bag
      clear hT h HA hBG
      go_enter Tryz.func52, Tryz.ntmps52
      go_upto_region 1 with fail
      rw [← hVe, ← hye]
      clear hVe hye
      have H1 : Hid (At w F lb p q (fun _ => False) BG ((loadT 2).bind fun v => (Tree.ret (v == 1) : Tree Bool 0)) R V) := H.out
      clear H
      go_wp2_with fail
      refine (valid15 _ 0).mono ?_
      rintro e w1 ⟨rfl, rfl⟩
      rw [decide_eq_true (show (0 : Int) ≤ 0 ∧ (0 : Int) < 2 by decide)]
      go_wp2_with fail
      refine (H1.out.call (load_does 2)).mono ?_
      rintro e w2 ⟨v, rfl, h2⟩
      have H2 := hid h2
      clear H1 h2 c0 c1 c2 c3 c4 c5 c6 c7 c8 c9 c10 c11 c12 c13
      go_wp2_with fail
      go_ret
      exact ⟨_, BG, rfl, H2.out.fin⟩
    · refine DoesIn.of fun w F lb p q R h => ?_
      have hT := h.bag.1
      obtain ⟨hn, hm, ta, oa, za, zb, zc, zd, rfl, _⟩ := h.bag.1
      have HA := hid (h.alloc (plO (planCs n m ta oa (.slice za n zc) (.slice zb m zd))))
      have hV : ∃ V y, V = w.alloc (plO (planCs n m ta oa (.slice za n zc) (.slice zb m zd))) ∧ y = w.heap.size := ⟨_, _, rfl, rfl⟩
      obtain ⟨V, y, hVe, hye⟩ := hV
      obtain ⟨BG, hBG⟩ : ∃ BG, (thBag (planCs n m ta oa (.slice za n zc) (.slice zb m zd)) n m Q).and (Bag.one y (plO (planCs n m ta oa (.slice za n zc) (.slice zb m zd)))) = BG := ⟨_, rfl⟩
      have H : Hid (At w F lb p q (fun _ => False) BG (calT 1) R V) := by rw [← hBG, hVe, hye]; exact HA.out
      have HLE : Hid ((thBag (planCs n m ta oa (.slice za n zc) (.slice zb m zd)) n m Q).Le BG) := hBG ▸ ⟨fun _ h => h.1, fun _ h => .inl h⟩
      have HTH : Hid (∀ wx, BG.P wx → ThIs Q wx (planCs n m ta oa (.slice za n zc) (.slice zb m zd)) n m) := hBG ▸ fun _ h => h.1.1
      have HPC : Hid (∀ wx, BG.P wx → PlC14 wx y n m ta oa (.slice za n zc) (.slice zb m zd)) := hBG ▸ fun _ h => plan_cells h.2
      obtain ⟨c0, c1, c2, c3, c4, c5, c6, c7, c8, c9, c10, c11, c12, c13⟩ := HPC.out _ H.out.bag
      clear hT h HA hBG
      go_enter Tryz.func52, Tryz.ntmps52
      go_upto_region 1 with fail
      rw [← hVe, ← hye]
      clear hVe hye
      have H1 : Hid (At w F lb p q (fun _ => False) BG ((loadT 4).bind fun v => (Tree.ret (v == 1) : Tree Bool 0)) R V) := H.out
      clear H
      go_wp2_with fail
      refine (valid15 _ 1).mono ?_
      rintro e w1 ⟨rfl, rfl⟩
      rw [decide_eq_true (show (0 : Int) ≤ 1 ∧ (1 : Int) < 2 by decide)]
      go_wp2_with fail
      refine (H1.out.call (load_does 4)).mono ?_
      rintro e w2 ⟨v, rfl, h2⟩
      have H2 := hid h2
      clear H1 h2 c0 c1 c2 c3 c4 c5 c6 c7 c8 c9 c10 c11 c12 c13
      go_wp2_with fail
      go_ret
      exact ⟨_, BG, rfl, H2.out.fin⟩
  · refine DoesIn.of fun w F lb p q R h => ?_
    have hT := h.bag.1
    obtain ⟨hn, hm, ta, oa, za, zb, zc, zd, rfl, _⟩ := h.bag.1
    have HA := hid (h.alloc (plO (planCs n m ta oa (.slice za n zc) (.slice zb m zd))))
    have hV : ∃ V y, V = w.alloc (plO (planCs n m ta oa (.slice za n zc) (.slice zb m zd))) ∧ y = w.heap.size := ⟨_, _, rfl, rfl⟩
    obtain ⟨V, y, hVe, hye⟩ := hV
    obtain ⟨BG, hBG⟩ : ∃ BG, (thBag (planCs n m ta oa (.slice za n zc) (.slice zb m zd)) n m Q).and (Bag.one y (plO (planCs n m ta oa (.slice za n zc) (.slice zb m zd)))) = BG := ⟨_, rfl⟩
    have H : Hid (At w F lb p q (fun _ => False) BG (calT k) R V) := by rw [← hBG, hVe, hye]; exact HA.out
    have HLE : Hid ((thBag (planCs n m ta oa (.slice za n zc) (.slice zb m zd)) n m Q).Le BG) := hBG ▸ ⟨fun _ h => h.1, fun _ h => .inl h⟩
    have HTH : Hid (∀ wx, BG.P wx → ThIs Q wx (planCs n m ta oa (.slice za n zc) (.slice zb m zd)) n m) := hBG ▸ fun _ h => h.1.1
    have HPC : Hid (∀ wx, BG.P wx → PlC14 wx y n m ta oa (.slice za n zc) (.slice zb m zd)) := hBG ▸ fun _ h => plan_cells h.2
    obtain ⟨c0, c1, c2, c3, c4, c5, c6, c7, c8, c9, c10, c11, c12, c13⟩ := HPC.out _ H.out.bag
    clear hT h HA hBG
    go_enter Tryz.func52, Tryz.ntmps52
    go_upto_region 1 with fail
    rw [← hVe, ← hye]
    clear hVe hye
    have hk2 : ¬ (0 ≤ k ∧ k < 2) := by omega
    have H1 := hid (H.out.neg hk2)
    clear H
    go_wp2_with fail
    refine (valid15 _ k).mono ?_
    rintro e w1 ⟨rfl, rfl⟩
    rw [decide_eq_false hk2]
    clear hk hk2
    go_wp2_with fail
    go_ret
    exact ⟨_, BG, rfl, H1.out.fin⟩

set_option maxRecDepth 100000 in
set_option maxHeartbeats 1000000 in
theorem choose15 {P : Nat → Prop} (w : World) (v : Value) (l : List Int) (h t : Int) (hs : SlOf P 1 intE w v l) :
    Calls Tryz.prog 84 #[v, .int .i64 h, .int .i64 t] w fun e w' => e = .returned (.int .i64 (chooseV l h t)) ∧ w' = w := by
  have HC := hid (contains14 w v l h hs)
  obtain ⟨ao, cap, rfl, hl⟩ := hs.shape
  have HS := hid hs
  obtain ⟨len, hlen⟩ : ∃ len, l.length = len := ⟨_, rfl⟩
  rw [hlen] at HC HS hl ⊢
  have HLEN := hid hlen
  clear hs hlen
  by_cases hm : h ∈ l
  · rw [chooseV, if_pos hm]
    rw [decide_eq_true hm] at HC
    clear hm
    go_enter Tryz.func84, Tryz.ntmps84
    go_wp2_with fail
    refine HC.out.mono ?_
    rintro e w1 ⟨rfl, rfl⟩
    go_wp2_with fail
    go_ret
    exact ⟨rfl, rfl⟩
  · rw [chooseV, if_neg hm]
    rw [decide_eq_false hm] at HC
    obtain ⟨V, hV⟩ : ∃ V, firstNot t l = V := ⟨_, rfl⟩
    rw [hV]
    have HV := hid hV
    clear hm hV
    go_enter Tryz.func84, Tryz.ntmps84
    go_wp2_with fail
    refine HC.out.mono ?_
    rintro e w1 ⟨rfl, rfl⟩
    clear HC
    go_wp2_with fail
    go_loopw [15] (fun i wx => ∃ j : Nat, i = .int .i64 (j : Int) ∧ j ≤ len ∧ firstNot t (l.drop j) = V ∧ wx = w1) (fun i _ => len - (intOf i).toNat)
    case atStart => exact ⟨0, rfl, Nat.zero_le _, HV.out, rfl⟩
    case round =>
      obtain ⟨j, rfl, hj, hf, rfl⟩ := hrel
      clear HV
      by_cases hlt : (j : Int) < (len : Int)
      · have hjl : j < l.length := by rw [HLEN.out]; omega
        obtain ⟨b, off, hao, _, x, hx, hxc⟩ := HS.out.get j hjl
        subst hao
        have he : l[j] = x := by
          have h9 := List.getElem?_eq_getElem hjl
          rw [hx] at h9
          injection h9 with h9
          exact h9.symm
        have hd : l.drop j = x :: l.drop (j + 1) := by rw [List.drop_eq_getElem_cons hjl, he]
        rw [hd, firstNot] at hf
        have hcell := hxc.1
        rw [Nat.mul_one] at hcell
        clear hx hxc he hd hjl
        by_cases hxt : x = t
        · rw [if_pos hxt] at hf
          have HF := hid hf
          clear hf
          go_wp2_with fail
          go_roundw
          case rel => exact ⟨j + 1, by go_num, by omega, HF.out, by trivial⟩
          case measure => simp [intOf]; omega
        · rw [if_neg hxt] at hf
          subst hf
          go_wp2_with fail
          go_ret
          exact ⟨rfl, rfl⟩
      · have hj2 : l.drop j = [] := List.drop_eq_nil_of_le (by rw [HLEN.out]; omega)
        rw [hj2, firstNot] at hf
        subst hf
        clear hj2
        go_wp2_with fail
        go_ret
        exact ⟨rfl, rfl⟩

end Go.Proofs.YtmcmjcaigipoaaaGreat

/-
  Package dispatch: look as a tree of accesses; needsCall as a plain function. Conditions: the plan is one that Of makes.
-/
namespace Go.Proofs.YtmcmjcaigipoaaaGreat
open Go.RowKit Go.Sept

set_option maxRecDepth 100000 in
set_option maxHeartbeats 1000000 in
theorem lookD15 (Q : Nat → Prop) (cs : Array Value) (n m : Nat) (k : Int) (hk : k = 0 ∨ k = 1) : DoesIn (thBag cs n m Q) 82 (fun F => #[F, .agg cs, .int .i64 k]) (lookT n m k) (fun x => .agg #[.int .i64 x.1, .bool x.2]) := by
  refine DoesIn.of fun w F lb p q R h => ?_
  obtain ⟨hn, hm, ta, oa, za, zb, zc, zd, rfl, _⟩ := h.bag.1
  have ha := (h.alloc (plO (planCs n m ta oa (.slice za n zc) (.slice zb m zd)))).alloc (.cells #[.int .i64 0, .bool false] 151)
  rw [World.size_alloc] at ha
  have HA := hid ha
  have hV : ∃ V y, V = (w.alloc (plO (planCs n m ta oa (.slice za n zc) (.slice zb m zd)))).alloc (.cells #[.int .i64 0, .bool false] 151) ∧ y = w.heap.size := ⟨_, _, rfl, rfl⟩
  obtain ⟨V, y, hVe, hye⟩ := hV
  have HZ : Hid (w.heap.size ≤ y + 1) := by show _ ≤ _; omega
  obtain ⟨BG, hBG⟩ : ∃ BG, (thBag (planCs n m ta oa (.slice za n zc) (.slice zb m zd)) n m Q).and (Bag.one y (plO (planCs n m ta oa (.slice za n zc) (.slice zb m zd)))) = BG := ⟨_, rfl⟩
  have H : Hid (At w F lb p q (fun _ => False) (BG.and (Bag.one (y + 1) (.cells #[.int .i64 0, .bool false] 151))) (lookT n m k) R V) := by rw [← hBG, hVe, hye]; exact HA.out
  have HLE : Hid ((thBag (planCs n m ta oa (.slice za n zc) (.slice zb m zd)) n m Q).Le (BG.and (Bag.one (y + 1) (.cells #[.int .i64 0, .bool false] 151)))) := hBG ▸ ⟨fun _ h => h.1.1, fun _ h => .inl (.inl h)⟩
  have HPC : Hid (∀ wx, BG.P wx → PlC14 wx y n m ta oa (.slice za n zc) (.slice zb m zd)) := hBG ▸ fun _ h => plan_cells h.2
  have HNV : Hid (¬ BG.V (y + 1)) := by
    show ¬ _
    rw [← hBG]
    rintro (hk | hk)
    · have := h.bag.2 _ hk
      omega
    · have hk' : y + 1 = y := hk
      omega
  have HRU := hid (run15 Q (planCs n m ta oa (.slice za n zc) (.slice zb m zd)) n m k hk)
  obtain ⟨c0, c1, c2, c3, c4, c5, c6, c7, c8, c9, c10, c11, c12, c13⟩ := HPC.out _ H.out.bag.1
  clear h ha HA hBG hk
  go_enter Tryz.func82, Tryz.ntmps82
  go_upto_region 1 with fail
  rw [← hVe, ← hye]
  clear hVe hye
  go_wp2_with fail
  refine (H.out.callInP HRU.out HLE.out (who_ans n k)).mono ?_
  rintro e w2 ⟨t, _, rfl, h2⟩
  have H2 := hid h2
  clear H h2 HRU c0 c1 c2 c3 c4 c5 c6 c7 c8 c9 c10 c11 c12 c13
  obtain ⟨c0, c1, c2, c3, c4, c5, c6, c7, c8, c9, c10, c11, c12, c13⟩ := HPC.out _ H2.out.bag.1
  go_wp2_with fail
  refine (H2.out.callIn (tGet_does Q _ n m t 0) HLE.out).mono ?_
  rintro e w3 ⟨v, rfl, h3⟩
  have H3 := hid h3
  clear H2 h3 c0 c1 c2 c3 c4 c5 c6 c7 c8 c9 c10 c11 c12 c13
  obtain ⟨c0, c1, c2, c3, c4, c5, c6, c7, c8, c9, c10, c11, c12, c13⟩ := HPC.out _ H3.out.bag.1
  have hz0 : w3.heap[y + 1]? = some (.cells #[.int .i64 0, .bool false] 151) := H3.out.bag.2
  have f0 := frozen_of_block hz0 0
  have f1 := frozen_of_block hz0 1
  have e0 : w3.cell? ⟨y + 1, 0, none⟩ = some (.int .i64 0) := cell_of_block hz0 0
  have e1 : w3.cell? ⟨y + 1, 1, none⟩ = some (.bool false) := cell_of_block hz0 1
  clear hz0
  by_cases hv : v = 0
  · subst hv
    have H3b := hid (H3.out.pos rfl)
    clear H3
    go_wp2_with fail
    refine (H3b.out.callIn (tGet_does Q _ n m t 10) HLE.out).mono ?_
    rintro e w4 ⟨g, rfl, h4⟩
    have hz0 : w4.heap[y + 1]? = some (.cells #[.int .i64 0, .bool false] 151) := h4.bag.2
    clear H3b f0 f1 e0 e1 c0 c1 c2 c3 c4 c5 c6 c7 c8 c9 c10 c11 c12 c13
    have f0 := frozen_of_block hz0 0
    have f1 := frozen_of_block hz0 1
    have e0 : w4.cell? ⟨y + 1, 0, none⟩ = some (.int .i64 0) := cell_of_block hz0 0
    have e1 : w4.cell? ⟨y + 1, 1, none⟩ = some (.bool false) := cell_of_block hz0 1
    have H4 := hid h4
    clear h4 hz0
    have H5 := hid ((H4.out.own HZ.out HNV.out 0 (.int .i64 t)).own HZ.out HNV.out 1 (.bool (decide (0 < g))))
    clear H4
    have hb0 : _ = some (Obj.cells #[.int .i64 t, .bool (decide (0 < g))] 151) := H5.out.bag.2
    have HFIN := hid hb0
    clear hb0
    go_wp2_with fail
    exact bodyPost_ret (results_cell_row rfl _ _ (y + 1) 151 #[.int .i64 t, .bool (decide (0 < g))] (0, 0) _ rfl HFIN.out Tryz.underlying151 rfl (by kernel_rfl)) rfl ⟨(t, (decide (0 < g))), _, rfl, H5.out.fin⟩
  · have hb : (v == 0) = false := beq_eq_false_iff_ne.2 hv
    have H4 := hid (H3.out.neg hv)
    clear H3 hv c0 c1 c2 c3 c4 c5 c6 c7 c8 c9 c10 c11 c12 c13
    have H5 := hid ((H4.out.own HZ.out HNV.out 0 (.int .i64 t)).own HZ.out HNV.out 1 (.bool false))
    clear H4
    have hb0 : _ = some (Obj.cells #[.int .i64 t, .bool false] 151) := H5.out.bag.2
    have HFIN := hid hb0
    clear hb0
    go_wp2_with fail
    exact bodyPost_ret (results_cell_row rfl _ _ (y + 1) 151 #[.int .i64 t, .bool false] (0, 0) _ rfl HFIN.out Tryz.underlying151 rfl (by kernel_rfl)) rfl ⟨(t, false), _, rfl, H5.out.fin⟩

set_option maxRecDepth 100000 in
set_option maxHeartbeats 1000000 in
theorem needs1 (w : World) (b4 b5 : Nat) (t h c : Int) (h4 : w.cell? ⟨b4, 0, none⟩ = some (.int .i64 h)) (h5 : w.cell? ⟨b5, 0, none⟩ = some (.int .i64 c)) :
    Calls Tryz.prog 116 #[.int .i64 t, ptrV b4, ptrV b5] w fun e w' => e = .returned (.bool (t != h && t != c)) ∧ w' = w := by
  by_cases h1 : t = h
  · subst h1
    rw [show (t != t && t != c) = false by simp]
    go_enter Tryz.func116, Tryz.ntmps116
    go_wp2_with fail
    go_ret
    exact ⟨rfl, rfl⟩
  · have hb1 : (t == h) = false := beq_eq_false_iff_ne.2 h1
    by_cases h2 : t = c
    · subst h2
      rw [show (t != h && t != t) = false by simp]
      go_enter Tryz.func116, Tryz.ntmps116
      go_wp2_with fail
      go_ret
      exact ⟨rfl, rfl⟩
    · have hb2 : (t == c) = false := beq_eq_false_iff_ne.2 h2
      go_enter Tryz.func116, Tryz.ntmps116
      go_wp2_with fail
      go_ret
      exact ⟨rfl, rfl⟩

set_option maxRecDepth 100000 in
set_option maxHeartbeats 1000000 in
theorem idxFunc15 {P : Nat → Prop} (w : World) (v : Value) (l : List Int) (hs : SlOf P 1 intE w v l) (b4 b5 : Nat) (h c : Int) (h4 : w.cell? ⟨b4, 0, none⟩ = some (.int .i64 h)) (h5 : w.cell? ⟨b5, 0, none⟩ = some (.int .i64 c)) :
    Calls Tryz.prog 134 #[v, closV 116 #[ptrV b4, ptrV b5]] w fun e w' => (∃ i : Int, e = .returned (.int .i64 i) ∧ (l.any (fun t => t != h && t != c) = true → 0 ≤ i) ∧ (l.any (fun t => t != h && t != c) = false → i = -1)) ∧ w' = w := by
  have HN : Hid (∀ t, Calls Tryz.prog 116 #[.int .i64 t, ptrV b4, ptrV b5] w fun e w' => e = .returned (.bool (t != h && t != c)) ∧ w' = w) := fun t => needs1 w b4 b5 t h c h4 h5
  obtain ⟨ao, cap, rfl, hl⟩ := hs.shape
  have HS := hid hs
  obtain ⟨len, hlen⟩ : ∃ len, l.length = len := ⟨_, rfl⟩
  rw [hlen] at HS hl ⊢
  have HLEN := hid hlen
  obtain ⟨f, hf⟩ : ∃ f : Int → Bool, (fun t => t != h && t != c) = f := ⟨_, rfl⟩
  have HF : Hid (∀ t, (t != h && t != c) = f t) := fun t => congrFun hf t
  have HN2 : Hid (∀ t, Calls Tryz.prog 116 #[.int .i64 t, ptrV b4, ptrV b5] w fun e w' => e = .returned (.bool (f t)) ∧ w' = w) := fun t => by rw [← HF.out t]; exact HN.out t
  rw [hf]
  obtain ⟨K, hK⟩ : ∃ K : Int → Prop, (fun i => (l.any f = true → 0 ≤ i) ∧ (l.any f = false → i = -1)) = K := ⟨_, rfl⟩
  have hK0 : ∀ i, K i = ((l.any f = true → 0 ≤ i) ∧ (l.any f = false → i = -1)) := fun i => (congrFun hK i).symm
  have HK0 := hid hK0
  refine Calls.mono (R := fun e w' => (∃ i : Int, e = .returned (.int .i64 i) ∧ K i) ∧ w' = w) ?_ (fun e w' h => by
    obtain ⟨⟨i, h1, h2⟩, h3⟩ := h
    rw [HK0.out i] at h2
    exact ⟨⟨i, h1, h2⟩, h3⟩)
  clear hs hlen h4 h5 HN HF hf hK hK0
  go_enter Tryz.func134, Tryz.ntmps134
  go_wp2_with fail
  go_loopw [8] (fun i wx => ∃ j : Nat, i = .int .i64 (j : Int) ∧ j ≤ len ∧ (∀ x ∈ l.take j, f x = false) ∧ wx = w) (fun i _ => len - (intOf i).toNat)
  case atStart => exact ⟨0, rfl, Nat.zero_le _, fun x hx => by simp at hx, rfl⟩
  case round =>
    obtain ⟨j, rfl, hj, hf, rfl⟩ := hrel
    by_cases hlt : (j : Int) < (len : Int)
    · have hjl : j < l.length := by rw [HLEN.out]; omega
      obtain ⟨b, off, hao, _, x, hx, hxc⟩ := HS.out.get j hjl
      subst hao
      have hcell := hxc.1
      rw [Nat.mul_one] at hcell
      have HX := hid hx
      have HFF := hid hf
      clear hx hxc hf
      go_wp2_with fail
      refine (HN2.out x).mono ?_
      rintro e w1 ⟨rfl, rfl⟩
      cases hfx : f x
      · have HNX : Hid (∀ y ∈ l.take (j + 1), f y = false) := fun y hy => by
          rw [List.take_add_one, HX.out] at hy
          rcases List.mem_append.1 hy with hy | hy
          · exact HFF.out y hy
          · have : y = x := by simpa using hy
            rw [this, hfx]
        clear hfx HFF
        go_wp2_with fail
        go_roundw
        case rel => exact ⟨j + 1, by go_num, by omega, HNX.out, by trivial⟩
        case measure => simp [intOf]; omega
      · have HKJ : Hid (K (j : Int)) := by
          show K _
          rw [HK0.out]
          have h9 : l.any f = true := List.any_eq_true.2 ⟨x, List.mem_of_getElem? HX.out, hfx⟩
          rw [h9]
          exact ⟨fun _ => by omega, fun h => Bool.noConfusion h⟩
        clear hfx
        go_wp2_with fail
        go_ret
        exact ⟨⟨_, rfl, HKJ.out⟩, rfl⟩
    · have HKJ : Hid (K (-1)) := by
        show K _
        rw [HK0.out]
        have h9 : l.any f = false := by
          rw [List.any_eq_false]
          intro x hx
          rw [hf x (by rw [List.take_of_length_le (by rw [HLEN.out]; omega)]; exact hx)]
          decide
        rw [h9]
        exact ⟨fun h => Bool.noConfusion h, fun _ => rfl⟩
      clear hf
      go_wp2_with fail
      go_ret
      exact ⟨⟨_, rfl, HKJ.out⟩, rfl⟩

set_option maxRecDepth 100000 in
set_option maxHeartbeats 1000000 in
theorem conFunc15 {P : Nat → Prop} (w : World) (v : Value) (l : List Int) (hs : SlOf P 1 intE w v l) (b4 b5 : Nat) (h c : Int) (h4 : w.cell? ⟨b4, 0, none⟩ = some (.int .i64 h)) (h5 : w.cell? ⟨b5, 0, none⟩ = some (.int .i64 c)) :
    Calls Tryz.prog 115 #[v, closV 116 #[ptrV b4, ptrV b5]] w fun e w' => e = .returned (.bool (l.any (fun t => t != h && t != c))) ∧ w' = w := by
  have HI := hid (idxFunc15 w v l hs b4 b5 h c h4 h5)
  obtain ⟨ao, cap, rfl, hl⟩ := hs.shape
  obtain ⟨len, hlen⟩ : ∃ len, l.length = len := ⟨_, rfl⟩
  rw [hlen] at HI ⊢
  obtain ⟨g, hg⟩ : ∃ g : Bool, l.any (fun t => t != h && t != c) = g := ⟨_, rfl⟩
  rw [hg] at HI ⊢
  clear hs hl hlen h4 h5 hg
  go_enter Tryz.func115, Tryz.ntmps115
  go_wp2_with fail
  refine HI.out.mono ?_
  rintro e w1 ⟨⟨i, rfl, hi1, hi2⟩, rfl⟩
  clear HI
  cases g
  · obtain rfl := hi2 rfl
    clear hi1 hi2
    go_wp2_with fail
    go_ret
    exact ⟨rfl, rfl⟩
  · have h0 := hi1 rfl
    clear hi1 hi2
    go_wp2_with fail
    go_ret
    exact ⟨rfl, rfl⟩

set_option maxRecDepth 100000 in
set_option maxHeartbeats 1000000 in
theorem needs15 {P : Nat → Prop} (w : World) (v : Value) (l : List Int) (h c : Int) (fx : Bool) (hs : SlOf P 1 intE w v l) :
    Calls Tryz.prog 85 #[v, .int .i64 h, .agg #[.int .i64 c, .bool fx]] w fun e w' => e = .returned (.bool (callV l h (c, fx))) ∧ Only (fun _ => False) w w' := by
  obtain ⟨W, hW⟩ : ∃ W, (w.alloc (.cells #[.int .i64 h] 3)).alloc (.cells #[.int .i64 c, .bool fx] 151) = W := ⟨_, rfl⟩
  obtain ⟨y, hy⟩ : ∃ y, w.heap.size = y := ⟨_, rfl⟩
  have hoW : Only (fun _ => False) w W := by rw [← hW]; exact ((Only.refl _ _).alloc _).alloc _
  have hA0 : W.heap[y]? = some (.cells #[.int .i64 h] 3) := by rw [← hW, ← hy]; exact newKeep12 (newAt12 _ _ (by simp))
  have hA1 : W.heap[y + 1]? = some (.cells #[.int .i64 c, .bool fx] 151) := by rw [← hW, ← hy]; exact newAt12 _ _ (by simp)
  have c0 : W.cell? ⟨y, 0, none⟩ = some (.int .i64 h) := cell_of_block hA0 0
  have c1 : W.cell? ⟨y + 1, 0, none⟩ = some (.int .i64 c) := cell_of_block hA1 0
  have c2 : W.cell? ⟨y + 1, 1, none⟩ = some (.bool fx) := cell_of_block hA1 1
  have hs2 : SlOf P 1 intE W v l := hs.only (stay_int hoW (fun _ _ h => h))
  have HC := hid (contains14 W v l c hs2)
  have HF := hid (conFunc15 W v l hs2 y (y + 1) h c c0 c1)
  have HO := hid hoW
  obtain ⟨g, hg⟩ : ∃ g : Bool, l.any (fun t => t != h && t != c) = g := ⟨_, rfl⟩
  obtain ⟨V, hV⟩ : ∃ V, callV l h (c, fx) = V := ⟨_, rfl⟩
  have HV : Hid ((if fx = true then false else if c ≠ -1 ∧ c ∉ l then true else g) = V) := by
    show _ = V
    rw [← hV, ← hg]
    rfl
  rw [hg] at HF
  rw [hV]
  obtain ⟨ao, cap, rfl, hl⟩ := hs.shape
  obtain ⟨len, hlen⟩ : ∃ len, l.length = len := ⟨_, rfl⟩
  rw [hlen] at HC HF ⊢
  clear hoW hA0 hA1 hs hs2 hl hlen hg hV
  go_enter Tryz.func85, Tryz.ntmps85
  go_upto_region 1 with fail
  clear hW
  cases fx
  · have HV2 : Hid ((if c ≠ -1 ∧ c ∉ l then true else g) = V) := HV.out
    clear HV
    by_cases h1 : c = -1
    · have HV3 : Hid (g = V) := by rw [← HV2.out, if_neg (fun h => h.1 h1)]; exact rfl
      subst h1
      clear HV2
      obtain rfl := HV3.out
      clear HV3
      go_wp2_with fail
      refine HF.out.mono ?_
      rintro e w1 ⟨rfl, rfl⟩
      go_wp2_with fail
      go_ret
      exact ⟨rfl, HO.out⟩
    · have hb : (c == -1) = false := beq_eq_false_iff_ne.2 h1
      by_cases h2 : c ∈ l
      · have HV3 : Hid (g = V) := by rw [← HV2.out, if_neg (fun h => h.2 h2)]; exact rfl
        rw [decide_eq_true h2] at HC
        clear HV2 h2
        obtain rfl := HV3.out
        clear HV3
        go_wp2_with fail
        refine HC.out.mono ?_
        rintro e w1 ⟨rfl, rfl⟩
        go_wp2_with fail
        refine HF.out.mono ?_
        rintro e w1 ⟨rfl, rfl⟩
        go_wp2_with fail
        go_ret
        exact ⟨rfl, HO.out⟩
      · have HV3 : Hid (true = V) := by rw [← HV2.out, if_pos ⟨h1, h2⟩]; exact rfl
        rw [decide_eq_false h2] at HC
        clear HV2 h2
        obtain rfl := HV3.out
        clear HV3
        go_wp2_with fail
        refine HC.out.mono ?_
        rintro e w1 ⟨rfl, rfl⟩
        go_wp2_with fail
        go_ret
        exact ⟨rfl, HO.out⟩
  · obtain rfl : false = V := HV.out
    clear HV
    go_wp2_with fail
    go_ret
    exact ⟨rfl, HO.out⟩
end Go.Proofs.YtmcmjcaigipoaaaGreat

/-
  Package dispatch: bestBeside as a tree of accesses that answers a list, in a slice of its own. Conditions: the plan is one that Of makes.
-/
namespace Go.Sept
open Go.RowKit
/-- Those that are fixed, of the first j of two. -/
def fxJ (a b : Int × Bool) (j : Nat) : List Int := (([a, b].take j).filter (·.2)).map (·.1)
def fxL (a b : Int × Bool) : List Int := fxJ a b 2
theorem fxJ_0 (a b : Int × Bool) : fxJ a b 0 = [] := rfl
theorem fxJ_1 (a b : Int × Bool) : fxJ a b 1 = if a.2 = true then [a.1] else [] := by
  unfold fxJ
  cases h : a.2 <;> simp [h]
theorem fxJ_2 (a b : Int × Bool) : fxJ a b 2 = fxJ a b 1 ++ if b.2 = true then [b.1] else [] := by
  unfold fxJ
  cases h : a.2 <;> cases h2 : b.2 <;> simp [h, h2]
theorem fxJ_len (a b : Int × Bool) (j : Nat) : (fxJ a b j).length ≤ j := by
  unfold fxJ
  rw [List.length_map]
  exact Nat.le_trans (List.length_filter_le _ _) (List.length_take_le _ _)
theorem fxJ_mem {a b : Int × Bool} {j : Nat} : ∀ x ∈ fxJ a b j, x = a.1 ∨ x = b.1 := by
  intro x hx
  obtain ⟨c, hc, rfl⟩ := List.mem_map.1 hx
  have h9 := List.mem_of_mem_take (List.mem_filter.1 hc).1
  simp only [List.mem_cons, List.not_mem_nil, or_false] at h9
  rcases h9 with rfl | rfl
  · exact .inl rfl
  · exact .inr rfl
end Go.Sept

namespace Go.Proofs.YtmcmjcaigipoaaaGreat
open Go.RowKit Go.Sept

theorem Own13.sl2 {w : World} {v : Value} {b : Nat} {xs : List Int} (h : Own13 w v b xs) (hb : ∀ x ∈ xs, -9223372036854775808 ≤ x ∧ x ≤ 9223372036854775807) : SlOf (fun k => v.ownBlock = some k) 1 intE w v xs := by
  obtain ⟨ao, cap, hv, hc, b2, off, h3⟩ := Own13.sl h hb
  refine ⟨ao, cap, hv, hc, b2, off, fun i x hx => ?_⟩
  obtain ⟨h4, _, h5⟩ := h3 i x hx
  refine ⟨h4, ?_, h5⟩
  rw [hv, h4]
  simp [Value.ownBlock]
section
variable {w w1 w2 : World} {F lb p q : Nat} {S : Nat → Prop} {B C : Bag} {n : Nat}
theorem At.tailOut {R : List Int × FrSt × List Int} {t : Tree (List Int) n} {fn : Nat} {args : Value → Array Value} (h : At w F lb p q S B t R w1) (hc : DoesOut C fn args t) (hle : C.Le B) :
    Calls Tryz.prog fn (args (ptrV F)) w1 fun e w2 => ∃ x v, e = .returned v ∧ At w F lb p q S (B.and (oBag v x)) (Tree.ret x : Tree (List Int) 0) R w2 ∧ ∀ k, v.ownBlock = some k → w1.heap.size ≤ k := by
  obtain ⟨s, xs, lb1, h1, h2, h3, h4, h5, h6⟩ := h
  refine (hc w1 F lb1 p q s xs h1 h5 (hle.p _ h4.1) (fun k hk => h4.2 k (hle.v k hk))).mono ?_
  rintro e w2 ⟨v, lb2, rfl, k1, k2, k3, k4, k5⟩
  have z := h3.size
  refine ⟨_, v, rfl, ⟨(t.run s xs).2.1, (t.run s xs).2.2, lb2, k1, by omega, h3.chain k3 (fun i hi e => by omega), ⟨⟨B.keep _ _ _ h4.1 k3 (fun i hi e => ?_), k4⟩, fun i hi => ?_⟩, t.fit (k := 0) h5 xs, by rw [← h6, Tree.run_ret]⟩, fun k hk => (k5 k hk).1⟩
  · have := h4.2 i hi
    omega
  · rcases hi with hi | hi
    · have a1 := h4.2 i hi
      have a2 := B.low _ _ h4.1 hi
      exact ⟨a1.1, by omega, a1.2.2⟩
    · exact (k5 i hi).2
end

set_option maxRecDepth 100000 in
set_option maxHeartbeats 2000000 in
theorem bb15 (Q : Nat → Prop) (cs : Array Value) (n m : Nat) (a1 b1 : Int) (a2 b2 : Bool) (ha : -1 ≤ a1 ∧ a1 < (n : Int)) (hb : -1 ≤ b1 ∧ b1 < (n : Int)) (k6 : Nat) (hk6 : k6 = 6) :
    DoesOut (thBag cs n m Q) 83 (fun F => #[F, .agg cs, .agg #[.int .i64 a1, .bool a2], .agg #[.int .i64 b1, .bool b2]]) (bestT n m (2 - ((fxL (a1, a2) (b1, b2)).length : Int)) (fxL (a1, a2) (b1, b2)) k6) := by
  refine DoesOut.of fun w F lb p q R h => ?_
  obtain ⟨hn, hm, ta, oa, za, zb, zc, zd, rfl, _⟩ := h.bag.1
  have HBD : Hid (∀ x ∈ fxL (a1, a2) (b1, b2), -9223372036854775808 ≤ x ∧ x ≤ 9223372036854775807) := fun x hx => by
    rcases fxJ_mem x hx with rfl | rfl <;> omega
  obtain ⟨T, hT⟩ : ∃ T, bestT n m (2 - ((fxL (a1, a2) (b1, b2)).length : Int)) (fxL (a1, a2) (b1, b2)) k6 = T := ⟨_, rfl⟩
  rw [hT] at h
  have HT := hid hT
  have HK6 := hid hk6
  have h9 := ((h.alloc (plO (planCs n m ta oa (.slice za n zc) (.slice zb m zd)))).alloc (.cells #[.int .i64 a1, .bool a2] 151)).alloc (.cells #[.int .i64 b1, .bool b2] 151)
  rw [World.size_alloc, World.size_alloc, World.size_alloc] at h9
  have HA := hid h9
  have hV : ∃ V y, V = ((w.alloc (plO (planCs n m ta oa (.slice za n zc) (.slice zb m zd)))).alloc (.cells #[.int .i64 a1, .bool a2] 151)).alloc (.cells #[.int .i64 b1, .bool b2] 151) ∧ y = w.heap.size := ⟨_, _, rfl, rfl⟩
  obtain ⟨V, y, hVe, hye⟩ := hV
  obtain ⟨BG, hBG⟩ : ∃ BG, (((thBag (planCs n m ta oa (.slice za n zc) (.slice zb m zd)) n m Q).and (Bag.one y (plO (planCs n m ta oa (.slice za n zc) (.slice zb m zd))))).and (Bag.one (y + 1) (.cells #[.int .i64 a1, .bool a2] 151))).and (Bag.one (y + 1 + 1) (.cells #[.int .i64 b1, .bool b2] 151)) = BG := ⟨_, rfl⟩
  have H0 : At w F lb p q (fun _ => False) BG T R V := by rw [← hBG, hVe, hye]; exact HA.out
  have H : Hid (At w F lb p q (fun _ => False) (BG.and (oBag (.slice none 0 0) (fxJ (a1, a2) (b1, b2) 0))) T R V) := H0.turn (S2 := fun _ => False) (Only.refl _ _) (fun _ h => h.elim) (fun _ _ h => h.elim) ⟨H0.bag, 0, Grow.nil _ _ _ _⟩ (fun k hk => hk.elim (fun h => .inl h) (fun h => by cases h))
  have HLE : Hid ((thBag (planCs n m ta oa (.slice za n zc) (.slice zb m zd)) n m Q).Le BG) := hBG ▸ ⟨fun _ h => h.1.1.1, fun _ h => .inl (.inl (.inl h))⟩
  have HPC : Hid (∀ wx, BG.P wx → PlC14 wx y n m ta oa (.slice za n zc) (.slice zb m zd)) := hBG ▸ fun _ h => plan_cells h.1.1.2
  have HEL : Hid ((V.cell? ⟨y + 1, 0, none⟩ = some (.int .i64 a1) ∧ V.cell? ⟨y + 1, 1, none⟩ = some (.bool a2)) ∧ (V.cell? ⟨y + 1 + 1, 0, none⟩ = some (.int .i64 b1) ∧ V.cell? ⟨y + 1 + 1, 1, none⟩ = some (.bool b2))) := by
    have h8 := H0.bag
    rw [← hBG] at h8
    exact ⟨⟨cell_of_block h8.1.2 0, cell_of_block h8.1.2 1⟩, ⟨cell_of_block h8.2 0, cell_of_block h8.2 1⟩⟩
  obtain ⟨c0, c1, c2, c3, c4, c5, c6, c7, c8, c9, c10, c11, c12, c13⟩ := HPC.out _ H.out.bag.1
  obtain ⟨⟨x0, x1⟩, ⟨x2, x3⟩⟩ := HEL.out
  clear h h9 H0 HA hBG hT hk6 ha hb HEL
  go_enter Tryz.func83, Tryz.ntmps83
  go_upto_region 1 with fail
  rw [← hVe, ← hye]
  clear hVe hye
  go_upto_region 3 with fail
  clear x0 x1 x2 x3 c0 c1 c2 c3 c4 c5 c6 c7 c8 c9 c10 c11 c12 c13
  go_loopw [9, 15] (fun v i wx => (i = .int .i64 0 ∧ At w F lb p q (fun _ => False) (BG.and (oBag v (fxJ (a1, a2) (b1, b2) 0))) T R wx ∧ ∀ k, v.ownBlock = some k → w.heap.size ≤ k ∧ ¬ BG.V k) ∨ (i = .int .i64 1 ∧ At w F lb p q (fun _ => False) (BG.and (oBag v (fxJ (a1, a2) (b1, b2) 1))) T R wx ∧ ∀ k, v.ownBlock = some k → w.heap.size ≤ k ∧ ¬ BG.V k) ∨ (i = .int .i64 2 ∧ At w F lb p q (fun _ => False) (BG.and (oBag v (fxJ (a1, a2) (b1, b2) 2))) T R wx ∧ ∀ k, v.ownBlock = some k → w.heap.size ≤ k ∧ ¬ BG.V k)) (fun _ i _ => 2 - (intOf i).toNat)
  case atStart => exact .inl ⟨rfl, H.out, fun k hk => by cases hk⟩
  case round =>
    clear H
    rcases hrel with ⟨rfl, hat, hlow⟩ | ⟨rfl, hat, hlow⟩ | ⟨rfl, hat, hlow⟩
    · clear HT HBD HK6
      have HN1 : Hid (a2 = false → fxJ (a1, a2) (b1, b2) 1 = fxJ (a1, a2) (b1, b2) 0) := fun hc => by subst hc; rw [fxJ_1, if_neg (fun h => Bool.noConfusion h)]; exact (fxJ_0 _ _).symm
      have HN2 : Hid (a2 = true → fxJ (a1, a2) (b1, b2) 1 = fxJ (a1, a2) (b1, b2) 0 ++ [a1]) := fun hc => by subst hc; rw [fxJ_1, if_pos rfl, fxJ_0]; rfl
      obtain ⟨l2, hl2⟩ : ∃ l2, fxJ (a1, a2) (b1, b2) 1 = l2 := ⟨_, rfl⟩
      rw [hl2] at HN2
      rw [hl2] at HN1
      rw [hl2]
      obtain ⟨b0, hown⟩ := hat.bag.2
      obtain ⟨oa0, oc0, rfl, _⟩ := Grow.shape hown
      have hlj := fxJ_len (a1, a2) (b1, b2) 0
      obtain ⟨l, hl⟩ : ∃ l, fxJ (a1, a2) (b1, b2) 0 = l := ⟨_, rfl⟩
      rw [hl] at hat hown hlow hlj HN1 HN2 ⊢
      obtain ⟨ln, hln⟩ : ∃ ln, l.length = ln := ⟨_, rfl⟩
      rw [hln] at hat hlow hlj hown ⊢
      have HLN := hid hln
      have HLW := hid hlow
      have HAT := hid hat
      clear hown hln hlow hl hl2 hat
      cases a2
      · obtain rfl := HN1.out rfl
        have hi : ∀ w, (Instr.index 175 (.agg #[.int .i64 a1, .bool false, .int .i64 b1, .bool b2]) (.int .i64 0)).run Tryz.prog w = .ok (.agg #[.int .i64 a1, .bool false]) w := fun _ => by kernel_rfl
        have HE := hid (HAT.out.still ((Only.refl (fun _ => False) _).alloc (.cells #[.int .i64 a1, .bool false] 151)))
        clear HAT HN1 HN2
        go_wp2_with fail
        go_roundw
        case rel => exact .inr (.inl ⟨by go_num, HE.out, HLW.out⟩)
        case measure => simp [intOf]
      · obtain rfl := HN2.out rfl
        have hi : ∀ w, (Instr.index 175 (.agg #[.int .i64 a1, .bool true, .int .i64 b1, .bool b2]) (.int .i64 0)).run Tryz.prog w = .ok (.agg #[.int .i64 a1, .bool true]) w := fun _ => by kernel_rfl
        have HA5 := hid ((HAT.out.still ((Only.refl (fun _ => False) _).alloc (.cells #[.int .i64 a1, .bool true] 151))).still ((Only.refl (fun _ => False) _).alloc (.cells #[.int .i64 a1] 3)))
        obtain ⟨z1, hown1⟩ := HA5.out.bag.2
        obtain ⟨z2, hg2, hb2⟩ := Grow.spot14 hown1
        rw [HLN.out] at hg2
        have HG2 := hid hg2
        have HB2 := hid hb2
        have hnb := heap_new (wr.alloc (.cells #[.int .i64 a1, .bool true] 151)) (.cells #[.int .i64 a1] 3)
        rw [World.size_alloc] at hnb
        have HNB := hid hnb
        clear HAT HN1 HN2 hown1 hg2 hb2 hnb
        go_wp2_with (at_builtin; refine wpList_append_grown _ rfl (.tmp 20) (.tmp 23) 30 rfl 3 _ 1 8 Tryz.underlying30 infoInt13 rfl (by decide) (.slice oa0 ln oc0) z2 ln (l.map (Value.int .i64)) rfl HG2.out ⟨wr.heap.size + 1, 0, none⟩ 1 1 [.int .i64 a1] rfl (by decide) rfl (news_of_block HNB.out) (one_int13 _) (by unfold maxLen; omega) (by omega) ?_)
        intro b' cap' wp h1 h2 h30
        have h3 : b' = z2 ∨ ((wr.alloc (.cells #[.int .i64 a1, .bool true] 151)).alloc (.cells #[.int .i64 a1] 3)).heap.size ≤ b' := by first | exact h30 | (rw [World.size_alloc]; exact h30) | (rw [World.size_alloc, World.size_alloc]; exact h30)
        have HG3 : Hid (Own13 wp (.slice (some ⟨b', 0, none⟩) (ln + 1 : Nat) cap') b' (l ++ [a1])) := by
          show Grow 3 1 _ _ _ _ _
          rw [List.length_append, List.length_singleton, HLN.out, List.map_append]
          exact h1
        have HLW6 : Hid (∀ k, Value.ownBlock (.slice (some ⟨b', 0, none⟩) (ln + 1 : Nat) cap') = some k → w.heap.size ≤ k ∧ ¬ BG.V k) := by
          intro k hk
          have e : b' = k := by simpa [Value.ownBlock] using hk
          subst e
          have z5 := HA5.out.size
          rcases h3 with rfl | h3
          · rcases HB2.out with h8 | h8
            · exact HLW.out _ h8
            · exact ⟨by omega, fun hv => by have := BG.low _ _ HA5.out.bag.1 hv; omega⟩
          · exact ⟨by omega, fun hv => by have := BG.low _ _ HA5.out.bag.1 hv; omega⟩
        have HE : Hid (At w F lb p q (fun _ => False) (BG.and (oBag (.slice (some ⟨b', 0, none⟩) (ln + 1 : Nat) cap') (l ++ [a1]))) T R wp) :=
          HA5.out.grown h2 (fun k hk e => (HLW.out k e).2 hk) (fun k hk => (HLW.out k hk).1) HG3.out rfl HB2.out h3
        clear HA5 h1 h2 h3 h30 HG2 HB2 HG3
        go_wp2_with fail
        go_roundw
        case rel => exact .inr (.inl ⟨by go_num, HE.out, HLW6.out⟩)
        case measure => simp [intOf]
    · clear HT HBD HK6
      have HN1 : Hid (b2 = false → fxJ (a1, a2) (b1, b2) 2 = fxJ (a1, a2) (b1, b2) 1) := fun hc => by subst hc; rw [fxJ_2, if_neg (fun h => Bool.noConfusion h), List.append_nil]
      have HN2 : Hid (b2 = true → fxJ (a1, a2) (b1, b2) 2 = fxJ (a1, a2) (b1, b2) 1 ++ [b1]) := fun hc => by subst hc; rw [fxJ_2, if_pos rfl]
      obtain ⟨l2, hl2⟩ : ∃ l2, fxJ (a1, a2) (b1, b2) 2 = l2 := ⟨_, rfl⟩
      rw [hl2] at HN2
      rw [hl2] at HN1
      rw [hl2]
      obtain ⟨b0, hown⟩ := hat.bag.2
      obtain ⟨oa0, oc0, rfl, _⟩ := Grow.shape hown
      have hlj := fxJ_len (a1, a2) (b1, b2) 1
      obtain ⟨l, hl⟩ : ∃ l, fxJ (a1, a2) (b1, b2) 1 = l := ⟨_, rfl⟩
      rw [hl] at hat hown hlow hlj HN1 HN2 ⊢
      obtain ⟨ln, hln⟩ : ∃ ln, l.length = ln := ⟨_, rfl⟩
      rw [hln] at hat hlow hlj hown ⊢
      have HLN := hid hln
      have HLW := hid hlow
      have HAT := hid hat
      clear hown hln hlow hl hl2 hat
      cases b2
      · obtain rfl := HN1.out rfl
        have hi : ∀ w, (Instr.index 175 (.agg #[.int .i64 a1, .bool a2, .int .i64 b1, .bool false]) (.int .i64 1)).run Tryz.prog w = .ok (.agg #[.int .i64 b1, .bool false]) w := fun _ => by kernel_rfl
        have HE := hid (HAT.out.still ((Only.refl (fun _ => False) _).alloc (.cells #[.int .i64 b1, .bool false] 151)))
        clear HAT HN1 HN2
        go_wp2_with fail
        go_roundw
        case rel => exact .inr (.inr ⟨by go_num, HE.out, HLW.out⟩)
        case measure => simp [intOf]
      · obtain rfl := HN2.out rfl
        have hi : ∀ w, (Instr.index 175 (.agg #[.int .i64 a1, .bool a2, .int .i64 b1, .bool true]) (.int .i64 1)).run Tryz.prog w = .ok (.agg #[.int .i64 b1, .bool true]) w := fun _ => by kernel_rfl
        have HA5 := hid ((HAT.out.still ((Only.refl (fun _ => False) _).alloc (.cells #[.int .i64 b1, .bool true] 151))).still ((Only.refl (fun _ => False) _).alloc (.cells #[.int .i64 b1] 3)))
        obtain ⟨z1, hown1⟩ := HA5.out.bag.2
        obtain ⟨z2, hg2, hb2⟩ := Grow.spot14 hown1
        rw [HLN.out] at hg2
        have HG2 := hid hg2
        have HB2 := hid hb2
        have hnb := heap_new (wr.alloc (.cells #[.int .i64 b1, .bool true] 151)) (.cells #[.int .i64 b1] 3)
        rw [World.size_alloc] at hnb
        have HNB := hid hnb
        clear HAT HN1 HN2 hown1 hg2 hb2 hnb
        go_wp2_with (at_builtin; refine wpList_append_grown _ rfl (.tmp 20) (.tmp 23) 30 rfl 3 _ 1 8 Tryz.underlying30 infoInt13 rfl (by decide) (.slice oa0 ln oc0) z2 ln (l.map (Value.int .i64)) rfl HG2.out ⟨wr.heap.size + 1, 0, none⟩ 1 1 [.int .i64 b1] rfl (by decide) rfl (news_of_block HNB.out) (one_int13 _) (by unfold maxLen; omega) (by omega) ?_)
        intro b' cap' wp h1 h2 h30
        have h3 : b' = z2 ∨ ((wr.alloc (.cells #[.int .i64 b1, .bool true] 151)).alloc (.cells #[.int .i64 b1] 3)).heap.size ≤ b' := by first | exact h30 | (rw [World.size_alloc]; exact h30) | (rw [World.size_alloc, World.size_alloc]; exact h30)
        have HG3 : Hid (Own13 wp (.slice (some ⟨b', 0, none⟩) (ln + 1 : Nat) cap') b' (l ++ [b1])) := by
          show Grow 3 1 _ _ _ _ _
          rw [List.length_append, List.length_singleton, HLN.out, List.map_append]
          exact h1
        have HLW6 : Hid (∀ k, Value.ownBlock (.slice (some ⟨b', 0, none⟩) (ln + 1 : Nat) cap') = some k → w.heap.size ≤ k ∧ ¬ BG.V k) := by
          intro k hk
          have e : b' = k := by simpa [Value.ownBlock] using hk
          subst e
          have z5 := HA5.out.size
          rcases h3 with rfl | h3
          · rcases HB2.out with h8 | h8
            · exact HLW.out _ h8
            · exact ⟨by omega, fun hv => by have := BG.low _ _ HA5.out.bag.1 hv; omega⟩
          · exact ⟨by omega, fun hv => by have := BG.low _ _ HA5.out.bag.1 hv; omega⟩
        have HE : Hid (At w F lb p q (fun _ => False) (BG.and (oBag (.slice (some ⟨b', 0, none⟩) (ln + 1 : Nat) cap') (l ++ [b1]))) T R wp) :=
          HA5.out.grown h2 (fun k hk e => (HLW.out k e).2 hk) (fun k hk => (HLW.out k hk).1) HG3.out rfl HB2.out h3
        clear HA5 h1 h2 h3 h30 HG2 HB2 HG3
        go_wp2_with fail
        go_roundw
        case rel => exact .inr (.inr ⟨by go_num, HE.out, HLW6.out⟩)
        case measure => simp [intOf]
    · obtain ⟨b0, hown⟩ := hat.bag.2
      obtain ⟨oa0, oc0, rfl, _⟩ := Grow.shape hown
      have hlj : (fxL (a1, a2) (b1, b2)).length ≤ 2 := fxJ_len (a1, a2) (b1, b2) 2
      have hat2 : At w F lb p q (fun _ => False) (BG.and (oBag (.slice oa0 (fxL (a1, a2) (b1, b2)).length oc0) (fxL (a1, a2) (b1, b2)))) T R wr := hat
      have hown2 : Own13 wr (.slice oa0 (fxL (a1, a2) (b1, b2)).length oc0) b0 (fxL (a1, a2) (b1, b2)) := hown
      have hlow2 : ∀ k, Value.ownBlock (.slice oa0 (fxL (a1, a2) (b1, b2)).length oc0) = some k → w.heap.size ≤ k ∧ ¬ BG.V k := hlow
      rw [← HT.out] at hat2
      have hbd := HBD.out
      have hshow : (fxJ (a1, a2) (b1, b2) 2).length = (fxL (a1, a2) (b1, b2)).length := rfl
      rw [hshow]
      clear hshow hat hown hlow
      obtain ⟨l, hl⟩ : ∃ l, fxL (a1, a2) (b1, b2) = l := ⟨_, rfl⟩
      rw [hl] at hat2 hown2 hlow2 hbd hlj ⊢
      obtain ⟨ln, hln⟩ : ∃ ln, l.length = ln := ⟨_, rfl⟩
      rw [hln] at hat2 hown2 hlow2 hlj ⊢
      have HSL : Hid (∀ wx, (oBag (.slice oa0 ln oc0) l).P wx → (slBag (fun k => Value.ownBlock (.slice oa0 ln oc0) = some k) (.slice oa0 ln oc0) l).P wx) := fun wx hx => by
        obtain ⟨bx, hx⟩ := hx
        exact ⟨hx.sl2 hbd, fun k hk => Grow.low14 hx hk⟩
      have HB := hid (best14 Q (fun k => Value.ownBlock (.slice oa0 ln oc0) = some k) (planCs n m ta oa (.slice za n zc) (.slice zb m zd)) n m (2 - (ln : Int)) (.slice oa0 ln oc0) l k6 HK6.out)
      have HAT := hid hat2
      have HLW := hid hlow2
      obtain ⟨c0, c1, c2, c3, c4, c5, c6, c7, c8, c9, c10, c11, c12, c13⟩ := HPC.out _ hat2.bag.1
      clear hat2 hown2 hlow2 hbd hl hln HT HBD HK6
      go_wp2_with fail
      refine (HAT.out.tailOut HB.out ⟨fun wx hx => ⟨HLE.out.p _ hx.1, HSL.out _ hx.2⟩, fun k hk => hk.elim (fun h => .inl (HLE.out.v k h)) (fun h => .inr h)⟩).mono ?_
      rintro e w2 ⟨x, v, rfl, h2, hlo⟩
      obtain ⟨b3, hown3⟩ := h2.bag.2
      obtain ⟨oa3, oc3, rfl, _⟩ := Grow.shape hown3
      have HZ := hid HAT.out.size
      have H2 := hid h2
      have HLO := hid hlo
      clear HAT HB HLW h2 hown3 hlo c0 c1 c2 c3 c4 c5 c6 c7 c8 c9 c10 c11 c12 c13
      go_wp2_with fail
      go_ret
      exact ⟨x, _, _, rfl, H2.out, fun h => h.2, fun k hk => ⟨.inr hk, Nat.le_trans HZ.out (HLO.out k hk)⟩⟩
end Go.Proofs.YtmcmjcaigipoaaaGreat

/-
  Package dispatch: Dispatch as a tree of accesses. Conditions: the plan is one that Of makes.
-/
namespace Go.Sept
open Go.RowKit
def tailT (n : Nat) (k : Int) (l : List Int) (h : Int) (b : Int × Bool) : Tree (Int × Bool) (1 + 1) := if callV l h b = true then (storeT (ipiA (1 - k)) 1).bind fun _ => curT n k else (Tree.ret () : Tree Unit 1).bind fun _ => curT n k
def setT15 (n : Nat) (k : Int) (a b : Int × Bool) (l : List Int) : Tree (Int × Bool) (1 + 1 + 1) := if a.2 = true then (Tree.ret () : Tree Unit 1).bind fun _ => tailT n k l a.1 b else (storeT (curA k) (IntKind.i64.wrap (chooseV l a.1 b.1 + 1))).bind fun _ => tailT n k l (chooseV l a.1 b.1) b
def dispT (n m k6 : Nat) (k : Int) : Tree (Int × Bool) (1 + 1 + 1 + (dB k6 + 3) + 3 + 3) := if 0 ≤ k ∧ k < 2 then (lookT n m k).bind fun a => (lookT n m (1 - k)).bind fun b => (bestT n m (2 - ((fxL a b).length : Int)) (fxL a b) k6).bind fun l => setT15 n k a b l else .ret (0, false)
theorem Tree.Ans.ite {α : Type} {n : Nat} {P : α → Prop} {c : Prop} [Decidable c] {t1 t2 : Tree α n} (h1 : c → Tree.Ans P t1) (h2 : ¬ c → Tree.Ans P t2) : Tree.Ans P (if c then t1 else t2) := by
  by_cases h : c
  · rw [if_pos h]; exact h1 h
  · rw [if_neg h]; exact h2 h
theorem take_in {n m : Nat} {but : List Int} {a : Int} {l : List Int} (h : ∀ x ∈ l, 0 ≤ x ∧ x < (n : Int)) : ∀ x ∈ takeV n m but a l, 0 ≤ x ∧ x < (n : Int) := by
  unfold takeV
  split
  · rename_i hc
    intro x hx
    rcases List.mem_append.1 hx with hx | hx
    · exact h x hx
    · obtain ⟨t, ht⟩ | h0 := owner_two n m a 0
      · obtain ⟨h1, h2, _⟩ := owner_yes ht
        rw [ht] at hx
        have : x = t := by simpa using hx
        subst this
        exact ⟨h1, h2⟩
      · rw [h0] at hc
        exact Bool.noConfusion hc.1
  · exact h
theorem done_ans {n : Nat} {l : List Int} (h : ∀ x ∈ l, 0 ≤ x ∧ x < (n : Int)) (k : Nat) : Tree.Ans (fun l : List Int => ∀ x ∈ l, 0 ≤ x ∧ x < (n : Int)) (doneT l k) := by
  unfold doneT
  refine (Tree.Ans.any _).bind fun o _ => Tree.Ans.ret ?_
  split
  · intro x hx
    cases hx
  · exact h
theorem round_ans (n m : Nat) (N : Int) (but : List Int) : ∀ (k : Nat) (x : Int × Int × Bool) (l : List Int), (∀ x ∈ l, 0 ≤ x ∧ x < (n : Int)) → Tree.Ans (fun l : List Int => ∀ x ∈ l, 0 ≤ x ∧ x < (n : Int)) (roundT n m N but k x l) := by
  intro k
  induction k with
  | zero => intro x l h; exact done_ans h 0
  | succ k ih =>
    intro x l h
    unfold roundT
    exact Tree.Ans.ite (fun _ => done_ans h _) (fun _ => Tree.Ans.ite (fun _ => done_ans (take_in h) _) (fun _ => (Tree.Ans.any _).bind fun y _ => ih y _ (take_in h)))
theorem best_ans (n m : Nat) (N : Int) (but : List Int) (k : Nat) : Tree.Ans (fun l : List Int => ∀ x ∈ l, 0 ≤ x ∧ x < (n : Int)) (bestT n m N but k) := by
  unfold bestT
  split
  · exact Tree.Ans.ret (fun x hx => by cases hx)
  · exact (Tree.Ans.any _).bind fun x _ => round_ans n m N but k x [] (fun x hx => by cases hx)
end Go.Sept

namespace Go.Proofs.YtmcmjcaigipoaaaGreat
open Go.RowKit Go.Sept

section
variable {w W W2 : World} {F lb p q : Nat} {B C : Bag} {α β : Type} {n m : Nat} {T : Tree β m} {R : β × FrSt × List Int} {k l : Nat} {o u : Obj}
/-- A new block beside the frame. -/
structure Pr1 (w : World) (F lb p q : Nat) (B : Bag) {β : Type} {m : Nat} (T : Tree β m) (R : β × FrSt × List Int) (k : Nat) (o : Obj) (W : World) : Prop where
  st : At w F lb p q (fun _ => False) (B.and (Bag.one k o)) T R W
  n1 : w.heap.size ≤ k ∧ ¬ B.V k
/-- Two. -/
structure Pr2 (w : World) (F lb p q : Nat) (B : Bag) {β : Type} {m : Nat} (T : Tree β m) (R : β × FrSt × List Int) (k : Nat) (o : Obj) (l : Nat) (u : Obj) (W : World) : Prop where
  st : At w F lb p q (fun _ => False) ((B.and (Bag.one k o)).and (Bag.one l u)) T R W
  n1 : w.heap.size ≤ k ∧ ¬ B.V k
  n2 : w.heap.size ≤ l ∧ ¬ B.V l
  ne : k ≠ l
theorem At.new1 (h : At w F lb p q (fun _ => False) B T R W) (o : Obj) (hk : W.heap.size = k) : Pr1 w F lb p q B T R k o (W.alloc o) := by
  subst hk
  exact ⟨h.alloc o, h.size, fun hv => Nat.lt_irrefl _ (B.low _ _ h.bag hv)⟩
theorem Pr1.new (h : Pr1 w F lb p q B T R k o W) (u : Obj) (hl : W.heap.size = l) : Pr2 w F lb p q B T R k o l u (W.alloc u) := by
  subst hl
  exact ⟨h.st.alloc u, h.n1, ⟨h.st.size, fun hv => Nat.lt_irrefl _ (B.low _ _ h.st.bag.1 hv)⟩, fun e => by
    have h9 : k < W.heap.size := lt_of_block h.st.bag.2
    omega⟩
theorem Pr1.drew (h : Pr1 w F lb p q B T R k o W) : Pr1 w F lb p q B T R k o W.drew := ⟨h.st.drew, h.n1⟩
theorem Pr2.drew (h : Pr2 w F lb p q B T R k o l u W) : Pr2 w F lb p q B T R k o l u W.drew := ⟨h.st.drew, h.n1, h.n2, h.ne⟩
theorem Pr2.swap (h : Pr2 w F lb p q B T R k o l u W) : Pr2 w F lb p q B T R l u k o W :=
  ⟨h.st.turn (S2 := fun _ => False) (Only.refl _ _) (fun _ h => h.elim) (fun _ _ h => h.elim) ⟨⟨h.st.bag.1.1, h.st.bag.2⟩, h.st.bag.1.2⟩ (fun k hk => .inl (by
    rcases hk with (hk | hk) | hk
    · exact .inl (.inl hk)
    · exact .inr hk
    · exact .inl (.inr hk))), h.n2, h.n1, fun e => h.ne e.symm⟩
theorem Pr1.put {t : TypeId} {z0 z1 : Value} (h : Pr1 w F lb p q B T R k (.cells #[z0, z1] t) W) (v0 v1 : Value) : Pr1 w F lb p q B T R k (.cells #[v0, v1] t) ((W.setCell ⟨k, 0, none⟩ v0).setCell ⟨k, 1, none⟩ v1) :=
  ⟨(h.st.own h.n1.1 h.n1.2 0 v0).own h.n1.1 h.n1.2 1 v1, h.n1⟩
theorem Pr2.put2 {t : TypeId} {z0 z1 : Value} (h : Pr2 w F lb p q B T R k o l (.cells #[z0, z1] t) W) (v0 v1 : Value) : Pr2 w F lb p q B T R k o l (.cells #[v0, v1] t) ((W.setCell ⟨l, 0, none⟩ v0).setCell ⟨l, 1, none⟩ v1) := by
  have hv : ¬ (B.and (Bag.one k o)).V l := by
    rintro (hv | hv)
    · exact h.n2.2 hv
    · exact h.ne hv.symm
  exact ⟨(h.st.own h.n2.1 hv 0 v0).own h.n2.1 hv 1 v1, h.n1, h.n2, h.ne⟩
theorem Pr2.put1 {t : TypeId} {z0 z1 : Value} (h : Pr2 w F lb p q B T R k (.cells #[z0, z1] t) l u W) (v0 v1 : Value) : Pr2 w F lb p q B T R k (.cells #[v0, v1] t) l u ((W.setCell ⟨k, 0, none⟩ v0).setCell ⟨k, 1, none⟩ v1) := (h.swap.put2 v0 v1).swap
theorem Pr2.put0 {t : TypeId} {z0 z1 : Value} (h : Pr2 w F lb p q B T R k (.cells #[z0, z1] t) l u W) (v0 : Value) : Pr2 w F lb p q B T R k (.cells #[v0, z1] t) l u (W.setCell ⟨k, 0, none⟩ v0) := by
  have h2 := h.swap
  have hv : ¬ (B.and (Bag.one l u)).V k := by
    rintro (hv | hv)
    · exact h2.n2.2 hv
    · exact h2.ne hv.symm
  exact (Pr2.mk (h2.st.own h2.n2.1 hv 0 v0) h2.n1 h2.n2 h2.ne).swap
theorem At.put3 {t : TypeId} {z0 z1 : Value} (h : At w F lb p q (fun _ => False) (((B.and (Bag.one k (.cells #[z0, z1] t))).and (Bag.one l u)).and C) T R W) (n1 : w.heap.size ≤ k ∧ ¬ B.V k) (ne : k ≠ l) (hC : ¬ C.V k) (v0 : Value) : At w F lb p q (fun _ => False) (((B.and (Bag.one k (.cells #[v0, z1] t))).and (Bag.one l u)).and C) T R (W.setCell ⟨k, 0, none⟩ v0) := by
  have ho : Only (fun i => i = k) W (W.setCell ⟨k, 0, none⟩ v0) := (Only.self k W).own 0 v0
  refine h.turn (S2 := fun i => i = k) ho (fun i e => .inl (.inl (.inr e))) (fun i hi e => ?_) ⟨⟨⟨B.keep _ _ _ h.bag.1.1.1 ho (fun i hi e => ?_), block_setCell h.bag.1.1.2 0 v0⟩, (Bag.one l u).keep _ _ _ h.bag.1.2 ho (fun i hi e => ?_)⟩, C.keep _ _ _ h.bag.2 ho (fun i hi e => ?_)⟩ (fun i hi => .inl hi)
  · have e' : i = k := e
    omega
  · have e' : i = k := e
    exact n1.2 (e' ▸ hi)
  · have e' : i = k := e
    have e'' : i = l := hi
    exact ne (e'.symm.trans e'')
  · have e' : i = k := e
    exact hC (e' ▸ hi)
theorem At.callOutP {P : List Int → Prop} {t : Tree (List Int) n} {g : List Int → Tree β m} {fn : Nat} {args : Value → Array Value} (h : At w F lb p q (fun _ => False) B (Tree.bind t g) R W) (hc : DoesOut C fn args t) (hle : C.Le B) (hP : Tree.Ans P t) :
    Calls Tryz.prog fn (args (ptrV F)) W fun e w2 => ∃ x v, P x ∧ e = .returned v ∧ At w F lb p q (fun _ => False) (B.and (oBag v x)) (g x) R w2 ∧ ∀ k, v.ownBlock = some k → W.heap.size ≤ k := by
  obtain ⟨s, xs, lb1, h1, h2, h3, h4, h5, h6⟩ := h
  refine (hc W F lb1 p q s xs h1 (h5.mono (Nat.le_add_left _ _)) (hle.p _ h4.1) (fun k hk => h4.2 k (hle.v k hk))).mono ?_
  rintro e w2 ⟨v, lb2, rfl, k1, k2, k3, k4, k5⟩
  have z := h3.size
  refine ⟨_, v, hP s xs, rfl, ⟨(t.run s xs).2.1, (t.run s xs).2.2, lb2, k1, by omega, h3.chain k3 (fun i hi e => by omega), ⟨⟨B.keep _ _ _ h4.1 k3 (fun i hi e => ?_), k4⟩, fun i hi => ?_⟩, t.fit (by rwa [Nat.add_comm]) xs, by rw [← h6, Tree.run_bind]⟩, fun k hk => (k5 k hk).1⟩
  · have := h4.2 i hi
    omega
  · rcases hi with hi | hi
    · have a1 := h4.2 i hi
      have a2 := B.low _ _ h4.1 hi
      exact ⟨a1.1, by omega, a1.2.2⟩
    · exact (k5 i hi).2
theorem Pr1.call {P : α → Prop} {t : Tree α n} {g : α → Tree β m} {fn : Nat} {args : Value → Array Value} {out : α → Value} (h : Pr1 w F lb p q B (Tree.bind t g) R k o W) (hc : DoesIn C fn args t out) (hle : C.Le B) (hP : Tree.Ans P t) :
    Calls Tryz.prog fn (args (ptrV F)) W fun e w2 => ∃ x, P x ∧ e = .returned (out x) ∧ Pr1 w F lb p q B (g x) R k o w2 := by
  refine (h.st.callInP hc ⟨fun w h => hle.p w h.1, fun k h => .inl (hle.v k h)⟩ hP).mono ?_
  rintro e w2 ⟨x, hx, rfl, h2⟩
  exact ⟨x, hx, rfl, h2, h.n1⟩
theorem Pr2.call {P : α → Prop} {t : Tree α n} {g : α → Tree β m} {fn : Nat} {args : Value → Array Value} {out : α → Value} (h : Pr2 w F lb p q B (Tree.bind t g) R k o l u W) (hc : DoesIn C fn args t out) (hle : C.Le B) (hP : Tree.Ans P t) :
    Calls Tryz.prog fn (args (ptrV F)) W fun e w2 => ∃ x, P x ∧ e = .returned (out x) ∧ Pr2 w F lb p q B (g x) R k o l u w2 := by
  refine (h.st.callInP hc ⟨fun w h => hle.p w h.1.1, fun k h => .inl (.inl (hle.v k h))⟩ hP).mono ?_
  rintro e w2 ⟨x, hx, rfl, h2⟩
  exact ⟨x, hx, rfl, h2, h.n1, h.n2, h.ne⟩
end

end Go.Proofs.YtmcmjcaigipoaaaGreat

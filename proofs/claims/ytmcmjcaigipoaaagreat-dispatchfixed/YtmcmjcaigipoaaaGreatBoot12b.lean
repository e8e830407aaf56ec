/-
  Package plan: the other bodies that Boot plays, as trees of accesses. Conditions: the plan is one that Of makes.
-/
import Derived.Test.YtmcmjcaigipoaaaGreatBoot12a
import Derived.Deep.Quiet
namespace Go.Proofs.YtmcmjcaigipoaaaGreat
open Go.RowKit Go.Sept

theorem At.drewN {w w1 : World} {F lb p q : Nat} {S : Nat → Prop} {B : Bag} {β : Type} {m : Nat} {R : β × FrSt × List Int} {T : Tree β m} (h : At w F lb p q S B T R w1) (k : Nat) : At w F lb p q S B T R (w1.drewN k) := by
  have ho : Only (fun _ => False) w1 (w1.drewN k) := only_drewN (Only.refl _ w1) k
  exact h.turn (S2 := fun _ => False) ho (fun _ h => h.elim) (fun _ _ h => h.elim) (B.keep _ _ _ h.bag ho (fun _ _ h => h)) (fun _ h => .inl h)

set_option maxRecDepth 100000 in
set_option maxHeartbeats 1000000 in
theorem bootThr {Q : Nat → Prop} {C : Bag} {w w1 : World} {F lb p q : Nat} {R : Unit × FrSt × List Int} (n m : Nat) (ta oa za zb : Option Addr) (zc zd : Nat) (pt : Pt) (hn : pt.ths.length = n) (hm : pt.obs.length = m) (hn20 : n ≤ 20) (hm20 : m ≤ 20) (o : Nat) (x : Th) (hx : pt.ths[o]? = some x)
    (h : At w F lb p q (fun _ => False) ((plBag (planCs n m ta oa (.slice za n zc) (.slice zb m zd)) pt Q).and C) (thrT (43 + (m : Int) + (o : Int) * 24) x.prio) R w1) :
    Calls Tryz.prog 30 #[ptrV F, .agg (planCs n m ta oa (.slice za n zc) (.slice zb m zd)), .int .i64 (o : Int)] w1 fun e w' => ∃ x, e = .returned (.tuple #[]) ∧ At w F lb p q (fun _ => False) ((plBag (planCs n m ta oa (.slice za n zc) (.slice zb m zd)) pt Q).and C) (Tree.ret x : Tree Unit 0) R w' := by
  have ho : o < n := by have := (List.getElem?_eq_some_iff.1 hx).1; omega
  obtain ⟨k, caps, ctl, prog⟩ := x
  have HW := hid (h.alloc (plO (planCs n m ta oa (.slice za n zc) (.slice zb m zd))))
  have hV : ∃ V y, V = w1.alloc (plO (planCs n m ta oa (.slice za n zc) (.slice zb m zd))) ∧ y = w1.heap.size := ⟨_, _, rfl, rfl⟩
  obtain ⟨V, y, hVe, hye⟩ := hV
  have H : Hid (At w F lb p q (fun _ => False) (((plBag (planCs n m ta oa (.slice za n zc) (.slice zb m zd)) pt Q).and C).and (Bag.one y (plO (planCs n m ta oa (.slice za n zc) (.slice zb m zd))))) (thrT (43 + (m : Int) + (o : Int) * 24) k) R V) := by rw [hVe, hye]; exact HW.out
  have hkeep : ∀ wx, (((plBag (planCs n m ta oa (.slice za n zc) (.slice zb m zd)) pt Q).and C).and (Bag.one y (plO (planCs n m ta oa (.slice za n zc) (.slice zb m zd))))).P wx →
      (∃ b1 o1, ta = some ⟨b1, o1, none⟩ ∧ wx.cell? ⟨b1, o1 + o, none⟩ = some (.int .i64 (43 + (m : Int) + (o : Int) * 24))) ∧ (∃ b2 o2, za = some ⟨b2, o2, none⟩ ∧ wx.cell? ⟨b2, o2 + o * 4, none⟩ = some (.int .i64 k)) ∧ wx.cell? ⟨y, 9, none⟩ = some (.slice ta n n) ∧ wx.cell? ⟨y, 12, none⟩ = some (.slice za n zc) ∧ wx.cell? ⟨y, 6, none⟩ = some (.int .i64 8) := by
    intro wx hA
    obtain ⟨⟨⟨⟨ta', oa', u0, u1, hcs, hP, hS, _⟩, _⟩, _⟩, hy⟩ := hA
    rw [hn, hm] at hcs
    injection hcs with hcs
    simp only [List.cons.injEq] at hcs
    obtain ⟨-, -, -, -, -, -, -, -, -, e9, -, -, e12, -⟩ := hcs
    injection e9 with e9 _ _
    subst e9
    subst e12
    rw [hn, hm] at hS
    refine ⟨?_, ?_, cell_of_block hy 9, cell_of_block hy 12, cell_of_block hy 6⟩
    · obtain ⟨b1, o1, h1, _, z, hz, hc⟩ := hS.get o (by rw [show (thAts n m).length = n from length_stepsL _ _ _]; exact ho)
      have e9 := stepsL_at (43 + (m : Int)) 24 n o ho
      rw [show (thAts n m)[o]? = _ from e9] at hz
      injection hz with hz
      subst hz
      exact ⟨b1, o1, h1, by have h9 := hc.1; rwa [Nat.mul_one] at h9⟩
    · obtain ⟨b2, o2, h1, _, z, hz, hc1, _⟩ := (hn ▸ hP.1).get o (by rw [hn]; exact ho)
      rw [hx] at hz
      injection hz with hz
      subst hz
      exact ⟨b2, o2, h1, hc1.1⟩
  obtain ⟨⟨b1, o1, e1, e2⟩, ⟨b2, o2, e3, e4⟩, e5, e6, e7⟩ := hkeep _ H.out.bag
  have HKC : Hid (∀ wx, (((plBag (planCs n m ta oa (.slice za n zc) (.slice zb m zd)) pt Q).and C).and (Bag.one y (plO (planCs n m ta oa (.slice za n zc) (.slice zb m zd))))).P wx → wx.cell? ⟨y, 6, none⟩ = some (.int .i64 8)) := fun wx hb => (hkeep wx hb).2.2.2.2
  subst e1
  subst e3
  obtain ⟨A, hA⟩ : ∃ A, 43 + (m : Int) + (o : Int) * 24 = A := ⟨_, rfl⟩
  have HAb : 0 ≤ A ∧ A ≤ 2000 := by omega
  rw [hA] at e2 H
  clear hkeep h HW hx hA e7
  go_enter Tryz.func30, Tryz.ntmps30
  go_upto_region 1 with fail
  rw [← hye, ← hVe]
  clear hVe hye
  go_quiet (fail)
  have HQ := hid (H.out.drewN nq)
  clear H e2 e4 e5 e6
  go_wp2_with fail
  refine (HQ.out.call (listInit_does (A + 2))).mono ?_
  rintro e w2 ⟨x2, rfl, h2⟩
  have H2 := hid h2
  clear HQ h2
  go_wp2_with fail
  refine (H2.out.call (store_does (A + 6) k)).mono ?_
  rintro e w3 ⟨x3, rfl, h3⟩
  have H3 := hid h3
  clear H2 h3
  go_wp2_with fail
  refine (H3.out.call (store_does (A + 7) k)).mono ?_
  rintro e w4 ⟨x4, rfl, h4⟩
  have H4 := hid h4
  have e6 := HKC.out w4 h4.bag
  clear H3 h4
  go_wp2_with fail
  refine (H4.out.tail (qAdd_does 8 A k)).mono ?_
  rintro e w5 ⟨x5, rfl, h5⟩
  have H5 := hid h5
  clear H4 h5
  go_wp2_with fail
  go_end0
  exact ⟨_, rfl, H5.out.drop⟩

set_option maxRecDepth 100000 in
set_option maxHeartbeats 1000000 in
theorem bootCrs {Q : Nat → Prop} {C : Bag} {w w1 : World} {F lb p q : Nat} {R : Unit × FrSt × List Int} (n m : Nat) (ta oa za zb : Option Addr) (zc zd : Nat) (pt : Pt) (hn : pt.ths.length = n) (hm : pt.obs.length = m) (hn20 : n ≤ 20)
    (h : At w F lb p q (fun _ => False) ((plBag (planCs n m ta oa (.slice za n zc) (.slice zb m zd)) pt Q).and C) (coresT (thAts n m) [3, 5]) R w1) :
    Calls Tryz.prog 32 #[ptrV F, .agg (planCs n m ta oa (.slice za n zc) (.slice zb m zd))] w1 fun e w' => ∃ x, e = .returned (.tuple #[]) ∧ At w F lb p q (fun _ => False) ((plBag (planCs n m ta oa (.slice za n zc) (.slice zb m zd)) pt Q).and C) (Tree.ret x : Tree Unit 0) R w' := by
  have HW := hid (h.alloc (plO (planCs n m ta oa (.slice za n zc) (.slice zb m zd))))
  have hV : ∃ V y, V = w1.alloc (plO (planCs n m ta oa (.slice za n zc) (.slice zb m zd))) ∧ y = w1.heap.size := ⟨_, _, rfl, rfl⟩
  obtain ⟨V, y, hVe, hye⟩ := hV
  obtain ⟨BG, hBG⟩ : ∃ B, ((plBag (planCs n m ta oa (.slice za n zc) (.slice zb m zd)) pt Q).and C).and (Bag.one y (plO (planCs n m ta oa (.slice za n zc) (.slice zb m zd)))) = B := ⟨_, rfl⟩
  have H : Hid (At w F lb p q (fun _ => False) BG (coresT (thAts n m) [3, 5]) R V) := by rw [← hBG, hVe, hye]; exact HW.out
  have hkeep : Hid (∀ wx, BG.P wx → SlOf (fun _ => True) 1 intE wx (.slice ta n n) (thAts n m) ∧ wx.cell? ⟨y, 3, none⟩ = some (.int .i64 3) ∧ wx.cell? ⟨y, 4, none⟩ = some (.int .i64 5) ∧ wx.cell? ⟨y, 6, none⟩ = some (.int .i64 8) ∧ wx.cell? ⟨y, 9, none⟩ = some (.slice ta n n)) := by
    intro wx hA
    rw [← hBG] at hA
    obtain ⟨⟨⟨⟨ta', oa', u0, u1, hcs, hP, hS, _⟩, _⟩, _⟩, hy⟩ := hA
    rw [hn, hm] at hcs
    injection hcs with hcs
    simp only [List.cons.injEq] at hcs
    obtain ⟨-, -, -, -, -, -, -, -, -, e9, -, -, -, -⟩ := hcs
    injection e9 with e9 _ _
    subst e9
    rw [hn, hm] at hS
    exact ⟨hS.mono (fun _ _ => trivial) (fun _ _ _ h => h), cell_of_block hy 3, cell_of_block hy 4, cell_of_block hy 6, cell_of_block hy 9⟩
  have HDROP : Hid (∀ wx (x : Unit), At w F lb p q (fun _ => False) BG (Tree.ret x : Tree Unit 0) R wx → At w F lb p q (fun _ => False) ((plBag (planCs n m ta oa (.slice za n zc) (.slice zb m zd)) pt Q).and C) (Tree.ret x : Tree Unit 0) R wx) := by
    intro wx x hx
    rw [← hBG] at hx
    exact hx.drop
  have HIX : Hid (∀ wx x, BG.P wx → Calls Tryz.prog 67 #[.slice ta n n, .int .i64 x] wx fun e w' => e = .returned (.int .i64 (idxL (thAts n m) x)) ∧ w' = wx) := fun wx x hb => index12 wx _ _ x (hkeep.out wx hb).1
  have HB : Hid (∀ x, -1 ≤ idxL (thAts n m) x ∧ idxL (thAts n m) x ≤ 20) := fun x => by have h9 := idxL_le (thAts n m) x; rw [show (thAts n m).length = n from length_stepsL _ _ _] at h9; omega
  obtain ⟨L, hL⟩ : ∃ L, thAts n m = L := ⟨_, rfl⟩
  rw [hL] at H HIX HB
  have e6 := (hkeep.out _ H.out.bag).2.2.2.1
  clear h HW hL hBG
  have hi0 : ∀ w, (Instr.index 29 (.agg #[.int .i64 3, .int .i64 5]) (.int .i64 0)).run Tryz.prog w = .ok (.int .i64 3) w := fun _ => by kernel_rfl
  have hi1 : ∀ w, (Instr.index 29 (.agg #[.int .i64 3, .int .i64 5]) (.int .i64 1)).run Tryz.prog w = .ok (.int .i64 5) w := fun _ => by kernel_rfl
  go_enter Tryz.func32, Tryz.ntmps32
  go_upto_region 1 with fail
  rw [← hye, ← hVe]
  clear hVe hye
  go_wp2_with fail
  refine (H.out.call (qFirst_does 8)).mono ?_
  rintro e w2 ⟨x2, rfl, h2⟩
  have H2 := hid h2
  obtain ⟨_, e3, e4, _, _⟩ := hkeep.out _ h2.bag
  clear H h2 e6
  obtain ⟨xn, xp, xf⟩ := x2
  go_wp2_with fail
  go_loopw [4, 5, 6, 19] (fun v4 v5 v6 i wx => ∃ (yn yp : Int) (yf : Bool), v4 = .int .i64 yn ∧ v5 = .int .i64 yp ∧ v6 = .bool yf ∧ ((i = .int .i64 0 ∧ At w F lb p q (fun _ => False) BG (coreT L [3, 5] (yn, yp, yf)) R wx) ∨ (i = .int .i64 1 ∧ At w F lb p q (fun _ => False) BG (coreT L [5] (yn, yp, yf)) R wx) ∨ (i = .int .i64 2 ∧ At w F lb p q (fun _ => False) BG (coreT L [] (yn, yp, yf)) R wx))) (fun _ _ _ i _ => 2 - (intOf i).toNat)
  case atStart => exact ⟨xn, xp, xf, rfl, rfl, rfl, .inl ⟨rfl, H2.out⟩⟩
  case round =>
  clear H2 e3 e4
  obtain ⟨yn, yp, yf, rfl, rfl, rfl, ⟨rfl, hat⟩ | ⟨rfl, hat⟩ | ⟨rfl, hat⟩⟩ := hrel
  · have HA := hid hat
    obtain ⟨_, _, _, e6, e9⟩ := hkeep.out _ hat.bag
    have HX := hid (HIX.out wr yn hat.bag)
    clear hat
    cases yf
    · have HN := hid (HA.out.neg (show ¬ (false = true) by decide))
      clear HA HX
      go_wp2_with fail
      (try simp only [Exit.inBlock, Exit.then])
      refine bodyPost_ret (results_none rfl _ _ _) rfl ?_
      exact ⟨_, rfl, HDROP.out _ _ HN.out.fin⟩
    · have HP := hid (HA.out.pos (show true = true from rfl))
      have hbd := HB.out yn
      obtain ⟨r, hr⟩ : ∃ r, idxL L yn = r := ⟨_, rfl⟩
      have HR := hid hr
      rw [hr] at hbd
      clear HA hr
      go_wp2_with fail
      refine HX.out.mono ?_
      rintro e w3 ⟨rfl, rfl⟩
      rw [HR.out]
      have HP2 : Hid (At w F lb p q (fun _ => False) BG ((storeT 3 (r + 1)).bind fun _ => (qAfterT 8 yn yp).bind fun y => coreT L [5] y) R w3) := by rw [← HR.out]; exact HP.out
      clear HX HP
      go_wp2_with fail
      refine (HP2.out.call (store_does 3 (r + 1))).mono ?_
      rintro e w4 ⟨x4, rfl, h4⟩
      have H4 := hid h4
      have e7 := (hkeep.out _ h4.bag).2.2.2.1
      clear HP2 h4 e6 e9
      go_wp2_with fail
      refine (H4.out.call (qAfter_does 8 yn yp)).mono ?_
      rintro e w5 ⟨⟨zn, zp, zf⟩, rfl, h5⟩
      have H5 := hid h5
      clear H4 h5 e7
      go_wp2_with fail
      go_roundw
      case rel => exact ⟨zn, zp, zf, rfl, rfl, rfl, .inr (.inl ⟨rfl, H5.out⟩)⟩
      case measure => simp [intOf]
  · have HA := hid hat
    obtain ⟨_, _, _, e6, e9⟩ := hkeep.out _ hat.bag
    have HX := hid (HIX.out wr yn hat.bag)
    clear hat
    cases yf
    · have HN := hid (HA.out.neg (show ¬ (false = true) by decide))
      clear HA HX
      go_wp2_with fail
      (try simp only [Exit.inBlock, Exit.then])
      refine bodyPost_ret (results_none rfl _ _ _) rfl ?_
      exact ⟨_, rfl, HDROP.out _ _ HN.out.fin⟩
    · have HP := hid (HA.out.pos (show true = true from rfl))
      have hbd := HB.out yn
      obtain ⟨r, hr⟩ : ∃ r, idxL L yn = r := ⟨_, rfl⟩
      have HR := hid hr
      rw [hr] at hbd
      clear HA hr
      go_wp2_with fail
      refine HX.out.mono ?_
      rintro e w3 ⟨rfl, rfl⟩
      rw [HR.out]
      have HP2 : Hid (At w F lb p q (fun _ => False) BG ((storeT 5 (r + 1)).bind fun _ => (qAfterT 8 yn yp).bind fun y => coreT L [] y) R w3) := by rw [← HR.out]; exact HP.out
      clear HX HP
      go_wp2_with fail
      refine (HP2.out.call (store_does 5 (r + 1))).mono ?_
      rintro e w4 ⟨x4, rfl, h4⟩
      have H4 := hid h4
      have e7 := (hkeep.out _ h4.bag).2.2.2.1
      clear HP2 h4 e6 e9
      go_wp2_with fail
      refine (H4.out.call (qAfter_does 8 yn yp)).mono ?_
      rintro e w5 ⟨⟨zn, zp, zf⟩, rfl, h5⟩
      have H5 := hid h5
      clear H4 h5 e7
      go_wp2_with fail
      go_roundw
      case rel => exact ⟨zn, zp, zf, rfl, rfl, rfl, .inr (.inr ⟨rfl, H5.out⟩)⟩
      case measure => simp [intOf]
  · have HA := hid hat
    clear hat
    go_wp2_with fail
    go_end0
    exact ⟨_, rfl, HDROP.out _ _ HA.out.fin⟩
end Go.Proofs.YtmcmjcaigipoaaaGreat

/-
  Package plan: the closures that Boot plays, and play. Conditions: the plan is one that Of makes.
-/
namespace Go.Proofs.YtmcmjcaigipoaaaGreat
open Go.RowKit Go.Sept

/-- A block of one int. -/
abbrev intO (o : Nat) : Obj := .cells #[.int .i64 (o : Int)] 3
abbrev bootBag (z : Nat) (cs : Array Value) (p : Pt) (Q : Nat → Prop) : Bag := (plBag cs p Q).and (Bag.one z (plO cs))
abbrev bootBag2 (z y o : Nat) (cs : Array Value) (p : Pt) (Q : Nat → Prop) : Bag := (plBag cs p Q).and ((Bag.one z (plO cs)).and (Bag.one y (intO o)))

set_option maxRecDepth 100000 in
set_option maxHeartbeats 1000000 in
theorem boot3 {Q : Nat → Prop} {w w1 : World} {F lb p q z y : Nat} {R : Unit × FrSt × List Int} (n m : Nat) (ta oa za zb : Option Addr) (zc zd : Nat) (pt : Pt) (hn : pt.ths.length = n) (hm : pt.obs.length = m) (hn20 : n ≤ 20) (hm20 : m ≤ 20) (o : Nat) (x : Ob) (hx : pt.obs[o]? = some x) (hok : obOk x = true)
    (h : At w F lb p q (fun _ => False) (bootBag2 z y o (planCs n m ta oa (.slice za n zc) (.slice zb m zd)) pt Q) (objT (43 + (m : Int) + (n : Int) * 24 + (o : Int) * 24) x.kind x.size.toNat) R w1) :
    Calls Tryz.prog 27 #[ptrV F, ptrV z, ptrV y] w1 fun e w' => ∃ x, e = .returned (.tuple #[]) ∧ At w F lb p q (fun _ => False) (bootBag2 z y o (planCs n m ta oa (.slice za n zc) (.slice zb m zd)) pt Q) (Tree.ret x : Tree Unit 0) R w' := by
  have H := hid (bootObj n m ta oa za zb zc zd pt hn hm hn20 hm20 o x hx hok h)
  obtain ⟨_, hz, hy⟩ := h.bag
  have p0 : w1.cell? ⟨z, 0, none⟩ = some (.int .i64 0) := cell_of_block hz 0
  have p1 : w1.cell? ⟨z, 1, none⟩ = some (.int .i64 2) := cell_of_block hz 1
  have p2 : w1.cell? ⟨z, 2, none⟩ = some (.int .i64 4) := cell_of_block hz 2
  have p3 : w1.cell? ⟨z, 3, none⟩ = some (.int .i64 3) := cell_of_block hz 3
  have p4 : w1.cell? ⟨z, 4, none⟩ = some (.int .i64 5) := cell_of_block hz 4
  have p5 : w1.cell? ⟨z, 5, none⟩ = some (.int .i64 6) := cell_of_block hz 5
  have p6 : w1.cell? ⟨z, 6, none⟩ = some (.int .i64 8) := cell_of_block hz 6
  have p7 : w1.cell? ⟨z, 7, none⟩ = some (.int .i64 41) := cell_of_block hz 7
  have p8 : w1.cell? ⟨z, 8, none⟩ = some (.int .i64 43) := cell_of_block hz 8
  have p9 : w1.cell? ⟨z, 9, none⟩ = some (.slice ta n n) := cell_of_block hz 9
  have p10 : w1.cell? ⟨z, 10, none⟩ = some (.slice oa m m) := cell_of_block hz 10
  have p11 : w1.cell? ⟨z, 11, none⟩ = some (.int .i64 (43 + (m : Int) + (n : Int) * 24 + (m : Int) * 24)) := cell_of_block hz 11
  have p12 : w1.cell? ⟨z, 12, none⟩ = some (.slice za n zc) := cell_of_block hz 12
  have p13 : w1.cell? ⟨z, 13, none⟩ = some (.slice zb m zd) := cell_of_block hz 13
  have c0 : w1.cell? ⟨y, 0, none⟩ = some (.int .i64 (o : Int)) := cell_of_block hy 0
  clear h hx hok hz hy
  go_enter Tryz.func27, Tryz.ntmps27
  go_wp2_with fail
  refine H.out.mono ?_
  rintro e w2 ⟨u, rfl, h2⟩
  have H2 := hid h2
  clear H h2
  go_wp2_with fail
  go_end0
  exact ⟨_, rfl, H2.out⟩

set_option maxRecDepth 100000 in
set_option maxHeartbeats 1000000 in
theorem boot4 {Q : Nat → Prop} {w w1 : World} {F lb p q z y : Nat} {R : Unit × FrSt × List Int} (n m : Nat) (ta oa za zb : Option Addr) (zc zd : Nat) (pt : Pt) (hn : pt.ths.length = n) (hm : pt.obs.length = m) (hn20 : n ≤ 20) (hm20 : m ≤ 20) (o : Nat) (x : Th) (hx : pt.ths[o]? = some x)
    (h : At w F lb p q (fun _ => False) (bootBag2 z y o (planCs n m ta oa (.slice za n zc) (.slice zb m zd)) pt Q) (thrT (43 + (m : Int) + (o : Int) * 24) x.prio) R w1) :
    Calls Tryz.prog 29 #[ptrV F, ptrV z, ptrV y] w1 fun e w' => ∃ x, e = .returned (.tuple #[]) ∧ At w F lb p q (fun _ => False) (bootBag2 z y o (planCs n m ta oa (.slice za n zc) (.slice zb m zd)) pt Q) (Tree.ret x : Tree Unit 0) R w' := by
  have H := hid (bootThr n m ta oa za zb zc zd pt hn hm hn20 hm20 o x hx h)
  obtain ⟨_, hz, hy⟩ := h.bag
  have p0 : w1.cell? ⟨z, 0, none⟩ = some (.int .i64 0) := cell_of_block hz 0
  have p1 : w1.cell? ⟨z, 1, none⟩ = some (.int .i64 2) := cell_of_block hz 1
  have p2 : w1.cell? ⟨z, 2, none⟩ = some (.int .i64 4) := cell_of_block hz 2
  have p3 : w1.cell? ⟨z, 3, none⟩ = some (.int .i64 3) := cell_of_block hz 3
  have p4 : w1.cell? ⟨z, 4, none⟩ = some (.int .i64 5) := cell_of_block hz 4
  have p5 : w1.cell? ⟨z, 5, none⟩ = some (.int .i64 6) := cell_of_block hz 5
  have p6 : w1.cell? ⟨z, 6, none⟩ = some (.int .i64 8) := cell_of_block hz 6
  have p7 : w1.cell? ⟨z, 7, none⟩ = some (.int .i64 41) := cell_of_block hz 7
  have p8 : w1.cell? ⟨z, 8, none⟩ = some (.int .i64 43) := cell_of_block hz 8
  have p9 : w1.cell? ⟨z, 9, none⟩ = some (.slice ta n n) := cell_of_block hz 9
  have p10 : w1.cell? ⟨z, 10, none⟩ = some (.slice oa m m) := cell_of_block hz 10
  have p11 : w1.cell? ⟨z, 11, none⟩ = some (.int .i64 (43 + (m : Int) + (n : Int) * 24 + (m : Int) * 24)) := cell_of_block hz 11
  have p12 : w1.cell? ⟨z, 12, none⟩ = some (.slice za n zc) := cell_of_block hz 12
  have p13 : w1.cell? ⟨z, 13, none⟩ = some (.slice zb m zd) := cell_of_block hz 13
  have c0 : w1.cell? ⟨y, 0, none⟩ = some (.int .i64 (o : Int)) := cell_of_block hy 0
  clear h hx hz hy
  go_enter Tryz.func29, Tryz.ntmps29
  go_wp2_with fail
  refine H.out.mono ?_
  rintro e w2 ⟨u, rfl, h2⟩
  have H2 := hid h2
  clear H h2
  go_wp2_with fail
  go_end0
  exact ⟨_, rfl, H2.out⟩

set_option maxRecDepth 100000 in
set_option maxHeartbeats 1000000 in
theorem boot5 {Q : Nat → Prop} {w w1 : World} {F lb p q z : Nat} {R : Unit × FrSt × List Int} (n m : Nat) (ta oa za zb : Option Addr) (zc zd : Nat) (pt : Pt) (hn : pt.ths.length = n) (hm : pt.obs.length = m) (hn20 : n ≤ 20)
    (h : At w F lb p q (fun _ => False) (bootBag z (planCs n m ta oa (.slice za n zc) (.slice zb m zd)) pt Q) (coresT (thAts n m) [3, 5]) R w1) :
    Calls Tryz.prog 31 #[ptrV F, ptrV z] w1 fun e w' => ∃ x, e = .returned (.tuple #[]) ∧ At w F lb p q (fun _ => False) (bootBag z (planCs n m ta oa (.slice za n zc) (.slice zb m zd)) pt Q) (Tree.ret x : Tree Unit 0) R w' := by
  have H := hid (bootCrs n m ta oa za zb zc zd pt hn hm hn20 h)
  obtain ⟨_, hz⟩ := h.bag
  have p0 : w1.cell? ⟨z, 0, none⟩ = some (.int .i64 0) := cell_of_block hz 0
  have p1 : w1.cell? ⟨z, 1, none⟩ = some (.int .i64 2) := cell_of_block hz 1
  have p2 : w1.cell? ⟨z, 2, none⟩ = some (.int .i64 4) := cell_of_block hz 2
  have p3 : w1.cell? ⟨z, 3, none⟩ = some (.int .i64 3) := cell_of_block hz 3
  have p4 : w1.cell? ⟨z, 4, none⟩ = some (.int .i64 5) := cell_of_block hz 4
  have p5 : w1.cell? ⟨z, 5, none⟩ = some (.int .i64 6) := cell_of_block hz 5
  have p6 : w1.cell? ⟨z, 6, none⟩ = some (.int .i64 8) := cell_of_block hz 6
  have p7 : w1.cell? ⟨z, 7, none⟩ = some (.int .i64 41) := cell_of_block hz 7
  have p8 : w1.cell? ⟨z, 8, none⟩ = some (.int .i64 43) := cell_of_block hz 8
  have p9 : w1.cell? ⟨z, 9, none⟩ = some (.slice ta n n) := cell_of_block hz 9
  have p10 : w1.cell? ⟨z, 10, none⟩ = some (.slice oa m m) := cell_of_block hz 10
  have p11 : w1.cell? ⟨z, 11, none⟩ = some (.int .i64 (43 + (m : Int) + (n : Int) * 24 + (m : Int) * 24)) := cell_of_block hz 11
  have p12 : w1.cell? ⟨z, 12, none⟩ = some (.slice za n zc) := cell_of_block hz 12
  have p13 : w1.cell? ⟨z, 13, none⟩ = some (.slice zb m zd) := cell_of_block hz 13
  clear h hz
  go_enter Tryz.func31, Tryz.ntmps31
  go_wp2_with fail
  refine H.out.mono ?_
  rintro e w2 ⟨u, rfl, h2⟩
  have H2 := hid h2
  clear H h2
  go_wp2_with fail
  go_end0
  exact ⟨_, rfl, H2.out⟩

set_option maxHeartbeats 400000 in
/-- play of a closure that does a tree. -/
theorem play12 {n : Nat} {T : Tree Unit n} {fn : Nat} {cap : Array Value} {B : Bag} (hB : BodyCl T fn cap (bagK B) 6000) (w : World) (p q : Nat) (xs : List Int) (hm : MemIs 130 w p q xs) (hP : B.P w) (hV : ∀ k, B.V k → k ≠ p ∧ k ≠ q) (hk : n ≤ 60) (hy : 0 < xs.length) :
    Calls Tryz.prog 22 #[.pointer (some ⟨p, 0, none⟩), closV fn cap] w fun e w' => e = .returned (.tuple #[]) ∧ MemIs 130 w' p q (T.alone xs).2.1 ∧ Only (fun k => k = q) w w' := by
  have HR := hid (clos_run hB w p q xs 60 hm hP hV (by omega) (by decide) (by decide) hy)
  obtain ⟨X, hX⟩ : ∃ X, (T.alone xs).2.1 = X := ⟨_, rfl⟩
  rw [hX] at HR ⊢
  clear hm hP hV hB hX
  go_enter Tryz.func22, Tryz.ntmps22
  go_wp2_with fail
  refine HR.out.mono ?_
  rintro e w2 ⟨rfl, h2, h3⟩
  have H2 := hid (And.intro h2 h3)
  clear h2 h3 HR
  go_wp2_with fail
  go_end0
  exact ⟨rfl, H2.out⟩
end Go.Proofs.YtmcmjcaigipoaaaGreat

/-
  Package plan: Boot. Conditions: the plan is one that Of makes, of a partition with which nothing is wrong.
-/
namespace Go.Sept
open Go.RowKit
/-- The words behind the objects', and the threads', bodies. -/
def objX (p : Pt) (n m : Nat) : Nat → List Int → List Int
  | 0, xs => xs
  | j + 1, xs => match p.obs[j]? with
    | some o => ((objT (43 + (m : Int) + (n : Int) * 24 + (j : Int) * 24) o.kind o.size.toNat).alone (objX p n m j xs)).2.1
    | none => objX p n m j xs
def thrX (p : Pt) (m : Nat) : Nat → List Int → List Int
  | 0, xs => xs
  | j + 1, xs => match p.ths[j]? with
    | some t => ((thrT (43 + (m : Int) + (j : Int) * 24) t.prio).alone (thrX p m j xs)).2.1
    | none => thrX p m j xs
def startX (k n m : Nat) : List Int := ((joinT 41 41).alone ((qInitT 8 k).alone (List.replicate (43 + m + n * 24 + m * 24) 0)).2.1).2.1
/-- The words of a partition's memory at the beginning. -/
def bootX (k : Nat) (cs : List Int) (p : Pt) (n m : Nat) : List Int := ((coresT (thAts n m) cs).alone (thrX p m n (objX p n m m (startX k n m)))).2.1
theorem length_objX (p : Pt) (n m j : Nat) (xs : List Int) : (objX p n m j xs).length = xs.length := by
  induction j with
  | zero => rfl
  | succ j ih =>
    rw [objX]
    split
    · rw [Tree.alone_length]; exact ih
    · exact ih
theorem length_thrX (p : Pt) (m j : Nat) (xs : List Int) : (thrX p m j xs).length = xs.length := by
  induction j with
  | zero => rfl
  | succ j ih =>
    rw [thrX]
    split
    · rw [Tree.alone_length]; exact ih
    · exact ih
theorem length_startX (k n m : Nat) : (startX k n m).length = 43 + m + n * 24 + m * 24 := by
  rw [startX, Tree.alone_length, Tree.alone_length, List.length_replicate]
theorem length_bootX (k : Nat) (cs : List Int) (p : Pt) (n m : Nat) : (bootX k cs p n m).length = 43 + m + n * 24 + m * 24 := by
  rw [bootX, Tree.alone_length, length_thrX, length_objX, length_startX]
theorem part_parts {p : Pt} (h : partW p = 0) : (1 ≤ p.ths.length ∧ p.ths.length ≤ 6) ∧ p.obs.length ≤ 8 ∧ p.ths.all (thOk p.obs.length) = true ∧ p.obs.all obOk = true := by
  unfold partW at h
  by_cases h1 : p.ths.length < 1 ∨ 6 < p.ths.length
  · rw [if_pos h1] at h; omega
  · rw [if_neg h1] at h
    by_cases h2 : 8 < p.obs.length
    · rw [if_pos h2] at h; omega
    · rw [if_neg h2] at h
      by_cases h3 : p.ths.all (thOk p.obs.length) = false
      · rw [if_pos h3] at h; omega
      · rw [if_neg h3] at h
        by_cases h4 : p.obs.all obOk = false
        · rw [if_pos h4] at h; omega
        · exact ⟨⟨by omega, by omega⟩, by omega, by simpa using h3, by simpa using h4⟩
end Go.Sept
namespace Go.Proofs.YtmcmjcaigipoaaaGreat
open Go.RowKit Go.Sept

theorem PlIs.low12 {P : Nat → Prop} {w : World} {cs : Array Value} {p : Pt} (h : PlIs P w cs p) : PlIs (fun k => k < w.heap.size) w cs p := by
  obtain ⟨ta, oa, u0, u1, h1, ⟨h2, h3⟩, h4, h5⟩ := h
  exact ⟨ta, oa, u0, u1, h1, ⟨h2.low (fun _ _ _ h => low_th _ h), h3.low (fun _ _ _ h => ⟨Cel.lt h.1.1, h⟩)⟩, h4.low (fun _ _ _ h => ⟨Cel.lt h.1, h⟩), h5.low (fun _ _ _ h => ⟨Cel.lt h.1, h⟩)⟩

section
variable {Q : Nat → Prop} {z y : Nat} (n m : Nat) (ta oa za zb : Option Addr) (zc zd : Nat) (pt : Pt)
theorem cl1 : BodyCl (qInitT 8 16) 23 #[ptrV z] (bagK (bootBag z (planCs n m ta oa (.slice za n zc) (.slice zb m zd)) pt Q)) 6000 :=
  clos_of (fun f => #[f, ptrV z]) (fun _ => rfl) (enters_of Tryz.func23 (by kernel_rfl) rfl) (by decide) fun _ _ _ _ _ _ h => boot1 h (cell_of_block h.bag.2 6)
theorem cl2 : BodyCl (joinT 41 41) 25 #[ptrV z] (bagK (bootBag z (planCs n m ta oa (.slice za n zc) (.slice zb m zd)) pt Q)) 6000 :=
  clos_of (fun f => #[f, ptrV z]) (fun _ => rfl) (enters_of Tryz.func25 (by kernel_rfl) rfl) (by decide) fun _ _ _ _ _ _ h => boot2 h (cell_of_block h.bag.2 7)
theorem cl3 (hn : pt.ths.length = n) (hm : pt.obs.length = m) (hn20 : n ≤ 20) (hm20 : m ≤ 20) (o : Nat) (x : Ob) (hx : pt.obs[o]? = some x) (hok : obOk x = true) (hs : x.size.toNat ≤ 40) : BodyCl (objT (43 + (m : Int) + (n : Int) * 24 + (o : Int) * 24) x.kind x.size.toNat) 27 #[ptrV z, ptrV y] (bagK (bootBag2 z y o (planCs n m ta oa (.slice za n zc) (.slice zb m zd)) pt Q)) 6000 :=
  clos_of (fun f => #[f, ptrV z, ptrV y]) (fun _ => rfl) (enters_of Tryz.func27 (by kernel_rfl) rfl) (by omega) fun _ _ _ _ _ _ h => boot3 n m ta oa za zb zc zd pt hn hm hn20 hm20 o x hx hok h
theorem cl4 (hn : pt.ths.length = n) (hm : pt.obs.length = m) (hn20 : n ≤ 20) (hm20 : m ≤ 20) (o : Nat) (x : Th) (hx : pt.ths[o]? = some x) : BodyCl (thrT (43 + (m : Int) + (o : Int) * 24) x.prio) 29 #[ptrV z, ptrV y] (bagK (bootBag2 z y o (planCs n m ta oa (.slice za n zc) (.slice zb m zd)) pt Q)) 6000 :=
  clos_of (fun f => #[f, ptrV z, ptrV y]) (fun _ => rfl) (enters_of Tryz.func29 (by kernel_rfl) rfl) (by decide) fun _ _ _ _ _ _ h => boot4 n m ta oa za zb zc zd pt hn hm hn20 hm20 o x hx h
theorem cl5 (hn : pt.ths.length = n) (hm : pt.obs.length = m) (hn20 : n ≤ 20) : BodyCl (coresT (thAts n m) [3, 5]) 31 #[ptrV z] (bagK (bootBag z (planCs n m ta oa (.slice za n zc) (.slice zb m zd)) pt Q)) 6000 :=
  clos_of (fun f => #[f, ptrV z]) (fun _ => rfl) (enters_of Tryz.func31 (by kernel_rfl) rfl) (by decide) fun _ _ _ _ _ _ h => boot5 n m ta oa za zb zc zd pt hn hm hn20 h
end

theorem min8 (k : Nat) (h : k ≤ 8) : ∀ w, (Builtin.min_ #[3, 3, 3] 3 #[.int .i64 (k : Int), .int .i64 (k : Int), .int .i64 8]).run Tryz.prog w = .ok (.int .i64 (k : Int)) w := by
  match k, h with
  | 0, _ => exact fun _ => by kernel_rfl
  | 1, _ => exact fun _ => by kernel_rfl
  | 2, _ => exact fun _ => by kernel_rfl
  | 3, _ => exact fun _ => by kernel_rfl
  | 4, _ => exact fun _ => by kernel_rfl
  | 5, _ => exact fun _ => by kernel_rfl
  | 6, _ => exact fun _ => by kernel_rfl
  | 7, _ => exact fun _ => by kernel_rfl
  | 8, _ => exact fun _ => by kernel_rfl
theorem min6 (k : Nat) (h : k ≤ 6) : ∀ w, (Builtin.min_ #[3, 3, 3] 3 #[.int .i64 (k : Int), .int .i64 (k : Int), .int .i64 6]).run Tryz.prog w = .ok (.int .i64 (k : Int)) w := by
  match k, h with
  | 0, _ => exact fun _ => by kernel_rfl
  | 1, _ => exact fun _ => by kernel_rfl
  | 2, _ => exact fun _ => by kernel_rfl
  | 3, _ => exact fun _ => by kernel_rfl
  | 4, _ => exact fun _ => by kernel_rfl
  | 5, _ => exact fun _ => by kernel_rfl
  | 6, _ => exact fun _ => by kernel_rfl

/-- What stands between the bodies: the memory, and all that was there. -/
structure BootSt (W wx : World) (z : Nat) (xs : List Int) : Prop where
  mem : MemIs 130 wx (z + 2) (z + 1) xs
  keep : Only (fun k => k = z + 1) W wx

set_option maxRecDepth 100000 in
set_option maxHeartbeats 2000000 in
theorem boot_rel {P : Nat → Prop} (w : World) (cs : Array Value) (pt : Pt) (h : PlIs P w cs pt) (hok : partW pt = 0) :
    Calls Tryz.prog 9 #[.agg cs] w fun e w' => ∃ p q, e = .returned (.pointer (some ⟨p, 0, none⟩)) ∧ MemIs 130 w' p q (bootX 16 [3, 5] pt pt.ths.length pt.obs.length) ∧ (w.heap.size ≤ p ∧ w.heap.size ≤ q) ∧ Only (fun _ => False) w w' := by
  obtain ⟨⟨hn1, hn6⟩, hm8, hths, hobs⟩ := part_parts hok
  obtain ⟨ta, oa, za, zc, zb, zd, rfl⟩ := h.shape
  have hpl := h.low12
  obtain ⟨n, hn⟩ : ∃ n, pt.ths.length = n := ⟨_, rfl⟩
  obtain ⟨m, hm⟩ : ∃ m, pt.obs.length = m := ⟨_, rfl⟩
  rw [hn] at hn1 hn6
  rw [hm] at hm8
  rw [hn, hm] at hpl ⊢
  have HN := hid hn
  have HM := hid hm
  have HOB : Hid (∀ (o : Nat) x, pt.obs[o]? = some x → obOk x = true ∧ (x.kind = 4 → x.size ≤ 16) ∧ x.size.toNat ≤ 16) := fun o x hx => by
    have h9 := List.all_eq_true.1 hobs x (List.mem_of_getElem? hx)
    have h8 := of_decide_eq_true h9
    exact ⟨h9, by omega, by omega⟩
  have hW : ∃ W z, W = newWorld (w.alloc (plO (planCs n m ta oa (.slice za n zc) (.slice zb m zd)))) 130 (43 + m + n * 24 + m * 24) ∧ z = w.heap.size ∧ Only (fun _ => False) w W ∧ W.heap[z]? = some (plO (planCs n m ta oa (.slice za n zc) (.slice zb m zd))) ∧ MemIs 130 W (z + 2) (z + 1) (List.replicate (43 + m + n * 24 + m * 24) 0) := by
    refine ⟨_, _, rfl, rfl, ((Only.refl _ _).alloc _).trans (newWorld_only _ _ _ _), ((newWorld_only (fun _ => False) _ _ _).block _ (by simp) (fun h => h)).trans (heap_new _ _), ?_⟩
    have h9 := newWorld_mem (w.alloc (plO (planCs n m ta oa (.slice za n zc) (.slice zb m zd)))) 130 (43 + m + n * 24 + m * 24)
    rw [World.size_alloc] at h9
    exact h9
  obtain ⟨W, z, hWe, hze, hoW, hbz, hmW⟩ := hW
  have HZ := hid hze
  have HO := hid hoW
  have HB := hid hbz
  -- the bag stays
  have HBAG : Hid (∀ wx, Only (fun k => k = z + 1) W wx → (bootBag z (planCs n m ta oa (.slice za n zc) (.slice zb m zd)) pt (fun k => k < w.heap.size)).P wx) := fun wx ho => by
    refine ⟨⟨(hpl.only hoW (fun _ _ h => h)).only ho (fun k hk e => by omega), fun k hk => Nat.lt_of_lt_of_le hk (Nat.le_trans hoW.size ho.size)⟩, (ho.block z (lt_of_block hbz) (by omega)).trans hbz⟩
  have HV : Hid (∀ k, (bootBag z (planCs n m ta oa (.slice za n zc) (.slice zb m zd)) pt (fun k => k < w.heap.size)).V k → k ≠ z + 2 ∧ k ≠ z + 1) := fun k hk => by
    rcases hk with hk | hk
    · have hk : k < w.heap.size := hk
      exact ⟨by omega, by omega⟩
    · have hk : k = z := hk
      exact ⟨by omega, by omega⟩
  -- a play over what stands there
  have HPLAY : Hid (∀ {d : Nat} (T : Tree Unit d) (fn : Nat), d ≤ 60 → BodyCl T fn #[ptrV z] (bagK (bootBag z (planCs n m ta oa (.slice za n zc) (.slice zb m zd)) pt (fun k => k < w.heap.size))) 6000 → ∀ wx xs, BootSt W wx z xs → 0 < xs.length →
      Calls Tryz.prog 22 #[.pointer (some ⟨z + 2, 0, none⟩), closV fn #[ptrV z]] wx fun e w' => e = .returned (.tuple #[]) ∧ BootSt W w' z (T.alone xs).2.1) := fun T fn hd hB wx xs hst hx => by
    refine (play12 hB wx (z + 2) (z + 1) xs hst.mem (HBAG.out wx hst.keep) HV.out hd hx).mono ?_
    rintro e w' ⟨rfl, h1, h2⟩
    exact ⟨rfl, h1, hst.keep.chain h2 (fun _ _ e => e)⟩
  have HPLAY2 : Hid (∀ {d : Nat} (T : Tree Unit d) (fn : Nat) (j : Nat), d ≤ 60 → (∀ y, BodyCl T fn #[ptrV z, ptrV y] (bagK (bootBag2 z y j (planCs n m ta oa (.slice za n zc) (.slice zb m zd)) pt (fun k => k < w.heap.size))) 6000) → ∀ wx xs, BootSt W wx z xs → 0 < xs.length →
      Calls Tryz.prog 22 #[.pointer (some ⟨z + 2, 0, none⟩), closV fn #[ptrV z, ptrV wx.heap.size]] (wx.alloc (intO j)) fun e w' => e = .returned (.tuple #[]) ∧ BootSt W w' z (T.alone xs).2.1) := fun T fn j hd hB wx xs hst hx => by
    have ho : Only (fun _ => False) wx (wx.alloc (intO j)) := (Only.refl _ _).alloc _
    have hb := HBAG.out _ (hst.keep.chain ho (fun _ _ e => e.elim))
    have h1 := lt_of_block hst.mem.head
    have h2 := hst.mem.row.lt
    refine (play12 (hB wx.heap.size) (wx.alloc (intO j)) (z + 2) (z + 1) xs (hst.mem.alloc _) ⟨hb.1, hb.2, heap_new _ _⟩ (fun k hk => ?_) hd hx).mono ?_
    · rcases hk with hk | hk | hk
      · exact HV.out k (.inl hk)
      · exact HV.out k (.inr hk)
      · have hk : k = wx.heap.size := hk
        exact ⟨by omega, by omega⟩
    · rintro e w' ⟨rfl, h3, h4⟩
      exact ⟨rfl, h3, (hst.keep.chain ho (fun _ _ e => e.elim)).chain h4 (fun _ _ e => e)⟩
  have HST : Hid (BootSt W W z (List.replicate (43 + m + n * 24 + m * 24) 0)) := ⟨hmW, Only.refl _ _⟩
  have hcl : clampN ((43 + m + n * 24 + m * 24 : Nat) : Int) = 43 + m + n * 24 + m * 24 := by unfold clampN; omega
  have HNEW : Hid (Calls Tryz.prog 21 #[.int .i64 (43 + (m : Int) + (n : Int) * 24 + (m : Int) * 24)] (w.alloc (plO (planCs n m ta oa (.slice za n zc) (.slice zb m zd)))) fun e w' => e = .returned (.pointer (some ⟨z + 2, 0, none⟩)) ∧ w' = W) := by
    have h9 := new_any (w.alloc (plO (planCs n m ta oa (.slice za n zc) (.slice zb m zd)))) ((43 + m + n * 24 + m * 24 : Nat) : Int)
    rw [hcl, World.size_alloc, ← hWe, ← hze] at h9
    push_cast at h9
    exact h9
  clear hWe hoW hbz hmW hpl h hok hths hobs hn hm hcl
  have hmin8 := min8 m hm8
  have hmin6 := min6 n hn6
  go_enter Tryz.func9, Tryz.ntmps9
  go_wp2_with fail
  refine HNEW.out.mono ?_
  rintro e w1 ⟨rfl, hw1⟩
  obtain rfl : W = w1 := hw1.symm
  rw [← hze]
  clear hze hw1 HNEW
  have HZC : Hid (∀ wx xs, BootSt W wx z xs → wx.cell? ⟨z, 9, none⟩ = some (.slice ta n n) ∧ wx.cell? ⟨z, 10, none⟩ = some (.slice oa m m) ∧ wx.cell? ⟨z, 12, none⟩ = some (.slice za n zc) ∧ wx.cell? ⟨z, 13, none⟩ = some (.slice zb m zd)) := fun wx xs h => by
    have h9 := (HBAG.out wx h.keep).2
    exact ⟨cell_of_block h9 9, cell_of_block h9 10, cell_of_block h9 12, cell_of_block h9 13⟩
  go_wp2_with fail
  refine (HPLAY.out (qInitT 8 16) _ (by decide) (cl1 n m ta oa za zb zc zd pt) W _ HST.out (by rw [List.length_replicate]; omega)).mono ?_
  rintro e w2 ⟨rfl, h2⟩
  have H2 := hid h2
  clear HST h2
  go_wp2_with fail
  refine (HPLAY.out (joinT 41 41) _ (by decide) (cl2 n m ta oa za zb zc zd pt) w2 _ H2.out (by rw [Tree.alone_length, List.length_replicate]; omega)).mono ?_
  rintro e w3 ⟨rfl, h3⟩
  have H3 : Hid (BootSt W w3 z (startX 16 n m)) := h3
  obtain ⟨e9, e10, e12, e13⟩ := HZC.out w3 _ h3
  clear H2 h3
  go_wp2_with fail
  go_loopw [23] (fun i wx => ∃ j : Nat, i = .int .i64 (j : Int) ∧ j ≤ m ∧ BootSt W wx z (objX pt n m j (startX 16 n m))) (fun i _ => m - (intOf i).toNat)
  case atStart => exact ⟨0, rfl, Nat.zero_le _, H3.out⟩
  case round =>
  clear H3
  obtain ⟨j, rfl, hj, hst⟩ := hrel
  have HST := hid hst
  clear hst e9 e10 e12 e13
  by_cases hlt : (j : Int) < (m : Int)
  · obtain ⟨x, hx⟩ : ∃ x, pt.obs[j]? = some x := ⟨_, List.getElem?_eq_getElem (show j < pt.obs.length by rw [HM.out]; omega)⟩
    obtain ⟨hok, _, hsz⟩ := HOB.out j x hx
    have HCALL := hid (HPLAY2.out (objT (43 + (m : Int) + (n : Int) * 24 + (j : Int) * 24) x.kind x.size.toNat) 27 j (by omega) (fun y => cl3 n m ta oa za zb zc zd pt HN.out HM.out (by omega) (by omega) j x hx hok (by omega)) wr _ HST.out (by rw [length_objX, length_startX]; omega))
    have HNX : Hid (objX pt n m (j + 1) (startX 16 n m) = ((objT (43 + (m : Int) + (n : Int) * 24 + (j : Int) * 24) x.kind x.size.toNat).alone (objX pt n m j (startX 16 n m))).2.1) := by show _ = _; rw [objX, hx]
    clear hx hok hsz
    go_wp2_with fail
    refine HCALL.out.mono ?_
    rintro e w4 ⟨rfl, h4⟩
    rw [← HNX.out] at h4
    have H4 := hid h4
    clear HCALL h4
    go_wp2_with fail
    go_roundw
    case rel => exact ⟨j + 1, by go_num, by omega, H4.out⟩
    case measure => simp [intOf]; omega
  · obtain rfl : j = m := by omega
    obtain ⟨e9, e10, e12, e13⟩ := HZC.out wr _ HST.out
    clear hlt hj
    go_wp2_with fail
    go_loopw [38] (fun i wx => ∃ q : Nat, i = .int .i64 (q : Int) ∧ q ≤ n ∧ BootSt W wx z (thrX pt j q (objX pt n j j (startX 16 n j)))) (fun i _ => n - (intOf i).toNat)
    case atStart => exact ⟨0, rfl, Nat.zero_le _, HST.out⟩
    case round =>
    clear HST
    obtain ⟨q, rfl, hq, hst⟩ := hrel
    have HST := hid hst
    clear hst e9 e10 e12 e13
    by_cases hlt : (q : Int) < (n : Int)
    · obtain ⟨x, hx⟩ : ∃ x, pt.ths[q]? = some x := ⟨_, List.getElem?_eq_getElem (show q < pt.ths.length by rw [HN.out]; omega)⟩
      have HCALL := hid (HPLAY2.out (thrT (43 + (j : Int) + (q : Int) * 24) x.prio) 29 q (by decide) (fun y => cl4 n j ta oa za zb zc zd pt HN.out HM.out (by omega) (by omega) q x hx) wr _ HST.out (by rw [length_thrX, length_objX, length_startX]; omega))
      have HNX : Hid (thrX pt j (q + 1) (objX pt n j j (startX 16 n j)) = ((thrT (43 + (j : Int) + (q : Int) * 24) x.prio).alone (thrX pt j q (objX pt n j j (startX 16 n j)))).2.1) := by show _ = _; rw [thrX, hx]
      clear hx
      go_wp2_with fail
      refine HCALL.out.mono ?_
      rintro e w4 ⟨rfl, h4⟩
      rw [← HNX.out] at h4
      have H4 := hid h4
      clear HCALL h4
      go_wp2_with fail
      go_roundw
      case rel => exact ⟨q + 1, by go_num, by omega, H4.out⟩
      case measure => simp [intOf]; omega
    · obtain rfl : q = n := by omega
      go_wp2_with fail
      refine (HPLAY.out (coresT (thAts q j) [3, 5]) _ (by decide) (cl5 q j ta oa za zb zc zd pt HN.out HM.out (by omega)) wr _ HST.out (by rw [length_thrX, length_objX, length_startX]; omega)).mono ?_
      rintro e w5 ⟨rfl, h5⟩
      have H5 : Hid (BootSt W w5 z (bootX 16 [3, 5] pt q j)) := h5
      clear h5
      go_wp2_with fail
      go_ret
      refine ⟨z + 2, z + 1, rfl, H5.out.mem, ⟨by have := HZ.out; omega, by have := HZ.out; omega⟩, HO.out.chain H5.out.keep (fun i hi e => by have := HZ.out; omega)⟩
end Go.Proofs.YtmcmjcaigipoaaaGreat

/-
  Package plan: the other bodies that Boot plays, as trees of accesses. Conditions: the plan is one that Of makes.
-/
import Derived.Test.YtapmakdklpbjkaaBoot12a
import Derived.Deep.Quiet
namespace Go.Proofs.Ytapmakdklpbjkaa
open Go.RowKit Go.Sept

theorem At.drewN {w w1 : World} {F lb p q : Nat} {S : Nat → Prop} {B : Bag} {β : Type} {m : Nat} {R : β × FrSt × List Int} {T : Tree β m} (h : At w F lb p q S B T R w1) (k : Nat) : At w F lb p q S B T R (w1.drewN k) := by
  have ho : Only (fun _ => False) w1 (w1.drewN k) := only_drewN (Only.refl _ w1) k
  exact h.turn (S2 := fun _ => False) ho (fun _ h => h.elim) (fun _ _ h => h.elim) (B.keep _ _ _ h.bag ho (fun _ _ h => h)) (fun _ h => .inl h)

set_option maxRecDepth 100000 in
set_option maxHeartbeats 1000000 in
theorem bootThr {Q : Nat → Prop} {C : Bag} {w w1 : World} {F lb p q : Nat} {R : Unit × FrSt × List Int} (n m : Nat) (ta oa za zb : Option Addr) (zc zd : Nat) (pt : Pt) (hn : pt.ths.length = n) (hm : pt.obs.length = m) (hn20 : n ≤ 20) (hm20 : m ≤ 20) (o : Nat) (x : Th) (hx : pt.ths[o]? = some x)
    (h : At w F lb p q (fun _ => False) ((plBag (planCs n m ta oa (.slice za n zc) (.slice zb m zd)) pt Q).and C) (thrT (43 + (m : Int) + (o : Int) * 24) x.prio) R w1) :
    Calls Try.prog 29 #[ptrV F, .agg (planCs n m ta oa (.slice za n zc) (.slice zb m zd)), .int .i64 (o : Int)] w1 fun e w' => ∃ x, e = .returned (.tuple #[]) ∧ At w F lb p q (fun _ => False) ((plBag (planCs n m ta oa (.slice za n zc) (.slice zb m zd)) pt Q).and C) (Tree.ret x : Tree Unit 0) R w' := by
  have ho : o < n := by have := (List.getElem?_eq_some_iff.1 hx).1; omega
  obtain ⟨k, caps, ctl, prog⟩ := x
  have HW := hid (h.alloc (plO (planCs n m ta oa (.slice za n zc) (.slice zb m zd))))
  have hV : ∃ V y, V = w1.alloc (plO (planCs n m ta oa (.slice za n zc) (.slice zb m zd))) ∧ y = w1.heap.size := ⟨_, _, rfl, rfl⟩
  obtain ⟨V, y, hVe, hye⟩ := hV
  have H : Hid (At w F lb p q (fun _ => False) (((plBag (planCs n m ta oa (.slice za n zc) (.slice zb m zd)) pt Q).and C).and (Bag.one y (plO (planCs n m ta oa (.slice za n zc) (.slice zb m zd))))) (thrT (43 + (m : Int) + (o : Int) * 24) k) R V) := by rw [hVe, hye]; exact HW.out
  have hkeep : ∀ wx, (((plBag (planCs n m ta oa (.slice za n zc) (.slice zb m zd)) pt Q).and C).and (Bag.one y (plO (planCs n m ta oa (.slice za n zc) (.slice zb m zd))))).P wx →
      (∃ b1 o1, ta = some ⟨b1, o1, none⟩ ∧ wx.cell? ⟨b1, o1 + o, none⟩ = some (.int .i64 (43 + (m : Int) + (o : Int) * 24))) ∧ (∃ b2 o2, za = some ⟨b2, o2, none⟩ ∧ wx.cell? ⟨b2, o2 + o * 4, none⟩ = some (.int .i64 k)) ∧ wx.cell? ⟨y, 9, none⟩ = some (.slice ta n n) ∧ wx.cell? ⟨y, 12, none⟩ = some (.slice za n zc) ∧ wx.cell? ⟨y, 6, none⟩ = some (.int .i64 8) := by
    intro wx hA
    obtain ⟨⟨⟨⟨ta', oa', u0, u1, hcs, hP, hS, _⟩, _⟩, _⟩, hy⟩ := hA
    rw [hn, hm] at hcs
    injection hcs with hcs
    simp only [List.cons.injEq] at hcs
    obtain ⟨-, -, -, -, -, -, -, -, -, e9, -, -, e12, -⟩ := hcs
    injection e9 with e9 _ _
    subst e9
    subst e12
    rw [hn, hm] at hS
    refine ⟨?_, ?_, cell_of_block hy 9, cell_of_block hy 12, cell_of_block hy 6⟩
    · obtain ⟨b1, o1, h1, _, z, hz, hc⟩ := hS.get o (by rw [show (thAts n m).length = n from length_stepsL _ _ _]; exact ho)
      have e9 := stepsL_at (43 + (m : Int)) 24 n o ho
      rw [show (thAts n m)[o]? = _ from e9] at hz
      injection hz with hz
      subst hz
      exact ⟨b1, o1, h1, by have h9 := hc.1; rwa [Nat.mul_one] at h9⟩
    · obtain ⟨b2, o2, h1, _, z, hz, hc1, _⟩ := (hn ▸ hP.1).get o (by rw [hn]; exact ho)
      rw [hx] at hz
      injection hz with hz
      subst hz
      exact ⟨b2, o2, h1, hc1.1⟩
  obtain ⟨⟨b1, o1, e1, e2⟩, ⟨b2, o2, e3, e4⟩, e5, e6, e7⟩ := hkeep _ H.out.bag
  have HKC : Hid (∀ wx, (((plBag (planCs n m ta oa (.slice za n zc) (.slice zb m zd)) pt Q).and C).and (Bag.one y (plO (planCs n m ta oa (.slice za n zc) (.slice zb m zd))))).P wx → wx.cell? ⟨y, 6, none⟩ = some (.int .i64 8)) := fun wx hb => (hkeep wx hb).2.2.2.2
  subst e1
  subst e3
  obtain ⟨A, hA⟩ : ∃ A, 43 + (m : Int) + (o : Int) * 24 = A := ⟨_, rfl⟩
  have HAb : 0 ≤ A ∧ A ≤ 2000 := by omega
  rw [hA] at e2 H
  clear hkeep h HW hx hA e7
  go_enter Try.func29, Try.ntmps29
  go_upto_region 1 with fail
  rw [← hye, ← hVe]
  clear hVe hye
  go_quiet (fail)
  have HQ := hid (H.out.drewN nq)
  clear H e2 e4 e5 e6
  go_wp2_with fail
  refine (HQ.out.call (listInit_does (A + 2))).mono ?_
  rintro e w2 ⟨x2, rfl, h2⟩
  have H2 := hid h2
  clear HQ h2
  go_wp2_with fail
  refine (H2.out.call (store_does (A + 6) k)).mono ?_
  rintro e w3 ⟨x3, rfl, h3⟩
  have H3 := hid h3
  clear H2 h3
  go_wp2_with fail
  refine (H3.out.call (store_does (A + 7) k)).mono ?_
  rintro e w4 ⟨x4, rfl, h4⟩
  have H4 := hid h4
  have e6 := HKC.out w4 h4.bag
  clear H3 h4
  go_wp2_with fail
  refine (H4.out.tail (qAdd_does 8 A k)).mono ?_
  rintro e w5 ⟨x5, rfl, h5⟩
  have H5 := hid h5
  clear H4 h5
  go_wp2_with fail
  go_end0
  exact ⟨_, rfl, H5.out.drop⟩

set_option maxRecDepth 100000 in
set_option maxHeartbeats 1000000 in
theorem bootCrs {Q : Nat → Prop} {C : Bag} {w w1 : World} {F lb p q : Nat} {R : Unit × FrSt × List Int} (n m : Nat) (ta oa za zb : Option Addr) (zc zd : Nat) (pt : Pt) (hn : pt.ths.length = n) (hm : pt.obs.length = m) (hn20 : n ≤ 20)
    (h : At w F lb p q (fun _ => False) ((plBag (planCs n m ta oa (.slice za n zc) (.slice zb m zd)) pt Q).and C) (coresT (thAts n m) [3, 5]) R w1) :
    Calls Try.prog 31 #[ptrV F, .agg (planCs n m ta oa (.slice za n zc) (.slice zb m zd))] w1 fun e w' => ∃ x, e = .returned (.tuple #[]) ∧ At w F lb p q (fun _ => False) ((plBag (planCs n m ta oa (.slice za n zc) (.slice zb m zd)) pt Q).and C) (Tree.ret x : Tree Unit 0) R w' := by
  have HW := hid (h.alloc (plO (planCs n m ta oa (.slice za n zc) (.slice zb m zd))))
  have hV : ∃ V y, V = w1.alloc (plO (planCs n m ta oa (.slice za n zc) (.slice zb m zd))) ∧ y = w1.heap.size := ⟨_, _, rfl, rfl⟩
  obtain ⟨V, y, hVe, hye⟩ := hV
  obtain ⟨BG, hBG⟩ : ∃ B, ((plBag (planCs n m ta oa (.slice za n zc) (.slice zb m zd)) pt Q).and C).and (Bag.one y (plO (planCs n m ta oa (.slice za n zc) (.slice zb m zd)))) = B := ⟨_, rfl⟩
  have H : Hid (At w F lb p q (fun _ => False) BG (coresT (thAts n m) [3, 5]) R V) := by rw [← hBG, hVe, hye]; exact HW.out
  have hkeep : Hid (∀ wx, BG.P wx → SlOf (fun _ => True) 1 intE wx (.slice ta n n) (thAts n m) ∧ wx.cell? ⟨y, 3, none⟩ = some (.int .i64 3) ∧ wx.cell? ⟨y, 4, none⟩ = some (.int .i64 5) ∧ wx.cell? ⟨y, 6, none⟩ = some (.int .i64 8) ∧ wx.cell? ⟨y, 9, none⟩ = some (.slice ta n n)) := by
    intro wx hA
    rw [← hBG] at hA
    obtain ⟨⟨⟨⟨ta', oa', u0, u1, hcs, hP, hS, _⟩, _⟩, _⟩, hy⟩ := hA
    rw [hn, hm] at hcs
    injection hcs with hcs
    simp only [List.cons.injEq] at hcs
    obtain ⟨-, -, -, -, -, -, -, -, -, e9, -, -, -, -⟩ := hcs
    injection e9 with e9 _ _
    subst e9
    rw [hn, hm] at hS
    exact ⟨hS.mono (fun _ _ => trivial) (fun _ _ _ h => h), cell_of_block hy 3, cell_of_block hy 4, cell_of_block hy 6, cell_of_block hy 9⟩
  have HDROP : Hid (∀ wx (x : Unit), At w F lb p q (fun _ => False) BG (Tree.ret x : Tree Unit 0) R wx → At w F lb p q (fun _ => False) ((plBag (planCs n m ta oa (.slice za n zc) (.slice zb m zd)) pt Q).and C) (Tree.ret x : Tree Unit 0) R wx) := by
    intro wx x hx
    rw [← hBG] at hx
    exact hx.drop
  have HIX : Hid (∀ wx x, BG.P wx → Calls Try.prog 51 #[.slice ta n n, .int .i64 x] wx fun e w' => e = .returned (.int .i64 (idxL (thAts n m) x)) ∧ w' = wx) := fun wx x hb => index12 wx _ _ x (hkeep.out wx hb).1
  have HB : Hid (∀ x, -1 ≤ idxL (thAts n m) x ∧ idxL (thAts n m) x ≤ 20) := fun x => by have h9 := idxL_le (thAts n m) x; rw [show (thAts n m).length = n from length_stepsL _ _ _] at h9; omega
  obtain ⟨L, hL⟩ : ∃ L, thAts n m = L := ⟨_, rfl⟩
  rw [hL] at H HIX HB
  have e6 := (hkeep.out _ H.out.bag).2.2.2.1
  clear h HW hL hBG
  have hi0 : ∀ w, (Instr.index 28 (.agg #[.int .i64 3, .int .i64 5]) (.int .i64 0)).run Try.prog w = .ok (.int .i64 3) w := fun _ => by kernel_rfl
  have hi1 : ∀ w, (Instr.index 28 (.agg #[.int .i64 3, .int .i64 5]) (.int .i64 1)).run Try.prog w = .ok (.int .i64 5) w := fun _ => by kernel_rfl
  go_enter Try.func31, Try.ntmps31
  go_upto_region 1 with fail
  rw [← hye, ← hVe]
  clear hVe hye
  go_wp2_with fail
  refine (H.out.call (qFirst_does 8)).mono ?_
  rintro e w2 ⟨x2, rfl, h2⟩
  have H2 := hid h2
  obtain ⟨_, e3, e4, _, _⟩ := hkeep.out _ h2.bag
  clear H h2 e6
  obtain ⟨xn, xp, xf⟩ := x2
  go_wp2_with fail
  go_loopw [4, 5, 6, 19] (fun v4 v5 v6 i wx => ∃ (yn yp : Int) (yf : Bool), v4 = .int .i64 yn ∧ v5 = .int .i64 yp ∧ v6 = .bool yf ∧ ((i = .int .i64 0 ∧ At w F lb p q (fun _ => False) BG (coreT L [3, 5] (yn, yp, yf)) R wx) ∨ (i = .int .i64 1 ∧ At w F lb p q (fun _ => False) BG (coreT L [5] (yn, yp, yf)) R wx) ∨ (i = .int .i64 2 ∧ At w F lb p q (fun _ => False) BG (coreT L [] (yn, yp, yf)) R wx))) (fun _ _ _ i _ => 2 - (intOf i).toNat)
  case atStart => exact ⟨xn, xp, xf, rfl, rfl, rfl, .inl ⟨rfl, H2.out⟩⟩
  case round =>
  clear H2 e3 e4
  obtain ⟨yn, yp, yf, rfl, rfl, rfl, ⟨rfl, hat⟩ | ⟨rfl, hat⟩ | ⟨rfl, hat⟩⟩ := hrel
  · have HA := hid hat
    obtain ⟨_, _, _, e6, e9⟩ := hkeep.out _ hat.bag
    have HX := hid (HIX.out wr yn hat.bag)
    clear hat
    cases yf
    · have HN := hid (HA.out.neg (show ¬ (false = true) by decide))
      clear HA HX
      go_wp2_with fail
      (try simp only [Exit.inBlock, Exit.then])
      refine bodyPost_ret (results_none rfl _ _ _) rfl ?_
      exact ⟨_, rfl, HDROP.out _ _ HN.out.fin⟩
    · have HP := hid (HA.out.pos (show true = true from rfl))
      have hbd := HB.out yn
      obtain ⟨r, hr⟩ : ∃ r, idxL L yn = r := ⟨_, rfl⟩
      have HR := hid hr
      rw [hr] at hbd
      clear HA hr
      go_wp2_with fail
      refine HX.out.mono ?_
      rintro e w3 ⟨rfl, rfl⟩
      rw [HR.out]
      have HP2 : Hid (At w F lb p q (fun _ => False) BG ((storeT 3 (r + 1)).bind fun _ => (qAfterT 8 yn yp).bind fun y => coreT L [5] y) R w3) := by rw [← HR.out]; exact HP.out
      clear HX HP
      go_wp2_with fail
      refine (HP2.out.call (store_does 3 (r + 1))).mono ?_
      rintro e w4 ⟨x4, rfl, h4⟩
      have H4 := hid h4
      have e7 := (hkeep.out _ h4.bag).2.2.2.1
      clear HP2 h4 e6 e9
      go_wp2_with fail
      refine (H4.out.call (qAfter_does 8 yn yp)).mono ?_
      rintro e w5 ⟨⟨zn, zp, zf⟩, rfl, h5⟩
      have H5 := hid h5
      clear H4 h5 e7
      go_wp2_with fail
      go_roundw
      case rel => exact ⟨zn, zp, zf, rfl, rfl, rfl, .inr (.inl ⟨rfl, H5.out⟩)⟩
      case measure => simp [intOf]
  · have HA := hid hat
    obtain ⟨_, _, _, e6, e9⟩ := hkeep.out _ hat.bag
    have HX := hid (HIX.out wr yn hat.bag)
    clear hat
    cases yf
    · have HN := hid (HA.out.neg (show ¬ (false = true) by decide))
      clear HA HX
      go_wp2_with fail
      (try simp only [Exit.inBlock, Exit.then])
      refine bodyPost_ret (results_none rfl _ _ _) rfl ?_
      exact ⟨_, rfl, HDROP.out _ _ HN.out.fin⟩
    · have HP := hid (HA.out.pos (show true = true from rfl))
      have hbd := HB.out yn
      obtain ⟨r, hr⟩ : ∃ r, idxL L yn = r := ⟨_, rfl⟩
      have HR := hid hr
      rw [hr] at hbd
      clear HA hr
      go_wp2_with fail
      refine HX.out.mono ?_
      rintro e w3 ⟨rfl, rfl⟩
      rw [HR.out]
      have HP2 : Hid (At w F lb p q (fun _ => False) BG ((storeT 5 (r + 1)).bind fun _ => (qAfterT 8 yn yp).bind fun y => coreT L [] y) R w3) := by rw [← HR.out]; exact HP.out
      clear HX HP
      go_wp2_with fail
      refine (HP2.out.call (store_does 5 (r + 1))).mono ?_
      rintro e w4 ⟨x4, rfl, h4⟩
      have H4 := hid h4
      have e7 := (hkeep.out _ h4.bag).2.2.2.1
      clear HP2 h4 e6 e9
      go_wp2_with fail
      refine (H4.out.call (qAfter_does 8 yn yp)).mono ?_
      rintro e w5 ⟨⟨zn, zp, zf⟩, rfl, h5⟩
      have H5 := hid h5
      clear H4 h5 e7
      go_wp2_with fail
      go_roundw
      case rel => exact ⟨zn, zp, zf, rfl, rfl, rfl, .inr (.inr ⟨rfl, H5.out⟩)⟩
      case measure => simp [intOf]
  · have HA := hid hat
    clear hat
    go_wp2_with fail
    go_end0
    exact ⟨_, rfl, HDROP.out _ _ HA.out.fin⟩
end Go.Proofs.Ytapmakdklpbjkaa

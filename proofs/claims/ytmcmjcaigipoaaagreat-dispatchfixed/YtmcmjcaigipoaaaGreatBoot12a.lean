/-
  Package plan: the bodies that Boot plays, as trees of accesses. Conditions: the plan is one that Of makes.
-/
import Derived.Test.YtmcmjcaigipoaaaGreatBodyOf
import Derived.Test.YtmcmjcaigipoaaaGreatOf12
import Derived.Test.YtmcmjcaigipoaaaGreatQueue6a
import Derived.Test.YtmcmjcaigipoaaaGreatDelta7
import Derived.Test.YtmcmjcaigipoaaaGreatBlock9
import Derived.BigQuiet
namespace Go.Sept
open Go.RowKit
/-- Two bags. -/
def Bag.and (B C : Bag) : Bag := ⟨fun k => B.V k ∨ C.V k, fun w => B.P w ∧ C.P w, fun w k h hk => hk.elim (B.low w k h.1) (C.low w k h.2), fun S w w' h ho hv => ⟨B.keep S w w' h.1 ho (fun k hk => hv k (.inl hk)), C.keep S w w' h.2 ho (fun k hk => hv k (.inr hk))⟩⟩
/-- Where x stands in l; -1: nowhere. -/
def idxL (l : List Int) (x : Int) : Int := if x ∈ l then (l.idxOf x : Int) else -1
theorem idxL_le (l : List Int) (x : Int) : -1 ≤ idxL l x ∧ idxL l x ≤ l.length := by
  unfold idxL
  split
  · have := List.idxOf_le_length (a := x) (l := l)
    omega
  · omega
def objT (a k : Int) (s : Nat) : Tree Unit (s + 1 + 2 + 2) := (joinT a a).bind fun _ => (joinT (a + 2) (a + 2)).bind fun _ => if k = 4 then initsT (a + 4) s 0 else .ret ()
def thrT (a p : Int) : Tree Unit (7 + 1 + 1 + 2) := (joinT (a + 2) (a + 2)).bind fun _ => (storeT (a + 6) p).bind fun _ => (storeT (a + 7) p).bind fun _ => qAddT 8 a p
/-- Each of the words cs gets the number of a thread, and 1, one behind the other. -/
def coreT (L : List Int) : (cs : List Int) → Int × Int × Bool → Tree Unit (6 * cs.length)
  | [], _ => .ret ()
  | c :: r, x => if x.2.2 = true then (storeT c (idxL L x.1 + 1)).bind fun _ => (qAfterT 8 x.1 x.2.1).bind fun y => coreT L r y else .ret ()
def coresT (L cs : List Int) : Tree Unit (6 * cs.length + 3) := (belowT 8 16).bind fun x => coreT L cs x
end Go.Sept

namespace Go.Proofs.YtmcmjcaigipoaaaGreat
open Go.RowKit Go.Sept

section
variable {w w1 w2 : World} {F lb p q : Nat} {S : Nat → Prop} {B C : Bag} {β : Type} {m : Nat} {R : β × FrSt × List Int} {T : Tree β m}
/-- A new block beside the frame. -/
theorem At.alloc (h : At w F lb p q S B T R w1) (o : Obj) : At w F lb p q S (B.and (Bag.one w1.heap.size o)) T R (w1.alloc o) := by
  have ho : Only (fun _ => False) w1 (w1.alloc o) := (Only.refl _ _).alloc o
  refine h.turn (S2 := fun _ => False) ho (fun _ h => h.elim) (fun _ _ h => h.elim) ⟨B.keep _ _ _ h.bag ho (fun _ _ h => h), heap_new _ _⟩ (fun k hk => ?_)
  rcases hk with hk | hk
  · exact .inl hk
  · exact .inr (Nat.le_of_eq (show w1.heap.size = k from Eq.symm hk))
/-- Less beside the frame. -/
theorem At.drop (h : At w F lb p q S (B.and C) T R w1) : At w F lb p q S B T R w1 :=
  h.turn (S2 := fun _ => False) (Only.refl _ w1) (fun _ h => h.elim) (fun _ _ h => h.elim) h.bag.1 (fun _ hk => .inl (.inl hk))
end

/-- The lists of a plan, in blocks of Q. -/
def plBag (cs : Array Value) (p : Pt) (Q : Nat → Prop) : Bag where
  V := Q
  P := fun w => PlIs Q w cs p ∧ ∀ k, Q k → k < w.heap.size
  low := fun _ k h hk => h.2 k hk
  keep := fun _ _ _ h ho hv => ⟨h.1.only ho hv, fun k hk => Nat.lt_of_lt_of_le (h.2 k hk) ho.size⟩
/-- And its block. -/
abbrev plBagZ (z : Nat) (cs : Array Value) (p : Pt) (Q : Nat → Prop) : Bag := (Bag.one z (plO cs)).and (plBag cs p Q)

set_option maxHeartbeats 400000 in
theorem boot1 {w w1 : World} {F lb p q : Nat} {R : Unit × FrSt × List Int} {B : Bag} {z : Nat} (h : At w F lb p q (fun _ => False) B (qInitT 8 16) R w1) (hz : w1.cell? ⟨z, 6, none⟩ = some (.int .i64 8)) :
    Calls Tryz.prog 23 #[ptrV F, ptrV z] w1 fun e w' => ∃ x, e = .returned (.tuple #[]) ∧ At w F lb p q (fun _ => False) B (Tree.ret x : Tree Unit 0) R w' := by
  have H := hid h
  clear h
  go_enter Tryz.func23, Tryz.ntmps23
  go_wp2_with fail
  refine (H.out.tail (qInit_does 8)).mono ?_
  rintro e w2 ⟨x, rfl, h2⟩
  have H2 := hid h2
  clear H h2
  go_wp2_with fail
  go_end0
  exact ⟨_, rfl, H2.out⟩

set_option maxHeartbeats 400000 in
theorem boot2 {w w1 : World} {F lb p q : Nat} {R : Unit × FrSt × List Int} {B : Bag} {z : Nat} (h : At w F lb p q (fun _ => False) B (joinT 41 41) R w1) (hz : w1.cell? ⟨z, 7, none⟩ = some (.int .i64 41)) :
    Calls Tryz.prog 25 #[ptrV F, ptrV z] w1 fun e w' => ∃ x, e = .returned (.tuple #[]) ∧ At w F lb p q (fun _ => False) B (Tree.ret x : Tree Unit 0) R w' := by
  have H := hid h
  clear h
  go_enter Tryz.func25, Tryz.ntmps25
  go_wp2_with fail
  refine (H.out.tail (dInit_does 41)).mono ?_
  rintro e w2 ⟨x, rfl, h2⟩
  have H2 := hid h2
  clear H h2
  go_wp2_with fail
  go_end0
  exact ⟨_, rfl, H2.out⟩

set_option maxRecDepth 100000 in
set_option maxHeartbeats 1000000 in
theorem index12 {P : Nat → Prop} (w : World) (v : Value) (xs : List Int) (x : Int) (h : SlOf P 1 intE w v xs) :
    Calls Tryz.prog 67 #[v, .int .i64 x] w fun e w' => e = .returned (.int .i64 (idxL xs x)) ∧ w' = w := by
  obtain ⟨ao, cap, rfl, hm⟩ := h.shape
  obtain ⟨n, hn⟩ : ∃ n, xs.length = n := ⟨_, rfl⟩
  have HN := hid hn
  have HI := hid h
  rw [hn] at hm HI ⊢
  obtain ⟨r, hr⟩ : ∃ r, idxL xs x = r := ⟨_, rfl⟩
  have HR := hid hr
  rw [hr]
  clear h hn hr
  go_enter Tryz.func67, Tryz.ntmps67
  go_wp2_with fail
  go_loopw [8] (fun i wx => ∃ j : Nat, i = .int .i64 (j : Int) ∧ j ≤ n ∧ (∀ a y, a < j → xs[a]? = some y → y ≠ x) ∧ wx = w) (fun i _ => n - (intOf i).toNat)
  case atStart => exact ⟨0, rfl, Nat.zero_le _, (fun a y ha => absurd ha (Nat.not_lt_zero _)), rfl⟩
  case round =>
  obtain ⟨j, rfl, hj, hall, rfl⟩ := hrel
  have HA := hid hall
  clear hall
  by_cases hlt : (j : Int) < (n : Int)
  · obtain ⟨b, off, rfl, _, y, hy, hc⟩ := HI.out.get j (by rw [HN.out]; omega)
    have e0 : wr.cell? ⟨b, off + j * 1, none⟩ = some (.int .i64 y) := hc.1
    rw [Nat.mul_one] at e0
    have HY := hid hy
    clear hc hy
    by_cases hxy : x = y
    · have hb : (x == y) = true := beq_iff_eq.2 hxy
      have HE : Hid (r = (j : Int)) := by
        show _ = _
        have hmem : x ∈ xs := hxy ▸ List.mem_of_getElem? HY.out
        rw [← HR.out, idxL, if_pos hmem]
        have hlt' : j < xs.length := by rw [HN.out]; omega
        have e1 : xs[j] = x := by have h9 := HY.out; rw [List.getElem?_eq_getElem hlt'] at h9; injection h9 with h9; exact h9.trans hxy.symm
        congr 1
        rcases Nat.lt_trichotomy (xs.idxOf x) j with h1 | h1 | h1
        · exact absurd (List.getElem_idxOf (List.idxOf_lt_length_iff.2 hmem)) (HA.out _ _ h1 (List.getElem?_eq_getElem (List.idxOf_lt_length_iff.2 hmem)))
        · exact h1
        · exact absurd e1 (by simpa using List.not_of_lt_findIdx (p := (· == x)) (xs := xs) (i := j) h1)
      clear hxy
      go_wp2_with fail
      go_ret
      exact ⟨by rw [HE.out]; rfl, rfl⟩
    · have hb : (x == y) = false := beq_eq_false_iff_ne.2 hxy
      have HNE := hid hxy
      clear hxy
      go_wp2_with fail
      go_roundw
      case rel =>
        refine ⟨j + 1, by go_num, by omega, ?_, trivial⟩
        intro a z ha hz
        by_cases ea : a = j
        · subst ea
          rw [HY.out] at hz
          injection hz with hz
          subst hz
          exact fun e => HNE.out e.symm
        · exact HA.out a z (by omega) hz
      case measure => simp [intOf]; omega
  · have HE : Hid (r = -1) := by
      show _ = _
      rw [← HR.out, idxL, if_neg (fun hc => by
        obtain ⟨i, hi, he⟩ := List.getElem_of_mem hc
        exact absurd he (HA.out i _ (by rw [HN.out] at hi; omega) (List.getElem?_eq_getElem hi)))]
    go_wp2_with fail
    go_ret
    exact ⟨by rw [HE.out]; rfl, rfl⟩

set_option maxRecDepth 100000 in
set_option maxHeartbeats 1000000 in
theorem bootObj {Q : Nat → Prop} {C : Bag} {w w1 : World} {F lb p q : Nat} {R : Unit × FrSt × List Int} (n m : Nat) (ta oa za zb : Option Addr) (zc zd : Nat) (pt : Pt) (hn : pt.ths.length = n) (hm : pt.obs.length = m) (hn20 : n ≤ 20) (hm20 : m ≤ 20) (o : Nat) (x : Ob) (hx : pt.obs[o]? = some x) (hok : obOk x = true)
    (h : At w F lb p q (fun _ => False) ((plBag (planCs n m ta oa (.slice za n zc) (.slice zb m zd)) pt Q).and C) (objT (43 + (m : Int) + (n : Int) * 24 + (o : Int) * 24) x.kind x.size.toNat) R w1) :
    Calls Tryz.prog 28 #[ptrV F, .agg (planCs n m ta oa (.slice za n zc) (.slice zb m zd)), .int .i64 (o : Int)] w1 fun e w' => ∃ x, e = .returned (.tuple #[]) ∧ At w F lb p q (fun _ => False) ((plBag (planCs n m ta oa (.slice za n zc) (.slice zb m zd)) pt Q).and C) (Tree.ret x : Tree Unit 0) R w' := by
  have ho : o < m := by have := (List.getElem?_eq_some_iff.1 hx).1; omega
  obtain ⟨k, s, b⟩ := x
  have HW := hid (h.alloc (plO (planCs n m ta oa (.slice za n zc) (.slice zb m zd))))
  have hV : ∃ V y, V = w1.alloc (plO (planCs n m ta oa (.slice za n zc) (.slice zb m zd))) ∧ y = w1.heap.size := ⟨_, _, rfl, rfl⟩
  obtain ⟨V, y, hVe, hye⟩ := hV
  have H : Hid (At w F lb p q (fun _ => False) (((plBag (planCs n m ta oa (.slice za n zc) (.slice zb m zd)) pt Q).and C).and (Bag.one y (plO (planCs n m ta oa (.slice za n zc) (.slice zb m zd))))) (objT (43 + (m : Int) + (n : Int) * 24 + (o : Int) * 24) k s.toNat) R V) := by rw [hVe, hye]; exact HW.out
  have hkeep : ∀ wx, (((plBag (planCs n m ta oa (.slice za n zc) (.slice zb m zd)) pt Q).and C).and (Bag.one y (plO (planCs n m ta oa (.slice za n zc) (.slice zb m zd))))).P wx →
      (∃ b1 o1, oa = some ⟨b1, o1, none⟩ ∧ wx.cell? ⟨b1, o1 + o, none⟩ = some (.int .i64 (43 + (m : Int) + (n : Int) * 24 + (o : Int) * 24))) ∧ (∃ b2 o2, zb = some ⟨b2, o2, none⟩ ∧ wx.cell? ⟨b2, o2 + o * 3, none⟩ = some (.int .i64 k) ∧ wx.cell? ⟨b2, o2 + o * 3 + 1, none⟩ = some (.int .i64 s)) ∧ wx.cell? ⟨y, 10, none⟩ = some (.slice oa m m) ∧ wx.cell? ⟨y, 13, none⟩ = some (.slice zb m zd) := by
    intro wx hA
    obtain ⟨⟨⟨⟨ta', oa', u0, u1, hcs, hP, _, hS⟩, _⟩, _⟩, hy⟩ := hA
    rw [hn, hm] at hcs
    injection hcs with hcs
    simp only [List.cons.injEq] at hcs
    obtain ⟨-, -, -, -, -, -, -, -, -, -, e10, -, -, e13, -⟩ := hcs
    injection e10 with e10 _ _
    subst e10
    subst e13
    rw [hn, hm] at hS
    refine ⟨?_, ?_, cell_of_block hy 10, cell_of_block hy 13⟩
    · obtain ⟨b1, o1, h1, _, z, hz, hc⟩ := hS.get o (by rw [show (obAts n m).length = m from length_stepsL _ _ _]; exact ho)
      have e9 := stepsL_at (43 + (m : Int) + (n : Int) * 24) 24 m o ho
      rw [show (obAts n m)[o]? = _ from e9] at hz
      injection hz with hz
      subst hz
      exact ⟨b1, o1, h1, by have h9 := hc.1; rwa [Nat.mul_one] at h9⟩
    · obtain ⟨b2, o2, h1, _, z, hz, hc1, hc2, _⟩ := (hm ▸ hP.2).get o (by rw [hm]; exact ho)
      rw [hx] at hz
      injection hz with hz
      subst hz
      exact ⟨b2, o2, h1, hc1.1, hc2.1⟩
  have hob : ((k = 4) → ∃ z : Nat, s = (z : Int) ∧ 1 ≤ z ∧ z ≤ 16) := by
    intro e
    have h9 := of_decide_eq_true hok
    simp only at h9
    exact ⟨s.toNat, by omega, by omega, by omega⟩
  obtain ⟨⟨b1, o1, e1, e2⟩, ⟨b2, o2, e3, _⟩, e4, _⟩ := hkeep _ H.out.bag
  have HK := hid hkeep
  subst e1
  subst e3
  obtain ⟨A, hA⟩ : ∃ A, 43 + (m : Int) + (n : Int) * 24 + (o : Int) * 24 = A := ⟨_, rfl⟩
  have HAb : 0 ≤ A ∧ A ≤ 2000 := by omega
  have HKC : Hid (∀ wx, (((plBag (planCs n m ta (some ⟨b1, o1, none⟩) (.slice za n zc) (.slice (some ⟨b2, o2, none⟩) m zd)) pt Q).and C).and (Bag.one y (plO (planCs n m ta (some ⟨b1, o1, none⟩) (.slice za n zc) (.slice (some ⟨b2, o2, none⟩) m zd))))).P wx → wx.cell? ⟨b2, o2 + o * 3, none⟩ = some (.int .i64 k) ∧ wx.cell? ⟨b2, o2 + o * 3 + 1, none⟩ = some (.int .i64 s) ∧ wx.cell? ⟨y, 13, none⟩ = some (.slice (some ⟨b2, o2, none⟩) m zd)) := fun wx hb => by
    obtain ⟨_, ⟨b3, o3, q1, q2, q3⟩, _, q4⟩ := HK.out wx hb
    injection q1 with q1
    injection q1 with q5 q6 _
    subst q5 q6
    exact ⟨q2, q3, q4⟩
  rw [hA] at e2 H
  have HOB := hid hob
  obtain ⟨sz, hsz⟩ : ∃ z, s.toNat = z := ⟨_, rfl⟩
  rw [hsz] at H
  have HSZ := hid hsz
  clear hkeep h HW hok hob hx hA HK hsz
  go_enter Tryz.func28, Tryz.ntmps28
  go_upto_region 1 with fail
  rw [← hye, ← hVe]
  clear hVe hye
  go_wp2_with fail
  refine (H.out.call (listInit_does A)).mono ?_
  rintro e w2 ⟨x2, rfl, h2⟩
  have H2 := hid h2
  clear H h2 e2 e4
  go_wp2_with fail
  refine (H2.out.call (listInit_does (A + 2))).mono ?_
  rintro e w3 ⟨x3, rfl, h3⟩
  have H3 := hid h3
  obtain ⟨e1, e2, e3⟩ := HKC.out w3 h3.bag
  clear H2 h3
  by_cases hk : k = 4
  · subst hk
    obtain ⟨z, hz, hz1, hz2⟩ := HOB.out rfl
    subst hz
    have hz3 : sz = z := by rw [← HSZ.out]; rfl
    subst hz3
    have H4 := hid (H3.out.pos rfl)
    clear H3
    go_wp2_with fail
    refine (H4.out.tail (init_does (A + 4) sz hz1 hz2)).mono ?_
    rintro e w4 ⟨x4, rfl, h4⟩
    have H5 := hid h4
    clear H4 h4
    go_wp2_with fail
    go_end0
    exact ⟨_, rfl, H5.out.drop⟩
  · have H4 := hid (H3.out.neg hk)
    clear H3
    go_wp2_with fail
    go_end0
    exact ⟨_, rfl, H4.out.fin.drop⟩
end Go.Proofs.YtmcmjcaigipoaaaGreat

/-
  Package thread: place, fieldAt, owner, Node, Timer, Of, OfTimer. Conditions: the plan is one that Of makes.
-/
import Derived.Test.YtmcmjcaigipoaaaGreatBoot12a
namespace Go.Sept
open Go.RowKit
/-- Where a thread's word stands; -1: there is no such thread. -/
def tplaceV (n m : Nat) (t off : Int) : Int := if 0 ≤ t ∧ t < n then 43 + (m : Int) + t * 24 + off else -1
/-- Where a thread's field stands; -1: there is no such thread or field. -/
def fieldV (n m : Nat) (t f : Int) : Int := if 0 ≤ f ∧ f < 19 then tplaceV n m t (5 + f) else -1
/-- Whose word it is. -/
def ownerV (n m : Nat) (a off : Int) : Int × Bool :=
  if 0 ≤ a - (43 + (m : Int) + off) ∧ (a - (43 + (m : Int) + off)) % 24 = 0 ∧ (a - (43 + (m : Int) + off)) / 24 < n then ((a - (43 + (m : Int) + off)) / 24, true) else (0, false)
theorem owner_at {n m : Nat} {t off : Int} (h0 : 0 ≤ t) (h1 : t < n) : ownerV n m (43 + (m : Int) + t * 24 + off) off = (t, true) := by
  have e : 43 + (m : Int) + t * 24 + off - (43 + (m : Int) + off) = t * 24 := by omega
  unfold ownerV
  rw [e, if_pos ⟨by omega, by omega, by omega⟩, show t * 24 / 24 = t by omega]
theorem owner_none {n m : Nat} {a off : Int} (h : ∀ t : Nat, t < n → 43 + (m : Int) + (t : Int) * 24 + off ≠ a) : ownerV n m a off = (0, false) := by
  unfold ownerV
  rw [if_neg]
  rintro ⟨h1, h2, h3⟩
  obtain ⟨t, ht⟩ : ∃ t : Nat, (a - (43 + (m : Int) + off)) / 24 = (t : Int) := ⟨((a - (43 + (m : Int) + off)) / 24).toNat, by omega⟩
  exact h t (by omega) (by omega)
theorem owner_yes {n m : Nat} {a off : Int} {t : Int} (h : ownerV n m a off = (t, true)) : 0 ≤ t ∧ t < n ∧ a = 43 + (m : Int) + t * 24 + off := by
  unfold ownerV at h
  split at h
  · rename_i hc
    injection h with h1 _
    omega
  · injection h with _ h2
    cases h2
theorem owner_two (n m : Nat) (a off : Int) : (∃ t, ownerV n m a off = (t, true)) ∨ ownerV n m a off = (0, false) := by
  unfold ownerV
  split
  · exact .inl ⟨_, rfl⟩
  · exact .inr rfl
end Go.Sept

namespace Go.Proofs.YtmcmjcaigipoaaaGreat
open Go.RowKit Go.Sept

theorem At.still {w w1 w2 : World} {F lb p q : Nat} {S : Nat → Prop} {B : Bag} {β : Type} {m : Nat} {R : β × FrSt × List Int} {T : Tree β m} (h : At w F lb p q S B T R w1) (ho : Only (fun _ => False) w1 w2) : At w F lb p q S B T R w2 :=
  h.turn (S2 := fun _ => False) ho (fun _ h => h.elim) (fun _ _ h => h.elim) (B.keep _ _ _ h.bag ho (fun _ _ h => h)) (fun _ h => .inl h)

/-- A plan's cells, in a block. -/
theorem plan_cells {w : World} {y n m : Nat} {ta oa : Option Addr} {u v : Value} (h : w.heap[y]? = some (plO (planCs n m ta oa u v))) :
    w.cell? ⟨y, 0, none⟩ = some (.int .i64 0) ∧ w.cell? ⟨y, 1, none⟩ = some (.int .i64 2) ∧ w.cell? ⟨y, 2, none⟩ = some (.int .i64 4) ∧ w.cell? ⟨y, 3, none⟩ = some (.int .i64 3) ∧ w.cell? ⟨y, 4, none⟩ = some (.int .i64 5) ∧ w.cell? ⟨y, 5, none⟩ = some (.int .i64 6) ∧
    w.cell? ⟨y, 6, none⟩ = some (.int .i64 8) ∧ w.cell? ⟨y, 7, none⟩ = some (.int .i64 41) ∧ w.cell? ⟨y, 8, none⟩ = some (.int .i64 43) ∧ w.cell? ⟨y, 9, none⟩ = some (.slice ta n n) ∧ w.cell? ⟨y, 10, none⟩ = some (.slice oa m m) ∧ w.cell? ⟨y, 11, none⟩ = some (.int .i64 (43 + (m : Int) + (n : Int) * 24 + (m : Int) * 24)) ∧ w.cell? ⟨y, 12, none⟩ = some u ∧ w.cell? ⟨y, 13, none⟩ = some v :=
  ⟨cell_of_block h 0, cell_of_block h 1, cell_of_block h 2, cell_of_block h 3, cell_of_block h 4, cell_of_block h 5, cell_of_block h 6, cell_of_block h 7, cell_of_block h 8, cell_of_block h 9, cell_of_block h 10, cell_of_block h 11, cell_of_block h 12, cell_of_block h 13⟩

/-- A plan of n threads and m objects, whose threads' addresses lie in blocks of Q. -/
def ThIs (Q : Nat → Prop) (w : World) (cs : Array Value) (n m : Nat) : Prop :=
  n ≤ 6 ∧ m ≤ 8 ∧ ∃ ta oa za zb zc zd, cs = planCs n m ta oa (.slice za n zc) (.slice zb m zd) ∧ SlOf Q 1 intE w (.slice ta n n) (thAts n m)
theorem ThIs.only {Q S : Nat → Prop} {w w' : World} {cs : Array Value} {n m : Nat} (h : ThIs Q w cs n m) (ho : Only S w w') (hS : ∀ k, Q k → ¬ S k) : ThIs Q w' cs n m := by
  obtain ⟨h1, h2, ta, oa, za, zb, zc, zd, e, h3⟩ := h
  exact ⟨h1, h2, ta, oa, za, zb, zc, zd, e, h3.only (stay_int ho hS)⟩
theorem ThIs.of {Q : Nat → Prop} {w : World} {cs : Array Value} {p : Pt} (h : PlIs Q w cs p) (hok : partW p = 0) : ThIs Q w cs p.ths.length p.obs.length := by
  have hL := h
  obtain ⟨ta, oa, xa, xc, ya, yc, rfl⟩ := h.shape
  obtain ⟨ta', oa', u0, u1, hcs, _, hS, _⟩ := hL
  injection hcs with hcs
  simp only [List.cons.injEq] at hcs
  obtain ⟨-, -, -, -, -, -, -, -, -, e9, -⟩ := hcs
  injection e9 with e9 _ _
  subst e9
  have hs : (1 ≤ p.ths.length ∧ p.ths.length ≤ 6) ∧ p.obs.length ≤ 8 := by
    unfold partW at hok
    by_cases h1 : p.ths.length < 1 ∨ 6 < p.ths.length
    · rw [if_pos h1] at hok; omega
    · rw [if_neg h1] at hok
      by_cases h2 : 8 < p.obs.length
      · rw [if_pos h2] at hok; omega
      · omega
  exact ⟨hs.1.2, hs.2, _, _, _, _, _, _, rfl, hS⟩
theorem ThIs.get {Q : Nat → Prop} {w : World} {n m : Nat} {ta oa : Option Addr} {u v : Value} (h : ThIs Q w (planCs n m ta oa u v) n m) (o : Nat) (ho : o < n) : ∃ b1 o1, ta = some ⟨b1, o1, none⟩ ∧ w.cell? ⟨b1, o1 + o, none⟩ = some (.int .i64 (43 + (m : Int) + (o : Int) * 24)) := by
  obtain ⟨_, _, ta', oa', za, zb, zc, zd, e, hS⟩ := h
  injection e with e
  simp only [List.cons.injEq] at e
  obtain ⟨-, -, -, -, -, -, -, -, -, e9, -⟩ := e
  injection e9 with e9 _ _
  subst e9
  obtain ⟨b1, o1, h1, _, z, hz, hc⟩ := hS.get o (by rw [show (thAts n m).length = n from length_stepsL _ _ _]; exact ho)
  have e9 := stepsL_at (43 + (m : Int)) 24 n o ho
  rw [show (thAts n m)[o]? = _ from e9] at hz
  injection hz with hz
  subst hz
  exact ⟨b1, o1, h1, by have h9 := hc.1; rwa [Nat.mul_one] at h9⟩

set_option maxRecDepth 100000 in
set_option maxHeartbeats 1000000 in
theorem place_rel {Q : Nat → Prop} (w : World) (cs : Array Value) (n m : Nat) (h : ThIs Q w cs n m) (t off : Int) (ho0 : 0 ≤ off) (ho1 : off ≤ 24) :
    Calls Tryz.prog 109 #[.agg cs, .int .i64 t, .int .i64 off] w fun e w' => e = .returned (.int .i64 (tplaceV n m t off)) ∧ Only (fun _ => False) w w' := by
  have hT := h
  obtain ⟨hn, hm, ta, oa, za, zb, zc, zd, rfl, _⟩ := h
  have hW : ∃ W y, W = w.alloc (plO (planCs n m ta oa (.slice za n zc) (.slice zb m zd))) ∧ y = w.heap.size ∧ Only (fun _ => False) w W ∧ W.heap[y]? = some (plO (planCs n m ta oa (.slice za n zc) (.slice zb m zd))) := ⟨_, _, rfl, rfl, (Only.refl _ _).alloc _, heap_new _ _⟩
  obtain ⟨W, y, hWe, hye, hoW, hby⟩ := hW
  have HT := hid (hT.only hoW (fun _ _ h => h))
  have HO := hid hoW
  have c9 : W.cell? ⟨y, 9, none⟩ = some (.slice ta n n) := cell_of_block hby 9
  obtain ⟨V, hV⟩ : ∃ V, tplaceV n m t off = V := ⟨_, rfl⟩
  have HV := hid hV
  rw [hV]
  clear hT hoW hby hV
  go_enter Tryz.func109, Tryz.ntmps109
  go_upto_region 1 with fail
  rw [← hWe, ← hye]
  clear hWe hye
  by_cases h0 : t < 0
  · have hv : V = -1 := by rw [← HV.out, tplaceV, if_neg (by omega)]
    go_wp2_with fail
    go_ret
    exact ⟨by first | rfl | (rw [hv]; rfl), HO.out⟩
  · by_cases h1 : (n : Int) ≤ t
    · have hv : V = -1 := by rw [← HV.out, tplaceV, if_neg (by omega)]
      go_wp2_with fail
      go_ret
      exact ⟨by first | rfl | (rw [hv]; rfl), HO.out⟩
    · obtain ⟨o, rfl⟩ : ∃ o : Nat, t = (o : Int) := ⟨t.toNat, by omega⟩
      have hon : o < n := by omega
      have hv : V = 43 + (m : Int) + (o : Int) * 24 + off := by rw [← HV.out, tplaceV, if_pos (by omega)]
      obtain ⟨b1, o1, rfl, e2⟩ := HT.out.get o hon
      go_wp2_with fail
      go_ret
      exact ⟨by first | rfl | (rw [hv]; rfl), HO.out⟩

set_option maxRecDepth 100000 in
set_option maxHeartbeats 1000000 in
theorem fieldAt_rel {Q : Nat → Prop} (w : World) (cs : Array Value) (n m : Nat) (h : ThIs Q w cs n m) (t f : Int) :
    Calls Tryz.prog 80 #[.agg cs, .int .i64 t, .int .i64 f] w fun e w' => e = .returned (.int .i64 (fieldV n m t f)) ∧ Only (fun _ => False) w w' := by
  have hT := h
  obtain ⟨hn, hm, ta, oa, za, zb, zc, zd, rfl, _⟩ := h
  have hW : ∃ W y, W = w.alloc (plO (planCs n m ta oa (.slice za n zc) (.slice zb m zd))) ∧ y = w.heap.size ∧ Only (fun _ => False) w W ∧ W.heap[y]? = some (plO (planCs n m ta oa (.slice za n zc) (.slice zb m zd))) := ⟨_, _, rfl, rfl, (Only.refl _ _).alloc _, heap_new _ _⟩
  obtain ⟨W, y, hWe, hye, hoW, hby⟩ := hW
  have HT := hid (hT.only hoW (fun _ _ h => h))
  have HO := hid hoW
  have HPL : Hid (∀ off : Int, 0 ≤ off → off ≤ 24 → Calls Tryz.prog 109 #[.agg (planCs n m ta oa (.slice za n zc) (.slice zb m zd)), .int .i64 t, .int .i64 off] W fun e w' => e = .returned (.int .i64 (tplaceV n m t off)) ∧ Only (fun _ => False) W w') := fun off h0 h1 => place_rel W _ n m HT.out t off h0 h1
  obtain ⟨c0, c1, c2, c3, c4, c5, c6, c7, c8, c9, c10, c11, c12, c13⟩ := plan_cells hby
  obtain ⟨V, hV⟩ : ∃ V, fieldV n m t f = V := ⟨_, rfl⟩
  have HV := hid hV
  rw [hV]
  clear hT hoW hby hV
  go_enter Tryz.func80, Tryz.ntmps80
  go_upto_region 1 with fail
  rw [← hWe, ← hye]
  clear hWe hye
  by_cases h0 : f < 0
  · have hv : V = -1 := by rw [← HV.out, fieldV, if_neg (by omega)]
    go_wp2_with fail
    go_ret
    exact ⟨by first | rfl | (rw [hv]; rfl), HO.out⟩
  · by_cases h1 : 19 ≤ f
    · have hv : V = -1 := by rw [← HV.out, fieldV, if_neg (by omega)]
      go_wp2_with fail
      go_ret
      exact ⟨by first | rfl | (rw [hv]; rfl), HO.out⟩
    · have HVV : Hid (V = tplaceV n m t (5 + f)) := by show _ = _; rw [← HV.out, fieldV, if_pos (by omega)]
      go_wp2_with fail
      refine (HPL.out (5 + f) (by omega) (by omega)).mono ?_
      rintro e w2 ⟨rfl, ho2⟩
      have HO2 := hid (HO.out.chain ho2 (fun _ _ h => h))
      clear ho2
      go_wp2_with fail
      go_ret
      exact ⟨by rw [HVV.out]; rfl, HO2.out⟩

set_option maxRecDepth 100000 in
set_option maxHeartbeats 1000000 in
theorem tNode_rel {Q : Nat → Prop} (w : World) (cs : Array Value) (n m : Nat) (h : ThIs Q w cs n m) (t : Int) :
    Calls Tryz.prog 75 #[.agg cs, .int .i64 t] w fun e w' => e = .returned (.int .i64 (tplaceV n m t 0)) ∧ Only (fun _ => False) w w' := by
  have hT := h
  obtain ⟨hn, hm, ta, oa, za, zb, zc, zd, rfl, _⟩ := h
  have hW : ∃ W y, W = w.alloc (plO (planCs n m ta oa (.slice za n zc) (.slice zb m zd))) ∧ y = w.heap.size ∧ Only (fun _ => False) w W ∧ W.heap[y]? = some (plO (planCs n m ta oa (.slice za n zc) (.slice zb m zd))) := ⟨_, _, rfl, rfl, (Only.refl _ _).alloc _, heap_new _ _⟩
  obtain ⟨W, y, hWe, hye, hoW, hby⟩ := hW
  have HO := hid hoW
  have HPL : Hid (Calls Tryz.prog 109 #[.agg (planCs n m ta oa (.slice za n zc) (.slice zb m zd)), .int .i64 t, .int .i64 0] W fun e w' => e = .returned (.int .i64 (tplaceV n m t 0)) ∧ Only (fun _ => False) W w') := place_rel W _ n m (hT.only hoW (fun _ _ h => h)) t 0 (by decide) (by decide)
  obtain ⟨c0, c1, c2, c3, c4, c5, c6, c7, c8, c9, c10, c11, c12, c13⟩ := plan_cells hby
  clear hT hoW hby
  go_enter Tryz.func75, Tryz.ntmps75
  go_upto_region 1 with fail
  rw [← hWe, ← hye]
  clear hWe hye
  go_wp2_with fail
  refine HPL.out.mono ?_
  rintro e w2 ⟨rfl, ho2⟩
  have HO2 := hid (HO.out.chain ho2 (fun _ _ h => h))
  clear ho2
  go_wp2_with fail
  go_ret
  exact ⟨rfl, HO2.out⟩

set_option maxRecDepth 100000 in
set_option maxHeartbeats 1000000 in
theorem owner_rel {Q : Nat → Prop} (w : World) (cs : Array Value) (n m : Nat) (h : ThIs Q w cs n m) (a off : Int) (ho0 : 0 ≤ off) (ho1 : off ≤ 24) :
    Calls Tryz.prog 139 #[.agg cs, .int .i64 a, .int .i64 off] w fun e w' => e = .returned (.tuple #[.int .i64 (ownerV n m a off).1, .bool (ownerV n m a off).2]) ∧ Only (fun _ => False) w w' := by
  have hT := h
  obtain ⟨hn, hm, ta, oa, za, zb, zc, zd, rfl, _⟩ := h
  have hW : ∃ W y, W = w.alloc (plO (planCs n m ta oa (.slice za n zc) (.slice zb m zd))) ∧ y = w.heap.size ∧ Only (fun _ => False) w W ∧ W.heap[y]? = some (plO (planCs n m ta oa (.slice za n zc) (.slice zb m zd))) := ⟨_, _, rfl, rfl, (Only.refl _ _).alloc _, heap_new _ _⟩
  obtain ⟨W, y, hWe, hye, hoW, hby⟩ := hW
  have HT := hid (hT.only hoW (fun _ _ h => h))
  have HO := hid hoW
  have HBY := hid hby
  have HPL : Hid (∀ wx (t : Int), Only (fun _ => False) W wx → Calls Tryz.prog 109 #[.agg (planCs n m ta oa (.slice za n zc) (.slice zb m zd)), .int .i64 t, .int .i64 off] wx fun e w' => e = .returned (.int .i64 (tplaceV n m t off)) ∧ Only (fun _ => False) wx w') := fun wx t hx => place_rel wx _ n m (HT.out.only hx (fun _ _ h => h)) t off ho0 ho1
  have c9 : W.cell? ⟨y, 9, none⟩ = some (.slice ta n n) := cell_of_block hby 9
  obtain ⟨V, hV⟩ : ∃ V, ownerV n m a off = V := ⟨_, rfl⟩
  have HV := hid hV
  rw [hV]
  clear hT hoW hby hV
  go_enter Tryz.func139, Tryz.ntmps139
  go_upto_region 1 with fail
  rw [← hWe, ← hye]
  clear hWe hye
  by_cases h0 : a < 0
  · have HVV : Hid (V = (0, false)) := by show _ = _; rw [← HV.out]; exact owner_none (fun t ht => by omega)
    go_wp2_with fail
    go_ret2
    exact ⟨by rw [HVV.out]; rfl, HO.out⟩
  · go_wp2_with fail
    clear c9
    go_loopw [14] (fun i wx => ∃ j : Nat, i = .int .i64 (j : Int) ∧ j ≤ n ∧ (∀ t : Nat, t < j → 43 + (m : Int) + (t : Int) * 24 + off ≠ a) ∧ Only (fun _ => False) W wx) (fun i _ => n - (intOf i).toNat)
    case atStart => exact ⟨0, rfl, Nat.zero_le _, (fun t ht => absurd ht (Nat.not_lt_zero _)), Only.refl _ _⟩
    case round =>
    obtain ⟨j, rfl, hj, hall, hox⟩ := hrel
    have HA := hid hall
    have HX := hid hox
    obtain ⟨c0, c1, c2, c3, c4, c5, c6, c7, c8, c9, c10, c11, c12, c13⟩ := plan_cells ((hox.block y (lt_of_block HBY.out) (fun h => h)).trans HBY.out)
    clear hall hox
    by_cases hlt : (j : Int) < (n : Int)
    · have HTV : Hid (tplaceV n m (j : Int) off = 43 + (m : Int) + (j : Int) * 24 + off) := by show _ = _; rw [tplaceV, if_pos (by omega)]
      go_wp2_with fail
      refine (HPL.out _ (j : Int) HX.out).mono ?_
      rintro e w2 ⟨rfl, ho2⟩
      rw [HTV.out]
      have HX2 := hid (HX.out.chain ho2 (fun _ _ h => h))
      obtain ⟨X, hX⟩ : ∃ X, 43 + (m : Int) + (j : Int) * 24 + off = X := ⟨_, rfl⟩
      have HXX := hid hX
      rw [hX]
      clear ho2 hX c0 c1 c2 c3 c4 c5 c6 c7 c8 c9 c10 c11 c12 c13
      by_cases hxy : X = a
      · have hb : (X == a) = true := beq_iff_eq.2 hxy
        have HVV : Hid (V = ((j : Int), true)) := by show _ = _; rw [← HV.out, ← hxy, ← HXX.out]; exact owner_at (by omega) hlt
        clear hxy
        go_wp2_with fail
        go_ret2
        exact ⟨by rw [HVV.out]; rfl, HO.out.chain HX2.out (fun _ _ h => h)⟩
      · have hb : (X == a) = false := beq_eq_false_iff_ne.2 hxy
        have HNE := hid hxy
        clear hxy
        go_wp2_with fail
        go_roundw
        case rel =>
          refine ⟨j + 1, by go_num, by omega, ?_, HX2.out⟩
          intro t ht
          by_cases et : t = j
          · subst et
            rw [HXX.out]
            exact HNE.out
          · exact HA.out t (by omega)
        case measure => simp [intOf]; omega
    · have HVV : Hid (V = (0, false)) := by show _ = _; rw [← HV.out]; exact owner_none (fun t ht => HA.out t (by omega))
      clear c0 c1 c2 c3 c4 c5 c6 c7 c8 c10 c11 c12 c13
      go_wp2_with fail
      go_ret2
      exact ⟨by rw [HVV.out]; rfl, HO.out.chain HX.out (fun _ _ h => h)⟩

set_option maxRecDepth 100000 in
set_option maxHeartbeats 1000000 in
theorem tOf_rel {Q : Nat → Prop} (w : World) (cs : Array Value) (n m : Nat) (h : ThIs Q w cs n m) (a : Int) :
    Calls Tryz.prog 133 #[.agg cs, .int .i64 a] w fun e w' => e = .returned (.tuple #[.int .i64 (ownerV n m a 0).1, .bool (ownerV n m a 0).2]) ∧ Only (fun _ => False) w w' := by
  have hT := h
  obtain ⟨hn, hm, ta, oa, za, zb, zc, zd, rfl, _⟩ := h
  have hW : ∃ W y, W = w.alloc (plO (planCs n m ta oa (.slice za n zc) (.slice zb m zd))) ∧ y = w.heap.size ∧ Only (fun _ => False) w W ∧ W.heap[y]? = some (plO (planCs n m ta oa (.slice za n zc) (.slice zb m zd))) := ⟨_, _, rfl, rfl, (Only.refl _ _).alloc _, heap_new _ _⟩
  obtain ⟨W, y, hWe, hye, hoW, hby⟩ := hW
  have HO := hid hoW
  obtain ⟨V, hV⟩ : ∃ V, ownerV n m a 0 = V := ⟨_, rfl⟩
  have HPL : Hid (Calls Tryz.prog 139 #[.agg (planCs n m ta oa (.slice za n zc) (.slice zb m zd)), .int .i64 a, .int .i64 0] W fun e w' => e = .returned (.tuple #[.int .i64 V.1, .bool V.2]) ∧ Only (fun _ => False) W w') := hV ▸ owner_rel W _ n m (hT.only hoW (fun _ _ h => h)) a 0 (by decide) (by decide)
  obtain ⟨c0, c1, c2, c3, c4, c5, c6, c7, c8, c9, c10, c11, c12, c13⟩ := plan_cells hby
  rw [hV]
  clear hT hoW hby hV
  go_enter Tryz.func133, Tryz.ntmps133
  go_upto_region 1 with fail
  rw [← hWe, ← hye]
  clear hWe hye
  go_wp2_with fail
  refine HPL.out.mono ?_
  rintro e w2 ⟨rfl, ho2⟩
  have HO2 := hid (HO.out.chain ho2 (fun _ _ h => h))
  clear ho2
  go_wp2_with fail
  go_ret2
  exact ⟨rfl, HO2.out⟩

end Go.Proofs.YtmcmjcaigipoaaaGreat

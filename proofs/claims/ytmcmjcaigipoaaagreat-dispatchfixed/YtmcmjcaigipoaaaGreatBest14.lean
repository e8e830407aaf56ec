/-
  Package ready: Best as a tree of accesses that answers a list, in a slice of its own. Conditions: the plan is one that Of makes.
-/
import Derived.Test.YtmcmjcaigipoaaaGreatFunc14
import Derived.Test.YtmcmjcaigipoaaaGreatAdd13
import Derived.Test.YtmcmjcaigipoaaaGreatSim14
namespace Go.Sept
open Go.RowKit
theorem Grow.spot14 {e : TypeId} {size : Nat} {w : World} {v : Value} {b n : Nat} {xs : List Value} (h : Grow e size w v b n xs) : ∃ b0, Grow e size w v b0 n xs ∧ (v.ownBlock = some b0 ∨ (v.ownBlock = none ∧ w.heap.size ≤ b0)) := by
  rcases h.own.2 with ⟨rfl, rfl⟩ | ⟨g, cap, cur, rfl, _⟩
  · exact ⟨w.heap.size, ⟨h.own, fun k hk => by cases hk⟩, .inr ⟨rfl, Nat.le_refl _⟩⟩
  · have e : g = b := h.spot g rfl
    subst e
    exact ⟨g, h, .inl rfl⟩
theorem Grow.keep14 {e : TypeId} {size : Nat} {w w' : World} {v : Value} {b n : Nat} {xs : List Value} {S : Nat → Prop} (h : Grow e size w v b n xs) (ho : Only S w w') (hb : ∀ c, v.ownBlock = some c → ¬ S c) : Grow e size w' v b n xs := by
  refine ⟨⟨h.own.1, ?_⟩, h.spot⟩
  rcases h.own.2 with hn | ⟨g, cap, cur, rfl, hb0, hg, rest⟩
  · exact .inl hn
  · exact .inr ⟨g, cap, cur, rfl, hb0, (ho.block g (lt_of_block hg) (hb g rfl)).trans hg, rest⟩
theorem Grow.low14 {e : TypeId} {size : Nat} {w : World} {v : Value} {b n k : Nat} {xs : List Value} (h : Grow e size w v b n xs) (hk : v.ownBlock = some k) : k < w.heap.size := by
  rcases h.own.2 with ⟨rfl, _⟩ | ⟨g, cap, cur, rfl, _, hg, _⟩
  · cases hk
  · have e : g = k := by simpa [Value.ownBlock] using hk
    subst e
    exact lt_of_block hg
/-- A list in a slice, in blocks of P. -/
def slBag (P : Nat → Prop) (v : Value) (l : List Int) : Bag where
  V := P
  P := fun w => SlOf P 1 intE w v l ∧ ∀ k, P k → k < w.heap.size
  low := fun _ k h hk => h.2 k hk
  keep := fun _ _ _ h ho hv => ⟨h.1.only (stay_int ho hv), fun k hk => Nat.lt_of_lt_of_le (h.2 k hk) ho.size⟩
def dB : Nat → Nat
  | 0 => 1
  | k + 1 => dB k + 5
/-- The list with whose node it is, unless that is left out. -/
def takeV (n m : Nat) (but : List Int) (a : Int) (l : List Int) : List Int := if (ownerV n m a 0).2 = true ∧ (ownerV n m a 0).1 ∉ but then l ++ [(ownerV n m a 0).1] else l
theorem takeV_len (n m : Nat) (but : List Int) (a : Int) (l : List Int) : (takeV n m but a l).length ≤ l.length + 1 := by
  unfold takeV
  split
  · simp
  · omega
def doneT (l : List Int) (k : Nat) : Tree (List Int) (k + 1) := offT.bind fun o => (Tree.ret (if o = true then [] else l) : Tree (List Int) k)
def roundT (n m : Nat) (N : Int) (but : List Int) : (k : Nat) → Int × Int × Bool → List Int → Tree (List Int) (dB k)
  | 0, _, l => doneT l 0
  | k + 1, x, l => if x.2.2 = false then doneT l (dB k + 4) else if ((takeV n m but x.1 l).length : Int) = N then doneT (takeV n m but x.1 l) (dB k + 4) else (qAfterT 8 x.1 x.2.1).bind fun y => roundT n m N but k y (takeV n m but x.1 l)
def bestT (n m : Nat) (N : Int) (but : List Int) (k : Nat) : Tree (List Int) (dB k + 3) := if N ≤ 0 then .ret [] else (belowT 8 16).bind fun x => roundT n m N but k x []
end Go.Sept

namespace Go.Proofs.YtmcmjcaigipoaaaGreat
open Go.RowKit Go.Sept

/-- A list in a slice that its owner lets grow. -/
def oBag (v : Value) (l : List Int) : Bag where
  V := fun k => v.ownBlock = some k
  P := fun w => ∃ b, Own13 w v b l
  low := fun _ k h hk => by
    obtain ⟨b, h⟩ := h
    exact Grow.low14 h hk
  keep := fun _ _ _ h ho hv => by
    obtain ⟨b, h⟩ := h
    exact ⟨b, Grow.keep14 h ho hv⟩
/-- The function fn, called with a frame, beside C, does the tree T, and answers its list in a slice of its own. -/
def DoesOut (C : Bag) {n : Nat} (fn : Nat) (args : Value → Array Value) (T : Tree (List Int) n) : Prop :=
  ∀ (w : World) (F lb p q : Nat) (s : FrSt) (xs : List Int), FMIs w F lb p q s xs → Fit n s → C.P w → (∀ k, C.V k → k ≠ F ∧ k ≠ lb ∧ k ≠ p ∧ k ≠ q) →
    Calls Tryz.prog fn (args (ptrV F)) w fun e w' => ∃ v lb', e = .returned v ∧ FMIs w' F lb' p q (T.run s xs).2.1 (T.run s xs).2.2 ∧ (lb' = lb ∨ w.heap.size ≤ lb') ∧ Only (fun k => k = F ∨ k = lb ∨ k = q) w w' ∧ (oBag v (T.run s xs).1).P w' ∧ ∀ k, v.ownBlock = some k → w.heap.size ≤ k ∧ k ≠ F ∧ k ≠ lb' ∧ k ≠ p ∧ k ≠ q

section
variable {w w1 w2 : World} {F lb p q : Nat} {S : Nat → Prop} {B C : Bag} {β : Type} {n m : Nat}
theorem At.callOut {R : β × FrSt × List Int} {t : Tree (List Int) n} {g : List Int → Tree β m} {fn : Nat} {args : Value → Array Value} (h : At w F lb p q S B (Tree.bind t g) R w1) (hc : DoesOut C fn args t) (hle : C.Le B) :
    Calls Tryz.prog fn (args (ptrV F)) w1 fun e w2 => ∃ x v, e = .returned v ∧ At w F lb p q S (B.and (oBag v x)) (g x) R w2 ∧ ∀ k, v.ownBlock = some k → w1.heap.size ≤ k := by
  obtain ⟨s, xs, lb1, h1, h2, h3, h4, h5, h6⟩ := h
  refine (hc w1 F lb1 p q s xs h1 (h5.mono (Nat.le_add_left _ _)) (hle.p _ h4.1) (fun k hk => h4.2 k (hle.v k hk))).mono ?_
  rintro e w2 ⟨v, lb2, rfl, k1, k2, k3, k4, k5⟩
  have z := h3.size
  refine ⟨_, v, rfl, ⟨(t.run s xs).2.1, (t.run s xs).2.2, lb2, k1, by omega, h3.chain k3 (fun i hi e => by omega), ⟨⟨B.keep _ _ _ h4.1 k3 (fun i hi e => ?_), k4⟩, fun i hi => ?_⟩, t.fit (by rwa [Nat.add_comm]) xs, by rw [← h6, Tree.run_bind]⟩, fun k hk => (k5 k hk).1⟩
  · have := h4.2 i hi
    omega
  · rcases hi with hi | hi
    · have a1 := h4.2 i hi
      have a2 := B.low _ _ h4.1 hi
      exact ⟨a1.1, by omega, a1.2.2⟩
    · exact (k5 i hi).2
theorem DoesOut.of {T : Tree (List Int) n} {fn : Nat} {args : Value → Array Value}
    (h : ∀ (w : World) (F lb p q : Nat) (R : List Int × FrSt × List Int), At w F lb p q (fun _ => False) C T R w → Calls Tryz.prog fn (args (ptrV F)) w fun e w' => ∃ x v B', e = .returned v ∧ At w F lb p q (fun _ => False) B' (Tree.ret x : Tree (List Int) 0) R w' ∧ (B'.P w' → (oBag v x).P w') ∧ ∀ k, v.ownBlock = some k → B'.V k ∧ w.heap.size ≤ k) : DoesOut C fn args T := by
  intro w F lb p q s xs hm hf hP hV
  refine (h w F lb p q _ (At.start hm hf hP hV)).mono ?_
  rintro e w' ⟨x, v, B', rfl, ⟨s', xs', lb1, a1, a2, a3, a4, a5, a6⟩, hb, hk⟩
  rw [← a6, Tree.run_ret]
  refine ⟨v, lb1, rfl, a1, a2, a3.mono (fun k _ e => by
    rcases e with e | e | e | e
    · exact .inl e
    · exact .inr (.inl e)
    · exact .inr (.inr e)
    · exact e.elim), hb a4.1, fun k hk' => ⟨(hk k hk').2, a4.2 k (hk k hk').1⟩⟩
/-- An append to a list beside the frame. -/
theorem At.grown {R : β × FrSt × List Int} {T : Tree β n} {v v' : Value} {l l' : List Int} {b b' : Nat} (h : At w F lb p q (fun _ => False) (B.and (oBag v l)) T R w1) (ho : Only (fun k => v.ownBlock = some k) w1 w2) (hB : ∀ k, B.V k → v.ownBlock ≠ some k) (hlow : ∀ k, v.ownBlock = some k → w.heap.size ≤ k)
    (hg : Own13 w2 v' b' l') (hs : v'.ownBlock = some b') (hb : v.ownBlock = some b ∨ (v.ownBlock = none ∧ w1.heap.size ≤ b)) (hb' : b' = b ∨ w1.heap.size ≤ b') : At w F lb p q (fun _ => False) (B.and (oBag v' l')) T R w2 :=
  h.turn (S2 := fun k => v.ownBlock = some k) ho (fun _ hk => .inr hk) (fun k hk e => by have := hlow k e; omega) ⟨B.keep _ _ _ h.bag.1 ho (fun k hk e => hB k hk e), b', hg⟩ (fun k hk => by
    rcases hk with hk | hk
    · exact .inl (.inl hk)
    · have e : k = b' := by
        have hk' : v'.ownBlock = some k := hk
        rw [hs] at hk'
        injection hk' with hk'
        exact hk'.symm
      subst e
      rcases hb' with rfl | h9
      · rcases hb with h8 | h8
        · exact .inl (.inr h8)
        · exact .inr h8.2
      · exact .inr h9)
end

theorem lt_of_cell14 {w : World} {y i : Nat} {v : Value} (h : w.cell? ⟨y, i, none⟩ = some v) : y < w.heap.size := Cel.lt h

set_option maxRecDepth 100000 in
set_option maxHeartbeats 2000000 in
theorem contains14 {P : Nat → Prop} (w : World) (v : Value) (xs : List Int) (x : Int) (h : SlOf P 1 intE w v xs) :
    Calls Tryz.prog 114 #[v, .int .i64 x] w fun e w' => e = .returned (.bool (decide (x ∈ xs))) ∧ w' = w := by
  obtain ⟨V, hV⟩ : ∃ V, idxL xs x = V := ⟨_, rfl⟩
  have HI : Hid (Calls Tryz.prog 67 #[v, .int .i64 x] w fun e w' => e = .returned (.int .i64 V) ∧ w' = w) := hV ▸ index12 w v xs x h
  have HV := hid hV
  by_cases hm : x ∈ xs
  · rw [decide_eq_true hm]
    have h0 : 0 ≤ V := by rw [← hV, idxL, if_pos hm]; omega
    clear hm hV HV h
    go_enter Tryz.func114, Tryz.ntmps114
    go_wp2_with fail
    refine HI.out.mono ?_
    rintro e w1 ⟨rfl, rfl⟩
    go_wp2_with fail
    go_ret
    exact ⟨rfl, rfl⟩
  · rw [decide_eq_false hm]
    have h0 : V = -1 := by rw [← hV, idxL, if_neg hm]
    subst h0
    clear hm hV HV h
    go_enter Tryz.func114, Tryz.ntmps114
    go_wp2_with fail
    refine HI.out.mono ?_
    rintro e w1 ⟨rfl, rfl⟩
    go_wp2_with fail
    go_ret
    exact ⟨rfl, rfl⟩

set_option maxRecDepth 100000 in
set_option maxHeartbeats 2000000 in
theorem best14 (Q P : Nat → Prop) (cs : Array Value) (n m : Nat) (N : Int) (bv : Value) (but : List Int) (k6 : Nat) (hk6 : k6 = 6) :
    DoesOut ((thBag cs n m Q).and (slBag P bv but)) 113 (fun F => #[F, .agg cs, .int .i64 N, bv]) (bestT n m N but k6) := by
  refine DoesOut.of fun w F lb p q R h => ?_
  obtain ⟨hn, hm, ta, oa, za, zb, zc, zd, rfl, _⟩ := h.bag.1.1
  obtain ⟨ba, bc, rfl, _⟩ := h.bag.2.1.shape
  obtain ⟨bn, hbn⟩ : ∃ bn, but.length = bn := ⟨_, rfl⟩
  rw [hbn] at h ⊢
  have HA := hid (h.alloc (plO (planCs n m ta oa (.slice za n zc) (.slice zb m zd))))
  have hV : ∃ V y, V = w.alloc (plO (planCs n m ta oa (.slice za n zc) (.slice zb m zd))) ∧ y = w.heap.size := ⟨_, _, rfl, rfl⟩
  obtain ⟨V, y, hVe, hye⟩ := hV
  obtain ⟨BG, hBG⟩ : ∃ BG, ((thBag (planCs n m ta oa (.slice za n zc) (.slice zb m zd)) n m Q).and (slBag P (.slice ba bn bc) but)).and (Bag.one y (plO (planCs n m ta oa (.slice za n zc) (.slice zb m zd)))) = BG := ⟨_, rfl⟩
  have H : Hid (At w F lb p q (fun _ => False) BG (bestT n m N but k6) R V) := by rw [← hBG, hVe, hye]; exact HA.out
  have HTH : Hid (∀ wx, BG.P wx → ThIs Q wx (planCs n m ta oa (.slice za n zc) (.slice zb m zd)) n m) := hBG ▸ fun _ h => h.1.1.1
  have HBU : Hid (∀ wx, BG.P wx → SlOf P 1 intE wx (.slice ba bn bc) but) := hBG ▸ fun _ h => h.1.2.1
  have HPC : Hid (∀ wx, BG.P wx → PlC14 wx y n m ta oa (.slice za n zc) (.slice zb m zd)) := hBG ▸ fun _ h => plan_cells h.2
  have HLOW : Hid (∀ k, BG.V k → k < w.heap.size ∨ k = y) := by
    rw [← hBG]
    rintro k (hk | hk)
    · exact .inl ((((thBag (planCs n m ta oa (.slice za n zc) (.slice zb m zd)) n m Q).and (slBag P (.slice ba bn bc) but))).low _ _ h.bag hk)
    · exact .inr hk
  have HY : Hid (y = w.heap.size) := hye
  obtain ⟨c0, c1, c2, c3, c4, c5, c6, c7, c8, c9, c10, c11, c12, c13⟩ := HPC.out _ H.out.bag
  have HK6 := hid hk6
  clear h HA hBG hbn hk6
  go_enter Tryz.func113, Tryz.ntmps113
  go_upto_region 1 with fail
  rw [← hVe, ← hye]
  clear hVe hye
  by_cases hN : N ≤ 0
  · have H1 := hid (H.out.pos hN)
    clear H c0 c1 c2 c3 c4 c5 c6 c7 c8 c9 c10 c11 c12 c13
    go_wp2_with fail
    go_ret
    exact ⟨[], .slice none 0 0, BG, rfl, H1.out.fin, fun _ => ⟨0, Grow.nil _ _ _ _⟩, fun k hk => by cases hk⟩
  have H1 := hid (H.out.neg hN)
  clear H
  go_wp2_with fail
  refine (H1.out.call (qFirst_does 8)).mono ?_
  rintro e w1 ⟨⟨xa, xp, xf⟩, rfl, h2⟩
  have H2 : Hid (At w F lb p q (fun _ => False) (BG.and (oBag (.slice none 0 0) [])) (roundT n m N but 6 (xa, xp, xf) []) R w1) := by
    have h3 := h2
    rw [HK6.out] at h3
    exact h3.turn (S2 := fun _ => False) (Only.refl _ _) (fun _ h => h.elim) (fun _ _ h => h.elim) ⟨h3.bag, 0, Grow.nil _ _ _ _⟩ (fun k hk => hk.elim (fun h => .inl h) (fun h => by cases h))
  clear H1 h2 c0 c1 c2 c3 c4 c5 c6 c7 c8 c9 c10 c11 c12 c13
  go_wp2_with fail
  go_loopw [9, 10, 11, 12, 25] (fun v va vp vf i wx => ∃ (j : Nat) (a p' : Int) (ff : Bool) (l : List Int), i = .int .i64 (j : Int) ∧ j ≤ 6 ∧ va = .int .i64 a ∧ vp = .int .i64 p' ∧ vf = .bool ff ∧ l.length ≤ j ∧ At w F lb p q (fun _ => False) (BG.and (oBag v l)) (roundT n m N but (6 - j) (a, p', ff) l) R wx ∧ ∀ k, v.ownBlock = some k → w.heap.size ≤ k ∧ k ≠ y) (fun _ _ _ _ i _ => 6 - (intOf i).toNat)
  case atStart => exact ⟨0, xa, xp, xf, [], rfl, by decide, rfl, rfl, rfl, Nat.le_refl _, H2.out, fun k hk => by cases hk⟩
  case round =>
    obtain ⟨j, a, p', ff, l, rfl, hj, rfl, rfl, rfl, hlj, hat, hlow⟩ := hrel
    clear H2
    obtain ⟨b0, hown⟩ := hat.bag.2
    obtain ⟨oa0, oc0, rfl, _⟩ := Grow.shape hown
    obtain ⟨ln, hln⟩ : ∃ ln, l.length = ln := ⟨_, rfl⟩
    rw [hln] at hat hlow hlj hown ⊢
    have HLN := hid hln
    have HLW := hid hlow
    clear hown hln hlow
    by_cases hlt : (j : Int) < 6
    · obtain ⟨k, hk⟩ : ∃ k, 6 - j = k + 1 := ⟨5 - j, by omega⟩
      rw [hk] at hat
      have HAT := hid hat
      have HKJ : Hid (k = 6 - (j + 1)) := by show _ = _; omega
      clear hat hk
      cases ff
      · have H3 : Hid (At w F lb p q (fun _ => False) (BG.and (oBag (.slice oa0 ln oc0) l)) (doneT l (dB k + 4)) R wr) := HAT.out.pos rfl
        clear HAT
        go_wp2_with fail
        refine (H3.out.call off_does).mono ?_
        rintro e w8 ⟨o, rfl, h8⟩
        have H8 := hid h8
        clear H3 h8
        cases o
        · go_wp2_with fail
          go_ret
          exact ⟨_, (.slice oa0 ln oc0), _, rfl, H8.out.fin, fun h => h.2, fun k hk => ⟨.inr hk, (HLW.out k hk).1⟩⟩
        · go_wp2_with fail
          go_ret
          exact ⟨[], .slice none 0 0, _, rfl, H8.out.fin, fun _ => ⟨0, Grow.nil _ _ _ _⟩, fun k hk => by cases hk⟩
      · have H3 : Hid (At w F lb p q (fun _ => False) (BG.and (oBag (.slice oa0 ln oc0) l)) (if ((takeV n m but a l).length : Int) = N then doneT (takeV n m but a l) (dB k + 4) else (qAfterT 8 a p').bind fun y => roundT n m N but k y (takeV n m but a l)) R wr) := HAT.out.neg (fun h => Bool.noConfusion h)
        clear HAT
        obtain ⟨c0, c1, c2, c3, c4, c5, c6, c7, c8, c9, c10, c11, c12, c13⟩ := HPC.out _ H3.out.bag.1
        go_wp2_with fail
        refine (tOf_rel _ _ n m (HTH.out _ H3.out.bag.1) a).mono ?_
        rintro e w2 ⟨rfl, ho2⟩
        have H4 := hid (H3.out.still ho2)
        clear H3 ho2 c0 c1 c2 c3 c4 c5 c6 c7 c8 c9 c10 c11 c12 c13
        obtain ⟨tk, htk⟩ : ∃ tk, takeV n m but a l = tk := ⟨_, rfl⟩
        rw [htk] at H4
        have HTK := hid htk
        obtain ⟨t, ok, hok⟩ : ∃ t ok, ownerV n m a 0 = (t, ok) := ⟨_, _, rfl⟩
        have HOK := hid hok
        rw [hok]
        clear htk hok
        cases ok
        · have htk : tk = l := by rw [← HTK.out, takeV, HOK.out, if_neg (fun h => Bool.noConfusion h.1)]
          subst htk
          clear HTK
          go_upto_region 11 with fail
          by_cases hq : (ln : Int) = N
          · have hb : ((ln : Int) == N) = true := beq_iff_eq.2 hq
            have H7 := hid (H4.out.pos (by rw [HLN.out]; exact hq))
            clear H4 hq
            go_wp2_with fail
            refine (H7.out.call off_does).mono ?_
            rintro e w8 ⟨o, rfl, h8⟩
            have H8 := hid h8
            clear H7 h8
            cases o
            · go_wp2_with fail
              go_ret
              exact ⟨_, (.slice oa0 ln oc0), _, rfl, H8.out.fin, fun h => h.2, fun k hk => ⟨.inr hk, (HLW.out k hk).1⟩⟩
            · go_wp2_with fail
              go_ret
              exact ⟨[], .slice none 0 0, _, rfl, H8.out.fin, fun _ => ⟨0, Grow.nil _ _ _ _⟩, fun k hk => by cases hk⟩
          · have hb : ((ln : Int) == N) = false := beq_eq_false_iff_ne.2 hq
            have H7 := hid (H4.out.neg (by rw [HLN.out]; exact hq))
            clear H4 hq
            obtain ⟨c0, c1, c2, c3, c4, c5, c6, c7, c8, c9, c10, c11, c12, c13⟩ := HPC.out _ H7.out.bag.1
            go_wp2_with fail
            refine (H7.out.call (qAfter_does 8 a p')).mono ?_
            rintro e w5 ⟨⟨ya, yp, yf⟩, rfl, h8⟩
            have H8 := hid h8
            clear H7 h8 c0 c1 c2 c3 c4 c5 c6 c7 c8 c9 c10 c11 c12 c13
            go_wp2_with fail
            go_roundw
            case rel =>
              have h9 := H8.out
              rw [HKJ.out] at h9
              exact ⟨j + 1, ya, yp, yf, tk, by go_num, by omega, rfl, rfl, rfl, by rw [HLN.out]; omega, h9, HLW.out⟩
            case measure => simp [intOf]; omega
        · have HC := hid (contains14 _ _ _ t (HBU.out _ H4.out.bag.1))
          by_cases htb : t ∈ but
          · rw [decide_eq_true htb] at HC
            have htk : tk = l := by rw [← HTK.out, takeV, HOK.out, if_neg (fun h => h.2 htb)]
            subst htk
            clear HTK htb
            go_wp2_with fail
            refine HC.out.mono ?_
            rintro e w3 ⟨rfl, rfl⟩
            clear HC
            go_upto_region 11 with fail
            by_cases hq : (ln : Int) = N
            · have hb : ((ln : Int) == N) = true := beq_iff_eq.2 hq
              have H7 := hid (H4.out.pos (by rw [HLN.out]; exact hq))
              clear H4 hq
              go_wp2_with fail
              refine (H7.out.call off_does).mono ?_
              rintro e w8 ⟨o, rfl, h8⟩
              have H8 := hid h8
              clear H7 h8
              cases o
              · go_wp2_with fail
                go_ret
                exact ⟨_, (.slice oa0 ln oc0), _, rfl, H8.out.fin, fun h => h.2, fun k hk => ⟨.inr hk, (HLW.out k hk).1⟩⟩
              · go_wp2_with fail
                go_ret
                exact ⟨[], .slice none 0 0, _, rfl, H8.out.fin, fun _ => ⟨0, Grow.nil _ _ _ _⟩, fun k hk => by cases hk⟩
            · have hb : ((ln : Int) == N) = false := beq_eq_false_iff_ne.2 hq
              have H7 := hid (H4.out.neg (by rw [HLN.out]; exact hq))
              clear H4 hq
              obtain ⟨c0, c1, c2, c3, c4, c5, c6, c7, c8, c9, c10, c11, c12, c13⟩ := HPC.out _ H7.out.bag.1
              go_wp2_with fail
              refine (H7.out.call (qAfter_does 8 a p')).mono ?_
              rintro e w5 ⟨⟨ya, yp, yf⟩, rfl, h8⟩
              have H8 := hid h8
              clear H7 h8 c0 c1 c2 c3 c4 c5 c6 c7 c8 c9 c10 c11 c12 c13
              go_wp2_with fail
              go_roundw
              case rel =>
                have h9 := H8.out
                rw [HKJ.out] at h9
                exact ⟨j + 1, ya, yp, yf, tk, by go_num, by omega, rfl, rfl, rfl, by rw [HLN.out]; omega, h9, HLW.out⟩
              case measure => simp [intOf]; omega
          · rw [decide_eq_false htb] at HC
            have htk : tk = l ++ [t] := by rw [← HTK.out, takeV, HOK.out, if_pos ⟨rfl, htb⟩]
            subst htk
            clear HTK htb
            go_wp2_with fail
            refine HC.out.mono ?_
            rintro e w3 ⟨rfl, rfl⟩
            clear HC
            have H5 := hid (H4.out.still ((Only.refl (fun _ => False) _).alloc (.cells #[.int .i64 t] 3)))
            obtain ⟨b1, hown1⟩ := H5.out.bag.2
            obtain ⟨b2, hg2, hb2⟩ := Grow.spot14 hown1
            rw [HLN.out] at hg2
            have HG2 := hid hg2
            have HB2 := hid hb2
            have hln6 : ln ≤ 6 := by omega
            clear H4 hown1 hg2 hb2
            go_wp2_with (at_builtin; refine wpList_append_grown _ rfl (.tmp 42) (.tmp 44) 30 rfl 3 _ 1 8 Tryz.underlying30 infoInt13 rfl (by decide) (.slice oa0 ln oc0) b2 ln (l.map (Value.int .i64)) rfl HG2.out ⟨w3.heap.size, 0, none⟩ 1 1 [.int .i64 t] rfl (by decide) rfl (news_of_block (heap_new w3 (.cells #[.int .i64 t] 3))) (one_int13 _) (by unfold maxLen; omega) (by omega) ?_)
            intro b' cap' w' h1 h2 h30
            have z9 : (w3.alloc (.cells #[.int .i64 t] 3)).heap.size = w3.heap.size + 1 := World.size_alloc _ _
            have h3 : b' = b2 ∨ (w3.alloc (.cells #[.int .i64 t] 3)).heap.size ≤ b' := by rw [z9]; exact h30
            have HG3 : Hid (Own13 w' (.slice (some ⟨b', 0, none⟩) (ln + 1 : Nat) cap') b' (l ++ [t])) := by
              show Grow 3 1 _ _ _ _ _
              rw [List.length_append, List.length_singleton, HLN.out, List.map_append]
              exact h1
            have HLW6 : Hid (∀ k, Value.ownBlock (.slice (some ⟨b', 0, none⟩) (ln + 1 : Nat) cap') = some k → w.heap.size ≤ k ∧ k ≠ y) := by
              intro k hk
              have e : b' = k := by simpa [Value.ownBlock] using hk
              subst e
              have z1 := H5.out.size
              have z2 : y < (w3.alloc (.cells #[.int .i64 t] 3)).heap.size := lt_of_cell14 (HPC.out _ H5.out.bag.1).1
              have z3 := HY.out
              rcases h3 with rfl | h3
              · rcases HB2.out with h8 | h8
                · exact HLW.out _ h8
                · omega
              · omega
            have H6 : Hid (At w F lb p q (fun _ => False) (BG.and (oBag (.slice (some ⟨b', 0, none⟩) (ln + 1 : Nat) cap') (l ++ [t]))) (if (((l ++ [t]).length : Nat) : Int) = N then doneT (l ++ [t]) (dB k + 4) else (qAfterT 8 a p').bind fun y => roundT n m N but k y (l ++ [t])) R w') :=
              H5.out.grown h2 (fun k hk e => by
                have h9 := HLOW.out k hk
                have h8 := HLW.out k e
                omega) (fun k hk => (HLW.out k hk).1) HG3.out rfl HB2.out h3
            clear H5 h1 h2 h3 h30 z9 HG2 HB2 HG3
            go_upto_region 11 with fail
            by_cases hq : (((ln + 1 : Nat) : Int) : Int) = N
            · have hb : ((((ln + 1 : Nat) : Int) : Int) == N) = true := beq_iff_eq.2 hq
              have H7 := hid (H6.out.pos (by rw [List.length_append, List.length_singleton, HLN.out]; exact hq))
              clear H6 hq
              go_wp2_with fail
              refine (H7.out.call off_does).mono ?_
              rintro e w8 ⟨o, rfl, h8⟩
              have H8 := hid h8
              clear H7 h8
              cases o
              · go_wp2_with fail
                go_ret
                exact ⟨_, (.slice (some ⟨b', 0, none⟩) (ln + 1 : Nat) cap'), _, rfl, H8.out.fin, fun h => h.2, fun k hk => ⟨.inr hk, (HLW6.out k hk).1⟩⟩
              · go_wp2_with fail
                go_ret
                exact ⟨[], .slice none 0 0, _, rfl, H8.out.fin, fun _ => ⟨0, Grow.nil _ _ _ _⟩, fun k hk => by cases hk⟩
            · have hb : ((((ln + 1 : Nat) : Int) : Int) == N) = false := beq_eq_false_iff_ne.2 hq
              have H7 := hid (H6.out.neg (by rw [List.length_append, List.length_singleton, HLN.out]; exact hq))
              clear H6 hq
              obtain ⟨c0, c1, c2, c3, c4, c5, c6, c7, c8, c9, c10, c11, c12, c13⟩ := HPC.out _ H7.out.bag.1
              go_wp2_with fail
              refine (H7.out.call (qAfter_does 8 a p')).mono ?_
              rintro e w5 ⟨⟨ya, yp, yf⟩, rfl, h8⟩
              have H8 := hid h8
              clear H7 h8 c0 c1 c2 c3 c4 c5 c6 c7 c8 c9 c10 c11 c12 c13
              go_wp2_with fail
              go_roundw
              case rel =>
                have h9 := H8.out
                rw [HKJ.out] at h9
                exact ⟨j + 1, ya, yp, yf, l ++ [t], by go_num, by omega, rfl, rfl, rfl, by rw [List.length_append, List.length_singleton, HLN.out]; omega, h9, HLW6.out⟩
              case measure => simp [intOf]; omega
    · obtain rfl : j = 6 := by omega
      have H3 : Hid (At w F lb p q (fun _ => False) (BG.and (oBag (.slice oa0 ln oc0) l)) (doneT l 0) R wr) := hat
      clear hat
      go_wp2_with fail
      refine (H3.out.call off_does).mono ?_
      rintro e w8 ⟨o, rfl, h8⟩
      have H8 := hid h8
      clear H3 h8
      cases o
      · go_wp2_with fail
        go_ret
        exact ⟨_, (.slice oa0 ln oc0), _, rfl, H8.out.fin, fun h => h.2, fun k hk => ⟨.inr hk, (HLW.out k hk).1⟩⟩
      · go_wp2_with fail
        go_ret
        exact ⟨[], .slice none 0 0, _, rfl, H8.out.fin, fun _ => ⟨0, Grow.nil _ _ _ _⟩, fun k hk => by cases hk⟩
end Go.Proofs.YtmcmjcaigipoaaaGreat

/-
  What package ready's calls leave in a partition's words, as plain mathematics: what the law's do says of the model; and what Best answers. Conditions: as each says.
-/
namespace Go.Sept
open Go.RowKit

theorem ans_getIn {n m : Nat} {t f : Int} {xs : List Int} (h0 : 0 ≤ t) (h1 : t < n) (h2 : 0 ≤ f) (h3 : f < 19) : ans (getT n m t f) xs = valA xs (nodeA m t + (5 + f)) := by
  unfold ans
  rw [get_ans, fieldV_in h0 h1 h2 h3, if_neg (by omega)]
  rfl
theorem aft_get (n m : Nat) (t f : Int) (xs : List Int) : aft (getT n m t f) xs = xs := by
  unfold aft
  exact get_aft n m t f xs
theorem aft_setIn {n m : Nat} {t f v : Int} {xs : List Int} (h0 : 0 ≤ t) (h1 : t < n) (h2 : 0 ≤ f) (h3 : f < 19) : aft (setT n m t f v) xs = setA xs (nodeA m t + (5 + f)) v := by
  unfold aft
  rw [set_aft, fieldV_in h0 h1 h2 h3, if_neg (by omega)]
  rfl
theorem node_at {n m : Nat} {t : Int} (h : 0 ≤ t ∧ t < n) : tplaceV n m t 0 = nodeA m t := by
  unfold tplaceV nodeA
  rw [if_pos h]
  omega

section
variable {N n mo : Nat} {st : Nat → Int} {pr : Nat → Nat} {qs : Nat → List Int} {xs : List Int}
theorem aft_isReady (n m : Nat) (t : Int) (xs : List Int) : aft (isReadyT n m t) xs = xs := by
  unfold isReadyT
  rw [aft_bind, aft_ret, aft_get]
theorem aft_prio (n m : Nat) (t : Int) (xs : List Int) : aft (prioT n m t) xs = xs := by
  unfold prioT
  rw [aft_bind, aft_ret, aft_get]
theorem Raw14.isReady (h : Raw14 N n mo st pr qs xs) {t : Nat} (ht : t < n) : ans (isReadyT n mo (t : Int)) xs = (st t == 0) := by
  unfold isReadyT
  rw [ans_bind, ans_ret, ans_getIn (by omega) (by omega) (by decide) (by decide), show nodeA mo (t : Int) + (5 + 0) = nodeA mo (t : Int) + 5 by omega, h.st t ht]
theorem Raw14.prioAt (h : Raw14 N n mo st pr qs xs) {t : Nat} (ht : t < n) (hp : pr t < 16) : ans (prioT n mo (t : Int)) xs = ((pr t : Int), true) := by
  unfold prioT
  rw [ans_bind, ans_ret, ans_getIn (by omega) (by omega) (by decide) (by decide), show nodeA mo (t : Int) + (5 + 2) = nodeA mo (t : Int) + 7 by omega, h.pr t ht, if_pos ⟨by omega, by omega⟩]
theorem aft_stand (n m : Nat) (t : Int) (xs : List Int) : aft (standT n m t) xs = xs := by
  unfold standT
  split
  · refine (aft_bind _ _ _).trans ?_
    rw [aft_isReady]
    split
    · exact aft_prio n m t xs
    · exact aft_ret _ _
  · exact aft_ret _ _
theorem Raw14.stand (h : Raw14 N n mo st pr qs xs) {t : Nat} (ht : t < n) (hp : pr t < 16) : ans (standT n mo (t : Int)) xs = if st t = 0 then ((pr t : Int), true) else (0, false) := by
  unfold standT
  rw [if_pos ⟨by omega, by omega⟩]
  refine (ans_bind _ _ _).trans ?_
  rw [aft_isReady, h.isReady ht]
  by_cases h0 : st t = 0
  · rw [if_pos (beq_iff_eq.2 h0), if_pos h0]
    exact h.prioAt ht hp
  · rw [if_neg (fun e => h0 (beq_iff_eq.1 e)), if_neg h0]
    exact ans_ret _ _
end

theorem stand_out {n mo : Nat} {t : Int} (ht : t < 0 ∨ (n : Int) ≤ t) (xs : List Int) : ans (standT n mo t) xs = (0, false) := by
  unfold standT
  rw [if_neg (by omega)]
  exact ans_ret _ _
/-- Of no such thread nothing is done. -/
theorem ready_out {n mo : Nat} {t : Int} (ht : t < 0 ∨ (n : Int) ≤ t) (xs : List Int) : aft (readyT n mo t) xs = xs := by
  unfold readyT
  rw [if_neg (by omega)]
  exact aft_ret _ _
theorem unready_out {k n mo : Nat} (drop : Int → Tree Unit k) {t s : Int} (ht : t < 0 ∨ (n : Int) ≤ t) (xs : List Int) : aft (unreadyT drop n mo t s) xs = xs := by
  unfold unreadyT
  split
  · refine (aft_bind _ _ _).trans ?_
    rw [aft_stand, stand_out ht, if_neg (fun h => Bool.noConfusion h)]
    exact aft_ret _ _
  · exact aft_ret _ _
theorem change_out {k n mo : Nat} (drop : Int → Tree Unit k) {t p : Int} {first : Bool} (ht : t < 0 ∨ (n : Int) ≤ t) (xs : List Int) : aft (changeT drop n mo t p first) xs = xs := by
  unfold changeT
  rw [if_neg (by omega)]
  exact aft_ret _ _
theorem yield_out {k n mo : Nat} (drop : Int → Tree Unit k) {t : Int} (ht : t < 0 ∨ (n : Int) ≤ t) (xs : List Int) : aft (yieldT drop n mo t) xs = xs := by
  unfold yieldT
  refine (aft_bind _ _ _).trans ?_
  rw [aft_stand, stand_out ht, if_neg (fun h => Bool.noConfusion h)]
  exact aft_ret _ _
/-- Of no such state or priority nothing is done. -/
theorem unready_odd {k n mo : Nat} (drop : Int → Tree Unit k) {t s : Int} (hs : ¬ (1 ≤ s ∧ s ≤ 3)) (xs : List Int) : aft (unreadyT drop n mo t s) xs = xs := by
  unfold unreadyT
  rw [if_neg hs]
  exact aft_ret _ _
theorem change_odd {k n mo : Nat} (drop : Int → Tree Unit k) {t p : Int} {first : Bool} (hp : ¬ (0 ≤ p ∧ p ≤ 15)) (xs : List Int) : aft (changeT drop n mo t p first) xs = xs := by
  unfold changeT
  rw [if_neg (by omega)]
  exact aft_ret _ _

section
variable {N n mo : Nat} {m : Sim14} {xs : List Int}
theorem SimOk.none {n : Nat} {m : Sim14} (h : SimOk n m) {t : Nat} (h0 : m.st t ≠ 0) : ∀ q, (t : Int) ∉ m.qs q := fun q hq => by
  obtain ⟨i, hi, _, hs, _⟩ := h.mem q _ hq
  exact h0 (by rw [show t = i by omega]; exact hs)
theorem SimOk.less {n : Nat} {m : Sim14} (h : SimOk n m) {t : Nat} : ∀ q, (t : Int) ∉ putL m.qs (m.pr t) (butL (m.qs (m.pr t)) (t : Int)) q := fun q => by
  unfold putL
  by_cases e : q = m.pr t
  · rw [if_pos e]
    exact fun e9 => (butL_mem.1 e9).2 rfl
  · rw [if_neg e]
    intro hj
    obtain ⟨i, hi, _, _, h3⟩ := h.mem _ _ hj
    exact e (by rw [← h3, show i = t by omega])

theorem ready_raw (hN : N ≤ 4000) (hs : SimOk n m) (h : Raw14 N n mo m.st m.pr m.qs xs) {t : Nat} (ht : t < n) (h0 : m.st t ≠ 0) : Raw14 N n mo (m.ready t).st (m.ready t).pr (m.ready t).qs (aft (readyT n mo (t : Int)) xs) := by
  have e : aft (readyT n mo (t : Int)) xs = aft (qAddT 8 (nodeA mo (t : Int)) (m.pr t : Int)) (setA xs (nodeA mo (t : Int) + 5) 0) := by
    unfold readyT
    rw [if_pos ⟨by omega, by omega⟩]
    refine (aft_bind _ _ _).trans ?_
    rw [aft_isReady, h.isReady ht, if_neg (fun e => h0 (beq_iff_eq.1 e))]
    refine (aft_bind _ _ _).trans ?_
    rw [aft_prio, h.prioAt ht (hs.pr t ht), if_pos rfl]
    refine (aft_bind _ _ _).trans ?_
    rw [aft_setIn (by omega) (by omega) (by decide) (by decide), node_at ⟨by omega, by omega⟩, show nodeA mo (t : Int) + (5 + 0) = nodeA mo (t : Int) + 5 by omega]
  rw [e]
  exact (h.setState ht 0).add hN (hs.pr t ht) ht (fun q _ => hs.none h0 q)
theorem unready_raw (hN : N ≤ 4000) (hs : SimOk n m) (h : Raw14 N n mo m.st m.pr m.qs xs) {t : Nat} (ht : t < n) (h0 : m.st t = 0) {s : Int} (hss : 1 ≤ s ∧ s ≤ 3) : Raw14 N n mo (m.unready t s).st (m.unready t s).pr (m.unready t s).qs (aft (unreadyT (qDropT 8 (tplaceV n mo (t : Int) 0)) n mo (t : Int) s) xs) := by
  have e : aft (unreadyT (qDropT 8 (tplaceV n mo (t : Int) 0)) n mo (t : Int) s) xs = setA (aft (qDropT 8 (nodeA mo (t : Int)) (m.pr t : Int)) xs) (nodeA mo (t : Int) + 5) s := by
    unfold unreadyT
    rw [if_pos hss]
    refine (aft_bind _ _ _).trans ?_
    rw [aft_stand, h.stand ht (hs.pr t ht), if_pos h0, if_pos rfl]
    refine (aft_bind _ _ _).trans ?_
    rw [aft_setIn (by omega) (by omega) (by decide) (by decide), node_at ⟨by omega, by omega⟩, show nodeA mo (t : Int) + (5 + 0) = nodeA mo (t : Int) + 5 by omega]
  rw [e]
  exact (h.drop hN (hs.pr t ht) (hs.has t ht h0)).setState ht s
theorem change_raw (hN : N ≤ 4000) (hs : SimOk n m) (h : Raw14 N n mo m.st m.pr m.qs xs) {t : Nat} (ht : t < n) {p : Nat} (hp : p < 16) (first : Bool) : Raw14 N n mo (m.change t p first).st (m.change t p first).pr (m.change t p first).qs (aft (changeT (qDropT 8 (tplaceV n mo (t : Int) 0)) n mo (t : Int) (p : Int) first) xs) := by
  by_cases h0 : m.st t = 0
  · have hd := (h.drop hN (hs.pr t ht) (hs.has t ht h0)).setPrio ht p
    have e : aft (changeT (qDropT 8 (tplaceV n mo (t : Int) 0)) n mo (t : Int) (p : Int) first) xs = aft (if first = true then qFrontT 8 (nodeA mo (t : Int)) (p : Int) else qAddT 8 (nodeA mo (t : Int)) (p : Int)) (setA (aft (qDropT 8 (nodeA mo (t : Int)) (m.pr t : Int)) xs) (nodeA mo (t : Int) + 7) (p : Int)) := by
      unfold changeT
      rw [if_pos ⟨⟨by omega, by omega⟩, by omega, by omega⟩]
      refine (aft_bind _ _ _).trans ?_
      rw [aft_isReady, h.isReady ht, if_pos (beq_iff_eq.2 h0)]
      refine (aft_bind _ _ _).trans ?_
      rw [aft_prio, h.prioAt ht (hs.pr t ht), if_pos rfl]
      refine (aft_bind _ _ _).trans ?_
      refine (aft_bind _ _ _).trans ?_
      rw [aft_setIn (by omega) (by omega) (by decide) (by decide), node_at ⟨by omega, by omega⟩, show nodeA mo (t : Int) + (5 + 2) = nodeA mo (t : Int) + 7 by omega]
    rw [e]
    have hq : (m.change t p first).qs = putL (putL m.qs (m.pr t) (butL (m.qs (m.pr t)) (t : Int))) p (if first = true then (t : Int) :: putL m.qs (m.pr t) (butL (m.qs (m.pr t)) (t : Int)) p else putL m.qs (m.pr t) (butL (m.qs (m.pr t)) (t : Int)) p ++ [(t : Int)]) := by
      simp only [Sim14.change, if_pos h0]
    rw [hq]
    cases first
    · rw [if_neg (by decide), if_neg (by decide)]
      exact hd.add hN hp ht (fun q _ => hs.less q)
    · rw [if_pos rfl, if_pos rfl]
      exact hd.front hN hp ht (fun q _ => hs.less q)
  · have e : aft (changeT (qDropT 8 (tplaceV n mo (t : Int) 0)) n mo (t : Int) (p : Int) first) xs = setA xs (nodeA mo (t : Int) + 7) (p : Int) := by
      unfold changeT
      rw [if_pos ⟨⟨by omega, by omega⟩, by omega, by omega⟩]
      refine (aft_bind _ _ _).trans ?_
      rw [aft_isReady, h.isReady ht, if_neg (fun e => h0 (beq_iff_eq.1 e))]
      refine (aft_bind _ _ _).trans ?_
      rw [aft_setIn (by omega) (by omega) (by decide) (by decide), show nodeA mo (t : Int) + (5 + 2) = nodeA mo (t : Int) + 7 by omega]
      exact aft_ret _ _
    rw [e]
    have hq : (m.change t p first).qs = m.qs := by simp only [Sim14.change, if_neg h0]
    rw [hq]
    exact h.setPrio ht p
theorem yield_raw (hN : N ≤ 4000) (hs : SimOk n m) (h : Raw14 N n mo m.st m.pr m.qs xs) {t : Nat} (ht : t < n) : Raw14 N n mo (m.yield t).st (m.yield t).pr (m.yield t).qs (aft (yieldT (qDropT 8 (tplaceV n mo (t : Int) 0)) n mo (t : Int)) xs) := by
  by_cases h0 : m.st t = 0
  · have hd := h.drop hN (hs.pr t ht) (hs.has t ht h0)
    have e : aft (yieldT (qDropT 8 (tplaceV n mo (t : Int) 0)) n mo (t : Int)) xs = aft (qAddT 8 (nodeA mo (t : Int)) (m.pr t : Int)) (aft (qDropT 8 (nodeA mo (t : Int)) (m.pr t : Int)) xs) := by
      unfold yieldT
      refine (aft_bind _ _ _).trans ?_
      rw [aft_stand, h.stand ht (hs.pr t ht), if_pos h0, if_pos rfl]
      refine (aft_bind _ _ _).trans ?_
      rw [node_at ⟨by omega, by omega⟩]
    rw [e]
    have hq : (m.yield t).qs = putL (putL m.qs (m.pr t) (butL (m.qs (m.pr t)) (t : Int))) (m.pr t) (putL m.qs (m.pr t) (butL (m.qs (m.pr t)) (t : Int)) (m.pr t) ++ [(t : Int)]) := by
      simp only [Sim14.yield, if_pos h0]
      rw [show putL m.qs (m.pr t) (butL (m.qs (m.pr t)) (t : Int)) (m.pr t) = butL (m.qs (m.pr t)) (t : Int) from if_pos rfl]
    rw [hq]
    exact hd.add hN (hs.pr t ht) ht (fun q _ => hs.less q)
  · have e : aft (yieldT (qDropT 8 (tplaceV n mo (t : Int) 0)) n mo (t : Int)) xs = xs := by
      unfold yieldT
      refine (aft_bind _ _ _).trans ?_
      rw [aft_stand, h.stand ht (hs.pr t ht), if_neg h0, if_neg (fun e => Bool.noConfusion e)]
      exact aft_ret _ _
    rw [e]
    have hq : (m.yield t).qs = m.qs := by simp only [Sim14.yield, if_neg h0]
    rw [hq]
    exact h
end

/-- What an op of the law leaves in the words. -/
def aftOp (n mo : Nat) (o : Op14) (xs : List Int) : List Int :=
  if o.k = 0 then aft (readyT n mo o.t) xs else if o.k = 1 then aft (unreadyT (qDropT 8 (tplaceV n mo o.t 0)) n mo o.t o.s) xs
  else if o.k = 2 then aft (changeT (qDropT 8 (tplaceV n mo o.t 0)) n mo o.t o.p o.f) xs else aft (yieldT (qDropT 8 (tplaceV n mo o.t 0)) n mo o.t) xs
theorem aftOp_length (n mo : Nat) (o : Op14) (xs : List Int) : (aftOp n mo o xs).length = xs.length := by
  unfold aftOp
  split
  · exact aft_length _ _
  · split
    · exact aft_length _ _
    · split <;> exact aft_length _ _
theorem op_raw {N n mo : Nat} {m : Sim14} {xs : List Int} (hN : N ≤ 4000) (hs : SimOk n m) (h : Raw14 N n mo m.st m.pr m.qs xs) (o : Op14) (hd : (doM n m o).1 = true) : Raw14 N n mo (doM n m o).2.st (doM n m o).2.pr (doM n m o).2.qs (aftOp n mo o xs) := by
  by_cases ht : o.t < 0 ∨ (n : Int) ≤ o.t
  · have e1 : (doM n m o).2 = m := by rw [doM, if_pos ht]
    have e2 : aftOp n mo o xs = xs := by
      unfold aftOp
      rw [ready_out ht, unready_out _ ht, change_out _ ht, yield_out _ ht]
      simp
    rw [e1, e2]
    exact h
  · obtain ⟨k, t', s, p', f⟩ := o
    simp only at ht
    obtain ⟨t, rfl⟩ : ∃ t : Nat, t' = (t : Int) := ⟨t'.toNat, by omega⟩
    have htn : t < n := by omega
    unfold doM at hd ⊢
    unfold aftOp
    simp only [Int.toNat_natCast] at hd ⊢
    rw [if_neg ht] at hd ⊢
    by_cases k0 : k = 0
    · rw [if_pos k0] at hd ⊢
      rw [if_pos k0]
      by_cases s0 : m.st t = 0
      · rw [if_pos s0] at hd
        cases hd
      · rw [if_neg s0]
        exact ready_raw hN hs h htn s0
    · rw [if_neg k0] at hd ⊢
      rw [if_neg k0]
      by_cases k1 : k = 1
      · rw [if_pos k1] at hd ⊢
        rw [if_pos k1]
        by_cases s0 : m.st t = 0
        · rw [if_pos s0]
          by_cases hss : 1 ≤ s ∧ s ≤ 3
          · simp only [if_pos hss]
            exact unready_raw hN hs h htn s0 hss
          · simp only [if_neg hss]
            rw [unready_odd _ hss]
            exact h
        · rw [if_neg s0] at hd
          cases hd
      · rw [if_neg k1] at hd ⊢
        rw [if_neg k1]
        by_cases k2 : k = 2
        · rw [if_pos k2] at hd ⊢
          rw [if_pos k2]
          by_cases hp : 0 ≤ p' ∧ p' ≤ 15
          · simp only [if_pos hp]
            obtain ⟨p, rfl⟩ : ∃ p : Nat, p' = (p : Int) := ⟨p'.toNat, by omega⟩
            simp only [Int.toNat_natCast]
            exact change_raw hN hs h htn (by omega) f
          · simp only [if_neg hp]
            rw [change_odd _ hp]
            exact h
        · rw [if_neg k2]
          rw [if_neg k2]
          exact yield_raw hN hs h htn

/-- Best. -/
theorem best_stop {N : Int} {but : List Int} : ∀ (L l : List Int), N ≤ l.length → bestF N but l L = l := by
  intro L
  induction L with
  | nil => exact fun l _ => rfl
  | cons x r ih =>
    intro l h
    rw [bestF, if_neg (fun h9 => by omega)]
    exact ih l h
theorem done_alone (l : List Int) (k : Nat) (xs : List Int) : ans (doneT l k) xs = l ∧ aft (doneT l k) xs = xs := by
  have e0 : ans offT xs = false := rfl
  have e1 : aft offT xs = xs := rfl
  constructor
  · refine (ans_bind _ _ _).trans ?_
    rw [e0, e1]
    exact ans_ret _ _
  · refine (aft_bind _ _ _).trans ?_
    rw [e0, e1]
    exact aft_ret _ _
theorem round_no {n m : Nat} {N : Int} {but : List Int} (k : Nat) (x : Int × Int × Bool) (l : List Int) (hx : x.2.2 = false) : (roundT n m N but (k + 1) x l : Tree (List Int) (dB k + 4 + 1)) = doneT l (dB k + 4) := if_pos hx
theorem round_got {n m : Nat} {N : Int} {but : List Int} (k : Nat) (a p : Int) (l : List Int) (hN : ((takeV n m but a l).length : Int) = N) : (roundT n m N but (k + 1) (a, p, true) l : Tree (List Int) (dB k + 4 + 1)) = doneT (takeV n m but a l) (dB k + 4) := (if_neg (fun h => Bool.noConfusion h)).trans (if_pos hN)
theorem round_go {n m : Nat} {N : Int} {but : List Int} (k : Nat) (a p : Int) (l : List Int) (hN : ¬ ((takeV n m but a l).length : Int) = N) : (roundT n m N but (k + 1) (a, p, true) l : Tree (List Int) (dB k + 5)) = (qAfterT 8 a p).bind fun y => roundT n m N but k y (takeV n m but a l) := (if_neg (fun h => Bool.noConfusion h)).trans (if_neg hN)
theorem round_end {n m : Nat} {N : Int} {but : List Int} (k : Nat) (x : Int × Int × Bool) (l xs : List Int) (hx : x.2.2 = false) : ans (roundT n m N but k x l) xs = l ∧ aft (roundT n m N but k x l) xs = xs := by
  cases k with
  | zero => exact done_alone l 0 xs
  | succ k =>
    exact ⟨(congrArg (fun T => ans T xs) (round_no k x l hx)).trans (done_alone _ _ _).1, (congrArg (fun T => aft T xs) (round_no k x l hx)).trans (done_alone _ _ _).2⟩
theorem take_node {n m : Nat} {but l : List Int} {j : Int} (h0 : 0 ≤ j) (h1 : j < n) : takeV n m but (nodeA m j) l = if j ∉ but then l ++ [j] else l := by
  have e : ownerV n m (nodeA m j) 0 = (j, true) := by
    have h9 := owner_at (m := m) (off := 0) h0 h1
    rw [Int.add_zero] at h9
    exact h9
  unfold takeV
  rw [e]
  by_cases h : j ∉ but
  · rw [if_pos ⟨rfl, h⟩, if_pos h]
  · rw [if_neg (fun h9 => h h9.2), if_neg h]
theorem round_alone {n m : Nat} {N : Int} {but : List Int} {qs : Nat → List Int} {xs : List Int} (h : QRead m qs xs) (hlt : ∀ p, p < 16 → ∀ j ∈ qs p, 0 ≤ j ∧ j < n) : ∀ (k : Nat) (P : Nat) (j : Int) (A rest l : List Int), P < 16 → qs P = A ++ j :: rest → (j :: (rest ++ tailL qs P)).length ≤ k → (l.length : Int) < N →
    ans (roundT n m N but k (nodeA m j, (P : Int), true) l) xs = bestF N but l (j :: (rest ++ tailL qs P)) ∧ aft (roundT n m N but k (nodeA m j, (P : Int), true) l) xs = xs := by
  intro k
  induction k with
  | zero => exact fun P j A rest l _ _ h9 _ => absurd h9 (by simp)
  | succ k ih =>
    intro P j A rest l hP hq hk hl
    obtain ⟨j0, j1⟩ := hlt P hP j (by rw [hq]; simp)
    have eB : bestF N but l (j :: (rest ++ tailL qs P)) = bestF N but (takeV n m but (nodeA m j) l) (rest ++ tailL qs P) := by
      rw [bestF, take_node j0 j1]
      by_cases hb : j ∈ but
      · rw [if_neg (fun h9 => by simp at h9; exact h9.2 hb), if_neg (fun h9 => h9 hb)]
      · rw [if_pos ⟨hl, by simpa using hb⟩, if_pos hb]
    have hlen := takeV_len n m but (nodeA m j) l
    rw [eB]
    by_cases hN : ((takeV n m but (nodeA m j) l).length : Int) = N
    · rw [best_stop _ _ (by omega)]
      exact ⟨(congrArg (fun T => ans T xs) (round_got k _ _ l hN)).trans (done_alone _ _ _).1, (congrArg (fun T => aft T xs) (round_got k _ _ l hN)).trans (done_alone _ _ _).2⟩
    · have ea : aft (qAfterT 8 (nodeA m j) (P : Int)) xs = xs := aft_after _ _ _ _
      have e1 := (congrArg (fun T => ans T xs) (round_go (p := (P : Int)) k (nodeA m j) l hN)).trans (ans_bind _ _ _)
      have e2 := (congrArg (fun T => aft T xs) (round_go (p := (P : Int)) k (nodeA m j) l hN)).trans (aft_bind _ _ _)
      rw [ea] at e1 e2
      have e1' : ans (roundT n m N but (k + 1) (nodeA m j, (P : Int), true) l) xs = _ := e1
      have e2' : aft (roundT n m N but (k + 1) (nodeA m j, (P : Int), true) l) xs = _ := e2
      rw [e1', e2']
      clear e1 e2 e1' e2' eB
      generalize takeV n m but (nodeA m j) l = l' at *
      rcases h.next hP hq with ⟨h1, h2⟩ | ⟨i, P2, A2, r2, h1, h2, h3, h4⟩
      · rw [h1]
        exact round_end k _ _ _ h2
      · rw [h1, h4]
        refine ih P2 i A2 r2 l' h2 h3 ?_ (by omega)
        rw [← h1]
        simp only [List.length_cons] at hk
        omega
theorem best_alone {n m : Nat} {N : Int} {but : List Int} {qs : Nat → List Int} {xs : List Int} (h : QRead m qs xs) (hlt : ∀ p, p < 16 → ∀ j ∈ qs p, 0 ≤ j ∧ j < n) (k : Nat) (hk : (tailL qs 16).length ≤ k) :
    ans (bestT n m N but k) xs = bestF N but [] (tailL qs 16) ∧ aft (bestT n m N but k) xs = xs := by
  unfold bestT
  by_cases hN : N ≤ 0
  · rw [if_pos hN, best_stop _ _ (by simpa using hN)]
    exact ⟨ans_ret _ _, aft_ret _ _⟩
  · rw [if_neg hN]
    have ea : aft (belowT 8 16) xs = xs := aft_below _ _ _
    have e1 : ans ((belowT 8 16).bind fun x => roundT n m N but k x []) xs = ans (roundT n m N but k (ans (belowT 8 16) xs) []) xs := by
      refine (ans_bind _ _ _).trans ?_
      rw [ea]
    have e2 : aft ((belowT 8 16).bind fun x => roundT n m N but k x []) xs = aft (roundT n m N but k (ans (belowT 8 16) xs) []) xs := by
      refine (aft_bind _ _ _).trans ?_
      rw [ea]
    rw [e1, e2]
    rcases h.below 16 (Nat.le_refl _) with ⟨h1, h2⟩ | ⟨P, j, rest, h1, h2, h3, h4⟩
    · have h2' : ans (belowT 8 16) xs = (0, 0, false) := h2
      rw [h2', h1]
      exact round_end k _ _ _ rfl
    · have h4' : ans (belowT 8 16) xs = (nodeA m j, (P : Int), true) := h4
      rw [h4', h3]
      exact round_alone h hlt k P j [] rest [] h1 h2 (by rw [← h3]; exact hk) (by simp; omega)
/-- No more are ready than there are. -/
theorem SimOk.all {n : Nat} {m : Sim14} (h : SimOk n m) : (tailL m.qs 16).length ≤ n := by
  have hm : ∀ l j, j ∈ tailL m.qs l → ∃ p, p < l ∧ j ∈ m.qs p := by
    intro l
    induction l with
    | zero => exact fun j hj => absurd hj (by simp [tailL])
    | succ l ih =>
      intro j hj
      rw [tailL] at hj
      rcases List.mem_append.1 hj with hj | hj
      · exact ⟨l, Nat.lt_succ_self l, hj⟩
      · obtain ⟨p, hp, hj⟩ := ih j hj
        exact ⟨p, by omega, hj⟩
  have hn : ∀ l, (tailL m.qs l).Nodup := by
    intro l
    induction l with
    | zero => exact List.nodup_nil
    | succ l ih =>
      rw [tailL]
      refine List.nodup_append.2 ⟨h.nod l, ih, fun a ha c hc e => ?_⟩
      subst e
      obtain ⟨p, hp, hj⟩ := hm l a hc
      obtain ⟨i, hi, _, _, h3⟩ := h.mem _ _ ha
      obtain ⟨i', hi', _, _, h3'⟩ := h.mem _ _ hj
      have : i = i' := by omega
      subst this
      omega
  refine nodup_len n _ (hn 16) (fun j hj => ?_)
  obtain ⟨p, _, hj⟩ := hm 16 j hj
  obtain ⟨i, hi, h1, _, _⟩ := h.mem _ _ hj
  omega
end Go.Sept

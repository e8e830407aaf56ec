/-
  Package thread: Get and Set as trees of accesses, for functions that take a plan (DoesIn); the bodies of septumlaw13. Conditions: the plan is one that Of makes; all of it lies in blocks that are not the same.
-/
import Derived.Test.YtmcmjcaigipoaaaGreatThread13
namespace Go.Sept
open Go.RowKit
/-- One bag holds what another one does. -/
structure Bag.Le (C B : Bag) : Prop where
  p : ∀ w, B.P w → C.P w
  v : ∀ k, C.V k → B.V k
theorem Bag.Le.refl (B : Bag) : B.Le B := ⟨fun _ h => h, fun _ h => h⟩
def getT (n m : Nat) (t f : Int) : Tree Int 1 := if fieldV n m t f < 0 then .ret 0 else loadT (fieldV n m t f)
def setT (n m : Nat) (t f v : Int) : Tree Unit 1 := if fieldV n m t f < 0 then .ret () else storeT (fieldV n m t f) v
/-- What a body keeps, beside what it only reads. -/
def besideK {α : Type} (K : Kept α) (C : Bag) : Kept α where
  V := fun k => K.V k ∨ C.V k
  W := K.W
  Pre := fun w => K.Pre w ∧ C.P w
  Post := K.Post
  sub := fun k h => .inl (K.sub k h)
  low := fun w k h hk => hk.elim (K.low w k h.1) (C.low w k h.2)
  keep := fun S w w' h ho hv => ⟨K.keep S w w' h.1 ho (fun k hk => hv k (.inl hk)), C.keep S w w' h.2 ho (fun k hk => hv k (.inr hk))⟩
  held := fun S b x w w' h ho hv hb => K.held S b x w w' h ho (fun k hk => hv k (.inl hk)) hb
  less := K.less
end Go.Sept

namespace Go.Proofs.YtmcmjcaigipoaaaGreat
open Go.RowKit Go.Sept

/-- The function fn, called with a frame, beside C, does the tree T, and answers by it. -/
def DoesIn (C : Bag) {α : Type} {n : Nat} (fn : Nat) (args : Value → Array Value) (T : Tree α n) (out : α → Value) : Prop :=
  ∀ (w : World) (F lb p q : Nat) (s : FrSt) (xs : List Int), FMIs w F lb p q s xs → Fit n s → C.P w → (∀ k, C.V k → k ≠ F ∧ k ≠ lb ∧ k ≠ p ∧ k ≠ q) →
    Calls Tryz.prog fn (args (ptrV F)) w fun e w' => e = .returned (out (T.run s xs).1) ∧ Left w F lb p q (T.run s xs).2.1 (T.run s xs).2.2 w'

section
variable {w w1 w2 : World} {F lb p q : Nat} {S : Nat → Prop} {B C : Bag} {α β : Type} {n m : Nat} {R : β × FrSt × List Int}
theorem At.callIn {t : Tree α n} {g : α → Tree β m} {fn : Nat} {args : Value → Array Value} {out : α → Value} (h : At w F lb p q S B (Tree.bind t g) R w1) (hc : DoesIn C fn args t out) (hle : C.Le B) :
    Calls Tryz.prog fn (args (ptrV F)) w1 fun e w2 => ∃ x, e = .returned (out x) ∧ At w F lb p q S B (g x) R w2 := by
  obtain ⟨s, xs, lb1, h1, h2, h3, h4, h5, h6⟩ := h
  refine (hc w1 F lb1 p q s xs h1 (h5.mono (Nat.le_add_left _ _)) (hle.p _ h4.1) (fun k hk => h4.2 k (hle.v k hk))).mono ?_
  rintro e w2 ⟨rfl, hL⟩
  exact ⟨_, rfl, At.over h2 h3 h4 hL (t.fit (by rwa [Nat.add_comm]) xs) (by rw [← h6, Tree.run_bind])⟩
theorem At.tailIn {t : Tree β n} {fn : Nat} {args : Value → Array Value} {out : β → Value} (h : At w F lb p q S B t R w1) (hc : DoesIn C fn args t out) (hle : C.Le B) :
    Calls Tryz.prog fn (args (ptrV F)) w1 fun e w2 => ∃ x, e = .returned (out x) ∧ At w F lb p q S B (Tree.ret x : Tree β 0) R w2 := by
  obtain ⟨s, xs, lb1, h1, h2, h3, h4, h5, h6⟩ := h
  refine (hc w1 F lb1 p q s xs h1 h5 (hle.p _ h4.1) (fun k hk => h4.2 k (hle.v k hk))).mono ?_
  rintro e w2 ⟨rfl, hL⟩
  exact ⟨_, rfl, At.over h2 h3 h4 hL (t.fit (k := 0) h5 xs) (by rw [← h6, Tree.run_ret])⟩
/-- To show that a function does a tree, beside C. -/
theorem DoesIn.of {T : Tree β n} {fn : Nat} {args : Value → Array Value} {out : β → Value}
    (h : ∀ (w : World) (F lb p q : Nat) (R : β × FrSt × List Int), At w F lb p q (fun _ => False) C T R w → Calls Tryz.prog fn (args (ptrV F)) w fun e w' => ∃ x B', e = .returned (out x) ∧ At w F lb p q (fun _ => False) B' (Tree.ret x : Tree β 0) R w') : DoesIn C fn args T out := by
  intro w F lb p q s xs hm hf hP hV
  refine (h w F lb p q _ (At.start hm hf hP hV)).mono ?_
  rintro e w' ⟨x, B', rfl, s', xs', lb1, a1, a2, a3, a4, a5, a6⟩
  rw [← a6, Tree.run_ret]
  exact ⟨rfl, lb1, a1, a2, a3.mono (fun k _ e => by
    rcases e with e | e | e | e
    · exact .inl e
    · exact .inr (.inl e)
    · exact .inr (.inr e)
    · exact e.elim)⟩
/-- A store into the one block beside the frame, and beside what is only read. -/
theorem At.setIn {T : Tree β n} {U : Nat} {c : Array Value} {t : TypeId} (h : At w F lb p q (fun k => k = U) ((Bag.one U (.cells c t)).and C) T R w1) (hC : ¬ C.V U) (i : Nat) (v : Value) : At w F lb p q (fun k => k = U) ((Bag.one U (.cells (c.setIfInBounds i v) t)).and C) T R (w1.setCell ⟨U, i, none⟩ v) :=
  h.turn (S2 := fun k => k = U) ((Only.self U w1).own i v) (fun _ h => .inl h) (fun _ _ h => h) ⟨block_setCell h.bag.1 i v, C.keep _ _ _ h.bag.2 ((Only.self U w1).own i v) (fun _ hk e => hC (e ▸ hk))⟩ (fun _ h => .inl h)
end

/-- The threads of a plan, in blocks of Q. -/
def thBag (cs : Array Value) (n m : Nat) (Q : Nat → Prop) : Bag where
  V := Q
  P := fun w => ThIs Q w cs n m ∧ ∀ k, Q k → k < w.heap.size
  low := fun _ k h hk => h.2 k hk
  keep := fun _ _ _ h ho hv => ⟨h.1.only ho hv, fun k hk => Nat.lt_of_lt_of_le (h.2 k hk) ho.size⟩

set_option maxRecDepth 100000 in
set_option maxHeartbeats 1000000 in
theorem tGet_does (Q : Nat → Prop) (cs : Array Value) (n m : Nat) (t f : Int) : DoesIn (thBag cs n m Q) 108 (fun F => #[F, .agg cs, .int .i64 t, .int .i64 f]) (getT n m t f) (.int .i64) := by
  refine DoesIn.of fun w F lb p q R h => ?_
  have hT := h.bag.1
  obtain ⟨hn, hm, ta, oa, za, zb, zc, zd, rfl, _⟩ := h.bag.1
  have hW : ∃ W y, W = w.alloc (plO (planCs n m ta oa (.slice za n zc) (.slice zb m zd))) ∧ y = w.heap.size ∧ Only (fun _ => False) w W ∧ W.heap[y]? = some (plO (planCs n m ta oa (.slice za n zc) (.slice zb m zd))) := ⟨_, _, rfl, rfl, (Only.refl _ _).alloc _, heap_new _ _⟩
  obtain ⟨W, y, hWe, hye, hoW, hby⟩ := hW
  obtain ⟨V, hV⟩ : ∃ V, fieldV n m t f = V := ⟨_, rfl⟩
  have HF : Hid (Calls Tryz.prog 80 #[.agg (planCs n m ta oa (.slice za n zc) (.slice zb m zd)), .int .i64 t, .int .i64 f] W fun e w' => e = .returned (.int .i64 V) ∧ Only (fun _ => False) W w') := hV ▸ fieldAt_rel W _ n m (hT.only hoW (fun _ _ h => h)) t f
  obtain ⟨BG, hBG⟩ : ∃ BG, thBag (planCs n m ta oa (.slice za n zc) (.slice zb m zd)) n m Q = BG := ⟨_, rfl⟩
  have H : Hid (At w F lb p q (fun _ => False) BG (if V < 0 then (Tree.ret 0 : Tree Int 1) else loadT V) R W) := by
    have h9 := h.still hoW
    rw [hBG, getT, hV] at h9
    exact h9
  obtain ⟨c0, c1, c2, c3, c4, c5, c6, c7, c8, c9, c10, c11, c12, c13⟩ := plan_cells hby
  clear hT hoW hby hV h hBG
  go_enter Tryz.func108, Tryz.ntmps108
  go_upto_region 1 with fail
  rw [← hWe, ← hye]
  clear hWe hye
  go_wp2_with fail
  refine HF.out.mono ?_
  rintro e w2 ⟨rfl, ho2⟩
  have H2 := hid (H.out.still ho2)
  clear ho2 H HF c0 c1 c2 c3 c4 c5 c6 c7 c8 c9 c10 c11 c12 c13
  by_cases hv : V < 0
  · have H3 := hid (H2.out.pos hv)
    clear H2
    go_wp2_with fail
    go_ret
    exact ⟨_, BG, rfl, H3.out.fin⟩
  · have H3 := hid (H2.out.neg hv)
    clear H2
    go_wp2_with fail
    refine (H3.out.tail (load_does V)).mono ?_
    rintro e w3 ⟨x, rfl, h4⟩
    have H4 := hid h4
    clear H3 h4
    go_wp2_with fail
    go_ret
    exact ⟨_, BG, rfl, H4.out⟩

set_option maxRecDepth 100000 in
set_option maxHeartbeats 1000000 in
theorem tSet_does (Q : Nat → Prop) (cs : Array Value) (n m : Nat) (t f v : Int) : DoesIn (thBag cs n m Q) 46 (fun F => #[F, .agg cs, .int .i64 t, .int .i64 f, .int .i64 v]) (setT n m t f v) (fun _ => .tuple #[]) := by
  refine DoesIn.of fun w F lb p q R h => ?_
  have hT := h.bag.1
  obtain ⟨hn, hm, ta, oa, za, zb, zc, zd, rfl, _⟩ := h.bag.1
  have hW : ∃ W y, W = w.alloc (plO (planCs n m ta oa (.slice za n zc) (.slice zb m zd))) ∧ y = w.heap.size ∧ Only (fun _ => False) w W ∧ W.heap[y]? = some (plO (planCs n m ta oa (.slice za n zc) (.slice zb m zd))) := ⟨_, _, rfl, rfl, (Only.refl _ _).alloc _, heap_new _ _⟩
  obtain ⟨W, y, hWe, hye, hoW, hby⟩ := hW
  obtain ⟨V, hV⟩ : ∃ V, fieldV n m t f = V := ⟨_, rfl⟩
  have HF : Hid (Calls Tryz.prog 80 #[.agg (planCs n m ta oa (.slice za n zc) (.slice zb m zd)), .int .i64 t, .int .i64 f] W fun e w' => e = .returned (.int .i64 V) ∧ Only (fun _ => False) W w') := hV ▸ fieldAt_rel W _ n m (hT.only hoW (fun _ _ h => h)) t f
  obtain ⟨BG, hBG⟩ : ∃ BG, thBag (planCs n m ta oa (.slice za n zc) (.slice zb m zd)) n m Q = BG := ⟨_, rfl⟩
  have H : Hid (At w F lb p q (fun _ => False) BG (if V < 0 then (Tree.ret () : Tree Unit 1) else storeT V v) R W) := by
    have h9 := h.still hoW
    rw [hBG, setT, hV] at h9
    exact h9
  obtain ⟨c0, c1, c2, c3, c4, c5, c6, c7, c8, c9, c10, c11, c12, c13⟩ := plan_cells hby
  clear hT hoW hby hV h hBG
  go_enter Tryz.func46, Tryz.ntmps46
  go_upto_region 1 with fail
  rw [← hWe, ← hye]
  clear hWe hye
  go_wp2_with fail
  refine HF.out.mono ?_
  rintro e w2 ⟨rfl, ho2⟩
  have H2 := hid (H.out.still ho2)
  clear ho2 H HF c0 c1 c2 c3 c4 c5 c6 c7 c8 c9 c10 c11 c12 c13
  by_cases hv : V < 0
  · have H3 := hid (H2.out.pos hv)
    clear H2
    go_wp2_with fail
    refine bodyPost_ret (results_none rfl _ _ _) rfl ?_
    exact ⟨_, BG, rfl, H3.out.fin⟩
  · have H3 := hid (H2.out.neg hv)
    clear H2
    go_wp2_with fail
    refine (H3.out.tail (store_does V v)).mono ?_
    rintro e w3 ⟨x, rfl, h4⟩
    have H4 := hid h4
    clear H3 h4
    go_wp2_with fail
    go_end0
    exact ⟨_, BG, rfl, H4.out⟩

end Go.Proofs.YtmcmjcaigipoaaaGreat

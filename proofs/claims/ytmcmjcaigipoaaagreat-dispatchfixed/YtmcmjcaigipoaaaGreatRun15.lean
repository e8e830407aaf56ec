/-
  frame.Run of septumlaw15's act, for any trees of package dispatch's calls that keep the chapter (Disp15); how a partition begins. Conditions: all of it lies in blocks that are not the same.
-/
import Derived.Test.YtmcmjcaigipoaaaGreatModel15
import Derived.Test.YtmcmjcaigipoaaaGreatSettle15
import Derived.Test.YtmcmjcaigipoaaaGreatBody15
import Derived.Test.YtmcmjcaigipoaaaGreatBegin14
import Derived.Test.YtmcmjcaigipoaaaGreatCall15
namespace Go.Sept
open Go.RowKit
/-- What package dispatch's calls answer and leave, of a partition's words. -/
structure Disp15 {d e g : Nat} (N n mo : Nat) (cur : Int → Tree (Int × Bool) d) (cal : Int → Tree Bool e) (disp : Int → Tree (Int × Bool) g) : Prop where
  c0 : ∀ s hd a b xs, Raw15 N n mo s hd a b xs → -1 ≤ a → a < n → ans (cur 0) xs = (if 0 ≤ a then (a, true) else (0, false))
  c1 : ∀ s hd a b xs, Raw15 N n mo s hd a b xs → -1 ≤ b → b < n → ans (cur 1) xs = (if 0 ≤ b then (b, true) else (0, false))
  ck : ∀ k xs, aft (cur k) xs = xs
  ak : ∀ k xs, aft (cal k) xs = xs
  d0 : ∀ s hd a b xs, SimOk n s → Raw15 N n mo s hd a b xs → -1 ≤ a → a < n → -1 ≤ b → b < n → Raw15 N n mo s hd (dispM (tailL s.qs 16) (fxM n s hd) a b) b (aft (disp 0) xs) ∧ ans (disp 0) xs = (if 0 ≤ dispM (tailL s.qs 16) (fxM n s hd) a b then (dispM (tailL s.qs 16) (fxM n s hd) a b, true) else (0, false))
  d1 : ∀ s hd a b xs, SimOk n s → Raw15 N n mo s hd a b xs → -1 ≤ a → a < n → -1 ≤ b → b < n → Raw15 N n mo s hd a (dispM (tailL s.qs 16) (fxM n s hd) b a) (aft (disp 1) xs) ∧ ans (disp 1) xs = (if 0 ≤ dispM (tailL s.qs 16) (fxM n s hd) b a then (dispM (tailL s.qs 16) (fxM n s hd) b a, true) else (0, false))
  dk : ∀ k xs, k ≠ 0 → k ≠ 1 → aft (disp k) xs = xs ∧ ans (disp k) xs = (0, false)
theorem boot_raw15 {pt : Pt} (h : partW pt = 0) : Raw15 (43 + pt.obs.length + pt.ths.length * 24 + pt.obs.length * 24) pt.ths.length pt.obs.length (sim0 pt) (fun _ => 0) (coreV (tailL (sim0 pt).qs 16) 0 - 1) (coreV (tailL (sim0 pt).qs 16) 1 - 1) (bootX 16 [3, 5] pt pt.ths.length pt.obs.length) := by
  obtain ⟨_, h3, h5⟩ := boot_words h
  have e : ordN (rdyN pt.ths pt.ths.length) 16 = tailL (sim0 pt).qs 16 := ordN_all _
  rw [e] at h3 h5
  refine ⟨boot_raw h, fun t ht => ?_, by rw [h3]; omega, by rw [h5]; omega⟩
  have h9 := boot_field h t _ (List.getElem?_eq_getElem ht) 15 (by decide) (by decide)
  rw [if_neg (by decide)] at h9
  exact h9
/-- Who runs at the beginning. -/
theorem core_two {n : Nat} {s : Sim14} (h : SimOk n s) (i : Nat) : -1 ≤ coreV (tailL s.qs 16) i - 1 ∧ coreV (tailL s.qs 16) i - 1 < n := by
  unfold coreV
  cases hx : (tailL s.qs 16)[i]? with
  | none => simp only; omega
  | some j =>
    obtain ⟨q, _, hj⟩ := tail_mem15 s.qs 16 (List.mem_of_getElem? hx)
    obtain ⟨t, rfl, ht, _⟩ := h.mem q _ hj
    simp only
    omega
end Go.Sept
namespace Go.Proofs.YtmcmjcaigipoaaaGreat
open Go.RowKit Go.Sept

theorem held15_new {p : Pt} {R : Nat → Option Value} (h : ∀ (t : Nat) (x : Th) (i : Nat), p.ths[t]? = some x → i < 14 → R (t * 14 + i) = (thrCs x.prio)[i]?) : Held15 R p.ths.length (fun _ => 0) := fun t ht =>
  ⟨none, 0, h t _ 11 (List.getElem?_eq_getElem ht) (by decide), Nat.le_refl _, by decide⟩

theorem run_unit15 {V w : World} {n m g r U : Nat} {ta oa za zb : Option Addr} {zc zd : Nat} {xs : List Int} (h : Mid13 V w (planCs n m ta oa (.slice za n zc) (.slice zb m zd)) n m g r xs) {j fn : Nat} {T : Tree Unit j} {o : Obj} (hj : j ≤ 5000) (hB : BodyIn T fn (ptrV U) (besideK (readK U o) (thBag (planCs n m ta oa (.slice za n zc) (.slice zb m zd)) n m (fun k => k < V.heap.size))) 6000) (hU : w.heap[U]? = some o) (h2 : U ≠ g) (h3 : U ≠ r) :
    Calls Tryz.prog 12 #[.pointer (some ⟨g, 0, none⟩), bodyV fn (ptrV U), .int .i64 5000] w fun e w' => e = .returned (.bool true) ∧ Mid13 V w' (planCs n m ta oa (.slice za n zc) (.slice zb m zd)) n m g r (aft T xs) ∧ Only (fun k => k = r) w w' := by
  have hle := T.alone_le xs
  have hz := h.only.size
  refine (hB.run_all w g r xs 5000 (.inl ⟨rfl, h.mem⟩) (lt_of_block h.mem.head) h.mem.row.lt ⟨hU, h.th, fun k hk => by omega⟩ ?_ (by omega) (by decide) (by decide) (by omega)).mono ?_
  · have a1 := h.hg
    have a2 := h.hr
    rintro k (rfl | hk)
    · exact ⟨h2, h3⟩
    · have hk' : k < V.heap.size := hk
      omega
  · rintro e w' ⟨rfl, k1, k2, k3, k4⟩
    have k5 : Only (fun k => k = r) w w' := k4.mono (fun k _ e => e.elim (fun h => h) (fun h => h.elim))
    have a2 := h.hr
    have hp : 0 < (aft T xs).length := by rw [aft_length]; exact h.pos
    exact ⟨rfl, ⟨k2.2.1, holds_mem k1 hp, h.hg, h.hr, hp, h.only.chain k5 (fun i hi e => by omega)⟩, k5⟩

/-- An op that is no dispatch. -/
theorem run_act15 {V w : World} {n m g r U : Nat} {ta oa za zb : Option Addr} {zc zd : Nat} {xs : List Int} (h : Mid13 V w (planCs n m ta oa (.slice za n zc) (.slice zb m zd)) n m g r xs) (o : Op15) (hk0 : 0 ≤ o.k) (hk : o.k ≤ 4) (hn : 0 ≤ o.n) (x : Int × Bool) (hU : w.heap[U]? = some (act15O n m ta oa za zb zc zd o.k o.t o.p o.f o.n x)) (h2 : U ≠ g) (h3 : U ≠ r) :
    Calls Tryz.prog 12 #[.pointer (some ⟨g, 0, none⟩), bodyV 13 (ptrV U), .int .i64 5000] w fun e w' => e = .returned (.bool true) ∧ Mid13 V w' (planCs n m ta oa (.slice za n zc) (.slice zb m zd)) n m g r (aftOp15 n m o xs) ∧ Only (fun k => k = r) w w' := by
  unfold aftOp15
  by_cases k0 : o.k = 0
  · rw [if_pos k0]
    exact run_unit15 h (by decide) (act15_ready (by decide) _ U n m ta oa za zb zc zd o.k o.t o.p o.f o.n x k0 (ready14 _ (planCs n m ta oa (.slice za n zc) (.slice zb m zd)) n m o.t)) hU h2 h3
  · rw [if_neg k0]
    by_cases k1 : o.k = 1
    · rw [if_pos k1]
      exact run_unit15 h (by decide) (act15_unready (by decide) _ U n m ta oa za zb zc zd o.k o.t o.p o.f o.n x k1 (unready14F _ (planCs n m ta oa (.slice za n zc) (.slice zb m zd)) n m o.t 2)) hU h2 h3
    · rw [if_neg k1]
      by_cases k2 : o.k = 2
      · rw [if_pos k2]
        exact run_unit15 h (by decide) (act15_change (by decide) _ U n m ta oa za zb zc zd o.k o.t o.p o.f o.n x k2 (change14F _ (planCs n m ta oa (.slice za n zc) (.slice zb m zd)) n m o.t o.p o.f)) hU h2 h3
      · rw [if_neg k2]
        by_cases k3 : o.k = 3
        · rw [if_pos k3]
          exact run_unit15 h (by decide) (act15_yield (by decide) _ U n m ta oa za zb zc zd o.k o.t o.p o.f o.n x k3 (yield14F _ (planCs n m ta oa (.slice za n zc) (.slice zb m zd)) n m o.t)) hU h2 h3
        · rw [if_neg k3]
          exact run_unit15 h (by decide) (act15_held (by decide) _ U n m ta oa za zb zc zd o.k o.t o.p o.f o.n x (by omega) hn (tSet_does _ (planCs n m ta oa (.slice za n zc) (.slice zb m zd)) n m o.t 10 (o.n % 4))) hU h2 h3

/-- A dispatch. -/
theorem run_disp15 {V w : World} {n m g r U : Nat} {ta oa za zb : Option Addr} {zc zd : Nat} {xs : List Int} (h : Mid13 V w (planCs n m ta oa (.slice za n zc) (.slice zb m zd)) n m g r xs) {d : Nat} (disp : Int → Tree (Int × Bool) d) (hd : d ≤ 5000)
    (hD : ∀ k : Int, DoesIn (thBag (planCs n m ta oa (.slice za n zc) (.slice zb m zd)) n m (fun k => k < V.heap.size)) 47 (fun F => #[F, .agg (planCs n m ta oa (.slice za n zc) (.slice zb m zd)), .int .i64 k]) (disp k) (fun x => .tuple #[.int .i64 x.1, .bool x.2]))
    (o : Op15) (hk : 4 < o.k) (x : Int × Bool) (hU : w.heap[U]? = some (act15O n m ta oa za zb zc zd o.k o.t o.p o.f o.n x)) (h1 : V.heap.size ≤ U) (h2 : U ≠ g) (h3 : U ≠ r) :
    Calls Tryz.prog 12 #[.pointer (some ⟨g, 0, none⟩), bodyV 13 (ptrV U), .int .i64 5000] w fun e w' => e = .returned (.bool true) ∧ Mid13 V w' (planCs n m ta oa (.slice za n zc) (.slice zb m zd)) n m g r (aft (disp o.t) xs) ∧ w'.heap[U]? = some (act15O n m ta oa za zb zc zd o.k o.t o.p o.f o.n (ans (disp o.t) xs)) ∧ Only (fun k => k = r ∨ k = U) w w' := by
  have hle := (disp o.t).alone_le xs
  have hz := h.only.size
  refine ((act15_disp (by omega) _ U n m ta oa za zb zc zd (show ¬ U < V.heap.size by omega) o.k o.t o.p o.f o.n hk (hD o.t)).run_all w g r xs 5000 (.inl ⟨rfl, h.mem⟩) (lt_of_block h.mem.head) h.mem.row.lt ⟨⟨x, hU⟩, h.th, fun k hk => by omega⟩ ?_ (by omega) (by decide) (by decide) (by omega)).mono ?_
  · have a1 := h.hg
    have a2 := h.hr
    rintro k (rfl | hk)
    · exact ⟨h2, h3⟩
    · have hk' : k < V.heap.size := hk
      omega
  · rintro e w' ⟨rfl, k1, k2, k3, k4⟩
    have k5 : Only (fun k => k = r ∨ k = U) w w' := k4
    have a2 := h.hr
    have hp : 0 < (aft (disp o.t) xs).length := by rw [aft_length]; exact h.pos
    exact ⟨rfl, ⟨k2.2.1, holds_mem k1 hp, h.hg, h.hr, hp, h.only.chain k5 (fun i hi e => by omega)⟩, k3, k5⟩
end Go.Proofs.YtmcmjcaigipoaaaGreat

/-
  What package dispatch's calls answer and leave of a partition's words, as plain mathematics. Conditions: as each says.
-/
namespace Go.Sept
open Go.RowKit
theorem whoV_at {n : Nat} (hn : n ≤ 6) {a : Int} (h0 : -1 ≤ a) (h1 : a < n) : whoV n (a + 1) = a := by
  have e : IntKind.i64.wrap (a + 1 - 1) = a := by rw [show a + 1 - 1 = a by omega]; exact IntWalk.i64_in a ⟨by omega, by omega⟩
  unfold whoV
  rw [e]
  split <;> omega
theorem who_alone (n : Nat) (k : Int) (xs : List Int) : ans (whoT n k) xs = whoV n (valA xs (curA k)) ∧ aft (whoT n k) xs = xs := by
  unfold whoT
  exact ⟨(ans_bind _ _ _).trans (ans_ret _ _), (aft_bind _ _ _).trans (aft_ret _ _)⟩
theorem cur_aft (n : Nat) (k : Int) (xs : List Int) : aft (curT n k) xs = xs := by
  unfold curT
  split
  · refine (aft_bind _ _ _).trans ?_
    rw [(who_alone n k xs).2]
    exact aft_ret _ _
  · exact aft_ret _ _
theorem cal_aft (k : Int) (xs : List Int) : aft (calT k) xs = xs := by
  unfold calT
  split
  · refine (aft_bind _ _ _).trans ?_
    exact aft_ret _ _
  · exact aft_ret _ _
theorem cur_ans {n : Nat} (hn : n ≤ 6) {k a : Int} {xs : List Int} (hk : 0 ≤ k ∧ k < 2) (h : valA xs (curA k) = a + 1) (h0 : -1 ≤ a) (h1 : a < n) : ans (curT n k) xs = (if 0 ≤ a then (a, true) else (0, false)) := by
  unfold curT
  rw [if_pos hk]
  refine (ans_bind _ _ _).trans ?_
  rw [(who_alone n k xs).2, (who_alone n k xs).1, h, whoV_at hn h0 h1, ans_ret]
  by_cases e : a = -1
  · rw [if_pos e, if_neg (by omega)]
  · rw [if_neg e, if_pos (by omega)]
theorem get_none {n m : Nat} {t f : Int} (h : t < 0) (xs : List Int) : ans (getT n m t f) xs = 0 := by
  unfold ans
  rw [get_ans, if_pos]
  unfold fieldV tplaceV
  split
  · rw [if_neg (by omega)]; decide
  · decide
section
variable {N n mo : Nat} {s : Sim14} {hd : Nat → Nat} {a b : Int} {xs : List Int}
theorem look_alone (h : Raw15 N n mo s hd a b xs) (hn : n ≤ 6) {k c : Int} (hc : valA xs (curA k) = c + 1) (h0 : -1 ≤ c) (h1 : c < n) : ans (lookT n mo k) xs = (c, fxM n s hd c) ∧ aft (lookT n mo k) xs = xs := by
  have e1 := who_alone n k xs
  rw [hc, whoV_at hn h0 h1] at e1
  have ea : ans (lookT n mo k) xs = ans ((getT n mo c 0).bind fun v => if v = 0 then (getT n mo c 10).bind fun h => (Tree.ret (c, decide (0 < h)) : Tree (Int × Bool) 0) else .ret (c, false)) xs := by
    unfold lookT
    refine (ans_bind _ _ _).trans ?_
    rw [e1.1, e1.2]
  have eb : aft (lookT n mo k) xs = aft ((getT n mo c 0).bind fun v => if v = 0 then (getT n mo c 10).bind fun h => (Tree.ret (c, decide (0 < h)) : Tree (Int × Bool) 0) else .ret (c, false)) xs := by
    unfold lookT
    refine (aft_bind _ _ _).trans ?_
    rw [e1.1, e1.2]
  have ec : ans (lookT n mo k) xs = if ans (getT n mo c 0) xs = 0 then (c, decide (0 < ans (getT n mo c 10) xs)) else (c, false) := by
    refine ea.trans ((ans_bind _ _ _).trans ?_)
    rw [aft_get]
    split
    · refine (ans_bind _ _ _).trans ?_
      exact ans_ret _ _
    · exact ans_ret _ _
  refine ⟨?_, ?_⟩
  · rw [ec]
    by_cases hc0 : c < 0
    · rw [get_none hc0, get_none hc0, if_pos rfl, fxM_out (by omega)]
      rfl
    · obtain ⟨t, rfl⟩ : ∃ t : Nat, c = (t : Int) := ⟨c.toNat, by omega⟩
      have htn : t < n := by omega
      rw [ans_getIn (by omega) h1 (by decide) (by decide), ans_getIn (by omega) h1 (by decide) (by decide), show nodeA mo (t : Int) + (5 + 0) = nodeA mo (t : Int) + 5 by omega, show nodeA mo (t : Int) + (5 + 10) = nodeA mo (t : Int) + 15 by omega, h.raw.st t htn, h.hld t htn, fxM_in htn]
      by_cases hs0 : s.st t = 0
      · rw [if_pos hs0, decide_eq_true hs0, Bool.true_and]
        have e9 : decide (0 < (hd t : Int)) = decide (0 < hd t) := decide_eq_decide.2 (by omega)
        rw [e9]
      · rw [if_neg hs0, decide_eq_false hs0, Bool.false_and]
  · rw [eb]
    refine (aft_bind _ _ _).trans ?_
    rw [aft_get]
    split
    · refine (aft_bind _ _ _).trans ?_
      rw [aft_get]
      exact aft_ret _ _
    · exact aft_ret _ _
theorem fxL_filter (fx : Int → Bool) (a b : Int) : fxL (a, fx a) (b, fx b) = [a, b].filter fx := by
  unfold fxL fxJ
  cases ha : fx a <;> cases hb : fx b <;> simp [ha, hb]
theorem best_raw (hs : SimOk n s) (h : Raw15 N n mo s hd a b xs) (hn : n ≤ 6) (k6 : Nat) (hk6 : k6 = 6) (F : List Int) : ans (bestT n mo (2 - (F.length : Int)) F k6) xs = best2 (tailL s.qs 16) F ∧ aft (bestT n mo (2 - (F.length : Int)) F k6) xs = xs := by
  refine best_alone h.raw.ring.read (fun p hp j hj => (h.raw.ring.mem p hp).2 j hj) k6 ?_
  have h9 := hs.all
  omega
theorem best2_in (hs : SimOk n s) (F : List Int) : ∀ x ∈ best2 (tailL s.qs 16) F, 0 ≤ x ∧ x < (n : Int) := by
  have h9 : ∀ (L out : List Int) (N : Int) (but : List Int), (∀ x ∈ L, 0 ≤ x ∧ x < (n : Int)) → (∀ x ∈ out, 0 ≤ x ∧ x < (n : Int)) → ∀ x ∈ bestF N but out L, 0 ≤ x ∧ x < (n : Int) := by
    intro L
    induction L with
    | nil => intro out N but _ h; exact h
    | cons y r ih =>
      intro out N but hL ho
      rw [bestF]
      refine ih _ _ _ (fun x hx => hL x (List.mem_cons_of_mem _ hx)) ?_
      split
      · intro x hx
        rcases List.mem_append.1 hx with hx | hx
        · exact ho x hx
        · rw [List.mem_singleton] at hx
          rw [hx]
          exact hL y (List.mem_cons_self ..)
      · exact ho
  refine h9 _ _ _ _ (fun x hx => ?_) (fun x hx => by cases hx)
  obtain ⟨q, _, hq⟩ := tail_mem15 s.qs 16 hx
  obtain ⟨t, rfl, ht, _⟩ := hs.mem q _ hq
  omega
theorem first_rng {L : List Int} {n : Nat} (h : ∀ x ∈ L, 0 ≤ x ∧ x < (n : Int)) (o : Int) : -1 ≤ firstNot o L ∧ firstNot o L < (n : Int) := by
  induction L with
  | nil => rw [firstNot]; omega
  | cons y r ih =>
    rw [firstNot]
    split
    · exact ih (fun x hx => h x (List.mem_cons_of_mem _ hx))
    · have := h y (List.mem_cons_self ..)
      omega
theorem choose_rng {L : List Int} {n : Nat} (h : ∀ x ∈ L, 0 ≤ x ∧ x < (n : Int)) (c o : Int) : -1 ≤ chooseV L c o ∧ chooseV L c o < (n : Int) := by
  unfold chooseV
  split
  · rename_i hc
    have := h _ hc
    omega
  · exact first_rng h o
theorem tail_alone0 {c : Int} (h : Raw15 N n mo s hd c b xs) (hn : n ≤ 6) (h0 : -1 ≤ c) (h1 : c < n) (l : List Int) (B : Int × Bool) : Raw15 N n mo s hd c b (aft (tailT n 0 l c B) xs) ∧ ans (tailT n 0 l c B) xs = (if 0 ≤ c then (c, true) else (0, false)) := by
  unfold tailT
  split
  · have h2 : Raw15 N n mo s hd c b (setA xs 4 1) := h.low (by decide) (by decide) c b (by rw [val_ne _ (by decide)]; exact h.c0) (by rw [val_ne _ (by decide)]; exact h.c1)
    refine ⟨?_, ?_⟩
    · rw [aft_bind]
      have e : aft (storeT (ipiA (1 - 0)) 1) xs = setA xs 4 1 := aft_store _ _ _
      rw [e, cur_aft]
      exact h2
    · rw [ans_bind]
      have e : aft (storeT (ipiA (1 - 0)) 1) xs = setA xs 4 1 := aft_store _ _ _
      rw [e]
      exact cur_ans hn ⟨by decide, by decide⟩ h2.c0 h0 h1
  · refine ⟨?_, ?_⟩
    · rw [aft_bind, aft_ret, cur_aft]
      exact h
    · rw [ans_bind, aft_ret]
      exact cur_ans hn ⟨by decide, by decide⟩ h.c0 h0 h1
theorem disp_alone0 (hs : SimOk n s) (h : Raw15 N n mo s hd a b xs) (hn : n ≤ 6) (hb0 : -1 ≤ a) (hb1 : a < n) (ho0 : -1 ≤ b) (ho1 : b < n) (k6 : Nat) (hk6 : k6 = 6) :
    Raw15 N n mo s hd (dispM (tailL s.qs 16) (fxM n s hd) a b) b (aft (dispT n mo k6 0) xs) ∧ ans (dispT n mo k6 0) xs = (if 0 ≤ dispM (tailL s.qs 16) (fxM n s hd) a b then (dispM (tailL s.qs 16) (fxM n s hd) a b, true) else (0, false)) := by
  obtain ⟨fx, hfx⟩ : ∃ fx, fxM n s hd = fx := ⟨_, rfl⟩
  obtain ⟨l, hl⟩ : ∃ l, best2 (tailL s.qs 16) ([a, b].filter fx) = l := ⟨_, rfl⟩
  have hlin : ∀ x ∈ l, 0 ≤ x ∧ x < (n : Int) := hl ▸ best2_in hs _
  have l1 := look_alone h hn (k := 0) (c := a) h.c0 hb0 hb1
  have l2 := look_alone h hn (k := 1) (c := b) h.c1 ho0 ho1
  rw [hfx] at l1 l2
  have lb := best_raw hs h hn k6 hk6 (fxL (a, fx a) (b, fx b))
  rw [fxL_filter, hl] at lb
  have hrun : aft (dispT n mo k6 0) xs = aft (setT15 n 0 (a, fx a) (b, fx b) l) xs ∧ ans (dispT n mo k6 0) xs = ans (setT15 n 0 (a, fx a) (b, fx b) l) xs := by
    unfold dispT
    rw [if_pos ⟨by decide, by decide⟩]
    refine ⟨(aft_bind _ _ _).trans ?_, (ans_bind _ _ _).trans ?_⟩
    · rw [l1.1, l1.2]
      refine (aft_bind _ _ _).trans ?_
      rw [show (1 : Int) - 0 = 1 by decide, l2.1, l2.2]
      refine (aft_bind _ _ _).trans ?_
      rw [fxL_filter, lb.1, lb.2]
    · rw [l1.1, l1.2]
      refine (ans_bind _ _ _).trans ?_
      rw [show (1 : Int) - 0 = 1 by decide, l2.1, l2.2]
      refine (ans_bind _ _ _).trans ?_
      rw [fxL_filter, lb.1, lb.2]
  rw [hrun.1, hrun.2, hfx]
  unfold dispM
  rw [hl]
  by_cases hf : fx a = true
  · rw [if_pos (.inl hf)]
    have e1 : setT15 n 0 (a, fx a) (b, fx b) l = (Tree.ret () : Tree Unit 1).bind fun _ => tailT n 0 l a (b, fx b) := by
      unfold setT15
      rw [if_pos hf]
    rw [e1, aft_bind, ans_bind, aft_ret]
    exact tail_alone0 h hn hb0 hb1 l _
  · have hcv : (if fx a = true ∨ a ∈ l then a else firstNot b l) = chooseV l a b := by
      unfold chooseV
      by_cases hm : a ∈ l
      · rw [if_pos (.inr hm), if_pos hm]
      · rw [if_neg (fun e => e.elim hf hm), if_neg hm]
    rw [hcv]
    have hcr := choose_rng hlin a b
    obtain ⟨cv, hce⟩ : ∃ cv, chooseV l a b = cv := ⟨_, rfl⟩
    rw [hce] at hcr ⊢
    have e1 : setT15 n 0 (a, fx a) (b, fx b) l = (storeT (curA 0) (IntKind.i64.wrap (chooseV l a b + 1))).bind fun _ => tailT n 0 l (chooseV l a b) (b, fx b) := by
      unfold setT15
      rw [if_neg hf]
    have hroom := h.raw.ring.room
    have hlen := h.raw.ring.len
    have ew : IntKind.i64.wrap (cv + 1) = cv + 1 := IntWalk.i64_in (cv + 1) ⟨by omega, by omega⟩
    rw [hce, ew] at e1
    have h2 : Raw15 N n mo s hd cv b (setA xs 3 (cv + 1)) := h.low (by decide) (by decide) cv b (by rw [val_set (by decide) (by omega), if_pos rfl]) (by rw [val_ne _ (by decide)]; exact h.c1)
    have es : aft (storeT (curA 0) (cv + 1)) xs = setA xs 3 (cv + 1) := aft_store _ _ _
    rw [e1, aft_bind, ans_bind, es]
    exact tail_alone0 h2 hn hcr.1 hcr.2 l _
theorem tail_alone1 {c : Int} (h : Raw15 N n mo s hd a c xs) (hn : n ≤ 6) (h0 : -1 ≤ c) (h1 : c < n) (l : List Int) (B : Int × Bool) : Raw15 N n mo s hd a c (aft (tailT n 1 l c B) xs) ∧ ans (tailT n 1 l c B) xs = (if 0 ≤ c then (c, true) else (0, false)) := by
  unfold tailT
  split
  · have h2 : Raw15 N n mo s hd a c (setA xs 2 1) := h.low (by decide) (by decide) a c (by rw [val_ne _ (by decide)]; exact h.c0) (by rw [val_ne _ (by decide)]; exact h.c1)
    refine ⟨?_, ?_⟩
    · rw [aft_bind]
      have e : aft (storeT (ipiA (1 - 1)) 1) xs = setA xs 2 1 := aft_store _ _ _
      rw [e, cur_aft]
      exact h2
    · rw [ans_bind]
      have e : aft (storeT (ipiA (1 - 1)) 1) xs = setA xs 2 1 := aft_store _ _ _
      rw [e]
      exact cur_ans hn ⟨by decide, by decide⟩ h2.c1 h0 h1
  · refine ⟨?_, ?_⟩
    · rw [aft_bind, aft_ret, cur_aft]
      exact h
    · rw [ans_bind, aft_ret]
      exact cur_ans hn ⟨by decide, by decide⟩ h.c1 h0 h1
theorem disp_alone1 (hs : SimOk n s) (h : Raw15 N n mo s hd a b xs) (hn : n ≤ 6) (hb0 : -1 ≤ b) (hb1 : b < n) (ho0 : -1 ≤ a) (ho1 : a < n) (k6 : Nat) (hk6 : k6 = 6) :
    Raw15 N n mo s hd a (dispM (tailL s.qs 16) (fxM n s hd) b a) (aft (dispT n mo k6 1) xs) ∧ ans (dispT n mo k6 1) xs = (if 0 ≤ dispM (tailL s.qs 16) (fxM n s hd) b a then (dispM (tailL s.qs 16) (fxM n s hd) b a, true) else (0, false)) := by
  obtain ⟨fx, hfx⟩ : ∃ fx, fxM n s hd = fx := ⟨_, rfl⟩
  obtain ⟨l, hl⟩ : ∃ l, best2 (tailL s.qs 16) ([b, a].filter fx) = l := ⟨_, rfl⟩
  have hlin : ∀ x ∈ l, 0 ≤ x ∧ x < (n : Int) := hl ▸ best2_in hs _
  have l1 := look_alone h hn (k := 1) (c := b) h.c1 hb0 hb1
  have l2 := look_alone h hn (k := 0) (c := a) h.c0 ho0 ho1
  rw [hfx] at l1 l2
  have lb := best_raw hs h hn k6 hk6 (fxL (b, fx b) (a, fx a))
  rw [fxL_filter, hl] at lb
  have hrun : aft (dispT n mo k6 1) xs = aft (setT15 n 1 (b, fx b) (a, fx a) l) xs ∧ ans (dispT n mo k6 1) xs = ans (setT15 n 1 (b, fx b) (a, fx a) l) xs := by
    unfold dispT
    rw [if_pos ⟨by decide, by decide⟩]
    refine ⟨(aft_bind _ _ _).trans ?_, (ans_bind _ _ _).trans ?_⟩
    · rw [l1.1, l1.2]
      refine (aft_bind _ _ _).trans ?_
      rw [show (1 : Int) - 1 = 0 by decide, l2.1, l2.2]
      refine (aft_bind _ _ _).trans ?_
      rw [fxL_filter, lb.1, lb.2]
    · rw [l1.1, l1.2]
      refine (ans_bind _ _ _).trans ?_
      rw [show (1 : Int) - 1 = 0 by decide, l2.1, l2.2]
      refine (ans_bind _ _ _).trans ?_
      rw [fxL_filter, lb.1, lb.2]
  rw [hrun.1, hrun.2, hfx]
  unfold dispM
  rw [hl]
  by_cases hf : fx b = true
  · rw [if_pos (.inl hf)]
    have e1 : setT15 n 1 (b, fx b) (a, fx a) l = (Tree.ret () : Tree Unit 1).bind fun _ => tailT n 1 l b (a, fx a) := by
      unfold setT15
      rw [if_pos hf]
    rw [e1, aft_bind, ans_bind, aft_ret]
    exact tail_alone1 h hn hb0 hb1 l _
  · have hcv : (if fx b = true ∨ b ∈ l then b else firstNot a l) = chooseV l b a := by
      unfold chooseV
      by_cases hm : b ∈ l
      · rw [if_pos (.inr hm), if_pos hm]
      · rw [if_neg (fun e => e.elim hf hm), if_neg hm]
    rw [hcv]
    have hcr := choose_rng hlin b a
    obtain ⟨cv, hce⟩ : ∃ cv, chooseV l b a = cv := ⟨_, rfl⟩
    rw [hce] at hcr ⊢
    have e1 : setT15 n 1 (b, fx b) (a, fx a) l = (storeT (curA 1) (IntKind.i64.wrap (chooseV l b a + 1))).bind fun _ => tailT n 1 l (chooseV l b a) (a, fx a) := by
      unfold setT15
      rw [if_neg hf]
    have hroom := h.raw.ring.room
    have hlen := h.raw.ring.len
    have ew : IntKind.i64.wrap (cv + 1) = cv + 1 := IntWalk.i64_in (cv + 1) ⟨by omega, by omega⟩
    rw [hce, ew] at e1
    have h2 : Raw15 N n mo s hd a cv (setA xs 5 (cv + 1)) := h.low (by decide) (by decide) a cv (by rw [val_ne _ (by decide)]; exact h.c0) (by rw [val_set (by decide) (by omega), if_pos rfl])
    have es : aft (storeT (curA 1) (cv + 1)) xs = setA xs 5 (cv + 1) := aft_store _ _ _
    rw [e1, aft_bind, ans_bind, es]
    exact tail_alone1 h2 hn hcr.1 hcr.2 l _
theorem disp_none {n mo k6 : Nat} {k : Int} (h0 : k ≠ 0) (h1 : k ≠ 1) (xs : List Int) : aft (dispT n mo k6 k) xs = xs ∧ ans (dispT n mo k6 k) xs = (0, false) := by
  unfold dispT
  rw [if_neg (by omega)]
  exact ⟨aft_ret _ _, ans_ret _ _⟩
/-- Package dispatch's trees keep the chapter. -/
theorem disp_is (N n mo : Nat) (hn : n ≤ 6) (k6 : Nat) (hk6 : k6 = 6) : Disp15 N n mo (curT n) calT (dispT n mo k6) where
  c0 := fun _ _ _ _ _ h h0 h1 => cur_ans hn ⟨by decide, by decide⟩ h.c0 h0 h1
  c1 := fun _ _ _ _ _ h h0 h1 => cur_ans hn ⟨by decide, by decide⟩ h.c1 h0 h1
  ck := fun k xs => cur_aft n k xs
  ak := fun k xs => cal_aft k xs
  d0 := fun _ _ _ _ _ hs h a0 a1 b0 b1 => disp_alone0 hs h hn a0 a1 b0 b1 k6 hk6
  d1 := fun _ _ _ _ _ hs h a0 a1 b0 b1 => disp_alone1 hs h hn b0 b1 a0 a1 k6 hk6
  dk := fun _ _ h0 h1 => disp_none h0 h1 _
end
end Go.Sept

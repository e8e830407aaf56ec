/-
  septumlaw11.copied: what stands between its rounds, and what a round leaves. Conditions: none.
-/
import Derived.Test.YtpmchlnnlanokaaFresh11
import Derived.Test.YtpmchlnnlanokaaCopied11
import Derived.Test.YtpmchlnnlanokaaMap11
import Derived.Test.YtpmchlnnlanokaaFew11
namespace Go.Proofs.Ytpmchlnnlanokaa
open Go.RowKit Go.Sept

abbrev thO (a b c d : Value) : Obj := .cells #[a, b, c, d] 43
/-- From lo on, and no block of a partition, a thread, a configuration. -/
def Gx (lo k : Nat) (T : TypeId) : Prop := lo ≤ k ∧ T ≠ 39 ∧ T ≠ 43 ∧ T ≠ 26
/-- From lo on, and no block of a partition, a configuration. -/
def Gy (lo k : Nat) (T : TypeId) : Prop := lo ≤ k ∧ T ≠ 39 ∧ T ≠ 26

section
variable {z : Nat} {w w' : World} {S : Nat → Prop}
theorem calmx (ho : Only S w w') (hz : ∀ k, k < z → ¬ S k) (hS : ∀ k, S k → ∃ cs T, w.heap[k]? = some (.cells cs T) ∧ (T = 39 ∨ T = 43 ∨ T = 26)) : Sept.Calm (Gx z) (Gx z) (fun k => k < z) w w' :=
  Sept.Calm.of ho (fun k T cs hg hc hs => by
    obtain ⟨cs', T', h1, h2⟩ := hS k hs
    rw [hc] at h1
    injection h1 with h1
    injection h1 with _ h1
    subst h1
    obtain ⟨_, g1, g2, g3⟩ := hg
    rcases h2 with h2 | h2 | h2
    · exact g1 h2
    · exact g2 h2
    · exact g3 h2) hz (fun _ _ h => h)
theorem calmy (ho : Only S w w') (hz : ∀ k, k < z → ¬ S k) (hS : ∀ k, S k → ∃ cs T, w.heap[k]? = some (.cells cs T) ∧ (T = 39 ∨ T = 26)) : Sept.Calm (Gy z) (Gy z) (fun k => k < z) w w' :=
  Sept.Calm.of ho (fun k T cs hg hc hs => by
    obtain ⟨cs', T', h1, h2⟩ := hS k hs
    rw [hc] at h1
    injection h1 with h1
    injection h1 with _ h1
    subst h1
    obtain ⟨_, g1, g2⟩ := hg
    rcases h2 with h2 | h2
    · exact g1 h2
    · exact g2 h2) hz (fun _ _ h => h)
theorem calmx_new (ho : Only (fun _ => False) w w') : Sept.Calm (Gx z) (Gx z) (fun k => k < z) w w' := calmx ho (fun _ _ h => h) (fun _ h => h.elim)
theorem calmy_new (ho : Only (fun _ => False) w w') : Sept.Calm (Gy z) (Gy z) (fun k => k < z) w w' := calmy ho (fun _ _ h => h) (fun _ h => h.elim)
theorem grow_still {e : TypeId} {size : Nat} {v : Value} {b n : Nat} {xs : List Value} (h : Grow e size w v b n xs) (ho : Only S w w') (hS : ∀ a, v.ownBlock = some a → ¬ S a) : Grow e size w' v b n xs := by
  refine ⟨⟨h.own.1, ?_⟩, h.spot⟩
  rcases h.own.2 with hn | ⟨g, cap, cur, rfl, hb0, hg, rest⟩
  · exact .inl hn
  · exact .inr ⟨g, cap, cur, rfl, hb0, (ho.block g (lt_of_block hg) (hS g rfl)).trans hg, rest⟩

/-- The threads that were copied. -/
def ThL (z : Nat) (wx : World) (cells : List Value) (i : Nat) (l : List Th) : Prop := ∀ a y, a < i → l[a]? = some y → ∃ v, cells[a * 4]? = some (.int .i64 y.prio) ∧ cells[a * 4 + 1]? = some (.int .u32 y.caps) ∧ cells[a * 4 + 2]? = some (.bool y.ctl) ∧ cells[a * 4 + 3]? = some v ∧ TSl (Gx z) 46 6 (clE fun k => k < z) wx v y.prog
theorem ThL.calm {cells : List Value} {i : Nat} {l : List Th} (h : ThL z w cells i l) (hc : Sept.Calm (Gx z) (Gx z) (fun k => k < z) w w') : ThL z w' cells i l := fun a y ha hy => by
  obtain ⟨v, h1, h2, h3, h4, h5⟩ := h a y ha hy
  exact ⟨v, h1, h2, h3, h4, hc.calls h5⟩
theorem app_old {xs ys : List Value} {i : Nat} {u : Value} (h : xs[i]? = some u) : (xs ++ ys)[i]? = some u := by
  rw [List.getElem?_append_left (List.getElem?_eq_some_iff.1 h).1]
  exact h
theorem app_new {xs ys : List Value} {n i : Nat} {u : Value} (hn : xs.length = n) (h : ys[i]? = some u) : (xs ++ ys)[n + i]? = some u := by
  rw [List.getElem?_append_right (by omega), hn, Nat.add_sub_cancel_left]
  exact h
theorem ThL.next {cells : List Value} {i : Nat} {l : List Th} {y : Th} {v : Value} (h : ThL z w cells i l) (hl : cells.length = i * 4) (hy : l[i]? = some y) (hv : TSl (Gx z) 46 6 (clE fun k => k < z) w v y.prog) : ThL z w (cells ++ [.int .i64 y.prio, .int .u32 y.caps, .bool y.ctl, v]) (i + 1) l := fun a x ha hx => by
  by_cases e : a = i
  · subst e
    rw [hy] at hx
    injection hx with hx
    subst hx
    exact ⟨v, app_new (i := 0) hl rfl, app_new (i := 1) hl rfl, app_new (i := 2) hl rfl, app_new (i := 3) hl rfl, hv⟩
  · obtain ⟨u, h1, h2, h3, h4, h5⟩ := h a x (by omega) hx
    exact ⟨u, app_old h1, app_old h2, app_old h3, app_old h4, h5⟩
theorem ThL.done {cells : List Value} {n : Nat} {l : List Th} {tv : Value} {tb : Nat} (h : ThL z w cells n l) (hg : Grow 43 4 w tv tb n cells) (hn : l.length = n) (hlow : z ≤ tb) (hb : ∀ y ∈ l, (-9223372036854775808 ≤ y.prio ∧ y.prio ≤ 9223372036854775807) ∧ (0 ≤ y.caps ∧ y.caps ≤ 4294967295)) :
    TSl (Gy z) 43 4 (thX tags11 (Gy z) fun k => k < z) w tv l := by
  subst hn
  refine Grow.tsl hg (fun _ => ⟨hlow, by decide, by decide⟩) fun hc i x hx => ?_
  obtain ⟨v, h1, h2, h3, h4, h5⟩ := h i x (List.getElem?_eq_some_iff.1 hx).1 hx
  obtain ⟨b1, b2⟩ := hb x (List.mem_of_getElem? hx)
  exact ⟨⟨hc _ _ h1, b1⟩, hc _ _ h2, b2, hc _ _ h3, v, hc _ _ h4, h5.go (fun _ h => ⟨h.1, h.2.1, h.2.2.2⟩) (fun _ cs _ h => ⟨cs, h⟩) (fun _ _ _ _ _ _ _ h => h)⟩
theorem th_bounds {P : Nat → Prop} {v : Value} {l : List Th} (h : SlOf P 4 (thE P) w v l) : ∀ y ∈ l, (-9223372036854775808 ≤ y.prio ∧ y.prio ≤ 9223372036854775807) ∧ (0 ≤ y.caps ∧ y.caps ≤ 4294967295) := fun y hy => by
  obtain ⟨i, hi, he⟩ := List.getElem_of_mem hy
  obtain ⟨ao, cap, h1, h2, b, off, h3⟩ := h
  obtain ⟨_, _, k1, _, k3, _⟩ := h3 i y (by rw [List.getElem?_eq_getElem hi, he])
  exact ⟨k1.2, k3⟩

/-- The partitions that were copied. -/
def PtL (z : Nat) (wx : World) (cells : List Value) (j : Nat) (l : List Pt) : Prop := ∀ a x, a < j → l[a]? = some x → ∃ tv ov, cells[a * 2]? = some tv ∧ cells[a * 2 + 1]? = some ov ∧ TSl (Gy z) 43 4 (thX tags11 (Gy z) fun k => k < z) wx tv x.ths ∧ TSl (Gy z) 70 3 obE wx ov x.obs
theorem PtL.calm {cells : List Value} {j : Nat} {l : List Pt} (h : PtL z w cells j l) (hc : Sept.Calm (Gy z) (Gy z) (fun k => k < z) w w') : PtL z w' cells j l := fun a x ha hx => by
  obtain ⟨tv, ov, h1, h2, h3, h4⟩ := h a x ha hx
  exact ⟨tv, ov, h1, h2, hc.ths h3, hc.obs h4⟩
theorem PtL.next {cells : List Value} {j : Nat} {l : List Pt} {x : Pt} {tv ov : Value} (h : PtL z w cells j l) (hl : cells.length = j * 2) (hx : l[j]? = some x) (ht : TSl (Gy z) 43 4 (thX tags11 (Gy z) fun k => k < z) w tv x.ths) (hov : TSl (Gy z) 70 3 obE w ov x.obs) : PtL z w (cells ++ [tv, ov]) (j + 1) l := fun a y ha hy => by
  by_cases e : a = j
  · subst e
    rw [hx] at hy
    injection hy with hy
    subst hy
    exact ⟨tv, ov, app_new (i := 0) hl rfl, app_new (i := 1) hl rfl, ht, hov⟩
  · obtain ⟨u, v, h1, h2, h3, h4⟩ := h a y (by omega) hy
    exact ⟨u, v, app_old h1, app_old h2, h3, h4⟩

/-- Within a round: the partition in block q, its threads' slice. -/
structure InSt (z : Nat) (wr wx : World) (q : Nat) (ov tv : Value) (tb i : Nat) (cells : List Value) (x : Pt) : Prop where
  hq : wx.heap[q]? = some (ptO tv ov)
  grow : Grow 43 4 wx tv tb i cells
  tnew : wr.heap.size ≤ tb
  qnew : wr.heap.size ≤ q
  ths : ThL z wx cells i x.ths
  obs : TSl (Gx z) 70 3 obE wx ov x.obs
  only : Only (fun _ => False) wr wx
end

section
variable {z : Nat} {wr wx : World} {q : Nat} {ov tv : Value} {tb i : Nat} {cells : List Value} {x : Pt}
theorem type_ne {w : World} {a b : Nat} {c d : Array Value} {A B : TypeId} (ha : w.heap[a]? = some (.cells c A)) (hb : w.heap[b]? = some (.cells d B)) (hne : A ≠ B) : a ≠ b := fun e => by
  subst e
  rw [ha] at hb
  injection hb with hb
  injection hb with _ hb
  exact hne hb
theorem InSt.next (h : InSt z wr wx q ov tv tb i cells x) (hz : z ≤ wr.heap.size) {w10 w11 : World} {y : Nat} {p0 p1 p2 p3 v tv' : Value} {tb' : Nat} {T1 : Obj} {th : Th} (ho1 : Only (fun _ => False) wx w10) (hy : w10.heap[y]? = some (thO p0 p1 p2 p3)) (hyn : wx.heap.size ≤ y)
    (hv : TSl (Gx z) 46 6 (clE fun k => k < z) w10 v th.prog) (hth : x.ths[i]? = some th)
    (h11 : Grow 43 4 w11 tv' tb' (i + 1) (cells ++ [.int .i64 th.prio, .int .u32 th.caps, .bool th.ctl, v])) (ho11 : Only (fun k => tv.ownBlock = some k) ((w10.setCell ⟨y, 3, none⟩ v).alloc T1) w11) (hb : tb' = tb ∨ ((w10.setCell ⟨y, 3, none⟩ v).alloc T1).heap.size ≤ tb') :
    w11.heap[q]? = some (ptO tv ov) ∧ InSt z wr (w11.setCell ⟨q, 0, none⟩ tv') q ov tv' tb' (i + 1) (cells ++ [.int .i64 th.prio, .int .u32 th.caps, .bool th.ctl, v]) x := by
  obtain ⟨W1, hW1⟩ : ∃ W1, w10.setCell ⟨y, 3, none⟩ v = W1 := ⟨_, rfl⟩
  have hoy : Only (fun k => k = y) w10 W1 := by rw [← hW1]; exact (Only.refl (fun k => k = y) w10).setCell (p := ⟨y, 3, none⟩) (.inr rfl) _
  rw [hW1] at ho11 hb
  have hq10 : w10.heap[q]? = some (ptO tv ov) := (ho1.block q (lt_of_block h.hq) (fun h => h)).trans h.hq
  have hqlt := lt_of_block h.hq
  have hq1 : W1.heap[q]? = some (ptO tv ov) := (hoy.block q (lt_of_block hq10) (by omega)).trans hq10
  have hgr10 := grow_still h.grow ho1 (fun _ _ h => h)
  have hown : ∀ a, tv.ownBlock = some a → a = tb ∧ a < wx.heap.size ∧ ∃ cs, w10.heap[a]? = some (.cells cs 43) := fun a ha => by
    obtain ⟨e, cs, hc⟩ := h.grow.own_in ha
    exact ⟨e, lt_of_block hc, cs, (ho1.block a (lt_of_block hc) (fun h => h)).trans hc⟩
  have hown1 : ∀ a, tv.ownBlock = some a → ∃ cs, W1.heap[a]? = some (.cells cs 43) := fun a ha => by
    obtain ⟨e, hlt, cs, hc⟩ := hown a ha
    exact ⟨cs, (hoy.block a (lt_of_block hc) (by omega)).trans hc⟩
  have ho2 : Only (fun k => tv.ownBlock = some k) W1 w11 := ((Only.refl (fun k => tv.ownBlock = some k) W1).alloc T1).chain ho11 (fun _ _ h => h)
  have hq11 : w11.heap[q]? = some (ptO tv ov) := (ho2.block q (lt_of_block hq1) (fun e => by
    obtain ⟨cs, hc⟩ := hown1 q e
    exact type_ne hc hq1 (by decide) rfl)).trans hq1
  have hoq : Only (fun k => k = q) w11 (w11.setCell ⟨q, 0, none⟩ tv') := (Only.refl (fun k => k = q) w11).setCell (p := ⟨q, 0, none⟩) (.inr rfl) _
  have hwx := h.only.size
  have c1 : Sept.Calm (Gx z) (Gx z) (fun k => k < z) wx w10 := calmx_new ho1
  have c2 : Sept.Calm (Gx z) (Gx z) (fun k => k < z) w10 W1 := calmx hoy (fun k hk e => by omega) (fun k e => by subst e; exact ⟨_, _, hy, .inr (.inl rfl)⟩)
  have c3 : Sept.Calm (Gx z) (Gx z) (fun k => k < z) W1 w11 := calmx ho2 (fun k hk e => by
    have := (hown k e).1
    have := h.tnew
    omega) (fun k e => by
    obtain ⟨cs, hc⟩ := hown1 k e
    exact ⟨_, _, hc, .inr (.inl rfl)⟩)
  have c4 : Sept.Calm (Gx z) (Gx z) (fun k => k < z) w11 (w11.setCell ⟨q, 0, none⟩ tv') := calmx hoq (fun k hk e => by have := h.qnew; omega) (fun k e => by subst e; exact ⟨_, _, hq11, .inl rfl⟩)
  refine ⟨hq11, block_set11 hq11 0 tv', grow_still h11 hoq (fun a ha e => ?_), ?_, h.qnew, ?_, c4.obs (c3.obs (c2.obs (c1.obs h.obs))), ?_⟩
  · obtain ⟨_, cs, hc⟩ := h11.own_in ha
    exact type_ne hc hq11 (by decide) e
  · rcases hb with hb | hb
    · rw [hb]; exact h.tnew
    · rw [World.size_alloc] at hb
      have := ho1.size
      have := hoy.size
      omega
  · exact (((((h.ths.calm c1).calm c2).calm c3).calm c4)).next h.grow.own.1 hth (c4.calls (c3.calls (c2.calls hv)))
  · refine (((h.only.chain ho1 (fun _ _ h => h)).chain hoy (fun k hk e => by omega)).chain ho2 (fun k hk e => ?_)).chain hoq (fun k hk e => by have := h.qnew; omega)
    have := (hown k e).1
    have := h.tnew
    omega
end

/-- Between the rounds: the configuration in block V, its partitions' slice. -/
structure OutSt (z : Nat) (W wx : World) (V : Nat) (c : Cf) (j : Nat) (pv : Value) (pb : Nat) (cells : List Value) : Prop where
  hV : ∃ v5 v6, wx.heap[V]? = some (cfO pv v5 v6) ∧ TSl (Gx z) 48 2 winE wx v5 c.wins ∧ TSl (Gx z) 54 4 chnE wx v6 c.chans
  grow : Grow 39 2 wx pv pb j cells
  pnew : W.heap.size ≤ pb
  vnew : W.heap.size ≤ V
  pts : PtL z wx cells j c.parts
  only : Only (fun _ => False) W wx

section
variable {z : Nat} {W wr wx : World} {V : Nat} {c : Cf} {j : Nat} {pv : Value} {pb : Nat} {cells : List Value}
theorem OutSt.next (h : OutSt z W wr V c j pv pb cells) (hz : z ≤ W.heap.size) {w3 w13 : World} {q n : Nat} {ov tv pv' : Value} {tb pb' : Nat} {cells4 : List Value} {x : Pt} {T1 : Obj} (hi : InSt z wr w3 q ov tv tb n cells4 x) (hx : c.parts[j]? = some x) (hn : x.ths.length = n)
    (hbd : ∀ y ∈ x.ths, (-9223372036854775808 ≤ y.prio ∧ y.prio ≤ 9223372036854775807) ∧ (0 ≤ y.caps ∧ y.caps ≤ 4294967295))
    (h13 : Grow 39 2 w13 pv' pb' (j + 1) (cells ++ [tv, ov])) (ho13 : Only (fun k => pv.ownBlock = some k) (w3.alloc T1) w13) (hb : pb' = pb ∨ (w3.alloc T1).heap.size ≤ pb') :
    (∃ v5 v6, w13.heap[V]? = some (cfO pv v5 v6)) ∧ OutSt z W (w13.setCell ⟨V, 0, none⟩ pv') V c (j + 1) pv' pb' (cells ++ [tv, ov]) := by
  obtain ⟨v5, v6, hV, hw5, hw6⟩ := h.hV
  have hV3 : w3.heap[V]? = some (cfO pv v5 v6) := (hi.only.block V (lt_of_block hV) (fun h => h)).trans hV
  have hown : ∀ a, pv.ownBlock = some a → a = pb ∧ a < wr.heap.size ∧ ∃ cs, w3.heap[a]? = some (.cells cs 39) := fun a ha => by
    obtain ⟨e, cs, hc⟩ := h.grow.own_in ha
    exact ⟨e, lt_of_block hc, cs, (hi.only.block a (lt_of_block hc) (fun h => h)).trans hc⟩
  have ho2 : Only (fun k => pv.ownBlock = some k) w3 w13 := ((Only.refl (fun k => pv.ownBlock = some k) w3).alloc T1).chain ho13 (fun _ _ h => h)
  have hV13 : w13.heap[V]? = some (cfO pv v5 v6) := (ho2.block V (lt_of_block hV3) (fun e => by
    obtain ⟨_, _, cs, hc⟩ := hown V e
    exact type_ne hc hV3 (by decide) rfl)).trans hV3
  have hoV : Only (fun k => k = V) w13 (w13.setCell ⟨V, 0, none⟩ pv') := (Only.refl (fun k => k = V) w13).setCell (p := ⟨V, 0, none⟩) (.inr rfl) _
  have hwr := h.only.size
  have d1 : ∀ k, k < z → ¬ pv.ownBlock = some k := fun k hk e => by
    have := (hown k e).1
    have := h.pnew
    omega
  have d2 : ∀ k, pv.ownBlock = some k → ∃ cs T, w3.heap[k]? = some (.cells cs T) ∧ T = 39 := fun k e => by
    obtain ⟨_, _, cs, hc⟩ := hown k e
    exact ⟨_, _, hc, rfl⟩
  have d3 : ∀ k, k < z → ¬ k = V := fun k hk e => by have := h.vnew; omega
  have x1 : Sept.Calm (Gx z) (Gx z) (fun k => k < z) wr w3 := calmx_new hi.only
  have x2 : Sept.Calm (Gx z) (Gx z) (fun k => k < z) w3 w13 := calmx ho2 d1 (fun k e => by obtain ⟨cs, T, h1, h2⟩ := d2 k e; exact ⟨cs, T, h1, .inl h2⟩)
  have x3 : Sept.Calm (Gx z) (Gx z) (fun k => k < z) w13 (w13.setCell ⟨V, 0, none⟩ pv') := calmx hoV d3 (fun k e => by subst e; exact ⟨_, _, hV13, .inr (.inr rfl)⟩)
  have y1 : Sept.Calm (Gy z) (Gy z) (fun k => k < z) wr w3 := calmy_new hi.only
  have y2 : Sept.Calm (Gy z) (Gy z) (fun k => k < z) w3 w13 := calmy ho2 d1 (fun k e => by obtain ⟨cs, T, h1, h2⟩ := d2 k e; exact ⟨cs, T, h1, .inl h2⟩)
  have y3 : Sept.Calm (Gy z) (Gy z) (fun k => k < z) w13 (w13.setCell ⟨V, 0, none⟩ pv') := calmy hoV d3 (fun k e => by subst e; exact ⟨_, _, hV13, .inr rfl⟩)
  have hts := hi.ths.done hi.grow hn (by have := hi.tnew; omega) hbd
  have hobs : TSl (Gy z) 70 3 obE w3 ov x.obs := hi.obs.go (fun _ h => ⟨h.1, h.2.1, h.2.2.2⟩) (fun _ cs _ h => ⟨cs, h⟩) (fun _ _ _ _ _ _ _ h => h)
  refine ⟨⟨v5, v6, hV13⟩, ⟨v5, v6, block_set11 hV13 0 pv', x3.wins (x2.wins (x1.wins hw5)), x3.chans (x2.chans (x1.chans hw6))⟩, grow_still h13 hoV (fun a ha e => ?_), ?_, h.vnew, ?_, ?_⟩
  · obtain ⟨_, cs, hc⟩ := h13.own_in ha
    exact type_ne hc hV13 (by decide) e
  · rcases hb with hb | hb
    · rw [hb]; exact h.pnew
    · rw [World.size_alloc] at hb
      have := hi.only.size
      omega
  · exact (((h.pts.calm y1).calm y2).calm y3).next h.grow.own.1 hx (y3.ths (y2.ths hts)) (y3.obs (y2.obs hobs))
  · refine ((h.only.chain hi.only (fun _ _ h => h)).chain ho2 (fun k hk e => ?_)).chain hoV (fun k hk e => by have := h.vnew; omega)
    have := (hown k e).1
    have := h.pnew
    omega

theorem tsl_btw {α : Type} {G : Nat → TypeId → Prop} {T : TypeId} {sz : Nat} {E E' : World → Nat → Nat → α → Prop} {w : World} {v : Value} {l : List α} (h : TSl G T sz E w v l) (hG : ∀ k, G k T → z ≤ k) (hE : ∀ b o x, E w b o x → E' w b o x) : TSl (Btw z w.heap.size) T sz E' w v l := by
  obtain ⟨ao, cap, h1, h2, b, h3⟩ := h
  refine ⟨ao, cap, h1, h2, b, fun i x hx => ?_⟩
  obtain ⟨k1, k2, ⟨cs, k3⟩, k4⟩ := h3 i x hx
  exact ⟨k1, ⟨hG _ k2, lt_of_block k3⟩, ⟨cs, k3⟩, hE _ _ _ k4⟩
theorem thX_btw {w : World} {b o : Nat} (x : Th) (h : thX tags11 (Gy z) (fun k => k < z) w b o x) : thX tags11 (Btw z w.heap.size) (fun k => k < z) w b o x := by
  obtain ⟨h1, h2, h3, h4, v, h5, h6⟩ := h
  exact ⟨h1, h2, h3, h4, v, h5, tsl_btw h6 (fun _ h => h.1) (fun _ _ _ h => h)⟩
/-- All of it, behind a turn of another configuration. -/
theorem OutSt.fin {n : Nat} {w' : World} {R : Nat} {rs : Array Value} (h : OutSt z W wx V c n pv pb cells) (hn : c.parts.length = n) (ho : Only (fun k => k = R) wx w') (hR : wx.heap[R]? = some (.cells rs 26)) (hRz : z ≤ R) (hzW : z ≤ W.heap.size) : ∃ v5 v6, wx.heap[V]? = some (cfO pv v5 v6) ∧ OwX tags11 (Btw z w'.heap.size) (fun k => k < z) w' pv v5 v6 c := by
  obtain ⟨v5, v6, hV, hw5, hw6⟩ := h.hV
  have d1 : ∀ k, k < z → ¬ k = R := fun k hk e => by omega
  have xc : Sept.Calm (Gx z) (Gx z) (fun k => k < z) wx w' := calmx ho d1 (fun k e => by subst e; exact ⟨_, _, hR, .inr (.inr rfl)⟩)
  have yc : Sept.Calm (Gy z) (Gy z) (fun k => k < z) wx w' := calmy ho d1 (fun k e => by subst e; exact ⟨_, _, hR, .inr rfl⟩)
  have hg := grow_still h.grow ho (fun a ha e => by
    obtain ⟨_, cs, hc⟩ := h.grow.own_in ha
    exact type_ne hc hR (by decide) e)
  have hp := h.pts.calm yc
  refine ⟨v5, v6, hV, ?_, tsl_btw (xc.wins hw5) (fun _ h => h.1) (fun _ _ _ h => h), tsl_btw (xc.chans hw6) (fun _ h => h.1) (fun _ _ _ h => h)⟩
  have hpn := h.pnew
  subst hn
  refine Grow.tsl hg (fun h0 => ⟨by omega, hg.lt h0⟩) fun hc i x hx => ?_
  obtain ⟨tv, ov, h1, h2, h3, h4⟩ := hp i x (List.getElem?_eq_some_iff.1 hx).1 hx
  exact ⟨⟨tv, hc _ _ h1, tsl_btw h3 (fun _ h => h.1) (fun _ _ x h => thX_btw x h)⟩, ⟨ov, hc _ _ h2, tsl_btw h4 (fun _ h => h.1) (fun _ _ _ h => h)⟩⟩
end
end Go.Proofs.Ytpmchlnnlanokaa

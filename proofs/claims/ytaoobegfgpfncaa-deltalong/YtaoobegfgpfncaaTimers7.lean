/-
  The document's own timers (septumref01.Timers): what Insert and Remove leave. Conditions: the timers are there, at most 100.
-/
import Derived.Test.YtaoobegfgpfncaaRing7
import Derived.Test.YtaoobegfgpfncaaFrame4
namespace Go.Proofs.Ytaoobegfgpfncaa
open Go.RowKit Go.Sept

theorem Try.infoTimer : (Try.prog.info? 40).map (fun i => (i.zero, i.size, i.bytes)) = some (some (.agg #[.int .i64 0, .int .i64 0]), 2, 16) := by kernel_rfl
theorem Sept.respot {e : TypeId} {size : Nat} {w : World} {v : Value} {b n : Nat} {xs : List Value} (h : Grow e size w v b n xs) : ∃ b0, Grow e size w v b0 n xs ∧ (v.ownBlock = some b0 ∨ w.heap.size ≤ b0) := by
  rcases h.own.2 with ⟨rfl, rfl⟩ | ⟨g, cap, cur, rfl, _⟩
  · exact ⟨w.heap.size, ⟨h.own, fun k hk => by cases hk⟩, .inr (Nat.le_refl _)⟩
  · have e : g = b := h.spot g rfl
    subst e
    exact ⟨g, h, .inl rfl⟩
theorem Sept.keepG {e : TypeId} {size : Nat} {w w' : World} {v : Value} {b n : Nat} {xs : List Value} {S : Nat → Prop} (h : Grow e size w v b n xs) (ho : Only S w w') (hb : ∀ c, v.ownBlock = some c → ¬ S c) : Grow e size w' v b n xs := by
  refine ⟨⟨h.own.1, ?_⟩, h.spot⟩
  rcases h.own.2 with hn | ⟨g, cap, cur, rfl, hb0, hg, rest⟩
  · exact .inl hn
  · exact .inr ⟨g, cap, cur, rfl, hb0, (ho.block g (lt_of_block hg) (hb g rfl)).trans hg, rest⟩

abbrev tmO (x : Tm) : Obj := .cells #[.int .i64 x.1, .int .i64 x.2] 40
/-- A list that was made since w0. -/
def OutIs (w0 wx : World) (ov : Value) (O : List Tm) : Prop := (∃ b, Grow 40 2 wx ov b O.length (logCells O)) ∧ (∀ c, ov.ownBlock = some c → w0.heap.size ≤ c) ∧ Only (fun _ => False) w0 wx
theorem OutIs.nil (w : World) : OutIs w w (.slice none 0 0) [] := ⟨⟨0, Grow.nil _ _ _ _⟩, fun c hc => by simp [Value.ownBlock] at hc, Only.refl _ _⟩
theorem OutIs.shape {w0 wx : World} {ov : Value} {O : List Tm} (h : OutIs w0 wx ov O) : ∃ ao cap, ov = .slice ao O.length cap := by
  obtain ⟨⟨b, hg⟩, _⟩ := h
  obtain ⟨ao, cap, e, _⟩ := hg.shape
  exact ⟨ao, cap, e⟩
theorem OutIs.step {w0 wx : World} {ov : Value} {O : List Tm} (h : OutIs w0 wx ov O) (x : Tm) :
    ∃ b0, Grow 40 2 (wx.alloc (tmO x)) ov b0 O.length (logCells O) ∧ ∀ b' cap' w', Grow 40 2 w' (.slice (some ⟨b', 0, none⟩) (O.length + 1 : Nat) cap') b' (O.length + 1) (logCells O ++ [.int .i64 x.1, .int .i64 x.2]) → Only (fun k => ov.ownBlock = some k) (wx.alloc (tmO x)) w' → (b' = b0 ∨ wx.heap.size + 1 ≤ b') → OutIs w0 w' (.slice (some ⟨b', 0, none⟩) (O.length + 1 : Nat) cap') (O ++ [x]) := by
  obtain ⟨⟨b, hg⟩, hc, ho⟩ := h
  obtain ⟨b0, h1, h2⟩ := Sept.respot (Sept.keepG hg ((Only.refl (fun _ => False) wx).alloc (tmO x)) (fun _ _ h => h))
  refine ⟨b0, h1, fun b' cap' w' k1 k2 k3 => ⟨⟨b', ?_⟩, fun c hc' => ?_, ?_⟩⟩
  · rw [List.length_append, logCells_append]
    exact k1
  · simp [Value.ownBlock] at hc'
    subst hc'
    have z := ho.size
    have z2 : (wx.alloc (tmO x)).heap.size = wx.heap.size + 1 := by simp
    rcases k3 with k3 | k3
    · rcases h2 with h2 | h2
      · rw [k3]; exact hc b0 h2
      · omega
    · omega
  · exact (ho.alloc _).chain k2 (fun i hi e => by
      have := hc i e
      omega)

/-- The timers that the block T holds; their list lies in a block from N on. -/
def TimersIs (w : World) (T N : Nat) (L : List Tm) : Prop := ∃ v b, w.heap[T]? = some (.cells #[v] 29) ∧ Grow 40 2 w v b L.length (logCells L) ∧ ∀ c, v.ownBlock = some c → N ≤ c
theorem TimersIs.lt {w : World} {T N : Nat} {L : List Tm} (h : TimersIs w T N L) : T < w.heap.size := by
  obtain ⟨v, b, h1, _⟩ := h
  exact lt_of_block h1
theorem TimersIs.only {w w' : World} {T N : Nat} {L : List Tm} {S : Nat → Prop} (h : TimersIs w T N L) (ho : Only S w w') (h1 : ¬ S T) (h2 : ∀ c, N ≤ c → ¬ S c) : TimersIs w' T N L := by
  obtain ⟨v, b, a1, a2, a3⟩ := h
  exact ⟨v, b, (ho.block T (lt_of_block a1) h1).trans a1, Sept.keepG a2 ho (fun c hc => h2 c (a3 c hc)), a3⟩
theorem TimersIs.made {w : World} {T N : Nat} (h : w.heap[T]? = some (.cells #[.slice none 0 0] 29)) : TimersIs w T N [] := ⟨_, 0, h, Grow.nil _ _ _ _, fun c hc => by simp [Value.ownBlock] at hc⟩
/-- What can be read of it. -/
theorem TimersIs.cells {w : World} {T N : Nat} {L : List Tm} (h : TimersIs w T N L) : ∃ ao cap, cap ≤ maxLen ∧ ∀ w', Only (fun _ => False) w w' → w'.cell? ⟨T, 0, none⟩ = some (.slice ao L.length cap) ∧ w'.frozen? ⟨T, 0, none⟩ = false ∧ ∀ j, j < L.length → ∃ b, ao = some ⟨b, 0, none⟩ ∧ w'.cell? ⟨b, j * 2, none⟩ = some (.int .i64 (L.getD j (0, 0)).1) ∧ w'.cell? ⟨b, j * 2 + 1, none⟩ = some (.int .i64 (L.getD j (0, 0)).2) := by
  obtain ⟨v, b, h1, h2, h3⟩ := h
  obtain ⟨ao, cap, rfl, hc1, hc2⟩ := h2.shape
  refine ⟨ao, cap, hc2, fun w' ho => ?_⟩
  have e1 := (ho.block T (lt_of_block h1) (fun h => h)).trans h1
  refine ⟨cell_of_block e1 0, frozen_of_block e1 0, fun j hj => ?_⟩
  obtain ⟨cap', e, _, _, hcell⟩ := (h2.only ho (fun h => h)).cells (by omega)
  injection e with e _ _
  refine ⟨b, e, ?_, ?_⟩
  · rw [Nat.mul_comm]
    exact hcell _ _ (logCells_answer L j hj)
  · rw [Nat.mul_comm]
    exact hcell _ _ (logCells_time L j hj)

theorem two_int (x y : Int) : ∀ u ∈ [Value.int .i64 x, .int .i64 y], u.oneCell' = true := by
  intro u hu
  simp at hu
  rcases hu with rfl | rfl <;> rfl
theorem drop_cons {L : List Tm} {j : Nat} (h : j < L.length) : L.drop j = L.getD j (0, 0) :: L.drop (j + 1) := drop_getD L j h

/-- Behind the store of what was made. -/
theorem TimersIs.put {w wx : World} {T N : Nat} {L O : List Tm} {ov : Value} (h : TimersIs w T N L) (hN : N ≤ w.heap.size) (ho : OutIs w wx ov O) : TimersIs (wx.setCell ⟨T, 0, none⟩ ov) T N O ∧ Only (fun k => k = T) w (wx.setCell ⟨T, 0, none⟩ ov) := by
  obtain ⟨v, b, h1, h2, h3⟩ := h
  obtain ⟨⟨b1, hg⟩, hc, hO⟩ := ho
  have e1 := (hO.block T (lt_of_block h1) (fun h => h)).trans h1
  have e2 : (wx.setCell ⟨T, 0, none⟩ ov).heap[T]? = some (.cells #[ov] 29) := by rw [block_setCell e1]; rfl
  have hT := lt_of_block h1
  have o2 : Only (fun k => k = T) wx (wx.setCell ⟨T, 0, none⟩ ov) := (Only.self T wx).own 0 ov
  refine ⟨⟨ov, b1, e2, Sept.keepG hg o2 (fun c hc' e => ?_), fun c hc' => Nat.le_trans hN (hc c hc')⟩, (hO.mono (T := fun k => k = T) (fun _ _ h => h.elim)).chain o2 (fun _ _ h => h)⟩
  have := hc c hc'
  have e' : c = T := e
  omega

set_option maxRecDepth 100000 in
set_option maxHeartbeats 2000000 in
theorem tInsert_rel (w : World) (T N : Nat) (L : List Tm) (n t : Int) (h : TimersIs w T N L) (hN : N ≤ w.heap.size) (hl : L.length ≤ 100) :
    Calls Try.prog 7 #[ptrV T, .int .i64 n, .int .i64 t] w fun e w' => e = .returned (.tuple #[]) ∧ TimersIs w' T N (ins n t L) ∧ Only (fun k => k = T) w w' := by
  obtain ⟨ao, cap, hcap, hcells⟩ := h.cells
  have HC := hid hcells
  have HT := hid h
  have c0 : w.cell? ⟨T, 0, none⟩ = some (.slice ao L.length cap) := (hcells w (Only.refl _ _)).1
  clear h hcells
  go_enter Try.func7, Try.ntmps7
  go_wp2_with fail
  go_loopw [14, 6, 7] (fun i ov dv wx => ∃ (j : Nat) (O : List Tm) (d : Bool), i = .int .i64 (j : Int) ∧ dv = .bool d ∧ j ≤ L.length ∧ OutIs w wx ov O ∧ O.length ≤ j + d.toNat ∧ ins n t L = O ++ (if d = true then L.drop j else ins n t (L.drop j))) (fun i _ _ _ => L.length - (intOf i).toNat)
  case atStart => exact ⟨0, [], false, rfl, rfl, Nat.zero_le _, OutIs.nil w, Nat.zero_le _, rfl⟩
  case round =>
    obtain ⟨j, O, d, rfl, rfl, hj, hout, hlen, hins⟩ := hrel
    by_cases hlt : (j : Int) < L.length
    · obtain ⟨⟨x1, x2⟩, hx⟩ : ∃ x, x = L.getD j (0, 0) := ⟨_, rfl⟩
      have hd := drop_cons (L := L) (j := j) (by omega)
      obtain ⟨cT, _, cX⟩ := HC.out wr hout.2.2
      obtain ⟨b, hao, cx0, cx1⟩ := cX j (by omega)
      subst hao
      rw [← hx] at cx0 cx1 hd
      have HX := hid hx
      rw [hd] at hins
      simp only at cx0 cx1
      clear hx hd cX
      have hd1 : d.toNat ≤ 1 := by cases d <;> decide
      cases d
      · by_cases hlt2 : t < x2
        · rw [if_neg (fun e => by cases e), ins, if_pos hlt2] at hins
          obtain ⟨b0, hg, hstep⟩ := hout.step (n, t)
          have HG := hid hg
          have HS := hid hstep
          have HI := hid hins
          have HO := hid hout
          clear hg hstep hins hout c0
          go_wp2_with (at_builtin; refine wpList_append_grown _ rfl (.tmp 31) (.tmp 35) 27 rfl 40 _ 2 16 Try.underlying27 Try.infoTimer rfl (by decide) u6 b0 _ (logCells O) rfl HG.out ⟨wr.heap.size, 0, none⟩ 1 1 [.int .i64 n, .int .i64 t] rfl (by decide) rfl (news_of_block (heap_new wr (tmO (n, t)))) (two_int n t) (by unfold maxLen; omega) (by omega) ?_)
          intro b1 cap1 w1 k1 k2 k3
          have hout1 := HS.out b1 cap1 w1 k1 k2 k3
          obtain ⟨cT1, _, cX1⟩ := HC.out w1 hout1.2.2
          obtain ⟨b', hao, cy0, cy1⟩ := cX1 j (by omega)
          injection hao with hao
          injection hao with hao
          subst hao
          rw [← HX.out] at cy0 cy1
          simp only at cy0 cy1
          obtain ⟨b2, hg2, hstep2⟩ := hout1.step (x1, x2)
          have hol : (O ++ [(n, t)]).length = O.length + 1 := List.length_append
          rw [hol] at hg2 hstep2
          have HG2 := hid hg2
          have HS2 := hid hstep2
          clear hg2 hstep2 hout1 k1 k2 k3 HG HS cX1 cT cx0 cx1
          go_wp2_with (at_builtin; refine wpList_append_grown _ rfl (.tmp 37) (.tmp 45) 27 rfl 40 _ 2 16 Try.underlying27 Try.infoTimer rfl (by decide) (.slice (some ⟨b1, 0, none⟩) (O.length + 1 : Nat) cap1) b2 _ (logCells (O ++ [(n, t)])) rfl HG2.out ⟨w1.heap.size, 0, none⟩ 1 1 [.int .i64 x1, .int .i64 x2] rfl (by decide) rfl (news_of_block (heap_new w1 (tmO (x1, x2)))) (two_int x1 x2) (by unfold maxLen; omega) (by omega) ?_)
          intro b3 cap3 w3 k1 k2 k3
          have HF := hid (HS2.out b3 cap3 w3 k1 k2 k3)
          clear k1 k2 k3 HG2 HS2 cT1 cy0 cy1
          go_wp2_with fail
          go_roundw
          case rel =>
            refine ⟨j + 1, (O ++ [(n, t)]) ++ [(x1, x2)], true, by go_num, rfl, by omega, HF.out, by simp at hlen ⊢; omega, ?_⟩
            rw [HI.out]
            simp
          case measure => simp [intOf]; omega
        · rw [if_neg (fun e => by cases e), ins, if_neg hlt2] at hins
          obtain ⟨b0, hg, hstep⟩ := hout.step (x1, x2)
          have HG := hid hg
          have HS := hid hstep
          have HI := hid hins
          have HO := hid hout
          clear hg hstep hins hout c0
          go_wp2_with (at_builtin; refine wpList_append_grown _ rfl (.tmp 37) (.tmp 45) 27 rfl 40 _ 2 16 Try.underlying27 Try.infoTimer rfl (by decide) u6 b0 _ (logCells O) rfl HG.out ⟨wr.heap.size, 0, none⟩ 1 1 [.int .i64 x1, .int .i64 x2] rfl (by decide) rfl (news_of_block (heap_new wr (tmO (x1, x2)))) (two_int x1 x2) (by unfold maxLen; omega) (by omega) ?_)
          intro b1 cap1 w1 k1 k2 k3
          have HF := hid (HS.out b1 cap1 w1 k1 k2 k3)
          clear k1 k2 k3 HG HS cT cx0 cx1
          go_wp2_with fail
          go_roundw
          case rel =>
            refine ⟨j + 1, O ++ [(x1, x2)], false, by go_num, rfl, by omega, HF.out, by simp at hlen ⊢; omega, ?_⟩
            rw [HI.out]
            simp
          case measure => simp [intOf]; omega
      · rw [if_pos rfl] at hins
        obtain ⟨b0, hg, hstep⟩ := hout.step (x1, x2)
        have HG := hid hg
        have HS := hid hstep
        have HI := hid hins
        have HO := hid hout
        clear hg hstep hins hout c0
        go_wp2_with (at_builtin; refine wpList_append_grown _ rfl (.tmp 37) (.tmp 45) 27 rfl 40 _ 2 16 Try.underlying27 Try.infoTimer rfl (by decide) u6 b0 _ (logCells O) rfl HG.out ⟨wr.heap.size, 0, none⟩ 1 1 [.int .i64 x1, .int .i64 x2] rfl (by decide) rfl (news_of_block (heap_new wr (tmO (x1, x2)))) (two_int x1 x2) (by unfold maxLen; omega) (by omega) ?_)
        intro b1 cap1 w1 k1 k2 k3
        have HF := hid (HS.out b1 cap1 w1 k1 k2 k3)
        clear k1 k2 k3 HG HS cT cx0 cx1
        go_wp2_with fail
        go_roundw
        case rel =>
          refine ⟨j + 1, O ++ [(x1, x2)], true, by go_num, rfl, by omega, HF.out, by simp at hlen ⊢; omega, ?_⟩
          rw [HI.out]
          simp
        case measure => simp [intOf]; omega
    · obtain rfl : j = L.length := by omega
      rw [List.drop_length] at hins
      obtain ⟨cT, fT, _⟩ := HC.out wr hout.2.2
      have hd1 : d.toNat ≤ 1 := by cases d <;> decide
      cases d
      · rw [if_neg (fun e => by cases e), ins] at hins
        obtain ⟨b0, hg, hstep⟩ := hout.step (n, t)
        have HG := hid hg
        have HS := hid hstep
        have HI := hid hins
        have HO := hid hout
        clear hg hstep hins hout c0
        go_wp2_with (at_builtin; refine wpList_append_grown _ rfl (.tmp 50) (.tmp 54) 27 rfl 40 _ 2 16 Try.underlying27 Try.infoTimer rfl (by decide) u6 b0 _ (logCells O) rfl HG.out ⟨wr.heap.size, 0, none⟩ 1 1 [.int .i64 n, .int .i64 t] rfl (by decide) rfl (news_of_block (heap_new wr (tmO (n, t)))) (two_int n t) (by unfold maxLen; omega) (by omega) ?_)
        intro b1 cap1 w1 k1 k2 k3
        have hout1 := HS.out b1 cap1 w1 k1 k2 k3
        obtain ⟨cT1, fT1, _⟩ := HC.out w1 hout1.2.2
        have HF := hid (HT.out.put hN hout1)
        clear k1 k2 k3 HG HS cT fT hout1
        go_wp2_with fail
        go_end0
        refine ⟨rfl, ?_⟩
        rw [HI.out]
        exact HF.out
      · rw [if_pos rfl, List.append_nil] at hins
        obtain ⟨ao2, cap2, hu6⟩ := hout.shape
        subst hu6
        have HI := hid hins
        have HF := hid (HT.out.put hN hout)
        clear hins hout c0
        go_wp2_with fail
        go_end0
        refine ⟨rfl, ?_⟩
        rw [HI.out]
        exact HF.out

/-- A list without a node. -/
def less (n : Int) : List Tm → List Tm
  | [] => []
  | x :: L => if x.1 = n then less n L else x :: less n L
theorem less_out {n : Int} : ∀ {L : List Tm}, Out n L → less n L = L
  | [], _ => rfl
  | x :: L, h => by
    rw [less, if_neg (h x (List.mem_cons_self ..)), less_out (fun y hy => h y (List.mem_cons_of_mem _ hy))]

set_option maxRecDepth 100000 in
set_option maxHeartbeats 2000000 in
theorem tRemove_rel (w : World) (T N : Nat) (L : List Tm) (n : Int) (h : TimersIs w T N L) (hN : N ≤ w.heap.size) (hl : L.length ≤ 100) :
    Calls Try.prog 11 #[ptrV T, .int .i64 n] w fun e w' => e = .returned (.tuple #[]) ∧ TimersIs w' T N (less n L) ∧ Only (fun k => k = T) w w' := by
  obtain ⟨ao, cap, hcap, hcells⟩ := h.cells
  have HC := hid hcells
  have HT := hid h
  have c0 : w.cell? ⟨T, 0, none⟩ = some (.slice ao L.length cap) := (hcells w (Only.refl _ _)).1
  clear h hcells
  go_enter Try.func11, Try.ntmps11
  go_wp2_with fail
  go_loopw [11, 4] (fun i ov wx => ∃ (j : Nat) (O : List Tm), i = .int .i64 (j : Int) ∧ j ≤ L.length ∧ OutIs w wx ov O ∧ O.length ≤ j ∧ less n L = O ++ less n (L.drop j)) (fun i _ _ => L.length - (intOf i).toNat)
  case atStart => exact ⟨0, [], rfl, Nat.zero_le _, OutIs.nil w, Nat.zero_le _, rfl⟩
  case round =>
    obtain ⟨j, O, rfl, hj, hout, hlen, hins⟩ := hrel
    by_cases hlt : (j : Int) < L.length
    · obtain ⟨⟨x1, x2⟩, hx⟩ : ∃ x, x = L.getD j (0, 0) := ⟨_, rfl⟩
      have hd := drop_cons (L := L) (j := j) (by omega)
      obtain ⟨cT, _, cX⟩ := HC.out wr hout.2.2
      obtain ⟨b, hao, cx0, cx1⟩ := cX j (by omega)
      subst hao
      rw [← hx] at cx0 cx1 hd
      rw [hd, less] at hins
      simp only at cx0 cx1
      clear hx hd cX
      by_cases hxn : x1 = n
      · rw [if_pos hxn] at hins
        have HI := hid hins
        have HO := hid hout
        have hxb : (x1 == n) = true := beq_iff_eq.2 hxn
        clear hins hout c0
        go_wp2_with fail
        go_roundw
        case rel => exact ⟨j + 1, O, by go_num, by omega, HO.out, by omega, HI.out⟩
        case measure => simp [intOf]; omega
      · rw [if_neg hxn] at hins
        obtain ⟨b0, hg, hstep⟩ := hout.step (x1, x2)
        have HG := hid hg
        have HS := hid hstep
        have HI := hid hins
        have HO := hid hout
        have hxb : (x1 == n) = false := beq_eq_false_iff_ne.2 hxn
        clear hg hstep hins hout c0
        go_wp2_with (at_builtin; refine wpList_append_grown _ rfl (.tmp 24) (.tmp 32) 27 rfl 40 _ 2 16 Try.underlying27 Try.infoTimer rfl (by decide) u4 b0 _ (logCells O) rfl HG.out ⟨wr.heap.size, 0, none⟩ 1 1 [.int .i64 x1, .int .i64 x2] rfl (by decide) rfl (news_of_block (heap_new wr (tmO (x1, x2)))) (two_int x1 x2) (by unfold maxLen; omega) (by omega) ?_)
        intro b1 cap1 w1 k1 k2 k3
        have HF := hid (HS.out b1 cap1 w1 k1 k2 k3)
        clear k1 k2 k3 HG HS cT cx0 cx1
        go_wp2_with fail
        go_roundw
        case rel =>
          refine ⟨j + 1, O ++ [(x1, x2)], by go_num, by omega, HF.out, by simp; omega, ?_⟩
          rw [HI.out]
          simp
        case measure => simp [intOf]; omega
    · obtain rfl : j = L.length := by omega
      rw [List.drop_length, less, List.append_nil] at hins
      obtain ⟨cT, fT, _⟩ := HC.out wr hout.2.2
      obtain ⟨ao2, cap2, hu4⟩ := hout.shape
      subst hu4
      have HI := hid hins
      have HF := hid (HT.out.put hN hout)
      clear hins hout c0
      go_wp2_with fail
      go_end0
      refine ⟨rfl, ?_⟩
      rw [HI.out]
      exact HF.out
end Go.Proofs.Ytaoobegfgpfncaa

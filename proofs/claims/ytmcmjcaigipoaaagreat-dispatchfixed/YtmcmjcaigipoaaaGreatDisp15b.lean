/-
  Package dispatch: Dispatch on core 1, as a tree of accesses. Conditions: the plan is one that Of makes.
-/
import Derived.Test.YtmcmjcaigipoaaaGreatDisp15a
namespace Go.Proofs.YtmcmjcaigipoaaaGreat
open Go.RowKit Go.Sept

set_option maxRecDepth 100000 in
set_option maxHeartbeats 4000000 in
theorem disp15_1 (Q : Nat → Prop) (cs : Array Value) (n m k6 : Nat) (hk6 : k6 = 6) : DoesIn (thBag cs n m Q) 47 (fun F => #[F, .agg cs, .int .i64 1]) (dispT n m k6 1) (fun x => .tuple #[.int .i64 x.1, .bool x.2]) := by
  refine DoesIn.of fun w F lb p q R h => ?_
  have hT := h.bag.1
  obtain ⟨hn, hm, ta, oa, za, zb, zc, zd, rfl, _⟩ := h.bag.1
  have HA := hid (h.alloc (plO (planCs n m ta oa (.slice za n zc) (.slice zb m zd))))
  have hV : ∃ V y, V = w.alloc (plO (planCs n m ta oa (.slice za n zc) (.slice zb m zd))) ∧ y = w.heap.size := ⟨_, _, rfl, rfl⟩
  obtain ⟨V, y, hVe, hye⟩ := hV
  obtain ⟨BG, hBG⟩ : ∃ BG, (thBag (planCs n m ta oa (.slice za n zc) (.slice zb m zd)) n m Q).and (Bag.one y (plO (planCs n m ta oa (.slice za n zc) (.slice zb m zd)))) = BG := ⟨_, rfl⟩
  have H : Hid (At w F lb p q (fun _ => False) BG (dispT n m k6 1) R V) := by rw [← hBG, hVe, hye]; exact HA.out
  have HLE : Hid ((thBag (planCs n m ta oa (.slice za n zc) (.slice zb m zd)) n m Q).Le BG) := hBG ▸ ⟨fun _ h => h.1, fun _ h => .inl h⟩
  have HPC : Hid (∀ wx, BG.P wx → PlC14 wx y n m ta oa (.slice za n zc) (.slice zb m zd)) := hBG ▸ fun _ h => plan_cells h.2
  have HYV : Hid (BG.V y) := hBG ▸ (.inr rfl)
  obtain ⟨c0, c1, c2, c3, c4, c5, c6, c7, c8, c9, c10, c11, c12, c13⟩ := HPC.out _ H.out.bag
  have HK6 := hid hk6
  clear hT h HA hBG hk6
  go_enter Tryz.func47, Tryz.ntmps47
  go_upto_region 1 with fail
  rw [← hVe, ← hye]
  clear hVe hye
  have H1 : Hid (At w F lb p q (fun _ => False) BG ((lookT n m 1).bind fun a => (lookT n m 0).bind fun b => (bestT n m (2 - ((fxL a b).length : Int)) (fxL a b) k6).bind fun l => setT15 n 1 a b l) R V) := H.out
  clear H
  go_wp2_with fail
  refine (valid15 _ 1).mono ?_
  rintro e w1 ⟨rfl, rfl⟩
  rw [decide_eq_true (show (0 : Int) ≤ 1 ∧ (1 : Int) < 2 by decide)]
  have HL1 := hid (lookD15 Q (planCs n m ta oa (.slice za n zc) (.slice zb m zd)) n m 1 (by decide))
  have HL2 := hid (lookD15 Q (planCs n m ta oa (.slice za n zc) (.slice zb m zd)) n m 0 (by decide))
  go_upto_region 4 with fail
  obtain ⟨c, hc⟩ : ∃ c, w1.heap.size = c := ⟨_, rfl⟩
  have HP0 := hid (H1.out.drew)
  have HP1 := hid ((H1.out.new1 (.cells #[.int .i64 0, .bool false] 151) hc).drew)
  have HP2 := hid (((H1.out.new1 (.cells #[.int .i64 0, .bool false] 151) hc).new (.cells #[.int .i64 0, .bool false] 151) (show _ = c + 1 by rw [World.size_alloc, hc])).drew)
  clear H1
  go_cut [9, 10] (fun v9 v10 wc => ∃ (a1 : Int) (a2 : Bool) (b1 : Int) (b2 : Bool) (x z : Nat), (-1 ≤ a1 ∧ a1 < (n : Int)) ∧ (-1 ≤ b1 ∧ b1 < (n : Int)) ∧ v9 = ptrV x ∧ v10 = ptrV z ∧ Pr2 w F lb p q BG ((bestT n m (2 - ((fxL (a1, a2) (b1, b2)).length : Int)) (fxL (a1, a2) (b1, b2)) k6).bind fun l => setT15 n 1 (a1, a2) (b1, b2) l) R x (.cells #[.int .i64 a1, .bool a2] 151) z (.cells #[.int .i64 b1, .bool b2] 151) wc)
  case first =>
    go_region_held (fun w' => w'.cell? ⟨y, 0, none⟩ = some (.int .i64 0) ∧ w'.cell? ⟨y, 1, none⟩ = some (.int .i64 2) ∧ w'.cell? ⟨y, 2, none⟩ = some (.int .i64 4) ∧ w'.cell? ⟨y, 3, none⟩ = some (.int .i64 3) ∧ w'.cell? ⟨y, 4, none⟩ = some (.int .i64 5) ∧ w'.cell? ⟨y, 5, none⟩ = some (.int .i64 6) ∧ w'.cell? ⟨y, 6, none⟩ = some (.int .i64 8) ∧ w'.cell? ⟨y, 7, none⟩ = some (.int .i64 41) ∧ w'.cell? ⟨y, 8, none⟩ = some (.int .i64 43) ∧ w'.cell? ⟨y, 9, none⟩ = some (.slice ta n n) ∧ w'.cell? ⟨y, 10, none⟩ = some (.slice oa m m) ∧ w'.cell? ⟨y, 11, none⟩ = some (.int .i64 (43 + (m : Int) + (n : Int) * 24 + (m : Int) * 24)) ∧ w'.cell? ⟨y, 12, none⟩ = some (.slice za n zc) ∧ w'.cell? ⟨y, 13, none⟩ = some (.slice zb m zd)) (go_keep)
      (first
      | (go_at_call 82
         refine (HP0.out.callInP HL1.out HLE.out (look_ans n m 1)).mono ?_
         rintro e w2 ⟨a, ha, rfl, h2⟩
         have HRA := hid ha
         have K2 := hid h2
         obtain ⟨d, hd⟩ : ∃ d, w2.heap.size = d := ⟨_, rfl⟩
         have HD1 : Hid (∀ o, (w2.alloc o).heap.size = d + 1) := fun o => by rw [World.size_alloc, hd]
         have HDS : Hid (∀ a v b u, ((w2.setCell a v).setCell b u).heap.size = d) := fun a v b u => by rw [World.size_setCell, World.size_setCell, hd]
         clear HP0 HP1 HP2 HL1 ha h2 c0 c1 c2 c3 c4 c5 c6 c7 c8 c9 c10 c11 c12 c13
         obtain ⟨c0, c1, c2, c3, c4, c5, c6, c7, c8, c9, c10, c11, c12, c13⟩ := HPC.out _ K2.out.bag

      )
      | (go_at_call 82
         refine (HP1.out.call HL1.out HLE.out (look_ans n m 1)).mono ?_
         rintro e w2 ⟨a, ha, rfl, h2⟩
         have HRA := hid ha
         have K2 := hid h2
         obtain ⟨d, hd⟩ : ∃ d, w2.heap.size = d := ⟨_, rfl⟩
         have HD1 : Hid (∀ o, (w2.alloc o).heap.size = d + 1) := fun o => by rw [World.size_alloc, hd]
         have HDS : Hid (∀ a v b u, ((w2.setCell a v).setCell b u).heap.size = d) := fun a v b u => by rw [World.size_setCell, World.size_setCell, hd]
         clear HP0 HP1 HP2 HL1 ha h2 c0 c1 c2 c3 c4 c5 c6 c7 c8 c9 c10 c11 c12 c13
         obtain ⟨c0, c1, c2, c3, c4, c5, c6, c7, c8, c9, c10, c11, c12, c13⟩ := HPC.out _ K2.out.st.bag.1
         have hz0 : w2.heap[c]? = some (.cells #[.int .i64 0, .bool false] 151) := K2.out.st.bag.2
         have zl0 : c < d := by rw [← hd]; exact lt_of_block hz0
         have zn0 : ¬ y = c := fun e => K2.out.n1.2 (e ▸ HYV.out)
         have zm0 : ¬ c = y := fun e => K2.out.n1.2 (e.symm ▸ HYV.out)
         have zf00 := frozen_of_block hz0 0
         have zc00 : w2.cell? ⟨c, 0, none⟩ = some (.int .i64 0) := cell_of_block hz0 0
         have zf01 := frozen_of_block hz0 1
         have zc01 : w2.cell? ⟨c, 1, none⟩ = some (.bool false) := cell_of_block hz0 1
         clear hz0
      )
      | (go_at_call 82
         refine (HP2.out.call HL1.out HLE.out (look_ans n m 1)).mono ?_
         rintro e w2 ⟨a, ha, rfl, h2⟩
         have HRA := hid ha
         have K2 := hid h2
         obtain ⟨d, hd⟩ : ∃ d, w2.heap.size = d := ⟨_, rfl⟩
         have HD1 : Hid (∀ o, (w2.alloc o).heap.size = d + 1) := fun o => by rw [World.size_alloc, hd]
         have HDS : Hid (∀ a v b u, ((w2.setCell a v).setCell b u).heap.size = d) := fun a v b u => by rw [World.size_setCell, World.size_setCell, hd]
         clear HP0 HP1 HP2 HL1 ha h2 c0 c1 c2 c3 c4 c5 c6 c7 c8 c9 c10 c11 c12 c13
         obtain ⟨c0, c1, c2, c3, c4, c5, c6, c7, c8, c9, c10, c11, c12, c13⟩ := HPC.out _ K2.out.st.bag.1.1
         have hz0 : w2.heap[c]? = some (.cells #[.int .i64 0, .bool false] 151) := K2.out.st.bag.1.2
         have zl0 : c < d := by rw [← hd]; exact lt_of_block hz0
         have zn0 : ¬ y = c := fun e => K2.out.n1.2 (e ▸ HYV.out)
         have zm0 : ¬ c = y := fun e => K2.out.n1.2 (e.symm ▸ HYV.out)
         have zf00 := frozen_of_block hz0 0
         have zc00 : w2.cell? ⟨c, 0, none⟩ = some (.int .i64 0) := cell_of_block hz0 0
         have zf01 := frozen_of_block hz0 1
         have zc01 : w2.cell? ⟨c, 1, none⟩ = some (.bool false) := cell_of_block hz0 1
         have hz1 : w2.heap[c + 1]? = some (.cells #[.int .i64 0, .bool false] 151) := K2.out.st.bag.2
         have zl1 : c + 1 < d := by rw [← hd]; exact lt_of_block hz1
         have zn1 : ¬ y = c + 1 := fun e => K2.out.n2.2 (e ▸ HYV.out)
         have zm1 : ¬ c + 1 = y := fun e => K2.out.n2.2 (e.symm ▸ HYV.out)
         have zf10 := frozen_of_block hz1 0
         have zc10 : w2.cell? ⟨c + 1, 0, none⟩ = some (.int .i64 0) := cell_of_block hz1 0
         have zf11 := frozen_of_block hz1 1
         have zc11 : w2.cell? ⟨c + 1, 1, none⟩ = some (.bool false) := cell_of_block hz1 1
         have ze0 : ¬ c = c + 1 := K2.out.ne
         have ze1 : ¬ c + 1 = c := fun e => K2.out.ne e.symm
         clear hz0 hz1
      )
      | (go_at_call 82
         refine (K2.out.callInP HL2.out HLE.out (look_ans n m 0)).mono ?_
         rintro e w3 ⟨b, hb, rfl, h3⟩
         have HRB := hid hb
         have K3 := hid h3
         obtain ⟨f, hf⟩ : ∃ f, w3.heap.size = f := ⟨_, rfl⟩
         have HF1 : Hid (∀ o, (w3.alloc o).heap.size = f + 1) := fun o => by rw [World.size_alloc, hf]
         have HFS : Hid (∀ a v b u, ((w3.setCell a v).setCell b u).heap.size = f) := fun a v b u => by rw [World.size_setCell, World.size_setCell, hf]
         clear K2 HL2 hb h3 HD1 HDS   c0 c1 c2 c3 c4 c5 c6 c7 c8 c9 c10 c11 c12 c13
         obtain ⟨c0, c1, c2, c3, c4, c5, c6, c7, c8, c9, c10, c11, c12, c13⟩ := HPC.out _ K3.out.bag

      )
      | (go_at_call 82
         refine ((K2.out.new1 (.cells #[.int .i64 0, .bool false] 151) hd).call HL2.out HLE.out (look_ans n m 0)).mono ?_
         rintro e w3 ⟨b, hb, rfl, h3⟩
         have HRB := hid hb
         have K3 := hid h3
         obtain ⟨f, hf⟩ : ∃ f, w3.heap.size = f := ⟨_, rfl⟩
         have HF1 : Hid (∀ o, (w3.alloc o).heap.size = f + 1) := fun o => by rw [World.size_alloc, hf]
         have HFS : Hid (∀ a v b u, ((w3.setCell a v).setCell b u).heap.size = f) := fun a v b u => by rw [World.size_setCell, World.size_setCell, hf]
         clear K2 HL2 hb h3 HD1 HDS   c0 c1 c2 c3 c4 c5 c6 c7 c8 c9 c10 c11 c12 c13
         obtain ⟨c0, c1, c2, c3, c4, c5, c6, c7, c8, c9, c10, c11, c12, c13⟩ := HPC.out _ K3.out.st.bag.1
         have hz0 : w3.heap[d]? = some (.cells #[.int .i64 0, .bool false] 151) := K3.out.st.bag.2
         have zl0 : d < f := by rw [← hf]; exact lt_of_block hz0
         have zn0 : ¬ y = d := fun e => K3.out.n1.2 (e ▸ HYV.out)
         have zm0 : ¬ d = y := fun e => K3.out.n1.2 (e.symm ▸ HYV.out)
         have zf00 := frozen_of_block hz0 0
         have zc00 : w3.cell? ⟨d, 0, none⟩ = some (.int .i64 0) := cell_of_block hz0 0
         have zf01 := frozen_of_block hz0 1
         have zc01 : w3.cell? ⟨d, 1, none⟩ = some (.bool false) := cell_of_block hz0 1
         clear hz0
      )
      | (go_at_call 82
         refine ((K2.out.new1 (.cells #[.int .i64 a.1, .bool a.2] 151) hd).call HL2.out HLE.out (look_ans n m 0)).mono ?_
         rintro e w3 ⟨b, hb, rfl, h3⟩
         have HRB := hid hb
         have K3 := hid h3
         obtain ⟨f, hf⟩ : ∃ f, w3.heap.size = f := ⟨_, rfl⟩
         have HF1 : Hid (∀ o, (w3.alloc o).heap.size = f + 1) := fun o => by rw [World.size_alloc, hf]
         have HFS : Hid (∀ a v b u, ((w3.setCell a v).setCell b u).heap.size = f) := fun a v b u => by rw [World.size_setCell, World.size_setCell, hf]
         clear K2 HL2 hb h3 HD1 HDS   c0 c1 c2 c3 c4 c5 c6 c7 c8 c9 c10 c11 c12 c13
         obtain ⟨c0, c1, c2, c3, c4, c5, c6, c7, c8, c9, c10, c11, c12, c13⟩ := HPC.out _ K3.out.st.bag.1
         have hz0 : w3.heap[d]? = some (.cells #[.int .i64 a.1, .bool a.2] 151) := K3.out.st.bag.2
         have zl0 : d < f := by rw [← hf]; exact lt_of_block hz0
         have zn0 : ¬ y = d := fun e => K3.out.n1.2 (e ▸ HYV.out)
         have zm0 : ¬ d = y := fun e => K3.out.n1.2 (e.symm ▸ HYV.out)
         have zf00 := frozen_of_block hz0 0
         have zc00 : w3.cell? ⟨d, 0, none⟩ = some (.int .i64 a.1) := cell_of_block hz0 0
         have zf01 := frozen_of_block hz0 1
         have zc01 : w3.cell? ⟨d, 1, none⟩ = some (.bool a.2) := cell_of_block hz0 1
         clear hz0
      )
      | (go_at_call 82
         refine (((K2.out.new1 (.cells #[.int .i64 0, .bool false] 151) hd).new (.cells #[.int .i64 0, .bool false] 151) (HD1.out _)).call HL2.out HLE.out (look_ans n m 0)).mono ?_
         rintro e w3 ⟨b, hb, rfl, h3⟩
         have HRB := hid hb
         have K3 := hid h3
         obtain ⟨f, hf⟩ : ∃ f, w3.heap.size = f := ⟨_, rfl⟩
         have HF1 : Hid (∀ o, (w3.alloc o).heap.size = f + 1) := fun o => by rw [World.size_alloc, hf]
         have HFS : Hid (∀ a v b u, ((w3.setCell a v).setCell b u).heap.size = f) := fun a v b u => by rw [World.size_setCell, World.size_setCell, hf]
         clear K2 HL2 hb h3 HD1 HDS   c0 c1 c2 c3 c4 c5 c6 c7 c8 c9 c10 c11 c12 c13
         obtain ⟨c0, c1, c2, c3, c4, c5, c6, c7, c8, c9, c10, c11, c12, c13⟩ := HPC.out _ K3.out.st.bag.1.1
         have hz0 : w3.heap[d]? = some (.cells #[.int .i64 0, .bool false] 151) := K3.out.st.bag.1.2
         have zl0 : d < f := by rw [← hf]; exact lt_of_block hz0
         have zn0 : ¬ y = d := fun e => K3.out.n1.2 (e ▸ HYV.out)
         have zm0 : ¬ d = y := fun e => K3.out.n1.2 (e.symm ▸ HYV.out)
         have zf00 := frozen_of_block hz0 0
         have zc00 : w3.cell? ⟨d, 0, none⟩ = some (.int .i64 0) := cell_of_block hz0 0
         have zf01 := frozen_of_block hz0 1
         have zc01 : w3.cell? ⟨d, 1, none⟩ = some (.bool false) := cell_of_block hz0 1
         have hz1 : w3.heap[d + 1]? = some (.cells #[.int .i64 0, .bool false] 151) := K3.out.st.bag.2
         have zl1 : d + 1 < f := by rw [← hf]; exact lt_of_block hz1
         have zn1 : ¬ y = d + 1 := fun e => K3.out.n2.2 (e ▸ HYV.out)
         have zm1 : ¬ d + 1 = y := fun e => K3.out.n2.2 (e.symm ▸ HYV.out)
         have zf10 := frozen_of_block hz1 0
         have zc10 : w3.cell? ⟨d + 1, 0, none⟩ = some (.int .i64 0) := cell_of_block hz1 0
         have zf11 := frozen_of_block hz1 1
         have zc11 : w3.cell? ⟨d + 1, 1, none⟩ = some (.bool false) := cell_of_block hz1 1
         have ze0 : ¬ d = d + 1 := K3.out.ne
         have ze1 : ¬ d + 1 = d := fun e => K3.out.ne e.symm
         clear hz0 hz1
      )
      | (go_at_call 82
         refine (((K2.out.new1 (.cells #[.int .i64 a.1, .bool a.2] 151) hd).new (.cells #[.int .i64 0, .bool false] 151) (HD1.out _)).call HL2.out HLE.out (look_ans n m 0)).mono ?_
         rintro e w3 ⟨b, hb, rfl, h3⟩
         have HRB := hid hb
         have K3 := hid h3
         obtain ⟨f, hf⟩ : ∃ f, w3.heap.size = f := ⟨_, rfl⟩
         have HF1 : Hid (∀ o, (w3.alloc o).heap.size = f + 1) := fun o => by rw [World.size_alloc, hf]
         have HFS : Hid (∀ a v b u, ((w3.setCell a v).setCell b u).heap.size = f) := fun a v b u => by rw [World.size_setCell, World.size_setCell, hf]
         clear K2 HL2 hb h3 HD1 HDS   c0 c1 c2 c3 c4 c5 c6 c7 c8 c9 c10 c11 c12 c13
         obtain ⟨c0, c1, c2, c3, c4, c5, c6, c7, c8, c9, c10, c11, c12, c13⟩ := HPC.out _ K3.out.st.bag.1.1
         have hz0 : w3.heap[d]? = some (.cells #[.int .i64 a.1, .bool a.2] 151) := K3.out.st.bag.1.2
         have zl0 : d < f := by rw [← hf]; exact lt_of_block hz0
         have zn0 : ¬ y = d := fun e => K3.out.n1.2 (e ▸ HYV.out)
         have zm0 : ¬ d = y := fun e => K3.out.n1.2 (e.symm ▸ HYV.out)
         have zf00 := frozen_of_block hz0 0
         have zc00 : w3.cell? ⟨d, 0, none⟩ = some (.int .i64 a.1) := cell_of_block hz0 0
         have zf01 := frozen_of_block hz0 1
         have zc01 : w3.cell? ⟨d, 1, none⟩ = some (.bool a.2) := cell_of_block hz0 1
         have hz1 : w3.heap[d + 1]? = some (.cells #[.int .i64 0, .bool false] 151) := K3.out.st.bag.2
         have zl1 : d + 1 < f := by rw [← hf]; exact lt_of_block hz1
         have zn1 : ¬ y = d + 1 := fun e => K3.out.n2.2 (e ▸ HYV.out)
         have zm1 : ¬ d + 1 = y := fun e => K3.out.n2.2 (e.symm ▸ HYV.out)
         have zf10 := frozen_of_block hz1 0
         have zc10 : w3.cell? ⟨d + 1, 0, none⟩ = some (.int .i64 0) := cell_of_block hz1 0
         have zf11 := frozen_of_block hz1 1
         have zc11 : w3.cell? ⟨d + 1, 1, none⟩ = some (.bool false) := cell_of_block hz1 1
         have ze0 : ¬ d = d + 1 := K3.out.ne
         have ze1 : ¬ d + 1 = d := fun e => K3.out.ne e.symm
         clear hz0 hz1
      )
      | (go_at_call 82
         refine (((K2.out.new1 (.cells #[.int .i64 0, .bool false] 151) hd).new (.cells #[.int .i64 a.1, .bool a.2] 151) (HD1.out _)).call HL2.out HLE.out (look_ans n m 0)).mono ?_
         rintro e w3 ⟨b, hb, rfl, h3⟩
         have HRB := hid hb
         have K3 := hid h3
         obtain ⟨f, hf⟩ : ∃ f, w3.heap.size = f := ⟨_, rfl⟩
         have HF1 : Hid (∀ o, (w3.alloc o).heap.size = f + 1) := fun o => by rw [World.size_alloc, hf]
         have HFS : Hid (∀ a v b u, ((w3.setCell a v).setCell b u).heap.size = f) := fun a v b u => by rw [World.size_setCell, World.size_setCell, hf]
         clear K2 HL2 hb h3 HD1 HDS   c0 c1 c2 c3 c4 c5 c6 c7 c8 c9 c10 c11 c12 c13
         obtain ⟨c0, c1, c2, c3, c4, c5, c6, c7, c8, c9, c10, c11, c12, c13⟩ := HPC.out _ K3.out.st.bag.1.1
         have hz0 : w3.heap[d]? = some (.cells #[.int .i64 0, .bool false] 151) := K3.out.st.bag.1.2
         have zl0 : d < f := by rw [← hf]; exact lt_of_block hz0
         have zn0 : ¬ y = d := fun e => K3.out.n1.2 (e ▸ HYV.out)
         have zm0 : ¬ d = y := fun e => K3.out.n1.2 (e.symm ▸ HYV.out)
         have zf00 := frozen_of_block hz0 0
         have zc00 : w3.cell? ⟨d, 0, none⟩ = some (.int .i64 0) := cell_of_block hz0 0
         have zf01 := frozen_of_block hz0 1
         have zc01 : w3.cell? ⟨d, 1, none⟩ = some (.bool false) := cell_of_block hz0 1
         have hz1 : w3.heap[d + 1]? = some (.cells #[.int .i64 a.1, .bool a.2] 151) := K3.out.st.bag.2
         have zl1 : d + 1 < f := by rw [← hf]; exact lt_of_block hz1
         have zn1 : ¬ y = d + 1 := fun e => K3.out.n2.2 (e ▸ HYV.out)
         have zm1 : ¬ d + 1 = y := fun e => K3.out.n2.2 (e.symm ▸ HYV.out)
         have zf10 := frozen_of_block hz1 0
         have zc10 : w3.cell? ⟨d + 1, 0, none⟩ = some (.int .i64 a.1) := cell_of_block hz1 0
         have zf11 := frozen_of_block hz1 1
         have zc11 : w3.cell? ⟨d + 1, 1, none⟩ = some (.bool a.2) := cell_of_block hz1 1
         have ze0 : ¬ d = d + 1 := K3.out.ne
         have ze1 : ¬ d + 1 = d := fun e => K3.out.ne e.symm
         clear hz0 hz1
      )
      | (go_at_call 82
         refine (K2.out.call HL2.out HLE.out (look_ans n m 0)).mono ?_
         rintro e w3 ⟨b, hb, rfl, h3⟩
         have HRB := hid hb
         have K3 := hid h3
         obtain ⟨f, hf⟩ : ∃ f, w3.heap.size = f := ⟨_, rfl⟩
         have HF1 : Hid (∀ o, (w3.alloc o).heap.size = f + 1) := fun o => by rw [World.size_alloc, hf]
         have HFS : Hid (∀ a v b u, ((w3.setCell a v).setCell b u).heap.size = f) := fun a v b u => by rw [World.size_setCell, World.size_setCell, hf]
         clear K2 HL2 hb h3 HD1 HDS zf00 zc00 zf01 zc01 zl0 zn0 zm0 c0 c1 c2 c3 c4 c5 c6 c7 c8 c9 c10 c11 c12 c13
         obtain ⟨c0, c1, c2, c3, c4, c5, c6, c7, c8, c9, c10, c11, c12, c13⟩ := HPC.out _ K3.out.st.bag.1
         have hz0 : w3.heap[c]? = some (.cells #[.int .i64 0, .bool false] 151) := K3.out.st.bag.2
         have zl0 : c < f := by rw [← hf]; exact lt_of_block hz0
         have zn0 : ¬ y = c := fun e => K3.out.n1.2 (e ▸ HYV.out)
         have zm0 : ¬ c = y := fun e => K3.out.n1.2 (e.symm ▸ HYV.out)
         have zf00 := frozen_of_block hz0 0
         have zc00 : w3.cell? ⟨c, 0, none⟩ = some (.int .i64 0) := cell_of_block hz0 0
         have zf01 := frozen_of_block hz0 1
         have zc01 : w3.cell? ⟨c, 1, none⟩ = some (.bool false) := cell_of_block hz0 1
         clear hz0
      )
      | (go_at_call 82
         refine ((K2.out.put (.int .i64 a.1) (.bool a.2)).call HL2.out HLE.out (look_ans n m 0)).mono ?_
         rintro e w3 ⟨b, hb, rfl, h3⟩
         have HRB := hid hb
         have K3 := hid h3
         obtain ⟨f, hf⟩ : ∃ f, w3.heap.size = f := ⟨_, rfl⟩
         have HF1 : Hid (∀ o, (w3.alloc o).heap.size = f + 1) := fun o => by rw [World.size_alloc, hf]
         have HFS : Hid (∀ a v b u, ((w3.setCell a v).setCell b u).heap.size = f) := fun a v b u => by rw [World.size_setCell, World.size_setCell, hf]
         clear K2 HL2 hb h3 HD1 HDS zf00 zc00 zf01 zc01 zl0 zn0 zm0 c0 c1 c2 c3 c4 c5 c6 c7 c8 c9 c10 c11 c12 c13
         obtain ⟨c0, c1, c2, c3, c4, c5, c6, c7, c8, c9, c10, c11, c12, c13⟩ := HPC.out _ K3.out.st.bag.1
         have hz0 : w3.heap[c]? = some (.cells #[.int .i64 a.1, .bool a.2] 151) := K3.out.st.bag.2
         have zl0 : c < f := by rw [← hf]; exact lt_of_block hz0
         have zn0 : ¬ y = c := fun e => K3.out.n1.2 (e ▸ HYV.out)
         have zm0 : ¬ c = y := fun e => K3.out.n1.2 (e.symm ▸ HYV.out)
         have zf00 := frozen_of_block hz0 0
         have zc00 : w3.cell? ⟨c, 0, none⟩ = some (.int .i64 a.1) := cell_of_block hz0 0
         have zf01 := frozen_of_block hz0 1
         have zc01 : w3.cell? ⟨c, 1, none⟩ = some (.bool a.2) := cell_of_block hz0 1
         clear hz0
      )
      | (go_at_call 82
         refine ((K2.out.new (.cells #[.int .i64 0, .bool false] 151) hd).call HL2.out HLE.out (look_ans n m 0)).mono ?_
         rintro e w3 ⟨b, hb, rfl, h3⟩
         have HRB := hid hb
         have K3 := hid h3
         obtain ⟨f, hf⟩ : ∃ f, w3.heap.size = f := ⟨_, rfl⟩
         have HF1 : Hid (∀ o, (w3.alloc o).heap.size = f + 1) := fun o => by rw [World.size_alloc, hf]
         have HFS : Hid (∀ a v b u, ((w3.setCell a v).setCell b u).heap.size = f) := fun a v b u => by rw [World.size_setCell, World.size_setCell, hf]
         clear K2 HL2 hb h3 HD1 HDS zf00 zc00 zf01 zc01 zl0 zn0 zm0 c0 c1 c2 c3 c4 c5 c6 c7 c8 c9 c10 c11 c12 c13
         obtain ⟨c0, c1, c2, c3, c4, c5, c6, c7, c8, c9, c10, c11, c12, c13⟩ := HPC.out _ K3.out.st.bag.1.1
         have hz0 : w3.heap[c]? = some (.cells #[.int .i64 0, .bool false] 151) := K3.out.st.bag.1.2
         have zl0 : c < f := by rw [← hf]; exact lt_of_block hz0
         have zn0 : ¬ y = c := fun e => K3.out.n1.2 (e ▸ HYV.out)
         have zm0 : ¬ c = y := fun e => K3.out.n1.2 (e.symm ▸ HYV.out)
         have zf00 := frozen_of_block hz0 0
         have zc00 : w3.cell? ⟨c, 0, none⟩ = some (.int .i64 0) := cell_of_block hz0 0
         have zf01 := frozen_of_block hz0 1
         have zc01 : w3.cell? ⟨c, 1, none⟩ = some (.bool false) := cell_of_block hz0 1
         have hz1 : w3.heap[d]? = some (.cells #[.int .i64 0, .bool false] 151) := K3.out.st.bag.2
         have zl1 : d < f := by rw [← hf]; exact lt_of_block hz1
         have zn1 : ¬ y = d := fun e => K3.out.n2.2 (e ▸ HYV.out)
         have zm1 : ¬ d = y := fun e => K3.out.n2.2 (e.symm ▸ HYV.out)
         have zf10 := frozen_of_block hz1 0
         have zc10 : w3.cell? ⟨d, 0, none⟩ = some (.int .i64 0) := cell_of_block hz1 0
         have zf11 := frozen_of_block hz1 1
         have zc11 : w3.cell? ⟨d, 1, none⟩ = some (.bool false) := cell_of_block hz1 1
         have ze0 : ¬ c = d := K3.out.ne
         have ze1 : ¬ d = c := fun e => K3.out.ne e.symm
         clear hz0 hz1
      )
      | (go_at_call 82
         refine (((K2.out.put (.int .i64 a.1) (.bool a.2)).new (.cells #[.int .i64 0, .bool false] 151) (HDS.out _ _ _ _)).call HL2.out HLE.out (look_ans n m 0)).mono ?_
         rintro e w3 ⟨b, hb, rfl, h3⟩
         have HRB := hid hb
         have K3 := hid h3
         obtain ⟨f, hf⟩ : ∃ f, w3.heap.size = f := ⟨_, rfl⟩
         have HF1 : Hid (∀ o, (w3.alloc o).heap.size = f + 1) := fun o => by rw [World.size_alloc, hf]
         have HFS : Hid (∀ a v b u, ((w3.setCell a v).setCell b u).heap.size = f) := fun a v b u => by rw [World.size_setCell, World.size_setCell, hf]
         clear K2 HL2 hb h3 HD1 HDS zf00 zc00 zf01 zc01 zl0 zn0 zm0 c0 c1 c2 c3 c4 c5 c6 c7 c8 c9 c10 c11 c12 c13
         obtain ⟨c0, c1, c2, c3, c4, c5, c6, c7, c8, c9, c10, c11, c12, c13⟩ := HPC.out _ K3.out.st.bag.1.1
         have hz0 : w3.heap[c]? = some (.cells #[.int .i64 a.1, .bool a.2] 151) := K3.out.st.bag.1.2
         have zl0 : c < f := by rw [← hf]; exact lt_of_block hz0
         have zn0 : ¬ y = c := fun e => K3.out.n1.2 (e ▸ HYV.out)
         have zm0 : ¬ c = y := fun e => K3.out.n1.2 (e.symm ▸ HYV.out)
         have zf00 := frozen_of_block hz0 0
         have zc00 : w3.cell? ⟨c, 0, none⟩ = some (.int .i64 a.1) := cell_of_block hz0 0
         have zf01 := frozen_of_block hz0 1
         have zc01 : w3.cell? ⟨c, 1, none⟩ = some (.bool a.2) := cell_of_block hz0 1
         have hz1 : w3.heap[d]? = some (.cells #[.int .i64 0, .bool false] 151) := K3.out.st.bag.2
         have zl1 : d < f := by rw [← hf]; exact lt_of_block hz1
         have zn1 : ¬ y = d := fun e => K3.out.n2.2 (e ▸ HYV.out)
         have zm1 : ¬ d = y := fun e => K3.out.n2.2 (e.symm ▸ HYV.out)
         have zf10 := frozen_of_block hz1 0
         have zc10 : w3.cell? ⟨d, 0, none⟩ = some (.int .i64 0) := cell_of_block hz1 0
         have zf11 := frozen_of_block hz1 1
         have zc11 : w3.cell? ⟨d, 1, none⟩ = some (.bool false) := cell_of_block hz1 1
         have ze0 : ¬ c = d := K3.out.ne
         have ze1 : ¬ d = c := fun e => K3.out.ne e.symm
         clear hz0 hz1
      )
      | (go_at_call 82
         refine ((K2.out.new (.cells #[.int .i64 a.1, .bool a.2] 151) hd).call HL2.out HLE.out (look_ans n m 0)).mono ?_
         rintro e w3 ⟨b, hb, rfl, h3⟩
         have HRB := hid hb
         have K3 := hid h3
         obtain ⟨f, hf⟩ : ∃ f, w3.heap.size = f := ⟨_, rfl⟩
         have HF1 : Hid (∀ o, (w3.alloc o).heap.size = f + 1) := fun o => by rw [World.size_alloc, hf]
         have HFS : Hid (∀ a v b u, ((w3.setCell a v).setCell b u).heap.size = f) := fun a v b u => by rw [World.size_setCell, World.size_setCell, hf]
         clear K2 HL2 hb h3 HD1 HDS zf00 zc00 zf01 zc01 zl0 zn0 zm0 c0 c1 c2 c3 c4 c5 c6 c7 c8 c9 c10 c11 c12 c13
         obtain ⟨c0, c1, c2, c3, c4, c5, c6, c7, c8, c9, c10, c11, c12, c13⟩ := HPC.out _ K3.out.st.bag.1.1
         have hz0 : w3.heap[c]? = some (.cells #[.int .i64 0, .bool false] 151) := K3.out.st.bag.1.2
         have zl0 : c < f := by rw [← hf]; exact lt_of_block hz0
         have zn0 : ¬ y = c := fun e => K3.out.n1.2 (e ▸ HYV.out)
         have zm0 : ¬ c = y := fun e => K3.out.n1.2 (e.symm ▸ HYV.out)
         have zf00 := frozen_of_block hz0 0
         have zc00 : w3.cell? ⟨c, 0, none⟩ = some (.int .i64 0) := cell_of_block hz0 0
         have zf01 := frozen_of_block hz0 1
         have zc01 : w3.cell? ⟨c, 1, none⟩ = some (.bool false) := cell_of_block hz0 1
         have hz1 : w3.heap[d]? = some (.cells #[.int .i64 a.1, .bool a.2] 151) := K3.out.st.bag.2
         have zl1 : d < f := by rw [← hf]; exact lt_of_block hz1
         have zn1 : ¬ y = d := fun e => K3.out.n2.2 (e ▸ HYV.out)
         have zm1 : ¬ d = y := fun e => K3.out.n2.2 (e.symm ▸ HYV.out)
         have zf10 := frozen_of_block hz1 0
         have zc10 : w3.cell? ⟨d, 0, none⟩ = some (.int .i64 a.1) := cell_of_block hz1 0
         have zf11 := frozen_of_block hz1 1
         have zc11 : w3.cell? ⟨d, 1, none⟩ = some (.bool a.2) := cell_of_block hz1 1
         have ze0 : ¬ c = d := K3.out.ne
         have ze1 : ¬ d = c := fun e => K3.out.ne e.symm
         clear hz0 hz1
      )
      | (go_at_call 82
         refine (K2.out.call HL2.out HLE.out (look_ans n m 0)).mono ?_
         rintro e w3 ⟨b, hb, rfl, h3⟩
         have HRB := hid hb
         have K3 := hid h3
         obtain ⟨f, hf⟩ : ∃ f, w3.heap.size = f := ⟨_, rfl⟩
         have HF1 : Hid (∀ o, (w3.alloc o).heap.size = f + 1) := fun o => by rw [World.size_alloc, hf]
         have HFS : Hid (∀ a v b u, ((w3.setCell a v).setCell b u).heap.size = f) := fun a v b u => by rw [World.size_setCell, World.size_setCell, hf]
         clear K2 HL2 hb h3 HD1 HDS zf00 zc00 zf01 zc01 zf10 zc10 zf11 zc11 zl0 zn0 zm0 zl1 zn1 zm1 ze0 ze1 c0 c1 c2 c3 c4 c5 c6 c7 c8 c9 c10 c11 c12 c13
         obtain ⟨c0, c1, c2, c3, c4, c5, c6, c7, c8, c9, c10, c11, c12, c13⟩ := HPC.out _ K3.out.st.bag.1.1
         have hz0 : w3.heap[c]? = some (.cells #[.int .i64 0, .bool false] 151) := K3.out.st.bag.1.2
         have zl0 : c < f := by rw [← hf]; exact lt_of_block hz0
         have zn0 : ¬ y = c := fun e => K3.out.n1.2 (e ▸ HYV.out)
         have zm0 : ¬ c = y := fun e => K3.out.n1.2 (e.symm ▸ HYV.out)
         have zf00 := frozen_of_block hz0 0
         have zc00 : w3.cell? ⟨c, 0, none⟩ = some (.int .i64 0) := cell_of_block hz0 0
         have zf01 := frozen_of_block hz0 1
         have zc01 : w3.cell? ⟨c, 1, none⟩ = some (.bool false) := cell_of_block hz0 1
         have hz1 : w3.heap[c + 1]? = some (.cells #[.int .i64 0, .bool false] 151) := K3.out.st.bag.2
         have zl1 : c + 1 < f := by rw [← hf]; exact lt_of_block hz1
         have zn1 : ¬ y = c + 1 := fun e => K3.out.n2.2 (e ▸ HYV.out)
         have zm1 : ¬ c + 1 = y := fun e => K3.out.n2.2 (e.symm ▸ HYV.out)
         have zf10 := frozen_of_block hz1 0
         have zc10 : w3.cell? ⟨c + 1, 0, none⟩ = some (.int .i64 0) := cell_of_block hz1 0
         have zf11 := frozen_of_block hz1 1
         have zc11 : w3.cell? ⟨c + 1, 1, none⟩ = some (.bool false) := cell_of_block hz1 1
         have ze0 : ¬ c = c + 1 := K3.out.ne
         have ze1 : ¬ c + 1 = c := fun e => K3.out.ne e.symm
         clear hz0 hz1
      )
      | (go_at_call 82
         refine ((K2.out.put1 (.int .i64 a.1) (.bool a.2)).call HL2.out HLE.out (look_ans n m 0)).mono ?_
         rintro e w3 ⟨b, hb, rfl, h3⟩
         have HRB := hid hb
         have K3 := hid h3
         obtain ⟨f, hf⟩ : ∃ f, w3.heap.size = f := ⟨_, rfl⟩
         have HF1 : Hid (∀ o, (w3.alloc o).heap.size = f + 1) := fun o => by rw [World.size_alloc, hf]
         have HFS : Hid (∀ a v b u, ((w3.setCell a v).setCell b u).heap.size = f) := fun a v b u => by rw [World.size_setCell, World.size_setCell, hf]
         clear K2 HL2 hb h3 HD1 HDS zf00 zc00 zf01 zc01 zf10 zc10 zf11 zc11 zl0 zn0 zm0 zl1 zn1 zm1 ze0 ze1 c0 c1 c2 c3 c4 c5 c6 c7 c8 c9 c10 c11 c12 c13
         obtain ⟨c0, c1, c2, c3, c4, c5, c6, c7, c8, c9, c10, c11, c12, c13⟩ := HPC.out _ K3.out.st.bag.1.1
         have hz0 : w3.heap[c]? = some (.cells #[.int .i64 a.1, .bool a.2] 151) := K3.out.st.bag.1.2
         have zl0 : c < f := by rw [← hf]; exact lt_of_block hz0
         have zn0 : ¬ y = c := fun e => K3.out.n1.2 (e ▸ HYV.out)
         have zm0 : ¬ c = y := fun e => K3.out.n1.2 (e.symm ▸ HYV.out)
         have zf00 := frozen_of_block hz0 0
         have zc00 : w3.cell? ⟨c, 0, none⟩ = some (.int .i64 a.1) := cell_of_block hz0 0
         have zf01 := frozen_of_block hz0 1
         have zc01 : w3.cell? ⟨c, 1, none⟩ = some (.bool a.2) := cell_of_block hz0 1
         have hz1 : w3.heap[c + 1]? = some (.cells #[.int .i64 0, .bool false] 151) := K3.out.st.bag.2
         have zl1 : c + 1 < f := by rw [← hf]; exact lt_of_block hz1
         have zn1 : ¬ y = c + 1 := fun e => K3.out.n2.2 (e ▸ HYV.out)
         have zm1 : ¬ c + 1 = y := fun e => K3.out.n2.2 (e.symm ▸ HYV.out)
         have zf10 := frozen_of_block hz1 0
         have zc10 : w3.cell? ⟨c + 1, 0, none⟩ = some (.int .i64 0) := cell_of_block hz1 0
         have zf11 := frozen_of_block hz1 1
         have zc11 : w3.cell? ⟨c + 1, 1, none⟩ = some (.bool false) := cell_of_block hz1 1
         have ze0 : ¬ c = c + 1 := K3.out.ne
         have ze1 : ¬ c + 1 = c := fun e => K3.out.ne e.symm
         clear hz0 hz1
      )
      | (go_at_call 82
         refine ((K2.out.put2 (.int .i64 a.1) (.bool a.2)).call HL2.out HLE.out (look_ans n m 0)).mono ?_
         rintro e w3 ⟨b, hb, rfl, h3⟩
         have HRB := hid hb
         have K3 := hid h3
         obtain ⟨f, hf⟩ : ∃ f, w3.heap.size = f := ⟨_, rfl⟩
         have HF1 : Hid (∀ o, (w3.alloc o).heap.size = f + 1) := fun o => by rw [World.size_alloc, hf]
         have HFS : Hid (∀ a v b u, ((w3.setCell a v).setCell b u).heap.size = f) := fun a v b u => by rw [World.size_setCell, World.size_setCell, hf]
         clear K2 HL2 hb h3 HD1 HDS zf00 zc00 zf01 zc01 zf10 zc10 zf11 zc11 zl0 zn0 zm0 zl1 zn1 zm1 ze0 ze1 c0 c1 c2 c3 c4 c5 c6 c7 c8 c9 c10 c11 c12 c13
         obtain ⟨c0, c1, c2, c3, c4, c5, c6, c7, c8, c9, c10, c11, c12, c13⟩ := HPC.out _ K3.out.st.bag.1.1
         have hz0 : w3.heap[c]? = some (.cells #[.int .i64 0, .bool false] 151) := K3.out.st.bag.1.2
         have zl0 : c < f := by rw [← hf]; exact lt_of_block hz0
         have zn0 : ¬ y = c := fun e => K3.out.n1.2 (e ▸ HYV.out)
         have zm0 : ¬ c = y := fun e => K3.out.n1.2 (e.symm ▸ HYV.out)
         have zf00 := frozen_of_block hz0 0
         have zc00 : w3.cell? ⟨c, 0, none⟩ = some (.int .i64 0) := cell_of_block hz0 0
         have zf01 := frozen_of_block hz0 1
         have zc01 : w3.cell? ⟨c, 1, none⟩ = some (.bool false) := cell_of_block hz0 1
         have hz1 : w3.heap[c + 1]? = some (.cells #[.int .i64 a.1, .bool a.2] 151) := K3.out.st.bag.2
         have zl1 : c + 1 < f := by rw [← hf]; exact lt_of_block hz1
         have zn1 : ¬ y = c + 1 := fun e => K3.out.n2.2 (e ▸ HYV.out)
         have zm1 : ¬ c + 1 = y := fun e => K3.out.n2.2 (e.symm ▸ HYV.out)
         have zf10 := frozen_of_block hz1 0
         have zc10 : w3.cell? ⟨c + 1, 0, none⟩ = some (.int .i64 a.1) := cell_of_block hz1 0
         have zf11 := frozen_of_block hz1 1
         have zc11 : w3.cell? ⟨c + 1, 1, none⟩ = some (.bool a.2) := cell_of_block hz1 1
         have ze0 : ¬ c = c + 1 := K3.out.ne
         have ze1 : ¬ c + 1 = c := fun e => K3.out.ne e.symm
         clear hz0 hz1
      )
      )
    all_goals go_wp2_with fail
    all_goals go_meet
    all_goals refine ⟨a.1, a.2, b.1, b.2, _, _, HRA.out, HRB.out, rfl, rfl, ?_⟩
    all_goals first
      | exact ((K3.out.new1 (.cells #[.int .i64 a.1, .bool a.2] 151) hf).new (.cells #[.int .i64 b.1, .bool b.2] 151) (HF1.out _))
      | exact ((K3.out.new1 (.cells #[.int .i64 b.1, .bool b.2] 151) hf).new (.cells #[.int .i64 a.1, .bool a.2] 151) (HF1.out _)).swap
      | exact ((K3.out.put (.int .i64 a.1) (.bool a.2)).new (.cells #[.int .i64 b.1, .bool b.2] 151) (HFS.out _ _ _ _))
      | exact ((K3.out.put (.int .i64 b.1) (.bool b.2)).new (.cells #[.int .i64 a.1, .bool a.2] 151) (HFS.out _ _ _ _)).swap
      | exact (K3.out.new (.cells #[.int .i64 b.1, .bool b.2] 151) hf)
      | exact (K3.out.put2 (.int .i64 b.1) (.bool b.2))
      | exact (K3.out.put1 (.int .i64 b.1) (.bool b.2)).swap
      | exact ((K3.out.put1 (.int .i64 a.1) (.bool a.2)).put2 (.int .i64 b.1) (.bool b.2))
      | exact ((K3.out.put2 (.int .i64 b.1) (.bool b.2)).put1 (.int .i64 a.1) (.bool a.2))
      | exact ((K3.out.put2 (.int .i64 a.1) (.bool a.2)).put1 (.int .i64 b.1) (.bool b.2)).swap
      | exact ((K3.out.put1 (.int .i64 b.1) (.bool b.2)).put2 (.int .i64 a.1) (.bool a.2)).swap
  case rest =>
  obtain ⟨a1, a2, b1, b2, x, z, ha, hb, rfl, rfl, hp⟩ := hcut
  have hx0 : wc.heap[x]? = some (.cells #[.int .i64 a1, .bool a2] 151) := hp.st.bag.1.2
  have hz0 : wc.heap[z]? = some (.cells #[.int .i64 b1, .bool b2] 151) := hp.st.bag.2
  have xc0 : wc.cell? ⟨x, 0, none⟩ = some (.int .i64 a1) := cell_of_block hx0 0
  have xc1 : wc.cell? ⟨x, 1, none⟩ = some (.bool a2) := cell_of_block hx0 1
  have yc0 : wc.cell? ⟨z, 0, none⟩ = some (.int .i64 b1) := cell_of_block hz0 0
  have yc1 : wc.cell? ⟨z, 1, none⟩ = some (.bool b2) := cell_of_block hz0 1
  obtain ⟨c0, c1, c2, c3, c4, c5, c6, c7, c8, c9, c10, c11, c12, c13⟩ := HPC.out _ hp.st.bag.1.1
  have HBB := hid (bb15 Q (planCs n m ta oa (.slice za n zc) (.slice zb m zd)) n m a1 b1 a2 b2 ha hb k6 HK6.out)
  have HXL : Hid (x < wc.heap.size) := lt_of_block hx0
  have HA0 := hid ha
  have HN1 := hid hp.n1
  have HNE := hid hp.ne
  have K := hid hp.st
  clear hx0 hz0 hp ha hb HK6
  go_wp2_with fail
  refine (K.out.callOutP HBB.out ⟨fun w h => HLE.out.p w h.1.1, fun k h => .inl (.inl (HLE.out.v k h))⟩ (best_ans n m _ _ k6)).mono ?_
  rintro e w4 ⟨l, v, hl, rfl, h4, hlo⟩
  have HBL : Hid (∀ x ∈ l, -9223372036854775808 ≤ x ∧ x ≤ 9223372036854775807) := fun x hx => by have := hl x hx; omega
  have HOX : Hid (¬ (oBag v l).V x) := fun e => by have h9 := hlo x e; have h8 := HXL.out; omega
  clear hl
  have hx0 : w4.heap[x]? = some (.cells #[.int .i64 a1, .bool a2] 151) := h4.bag.1.1.2
  obtain ⟨bo, hown⟩ := h4.bag.2
  obtain ⟨oa4, oc4, rfl, _⟩ := Grow.shape hown
  obtain ⟨ln4, hln4⟩ : ∃ ln4, l.length = ln4 := ⟨_, rfl⟩
  rw [hln4] at h4 HOX hown hlo ⊢
  have H4 := hid h4
  clear K HBB HXL hln4 hlo h4 xc0 xc1 yc0 yc1 c0 c1 c2 c3 c4 c5 c6 c7 c8 c9 c10 c11 c12 c13
  have xc0 : w4.cell? ⟨x, 0, none⟩ = some (.int .i64 a1) := cell_of_block hx0 0
  have xc1 : w4.cell? ⟨x, 1, none⟩ = some (.bool a2) := cell_of_block hx0 1
  cases a2
  · have yc0 : w4.cell? ⟨z, 0, none⟩ = some (.int .i64 b1) := cell_of_block H4.out.bag.1.2 0
    have f0 := frozen_of_block hx0 0
    have HC := hid (choose15 w4 (.slice oa4 ln4 oc4) l a1 b1 (hown.sl2 HBL.out))
    obtain ⟨cv, hcv⟩ : ∃ cv, chooseV l a1 b1 = cv := ⟨_, rfl⟩
    rw [hcv] at HC
    have H5 : Hid (At w F lb p q (fun _ => False) (((BG.and (Bag.one x (.cells #[.int .i64 a1, .bool false] 151))).and (Bag.one z (.cells #[.int .i64 b1, .bool b2] 151))).and (oBag (.slice oa4 ln4 oc4) l)) ((storeT 5 (IntKind.i64.wrap (cv + 1))).bind fun _ => tailT n 1 l cv (b1, b2)) R w4) := hcv ▸ (At.neg H4.out (fun h => Bool.noConfusion h))
    clear H4 hcv hx0 hown
    go_wp2_with fail
    refine HC.out.mono ?_
    rintro e w5 ⟨rfl, rfl⟩
    clear HC
    have h6 := H5.out.put3 HN1.out HNE.out HOX.out (.int .i64 cv)
    have H6 := hid h6
    obtain ⟨Y, hY⟩ : ∃ Y, w5.setCell ⟨x, 0, none⟩ (.int .i64 cv) = Y := ⟨_, rfl⟩
    rw [hY] at H6 h6
    have xc2 : Y.cell? ⟨x, 0, none⟩ = some (.int .i64 cv) := cell_of_block h6.bag.1.1.2 0
    obtain ⟨c0, c1, c2, c3, c4, c5, c6, c7, c8, c9, c10, c11, c12, c13⟩ := HPC.out _ h6.bag.1.1.1
    clear h6 H5
    go_upto_region 8 with fail
    clear xc0 xc1 yc0 f0 hY
    have H6d := hid (H6.out.drew)
    clear H6
    go_region_held (fun w' => w'.cell? ⟨y, 0, none⟩ = some (.int .i64 0) ∧ w'.cell? ⟨y, 1, none⟩ = some (.int .i64 2) ∧ w'.cell? ⟨y, 2, none⟩ = some (.int .i64 4) ∧ w'.cell? ⟨y, 3, none⟩ = some (.int .i64 3) ∧ w'.cell? ⟨y, 4, none⟩ = some (.int .i64 5) ∧ w'.cell? ⟨y, 5, none⟩ = some (.int .i64 6) ∧ w'.cell? ⟨y, 6, none⟩ = some (.int .i64 8) ∧ w'.cell? ⟨y, 7, none⟩ = some (.int .i64 41) ∧ w'.cell? ⟨y, 8, none⟩ = some (.int .i64 43) ∧ w'.cell? ⟨y, 9, none⟩ = some (.slice ta n n) ∧ w'.cell? ⟨y, 10, none⟩ = some (.slice oa m m) ∧ w'.cell? ⟨y, 11, none⟩ = some (.int .i64 (43 + (m : Int) + (n : Int) * 24 + (m : Int) * 24)) ∧ w'.cell? ⟨y, 12, none⟩ = some (.slice za n zc) ∧ w'.cell? ⟨y, 13, none⟩ = some (.slice zb m zd) ∧ w'.cell? ⟨x, 0, none⟩ = some (.int .i64 cv)) (go_keep)
      (first | (go_at_call 61; refine (H6d.out.call (store_does 5 (IntKind.i64.wrap (cv + 1)))).mono ?_; rintro e w6 ⟨_, rfl, h9⟩
                have H7 := hid h9
                have xc3 : w6.cell? ⟨x, 0, none⟩ = some (.int .i64 cv) := cell_of_block h9.bag.1.1.2 0
                clear H6d h9 xc2 c0 c1 c2 c3 c4 c5 c6 c7 c8 c9 c10 c11 c12 c13
                obtain ⟨c0, c1, c2, c3, c4, c5, c6, c7, c8, c9, c10, c11, c12, c13⟩ := HPC.out _ H7.out.bag.1.1.1))
    clear xc3 c0 c1 c2 c3 c4 c5 c6 c7 c8 c9 c10 c11 c12 c13
    have hx0 : w6.heap[x]? = some (.cells #[.int .i64 cv, .bool false] 151) := H7.out.bag.1.1.2
    have hz0 : w6.heap[z]? = some (.cells #[.int .i64 b1, .bool b2] 151) := H7.out.bag.1.2
    have xc0 := cell_of_block hx0 0
    have xc1 := cell_of_block hx0 1
    have yc0 := cell_of_block hz0 0
    have yc1 := cell_of_block hz0 1
    simp only [List.getElem?_toArray, List.getElem?_cons_zero, List.getElem?_cons_succ] at xc0 xc1 yc0 yc1
    obtain ⟨bo, hbo⟩ := H7.out.bag.2
    have HN := hid (needs15 w6 (.slice oa4 ln4 oc4) l cv b1 b2 (hbo.sl2 HBL.out))
    clear hx0 hz0 hbo
    go_wp2_with fail
    refine HN.out.mono ?_
    rintro e w7 ⟨rfl, ho7⟩
    have h7 := H7.out.still ho7
    clear H7 HN ho7 xc0 xc1 yc0 yc1
    obtain ⟨V, hV⟩ : ∃ V, callV l cv (b1, b2) = V := ⟨_, rfl⟩
    rw [hV]
    cases V
    · have H8 : Hid (At w F lb p q (fun _ => False) (((BG.and (Bag.one x (.cells #[.int .i64 cv, .bool false] 151))).and (Bag.one z (.cells #[.int .i64 b1, .bool b2] 151))).and (oBag (.slice oa4 ln4 oc4) l)) (curT n 1) R w7) := (At.neg h7 (by rw [hV]; exact fun h => Bool.noConfusion h)).thru
      obtain ⟨c0, c1, c2, c3, c4, c5, c6, c7, c8, c9, c10, c11, c12, c13⟩ := HPC.out _ H8.out.bag.1.1.1
      clear h7 hV
      go_wp2_with fail
      refine (H8.out.tailIn (cur15 Q (planCs n m ta oa (.slice za n zc) (.slice zb m zd)) n m 1) ⟨fun w h => HLE.out.p w h.1.1.1, fun k h => .inl (.inl (.inl (HLE.out.v k h)))⟩).mono ?_
      rintro e w9 ⟨r, rfl, h9⟩
      have H9 := hid h9
      clear H8 h9 c0 c1 c2 c3 c4 c5 c6 c7 c8 c9 c10 c11 c12 c13
      go_wp2_with fail
      go_ret2
      exact ⟨_, _, rfl, H9.out⟩
    · have H8 : Hid (At w F lb p q (fun _ => False) (((BG.and (Bag.one x (.cells #[.int .i64 cv, .bool false] 151))).and (Bag.one z (.cells #[.int .i64 b1, .bool b2] 151))).and (oBag (.slice oa4 ln4 oc4) l)) ((storeT 2 1).bind fun _ => curT n 1) R w7) := At.pos h7 hV
      obtain ⟨c0, c1, c2, c3, c4, c5, c6, c7, c8, c9, c10, c11, c12, c13⟩ := HPC.out _ H8.out.bag.1.1.1
      clear h7 hV
      go_wp2_with fail
      refine (H8.out.call (store_does 2 1)).mono ?_
      rintro e w8 ⟨_, rfl, h8⟩
      have H8b := hid h8
      clear H8 h8 c0 c1 c2 c3 c4 c5 c6 c7 c8 c9 c10 c11 c12 c13
      obtain ⟨c0, c1, c2, c3, c4, c5, c6, c7, c8, c9, c10, c11, c12, c13⟩ := HPC.out _ H8b.out.bag.1.1.1
      go_wp2_with fail
      refine (H8b.out.tailIn (cur15 Q (planCs n m ta oa (.slice za n zc) (.slice zb m zd)) n m 1) ⟨fun w h => HLE.out.p w h.1.1.1, fun k h => .inl (.inl (.inl (HLE.out.v k h)))⟩).mono ?_
      rintro e w9 ⟨r, rfl, h9⟩
      have H9 := hid h9
      clear H8b h9 c0 c1 c2 c3 c4 c5 c6 c7 c8 c9 c10 c11 c12 c13
      go_wp2_with fail
      go_ret2
      exact ⟨_, _, rfl, H9.out⟩
  · have H5 : Hid (At w F lb p q (fun _ => False) (((BG.and (Bag.one x (.cells #[.int .i64 a1, .bool true] 151))).and (Bag.one z (.cells #[.int .i64 b1, .bool b2] 151))).and (oBag (.slice oa4 ln4 oc4) l)) (tailT n 1 l a1 (b1, b2)) R w4) := (At.pos H4.out rfl).thru
    clear H4 hx0 hown
    go_upto_region 9 with fail
    clear xc0 xc1
    have hx0 : w4.heap[x]? = some (.cells #[.int .i64 a1, .bool true] 151) := H5.out.bag.1.1.2
    have hz0 : w4.heap[z]? = some (.cells #[.int .i64 b1, .bool b2] 151) := H5.out.bag.1.2
    have xc0 := cell_of_block hx0 0
    have xc1 := cell_of_block hx0 1
    have yc0 := cell_of_block hz0 0
    have yc1 := cell_of_block hz0 1
    simp only [List.getElem?_toArray, List.getElem?_cons_zero, List.getElem?_cons_succ] at xc0 xc1 yc0 yc1
    obtain ⟨bo, hbo⟩ := H5.out.bag.2
    have HN := hid (needs15 w4 (.slice oa4 ln4 oc4) l a1 b1 b2 (hbo.sl2 HBL.out))
    clear hx0 hz0 hbo
    go_wp2_with fail
    refine HN.out.mono ?_
    rintro e w7 ⟨rfl, ho7⟩
    have h7 := H5.out.still ho7
    clear H5 HN ho7 xc0 xc1 yc0 yc1
    obtain ⟨V, hV⟩ : ∃ V, callV l a1 (b1, b2) = V := ⟨_, rfl⟩
    rw [hV]
    cases V
    · have H8 : Hid (At w F lb p q (fun _ => False) (((BG.and (Bag.one x (.cells #[.int .i64 a1, .bool true] 151))).and (Bag.one z (.cells #[.int .i64 b1, .bool b2] 151))).and (oBag (.slice oa4 ln4 oc4) l)) (curT n 1) R w7) := (At.neg h7 (by rw [hV]; exact fun h => Bool.noConfusion h)).thru
      obtain ⟨c0, c1, c2, c3, c4, c5, c6, c7, c8, c9, c10, c11, c12, c13⟩ := HPC.out _ H8.out.bag.1.1.1
      clear h7 hV
      go_wp2_with fail
      refine (H8.out.tailIn (cur15 Q (planCs n m ta oa (.slice za n zc) (.slice zb m zd)) n m 1) ⟨fun w h => HLE.out.p w h.1.1.1, fun k h => .inl (.inl (.inl (HLE.out.v k h)))⟩).mono ?_
      rintro e w9 ⟨r, rfl, h9⟩
      have H9 := hid h9
      clear H8 h9 c0 c1 c2 c3 c4 c5 c6 c7 c8 c9 c10 c11 c12 c13
      go_wp2_with fail
      go_ret2
      exact ⟨_, _, rfl, H9.out⟩
    · have H8 : Hid (At w F lb p q (fun _ => False) (((BG.and (Bag.one x (.cells #[.int .i64 a1, .bool true] 151))).and (Bag.one z (.cells #[.int .i64 b1, .bool b2] 151))).and (oBag (.slice oa4 ln4 oc4) l)) ((storeT 2 1).bind fun _ => curT n 1) R w7) := At.pos h7 hV
      obtain ⟨c0, c1, c2, c3, c4, c5, c6, c7, c8, c9, c10, c11, c12, c13⟩ := HPC.out _ H8.out.bag.1.1.1
      clear h7 hV
      go_wp2_with fail
      refine (H8.out.call (store_does 2 1)).mono ?_
      rintro e w8 ⟨_, rfl, h8⟩
      have H8b := hid h8
      clear H8 h8 c0 c1 c2 c3 c4 c5 c6 c7 c8 c9 c10 c11 c12 c13
      obtain ⟨c0, c1, c2, c3, c4, c5, c6, c7, c8, c9, c10, c11, c12, c13⟩ := HPC.out _ H8b.out.bag.1.1.1
      go_wp2_with fail
      refine (H8b.out.tailIn (cur15 Q (planCs n m ta oa (.slice za n zc) (.slice zb m zd)) n m 1) ⟨fun w h => HLE.out.p w h.1.1.1, fun k h => .inl (.inl (.inl (HLE.out.v k h)))⟩).mono ?_
      rintro e w9 ⟨r, rfl, h9⟩
      have H9 := hid h9
      clear H8b h9 c0 c1 c2 c3 c4 c5 c6 c7 c8 c9 c10 c11 c12 c13
      go_wp2_with fail
      go_ret2
      exact ⟨_, _, rfl, H9.out⟩

set_option maxRecDepth 100000 in
set_option maxHeartbeats 4000000 in
theorem disp15 (Q : Nat → Prop) (cs : Array Value) (n m k6 : Nat) (hk6 : k6 = 6) (k : Int) : DoesIn (thBag cs n m Q) 47 (fun F => #[F, .agg cs, .int .i64 k]) (dispT n m k6 k) (fun x => .tuple #[.int .i64 x.1, .bool x.2]) := by
  by_cases hk : 0 ≤ k ∧ k < 2
  · rcases (show k = 0 ∨ k = 1 by omega) with rfl | rfl
    · exact disp15_0 Q cs n m k6 hk6
    · exact disp15_1 Q cs n m k6 hk6
  · clear hk6
    refine DoesIn.of fun w F lb p q R h => ?_
    have hT := h.bag.1
    obtain ⟨hn, hm, ta, oa, za, zb, zc, zd, rfl, _⟩ := h.bag.1
    have HA := hid (h.alloc (plO (planCs n m ta oa (.slice za n zc) (.slice zb m zd))))
    have hV : ∃ V y, V = w.alloc (plO (planCs n m ta oa (.slice za n zc) (.slice zb m zd))) ∧ y = w.heap.size := ⟨_, _, rfl, rfl⟩
    obtain ⟨V, y, hVe, hye⟩ := hV
    obtain ⟨BG, hBG⟩ : ∃ BG, (thBag (planCs n m ta oa (.slice za n zc) (.slice zb m zd)) n m Q).and (Bag.one y (plO (planCs n m ta oa (.slice za n zc) (.slice zb m zd)))) = BG := ⟨_, rfl⟩
    have H : Hid (At w F lb p q (fun _ => False) BG (dispT n m k6 k) R V) := by rw [← hBG, hVe, hye]; exact HA.out
    have HLE : Hid ((thBag (planCs n m ta oa (.slice za n zc) (.slice zb m zd)) n m Q).Le BG) := hBG ▸ ⟨fun _ h => h.1, fun _ h => .inl h⟩
    have HPC : Hid (∀ wx, BG.P wx → PlC14 wx y n m ta oa (.slice za n zc) (.slice zb m zd)) := hBG ▸ fun _ h => plan_cells h.2
    have HYV : Hid (BG.V y) := hBG ▸ (.inr rfl)
    obtain ⟨c0, c1, c2, c3, c4, c5, c6, c7, c8, c9, c10, c11, c12, c13⟩ := HPC.out _ H.out.bag
    clear hT h HA hBG
    go_enter Tryz.func47, Tryz.ntmps47
    go_upto_region 1 with fail
    rw [← hVe, ← hye]
    clear hVe hye
    have H1 := hid (H.out.neg hk)
    clear H HYV
    go_wp2_with fail
    refine (valid15 _ k).mono ?_
    rintro e w1 ⟨rfl, rfl⟩
    rw [decide_eq_false hk]
    clear hk
    go_wp2_with fail
    go_ret2
    exact ⟨_, BG, rfl, H1.out.fin⟩
end Go.Proofs.YtmcmjcaigipoaaaGreat

/-
  The frame's keep: the log grows by one access. Conditions: the frame is there; its log is not longer than a million.
-/
import Derived.Test.YtapmakdklpbjkaaFrame3
namespace Go.Proofs.Ytapmakdklpbjkaa
open Go.RowKit Go.Sept

theorem Try.infoAcc : (Try.prog.info? 151).map (fun i => (i.zero, i.size, i.bytes)) = some (some (.agg #[.int .i64 0, .int .i64 0]), 2, 16) := by kernel_rfl

theorem keep_new {w w1 : World} {F lb b' cap' : Nat} {s : FrSt} {r : Int} {lv : Value} {o : Obj} (h1 : w.heap[F]? = some (.cells (s.cells lv) 135)) (h2 : Grow 151 2 w lv lb s.log.length (logCells s.log)) {W : World} (eW : W.heap = (w.alloc o).heap) (et : W.os = w.os ∧ W.tape = w.tape ∧ W.output = w.output)
    (hg : Grow 151 2 w1 (.slice (some ⟨b', 0, none⟩) (s.log.length + 1 : Nat) cap') b' (s.log.length + 1) (logCells s.log ++ [.int .i64 r, .int .i64 s.now])) (ho : Only (fun k => lv.ownBlock = some k) W w1) (hb : b' = lb ∨ W.heap.size ≤ b') :
    w1.heap[F]? = some (.cells (s.cells lv) 135) ∧ (∀ n, FrameIs (((w1.setCell ⟨F, 1, none⟩ (.slice (some ⟨b', 0, none⟩) (s.log.length + 1 : Nat) cap')).setCell ⟨F, 6, none⟩ (.int .i64 ((s.asked : Int) + 1))).drewN n) F b' { s with log := s.log ++ [(r, s.now)], asked := s.asked + 1 } ∧ (b' = lb ∨ w.heap.size ≤ b') ∧
      Only (fun k => k = F ∨ k = lb) w (((w1.setCell ⟨F, 1, none⟩ (.slice (some ⟨b', 0, none⟩) (s.log.length + 1 : Nat) cap')).setCell ⟨F, 6, none⟩ (.int .i64 ((s.asked : Int) + 1))).drewN n)) := by
  have hO0 : Only (fun _ => False) w W := by
    have h0 := (Only.refl (fun _ => False) w).alloc o
    exact ⟨et.1, et.2.1, et.2.2, by rw [eW]; exact h0.size, fun k hk hs => by rw [eW]; exact h0.block k hk hs⟩
  have hF := lt_of_block h1
  have hFW : F < W.heap.size := Nat.lt_of_lt_of_le hF hO0.size
  have hfar := h2.far (by decide) h1
  have hF1 : w1.heap[F]? = some (.cells (s.cells lv) 135) := (ho.block F hFW hfar).trans ((hO0.block F hF (fun h => h)).trans h1)
  refine ⟨hF1, fun n => ?_⟩
  have hO1 : Only (fun k => k = F ∨ k = lb) w w1 := (hO0.mono (T := fun k => k = F ∨ k = lb) (fun _ _ h => h.elim)).chain ho (fun i _ e => .inr (h2.spot i e))
  have hO2 := only_drewN ((hO1.setCell (p := ⟨F, 1, none⟩) (.inr (.inl rfl)) (.slice (some ⟨b', 0, none⟩) (s.log.length + 1 : Nat) cap')).setCell (p := ⟨F, 6, none⟩) (.inr (.inl rfl)) (.int .i64 ((s.asked : Int) + 1))) n
  have hO3 : Only (· = F) w1 (((w1.setCell ⟨F, 1, none⟩ (.slice (some ⟨b', 0, none⟩) (s.log.length + 1 : Nat) cap')).setCell ⟨F, 6, none⟩ (.int .i64 ((s.asked : Int) + 1))).drewN n) := only_drewN (((Only.self F w1).own 1 _).own 6 _) n
  refine ⟨⟨by decide, _, blk6 (blk1 hF1 _) (s.asked + 1), ?_⟩, ?_, hO2⟩
  · have hg' := hg.only' hO3 (fun cur hc e => by
      subst e
      rw [hF1] at hc
      injection hc with hc
      injection hc with _ hc
      exact absurd hc (by decide))
    show Grow _ _ _ _ _ (s.log ++ [(r, s.now)]).length (logCells (s.log ++ [(r, s.now)]))
    rw [logCells_append, List.length_append]
    exact hg'
  · rcases hb with h | h
    · exact .inl h
    · exact .inr (Nat.le_trans hO0.size h)

set_option maxHeartbeats 1000000 in
theorem keep_rel (w : World) (F lb : Nat) (s : FrSt) (r : Int) (h : FrameIs w F lb s) (hb : s.log.length ≤ 1000000) (ha : s.asked ≤ 1000000) :
    Calls Try.prog 64 #[.pointer (some ⟨F, 0, none⟩), .int .i64 r] w fun e w' => ∃ lb', e = .returned (.tuple #[]) ∧ FrameIs w' F lb' { s with log := s.log ++ [(r, s.now)], asked := s.asked + 1 } ∧ (lb' = lb ∨ w.heap.size ≤ lb') ∧ Only (fun k => k = F ∨ k = lb) w w' := by
  obtain ⟨hne0, lv, h1, h2⟩ := h
  obtain ⟨ao, cap, rfl, hc1, hc2⟩ := h2.shape
  have c1 : w.cell? ⟨F, 1, none⟩ = some (.slice ao s.log.length cap) := cell_of_block h1 1
  have c5 : w.cell? ⟨F, 5, none⟩ = some (.int .i64 s.now) := cell_of_block h1 5
  have hF : F < w.heap.size := lt_of_block h1
  have hB : Hid (w.heap[F]? = some (.cells (s.cells (.slice ao s.log.length cap)) 135)) := h1
  have hG : Hid (Grow 151 2 w (.slice ao s.log.length cap) lb s.log.length (logCells s.log)) := h2
  clear h1 h2 hne0
  go_enter Try.func64, Try.ntmps64
  go_wp2_with fail
  go_region_law (refine step_append_grown _ rfl (.tmp 8) (.tmp 15) 133 rfl 151 _ 2 16 Try.underlying133 Try.infoAcc rfl (by decide) (.slice ao s.log.length cap) lb s.log.length (logCells s.log) rfl ((hG.out.only ((Only.refl (fun _ => False) w).alloc (.cells #[.int .i64 r, .int .i64 s.now] 151)) (fun h => h)).same rfl) ⟨w.heap.size, 0, none⟩ 1 1 [.int .i64 r, .int .i64 s.now] rfl (by decide) rfl (news_of_block (heap_new w (.cells #[.int .i64 r, .int .i64 s.now] 151))) (by intro u hu; simp at hu; rcases hu with rfl | rfl <;> rfl) (by unfold maxLen; omega) (by omega) ?_; intro b' cap' w1 hg ho hbb; have HK := keep_new hB.out hG.out (o := .cells #[.int .i64 r, .int .i64 s.now] 151) (W := (w.alloc (.cells #[.int .i64 r, .int .i64 s.now] 151)).drew) rfl ⟨rfl, rfl, rfl⟩ hg ho hbb; have d1 : w1.cell? ⟨F, 1, none⟩ = some (.slice ao s.log.length cap) := cell_of_block HK.1 1; have d6 : w1.cell? ⟨F, 6, none⟩ = some (.int .i64 (s.asked : Int)) := cell_of_block HK.1 6; have g1 := frozen_of_block HK.1 1; have g6 := frozen_of_block HK.1 6; have hsz := ho.size; have HF : Hid _ := HK.2; clear HK hg ho hbb)
  all_goals go_wp2
  all_goals
    go_end0
    exact ⟨b', rfl, HF.out 0⟩
end Go.Proofs.Ytapmakdklpbjkaa

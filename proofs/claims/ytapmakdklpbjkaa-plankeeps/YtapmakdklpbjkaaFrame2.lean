/-
  The frame's begin. Conditions: the frame is there.
-/
import Derived.Test.YtapmakdklpbjkaaFrame1
namespace Go.Proofs.Ytapmakdklpbjkaa
open Go.RowKit Go.Sept


set_option maxHeartbeats 1000000 in
theorem begin_rel (w : World) (F lb : Nat) (s : FrSt) (now : Int) (h : FrameIs w F lb s) (hl : s.log.length ≤ 1000000) :
    Calls Try.prog 80 #[.pointer (some ⟨F, 0, none⟩), .int .i64 now] w fun e w' => e = .returned (.tuple #[]) ∧ FrameIs w' F lb (FrSt.begun s now) ∧ Only (· = F) w w' := by
  obtain ⟨hne, lv, h1, h2⟩ := h
  obtain ⟨ao, cap, rfl, _, _⟩ := h2.shape
  have hO : Hid (∀ w' : World, w' = ((((((((w.setCell ⟨F, 3, none⟩ (.bool true)).setCell ⟨F, 4, none⟩ (.bool false)).setCell ⟨F, 5, none⟩ (.int .i64 now)).setCell ⟨F, 6, none⟩ (.int .i64 0)).setCell ⟨F, 7, none⟩ (.int .i64 ((s.log.length : Int) + 1))).setCell ⟨F, 8, none⟩ (.int .i64 0)).setCell ⟨F, 9, none⟩ (.int .i64 0)).setCell ⟨F, 10, none⟩ (.bool false)) →
      FrameIs w' F lb (FrSt.begun s now) ∧ Only (· = F) w w') := by
    rintro w' rfl
    have ho : Only (· = F) w ((((((((w.setCell ⟨F, 3, none⟩ (.bool true)).setCell ⟨F, 4, none⟩ (.bool false)).setCell ⟨F, 5, none⟩ (.int .i64 now)).setCell ⟨F, 6, none⟩ (.int .i64 0)).setCell ⟨F, 7, none⟩ (.int .i64 ((s.log.length : Int) + 1))).setCell ⟨F, 8, none⟩ (.int .i64 0)).setCell ⟨F, 9, none⟩ (.int .i64 0)).setCell ⟨F, 10, none⟩ (.bool false)) :=
      ((((((((Only.self F w).own 3 _).own 4 _).own 5 _).own 6 _).own 7 _).own 8 _).own 9 _).own 10 _
    exact ⟨FrameAt.upd hne h1 h2 ho (blk10 (blk9 (blk8 (blk7 (blk6 (blk5 (blk4 (blk3 h1 true) false) now) 0) (s.log.length + 1)) 0) 0) false) rfl, ho⟩
  have c1 : w.cell? ⟨F, 1, none⟩ = some (.slice ao s.log.length cap) := cell_of_block h1 1
  have c3 : w.cell? ⟨F, 3, none⟩ = some (.bool s.underway) := cell_of_block h1 3
  have c4 : w.cell? ⟨F, 4, none⟩ = some (.bool s.off) := cell_of_block h1 4
  have c5 : w.cell? ⟨F, 5, none⟩ = some (.int .i64 s.now) := cell_of_block h1 5
  have c6 : w.cell? ⟨F, 6, none⟩ = some (.int .i64 (s.asked : Int)) := cell_of_block h1 6
  have c7 : w.cell? ⟨F, 7, none⟩ = some (.int .i64 (s.most : Int)) := cell_of_block h1 7
  have c8 : w.cell? ⟨F, 8, none⟩ = some (.int .i64 (s.unheard : Int)) := cell_of_block h1 8
  have c9 : w.cell? ⟨F, 9, none⟩ = some (.int .i64 s.mark) := cell_of_block h1 9
  have c10 : w.cell? ⟨F, 10, none⟩ = some (.bool s.marked) := cell_of_block h1 10
  have hf : ∀ i, w.frozen? ⟨F, i, none⟩ = false := fun i => frozen_of_block h1 i
  have hl1 : (s.log.length : Int) ≤ 1000000 := by omega
  clear h1 h2
  go_enter Try.func80, Try.ntmps80
  go_wp2
  go_end0
  exact ⟨rfl, hO.out _ rfl⟩
end Go.Proofs.Ytapmakdklpbjkaa

/-
  The frame's small calls: New, Steps, Done, Off, Marked, goOff, begin. Conditions: the frame is there.
-/
import Derived.Test.YtmcmjcaigipoaaaGreatMake
import Derived.Test.YtmcmjcaigipoaaaGreatFrameIs
import Derived.Deep.QuietTactic
import Derived.BigQuiet
namespace Go.Proofs.YtmcmjcaigipoaaaGreat
open Go.RowKit Go.Sept

abbrev FrameIs (w : World) (F lb : Nat) (s : FrSt) : Prop := FrameAt 144 188 w F lb s

def fresh (mp : Option Addr) : FrSt := ⟨mp, [], false, false, false, 0, 0, 0, 0, 0, false⟩

set_option maxHeartbeats 400000 in
theorem fnew_any (w : World) (mp : Option Addr) :
    Calls Tryz.prog 39 #[.pointer mp] w fun e w' => e = .returned (.pointer (some ⟨w.heap.size, 0, none⟩)) ∧ w' = w.alloc (.cells ((fresh mp).cells (.slice none 0 0)) 144) := by
  go_enter Tryz.func39, Tryz.ntmps39
  go_wp2
  go_ret
  exact ⟨rfl, rfl⟩

theorem fnew_rel (w : World) (mp : Option Addr) :
    Calls Tryz.prog 39 #[.pointer mp] w fun e w' => ∃ F, e = .returned (.pointer (some ⟨F, 0, none⟩)) ∧ FrameIs w' F F (fresh mp) ∧ F = w.heap.size ∧ Only (fun _ => False) w w' := by
  refine (fnew_any w mp).mono ?_
  rintro e w' ⟨rfl, rfl⟩
  exact ⟨_, rfl, ⟨by decide, _, heap_new _ _, Grow.nil _ _ _ _⟩, rfl, (Only.refl _ _).alloc _⟩

set_option maxHeartbeats 400000 in
theorem steps_rel (w : World) (F lb : Nat) (s : FrSt) (h : FrameIs w F lb s) :
    Calls Tryz.prog 41 #[.pointer (some ⟨F, 0, none⟩)] w fun e w' => e = .returned (.int .i64 (s.log.length : Int)) ∧ w' = w := by
  obtain ⟨_, lv, h1, h2⟩ := h
  obtain ⟨ao, cap, rfl, _, _⟩ := h2.shape
  have c1 : w.cell? ⟨F, 1, none⟩ = some (.slice ao s.log.length cap) := cell_of_block h1 1
  clear h1 h2
  go_enter Tryz.func41, Tryz.ntmps41
  go_wp2
  go_ret
  exact ⟨rfl, rfl⟩

set_option maxHeartbeats 400000 in
theorem off_rel (w : World) (F lb : Nat) (s : FrSt) (h : FrameIs w F lb s) :
    Calls Tryz.prog 132 #[.pointer (some ⟨F, 0, none⟩)] w fun e w' => e = .returned (.bool (!s.underway || s.off)) ∧ w' = w := by
  obtain ⟨_, lv, h1, h2⟩ := h
  have c3 : w.cell? ⟨F, 3, none⟩ = some (.bool s.underway) := cell_of_block h1 3
  have c4 : w.cell? ⟨F, 4, none⟩ = some (.bool s.off) := cell_of_block h1 4
  clear h1 h2
  cases hu : s.underway <;> rw [hu] at c3 <;> clear hu
  all_goals
    go_enter Tryz.func132, Tryz.ntmps132
    go_wp2
    go_ret
    exact ⟨by simp, rfl⟩

set_option maxHeartbeats 400000 in
theorem goOff_rel (w : World) (F lb : Nat) (s : FrSt) (h : FrameIs w F lb s) (hu : s.unheard < 1048576) :
    Calls Tryz.prog 126 #[.pointer (some ⟨F, 0, none⟩)] w fun e w' => e = .returned (.tuple #[]) ∧ FrameIs w' F lb { s with off := true, unheard := s.unheard + 1 } ∧ Only (· = F) w w' := by
  obtain ⟨hne, lv, h1, h2⟩ := h
  have c4 : w.cell? ⟨F, 4, none⟩ = some (.bool s.off) := cell_of_block h1 4
  have c8 : w.cell? ⟨F, 8, none⟩ = some (.int .i64 (s.unheard : Int)) := cell_of_block h1 8
  have f4 : w.frozen? ⟨F, 4, none⟩ = false := frozen_of_block h1 4
  have f8 : w.frozen? ⟨F, 8, none⟩ = false := frozen_of_block h1 8
  have hO : Hid (FrameIs ((w.setCell ⟨F, 4, none⟩ (.bool true)).setCell ⟨F, 8, none⟩ (.int .i64 ((s.unheard : Int) + 1))) F lb { s with off := true, unheard := s.unheard + 1 } ∧ Only (· = F) w ((w.setCell ⟨F, 4, none⟩ (.bool true)).setCell ⟨F, 8, none⟩ (.int .i64 ((s.unheard : Int) + 1)))) := by
    have ho : Only (· = F) w ((w.setCell ⟨F, 4, none⟩ (.bool true)).setCell ⟨F, 8, none⟩ (.int .i64 ((s.unheard : Int) + 1))) := ((Only.self F w).own 4 _).own 8 _
    exact ⟨FrameAt.upd hne h1 h2 ho (by rw [block_setCell (block_setCell h1 4 _) 8]; rfl) rfl, ho⟩
  have hu1 : (s.unheard : Int) < 1048576 := by omega
  have hu2 : ¬ (1048576 : Int) < (s.unheard : Int) + 1 := by omega
  clear h1 h2
  go_enter Tryz.func126, Tryz.ntmps126
  go_wp2
  go_end0
  exact ⟨rfl, hO.out⟩

end Go.Proofs.YtmcmjcaigipoaaaGreat

/-
  The frame's begin. Conditions: the frame is there.
-/
namespace Go.Proofs.YtmcmjcaigipoaaaGreat
open Go.RowKit Go.Sept


set_option maxHeartbeats 1000000 in
theorem begin_rel (w : World) (F lb : Nat) (s : FrSt) (now : Int) (h : FrameIs w F lb s) (hl : s.log.length ≤ 1000000) :
    Calls Tryz.prog 70 #[.pointer (some ⟨F, 0, none⟩), .int .i64 now] w fun e w' => e = .returned (.tuple #[]) ∧ FrameIs w' F lb (FrSt.begun s now) ∧ Only (· = F) w w' := by
  obtain ⟨hne, lv, h1, h2⟩ := h
  obtain ⟨ao, cap, rfl, _, _⟩ := h2.shape
  have hO : Hid (∀ w' : World, w' = ((((((((w.setCell ⟨F, 3, none⟩ (.bool true)).setCell ⟨F, 4, none⟩ (.bool false)).setCell ⟨F, 5, none⟩ (.int .i64 now)).setCell ⟨F, 6, none⟩ (.int .i64 0)).setCell ⟨F, 7, none⟩ (.int .i64 ((s.log.length : Int) + 1))).setCell ⟨F, 8, none⟩ (.int .i64 0)).setCell ⟨F, 9, none⟩ (.int .i64 0)).setCell ⟨F, 10, none⟩ (.bool false)) →
      FrameIs w' F lb (FrSt.begun s now) ∧ Only (· = F) w w') := by
    rintro w' rfl
    have ho : Only (· = F) w ((((((((w.setCell ⟨F, 3, none⟩ (.bool true)).setCell ⟨F, 4, none⟩ (.bool false)).setCell ⟨F, 5, none⟩ (.int .i64 now)).setCell ⟨F, 6, none⟩ (.int .i64 0)).setCell ⟨F, 7, none⟩ (.int .i64 ((s.log.length : Int) + 1))).setCell ⟨F, 8, none⟩ (.int .i64 0)).setCell ⟨F, 9, none⟩ (.int .i64 0)).setCell ⟨F, 10, none⟩ (.bool false)) :=
      ((((((((Only.self F w).own 3 _).own 4 _).own 5 _).own 6 _).own 7 _).own 8 _).own 9 _).own 10 _
    exact ⟨FrameAt.upd hne h1 h2 ho (blk10 (blk9 (blk8 (blk7 (blk6 (blk5 (blk4 (blk3 h1 true) false) now) 0) (s.log.length + 1)) 0) 0) false) rfl, ho⟩
  have c1 : w.cell? ⟨F, 1, none⟩ = some (.slice ao s.log.length cap) := cell_of_block h1 1
  have c3 : w.cell? ⟨F, 3, none⟩ = some (.bool s.underway) := cell_of_block h1 3
  have c4 : w.cell? ⟨F, 4, none⟩ = some (.bool s.off) := cell_of_block h1 4
  have c5 : w.cell? ⟨F, 5, none⟩ = some (.int .i64 s.now) := cell_of_block h1 5
  have c6 : w.cell? ⟨F, 6, none⟩ = some (.int .i64 (s.asked : Int)) := cell_of_block h1 6
  have c7 : w.cell? ⟨F, 7, none⟩ = some (.int .i64 (s.most : Int)) := cell_of_block h1 7
  have c8 : w.cell? ⟨F, 8, none⟩ = some (.int .i64 (s.unheard : Int)) := cell_of_block h1 8
  have c9 : w.cell? ⟨F, 9, none⟩ = some (.int .i64 s.mark) := cell_of_block h1 9
  have c10 : w.cell? ⟨F, 10, none⟩ = some (.bool s.marked) := cell_of_block h1 10
  have hf : ∀ i, w.frozen? ⟨F, i, none⟩ = false := fun i => frozen_of_block h1 i
  have hl1 : (s.log.length : Int) ≤ 1000000 := by omega
  clear h1 h2
  go_enter Tryz.func70, Tryz.ntmps70
  go_wp2
  go_end0
  exact ⟨rfl, hO.out _ rfl⟩
end Go.Proofs.YtmcmjcaigipoaaaGreat

/-
  The frame's ask and keep. Conditions: the frame is there.
-/
namespace Go.Proofs.YtmcmjcaigipoaaaGreat
open Go.RowKit Go.Sept

set_option maxHeartbeats 400000 in
theorem ask_idle (w : World) (F lb : Nat) (s : FrSt) (h : FrameIs w F lb s) (hu : s.underway = false) :
    Calls Tryz.prog 96 #[.pointer (some ⟨F, 0, none⟩)] w fun e w' => e = .returned (.tuple #[.int .i64 0, .bool false]) ∧ FrameIs w' F lb s ∧ Only (· = F) w w' := by
  have H : Hid (FrameIs w F lb s) := h
  obtain ⟨_, lv, h1, h2⟩ := h
  have c3 : w.cell? ⟨F, 3, none⟩ = some (.bool s.underway) := cell_of_block h1 3
  rw [hu] at c3
  clear h1 h2 hu
  go_enter Tryz.func96, Tryz.ntmps96
  go_wp2
  go_ret2
  exact ⟨rfl, H.out, Only.refl _ _⟩

set_option maxHeartbeats 1000000 in
theorem ask_off (w : World) (F lb : Nat) (s : FrSt) (h : FrameIs w F lb s) (hu : s.underway = true) (ha : s.asked = s.most) (hn : s.unheard < 1048576) :
    Calls Tryz.prog 96 #[.pointer (some ⟨F, 0, none⟩)] w fun e w' => e = .returned (.tuple #[.int .i64 0, .bool false]) ∧ FrameIs w' F lb { s with off := true, unheard := s.unheard + 1 } ∧ Only (· = F) w w' := by
  have H : Hid (FrameIs w F lb s) := h
  obtain ⟨_, lv, h1, h2⟩ := h
  have c3 : w.cell? ⟨F, 3, none⟩ = some (.bool s.underway) := cell_of_block h1 3
  have c6 : w.cell? ⟨F, 6, none⟩ = some (.int .i64 (s.asked : Int)) := cell_of_block h1 6
  have c7 : w.cell? ⟨F, 7, none⟩ = some (.int .i64 (s.most : Int)) := cell_of_block h1 7
  rw [hu] at c3
  rw [ha] at c6
  have HN : Hid (s.unheard < 1048576) := hn
  clear h1 h2 hu ha hn
  go_enter Tryz.func96, Tryz.ntmps96
  go_wp2_with fail
  go_quiet (fail)
  go_wp2_with fail
  have ho : Only (· = F) w (w.drewN nq) := only_drewN (Only.refl _ _) _
  have hd : FrameIs (w.drewN nq) F lb s := H.out.only (only_drewN (Only.refl (fun _ => False) _) _) (fun h => h) (fun h => h)
  refine (goOff_rel _ F lb s hd HN.out).mono ?_
  rintro e w1 ⟨rfl, hf, ho1⟩
  have HF : Hid (FrameIs w1 F lb { s with off := true, unheard := s.unheard + 1 } ∧ Only (· = F) w w1) := ⟨hf, ho.trans ho1⟩
  clear hf ho1 ho hd c3 c6 c7
  go_wp2_with fail
  go_ret2
  exact ⟨rfl, HF.out⟩

set_option maxHeartbeats 1000000 in
theorem ask_fresh (w : World) (F lb : Nat) (s : FrSt) (h : FrameIs w F lb s) (hu : s.underway = true) (ha : s.asked ≠ s.most) (hl : s.asked = s.log.length) :
    Calls Tryz.prog 96 #[.pointer (some ⟨F, 0, none⟩)] w fun e w' => e = .returned (.tuple #[.int .i64 0, .bool true]) ∧ FrameIs w' F lb s ∧ Only (· = F) w w' := by
  have H : Hid (FrameIs w F lb s) := h
  obtain ⟨_, lv, h1, h2⟩ := h
  obtain ⟨ao, cap, rfl, _, _⟩ := h2.shape
  have c1 : w.cell? ⟨F, 1, none⟩ = some (.slice ao s.log.length cap) := cell_of_block h1 1
  have c3 : w.cell? ⟨F, 3, none⟩ = some (.bool s.underway) := cell_of_block h1 3
  have c6 : w.cell? ⟨F, 6, none⟩ = some (.int .i64 (s.asked : Int)) := cell_of_block h1 6
  have c7 : w.cell? ⟨F, 7, none⟩ = some (.int .i64 (s.most : Int)) := cell_of_block h1 7
  have hne : ((s.log.length : Int) == (s.most : Int)) = false := beq_eq_false_iff_ne.2 (by omega)
  rw [hu] at c3
  rw [hl] at c6
  clear h1 h2 hu ha hl
  go_enter Tryz.func96, Tryz.ntmps96
  go_wp2_with fail
  go_quiet (fail)
  go_wp2_with fail
  go_quiet (fail)
  go_wp2_with fail
  go_ret2
  exact ⟨rfl, H.out.only (only_drewN (only_drewN (Only.refl (fun _ => False) _) _) _) (fun h => h) (fun h => h), only_drewN (only_drewN (Only.refl _ _) _) _⟩

set_option maxHeartbeats 1000000 in
theorem ask_again (w : World) (F lb : Nat) (s : FrSt) (h : FrameIs w F lb s) (hu : s.underway = true) (ha : s.asked ≠ s.most) (hl : s.asked < s.log.length) (hb : s.log.length ≤ 1000000) :
    Calls Tryz.prog 96 #[.pointer (some ⟨F, 0, none⟩)] w fun e w' => e = .returned (.tuple #[.int .i64 (s.log.getD s.asked (0, 0)).1, .bool false]) ∧ FrameIs w' F lb { s with asked := s.asked + 1 } ∧ Only (· = F) w w' := by
  obtain ⟨hne0, lv, h1, h2⟩ := h
  obtain ⟨cap, rfl, hc1, hc2, hcell⟩ := h2.cells (by omega)
  have c1 : w.cell? ⟨F, 1, none⟩ = some (.slice (some ⟨lb, 0, none⟩) s.log.length cap) := cell_of_block h1 1
  have c3 : w.cell? ⟨F, 3, none⟩ = some (.bool s.underway) := cell_of_block h1 3
  have c6 : w.cell? ⟨F, 6, none⟩ = some (.int .i64 (s.asked : Int)) := cell_of_block h1 6
  have c7 : w.cell? ⟨F, 7, none⟩ = some (.int .i64 (s.most : Int)) := cell_of_block h1 7
  have f6 : w.frozen? ⟨F, 6, none⟩ = false := frozen_of_block h1 6
  have hx : w.cell? ⟨lb, s.asked * 2, none⟩ = some (.int .i64 (s.log.getD s.asked (0, 0)).1) := by
    rw [Nat.mul_comm]
    exact hcell _ _ (logCells_answer s.log s.asked hl)
  have hFl : F ≠ lb := by
    rintro rfl
    rcases h2.own.2 with ⟨h0, _⟩ | ⟨g, cap', cur, h0, _, hg, _⟩
    · cases h0
    · injection h0 with h0 _
      injection h0 with h0
      injection h0 with h0
      subst h0
      rw [h1] at hg
      injection hg with hg
      injection hg with _ hg
      exact hne0 hg
  have hO : Hid (∀ n m : Nat, FrameIs (((w.drewN n).setCell ⟨F, 6, none⟩ (.int .i64 ((s.asked : Int) + 1))).drewN m) F lb { s with asked := s.asked + 1 } ∧ Only (· = F) w (((w.drewN n).setCell ⟨F, 6, none⟩ (.int .i64 ((s.asked : Int) + 1))).drewN m)) := by
    intro n m
    have ho : Only (· = F) w (((w.drewN n).setCell ⟨F, 6, none⟩ (.int .i64 ((s.asked : Int) + 1))).drewN m) := only_drewN ((only_drewN (Only.self F w) n).own 6 _) m
    exact ⟨FrameAt.upd hne0 h1 h2 ho (blk6 (w := w.drewN n) h1 (s.asked + 1)) rfl, ho⟩
  have e1 : ((s.asked : Int) == (s.most : Int)) = false := beq_eq_false_iff_ne.2 (by omega)
  have e2 : ((s.asked : Int) == (s.log.length : Int)) = false := beq_eq_false_iff_ne.2 (by omega)
  have hl2 : (s.asked : Int) < s.log.length := by omega
  have hb2 : (s.log.length : Int) ≤ 1000000 := by omega
  generalize (s.log.getD s.asked (0, 0)).1 = r at hx
  rw [hu] at c3
  clear h1 h2 hu ha hcell hne0
  go_enter Tryz.func96, Tryz.ntmps96
  go_wp2_with fail
  go_quiet (fail)
  go_wp2_with fail
  go_quiet (fail)
  go_wp2_with fail
  have hFl' : ¬ lb = F := fun e => hFl e.symm
  have hi : (0 : Int) ≤ (s.asked : Int) + 1 - 1 ∧ (s.asked : Int) + 1 - 1 < s.log.length := by omega
  have hj : ((s.asked : Int) + 1 - 1).toNat = s.asked := by omega
  go_quiet (fail)
  go_wp2_with fail
  go_ret2
  exact ⟨rfl, hO.out _ _⟩
end Go.Proofs.YtmcmjcaigipoaaaGreat

/-
  The frame's keep: the log grows by one access. Conditions: the frame is there; its log is not longer than a million.
-/
namespace Go.Proofs.YtmcmjcaigipoaaaGreat
open Go.RowKit Go.Sept

theorem Tryz.infoAcc : (Tryz.prog.info? 188).map (fun i => (i.zero, i.size, i.bytes)) = some (some (.agg #[.int .i64 0, .int .i64 0]), 2, 16) := by kernel_rfl

theorem keep_new {w w1 : World} {F lb b' cap' : Nat} {s : FrSt} {r : Int} {lv : Value} {o : Obj} (h1 : w.heap[F]? = some (.cells (s.cells lv) 144)) (h2 : Grow 188 2 w lv lb s.log.length (logCells s.log)) {W : World} (eW : W.heap = (w.alloc o).heap) (et : W.os = w.os ∧ W.tape = w.tape ∧ W.output = w.output)
    (hg : Grow 188 2 w1 (.slice (some ⟨b', 0, none⟩) (s.log.length + 1 : Nat) cap') b' (s.log.length + 1) (logCells s.log ++ [.int .i64 r, .int .i64 s.now])) (ho : Only (fun k => lv.ownBlock = some k) W w1) (hb : b' = lb ∨ W.heap.size ≤ b') :
    w1.heap[F]? = some (.cells (s.cells lv) 144) ∧ (∀ n, FrameIs (((w1.setCell ⟨F, 1, none⟩ (.slice (some ⟨b', 0, none⟩) (s.log.length + 1 : Nat) cap')).setCell ⟨F, 6, none⟩ (.int .i64 ((s.asked : Int) + 1))).drewN n) F b' { s with log := s.log ++ [(r, s.now)], asked := s.asked + 1 } ∧ (b' = lb ∨ w.heap.size ≤ b') ∧
      Only (fun k => k = F ∨ k = lb) w (((w1.setCell ⟨F, 1, none⟩ (.slice (some ⟨b', 0, none⟩) (s.log.length + 1 : Nat) cap')).setCell ⟨F, 6, none⟩ (.int .i64 ((s.asked : Int) + 1))).drewN n)) := by
  have hO0 : Only (fun _ => False) w W := by
    have h0 := (Only.refl (fun _ => False) w).alloc o
    exact ⟨et.1, et.2.1, et.2.2, by rw [eW]; exact h0.size, fun k hk hs => by rw [eW]; exact h0.block k hk hs⟩
  have hF := lt_of_block h1
  have hFW : F < W.heap.size := Nat.lt_of_lt_of_le hF hO0.size
  have hfar := h2.far (by decide) h1
  have hF1 : w1.heap[F]? = some (.cells (s.cells lv) 144) := (ho.block F hFW hfar).trans ((hO0.block F hF (fun h => h)).trans h1)
  refine ⟨hF1, fun n => ?_⟩
  have hO1 : Only (fun k => k = F ∨ k = lb) w w1 := (hO0.mono (T := fun k => k = F ∨ k = lb) (fun _ _ h => h.elim)).chain ho (fun i _ e => .inr (h2.spot i e))
  have hO2 := only_drewN ((hO1.setCell (p := ⟨F, 1, none⟩) (.inr (.inl rfl)) (.slice (some ⟨b', 0, none⟩) (s.log.length + 1 : Nat) cap')).setCell (p := ⟨F, 6, none⟩) (.inr (.inl rfl)) (.int .i64 ((s.asked : Int) + 1))) n
  have hO3 : Only (· = F) w1 (((w1.setCell ⟨F, 1, none⟩ (.slice (some ⟨b', 0, none⟩) (s.log.length + 1 : Nat) cap')).setCell ⟨F, 6, none⟩ (.int .i64 ((s.asked : Int) + 1))).drewN n) := only_drewN (((Only.self F w1).own 1 _).own 6 _) n
  refine ⟨⟨by decide, _, blk6 (blk1 hF1 _) (s.asked + 1), ?_⟩, ?_, hO2⟩
  · have hg' := hg.only' hO3 (fun cur hc e => by
      subst e
      rw [hF1] at hc
      injection hc with hc
      injection hc with _ hc
      exact absurd hc (by decide))
    show Grow _ _ _ _ _ (s.log ++ [(r, s.now)]).length (logCells (s.log ++ [(r, s.now)]))
    rw [logCells_append, List.length_append]
    exact hg'
  · rcases hb with h | h
    · exact .inl h
    · exact .inr (Nat.le_trans hO0.size h)

set_option maxHeartbeats 1000000 in
theorem keep_rel (w : World) (F lb : Nat) (s : FrSt) (r : Int) (h : FrameIs w F lb s) (hb : s.log.length ≤ 1000000) (ha : s.asked ≤ 1000000) :
    Calls Tryz.prog 98 #[.pointer (some ⟨F, 0, none⟩), .int .i64 r] w fun e w' => ∃ lb', e = .returned (.tuple #[]) ∧ FrameIs w' F lb' { s with log := s.log ++ [(r, s.now)], asked := s.asked + 1 } ∧ (lb' = lb ∨ w.heap.size ≤ lb') ∧ Only (fun k => k = F ∨ k = lb) w w' := by
  obtain ⟨hne0, lv, h1, h2⟩ := h
  obtain ⟨ao, cap, rfl, hc1, hc2⟩ := h2.shape
  have c1 : w.cell? ⟨F, 1, none⟩ = some (.slice ao s.log.length cap) := cell_of_block h1 1
  have c5 : w.cell? ⟨F, 5, none⟩ = some (.int .i64 s.now) := cell_of_block h1 5
  have hF : F < w.heap.size := lt_of_block h1
  have hB : Hid (w.heap[F]? = some (.cells (s.cells (.slice ao s.log.length cap)) 144)) := h1
  have hG : Hid (Grow 188 2 w (.slice ao s.log.length cap) lb s.log.length (logCells s.log)) := h2
  clear h1 h2 hne0
  go_enter Tryz.func98, Tryz.ntmps98
  go_wp2_with fail
  go_region_law (refine step_append_grown _ rfl (.tmp 8) (.tmp 15) 142 rfl 188 _ 2 16 Tryz.underlying142 Tryz.infoAcc rfl (by decide) (.slice ao s.log.length cap) lb s.log.length (logCells s.log) rfl ((hG.out.only ((Only.refl (fun _ => False) w).alloc (.cells #[.int .i64 r, .int .i64 s.now] 188)) (fun h => h)).same rfl) ⟨w.heap.size, 0, none⟩ 1 1 [.int .i64 r, .int .i64 s.now] rfl (by decide) rfl (news_of_block (heap_new w (.cells #[.int .i64 r, .int .i64 s.now] 188))) (by intro u hu; simp at hu; rcases hu with rfl | rfl <;> rfl) (by unfold maxLen; omega) (by omega) ?_; intro b' cap' w1 hg ho hbb; have HK := keep_new hB.out hG.out (o := .cells #[.int .i64 r, .int .i64 s.now] 188) (W := (w.alloc (.cells #[.int .i64 r, .int .i64 s.now] 188)).drew) rfl ⟨rfl, rfl, rfl⟩ hg ho hbb; have d1 : w1.cell? ⟨F, 1, none⟩ = some (.slice ao s.log.length cap) := cell_of_block HK.1 1; have d6 : w1.cell? ⟨F, 6, none⟩ = some (.int .i64 (s.asked : Int)) := cell_of_block HK.1 6; have g1 := frozen_of_block HK.1 1; have g6 := frozen_of_block HK.1 6; have hsz := ho.size; have HF : Hid _ := HK.2; clear HK hg ho hbb)
  all_goals go_wp2
  all_goals
    go_end0
    exact ⟨b', rfl, HF.out 0⟩
end Go.Proofs.YtmcmjcaigipoaaaGreat

/-
  The frame's accesses: Load, Store, Add, Swap. Conditions: the frame and its memory are there, and share no block.
-/
namespace Go.Proofs.YtmcmjcaigipoaaaGreat
open Go.RowKit Go.Sept

abbrev FMIs (w : World) (F lb p q : Nat) (s : FrSt) (xs : List Int) : Prop := FM 144 188 130 w F lb p q s xs

/-- What an access wants of a frame. -/
structure Ready (s : FrSt) : Prop where
  heard : s.unheard < 1048576
  short : s.log.length < 1000000
  behind : s.asked ≤ s.log.length

/-- What an access leaves. -/
def Left (w : World) (F lb p q : Nat) (s : FrSt) (xs : List Int) (w' : World) : Prop :=
  ∃ lb', FMIs w' F lb' p q s xs ∧ (lb' = lb ∨ w.heap.size ≤ lb') ∧ Only (fun x => x = F ∨ x = lb ∨ x = q) w w'

theorem ask_replay (w : World) (F lb : Nat) (s : FrSt) (h : FrameIs w F lb s) (hr : Ready s) (hf : s.isFresh = false) :
    Calls Tryz.prog 96 #[.pointer (some ⟨F, 0, none⟩)] w fun e w' => e = .returned (.tuple #[.int .i64 s.replay.1, .bool false]) ∧ FrameIs w' F lb s.replay.2 ∧ Only (· = F) w w' := by
  cases hu : s.underway with
  | false =>
    have e : s.replay = (0, s) := by rw [FrSt.replay, if_pos hu]
    rw [e]
    exact ask_idle w F lb s h hu
  | true =>
    by_cases ha : s.asked = s.most
    · have e : s.replay = (0, { s with off := true, unheard := s.unheard + 1 }) := by rw [FrSt.replay, if_neg (by simp [hu]), if_pos ha]
      rw [e]
      exact ask_off w F lb s h hu ha hr.heard
    · have hl : s.asked < s.log.length := by
        have h1 := hr.behind
        have h2 : s.asked ≠ s.log.length := by
          intro e
          simp [FrSt.isFresh, hu, e] at hf
          exact ha (e.trans hf)
        omega
      have e : s.replay = ((s.log.getD s.asked (0, 0)).1, { s with asked := s.asked + 1 }) := by rw [FrSt.replay, if_neg (by simp [hu]), if_neg ha]
      rw [e]
      exact ask_again w F lb s h hu ha hl (Nat.le_of_lt hr.short)

theorem ask_new (w : World) (F lb : Nat) (s : FrSt) (h : FrameIs w F lb s) (hf : s.isFresh = true) :
    Calls Tryz.prog 96 #[.pointer (some ⟨F, 0, none⟩)] w fun e w' => e = .returned (.tuple #[.int .i64 0, .bool true]) ∧ FrameIs w' F lb s ∧ Only (· = F) w w' := by
  simp [FrSt.isFresh] at hf
  exact ask_fresh w F lb s h hf.1.1 hf.1.2 hf.2

theorem FrameIs_ne {w : World} {F lb : Nat} {s : FrSt} (h : FrameIs w F lb s) : ∃ lv, w.heap[F]? = some (.cells (s.cells lv) 144) := ⟨_, h.2.choose_spec.1⟩
theorem FrameIs.mem_cell {w : World} {F lb : Nat} {s : FrSt} (h : FrameIs w F lb s) : w.cell? ⟨F, 0, none⟩ = some (.pointer s.mp) := by
  obtain ⟨lv, h1⟩ := FrameIs_ne h
  exact cell_of_block h1 0
theorem FrameIs.log_lt {w : World} {F lb : Nat} {s : FrSt} (h : FrameIs w F lb s) (hn : 0 < s.log.length) : lb < w.heap.size := h.2.choose_spec.2.lt hn

theorem replay_mp (s : FrSt) : s.replay.2.mp = s.mp := by
  unfold FrSt.replay
  split
  · rfl
  · split <;> rfl

theorem FMIs.replay {w w' : World} {F lb p q : Nat} {s s' : FrSt} {xs : List Int} (h : FMIs w F lb p q s xs) (hm : s'.mp = s.mp) (hf : FrameIs w' F lb s') (ho : Only (· = F) w w') : FMIs w' F lb p q s' xs :=
  ⟨hf, hm ▸ h.mem.only ho (fun e => h.n1 e.symm) (fun e => h.n2 e.symm), Nat.lt_of_lt_of_le h.lp ho.size, Nat.lt_of_lt_of_le h.lq ho.size, Nat.lt_of_lt_of_le h.ll ho.size, h.n1, h.n2, h.n3, h.n4⟩

theorem left_replay {w w' : World} {F lb p q : Nat} {s : FrSt} {xs : List Int} (h : FMIs w F lb p q s xs) (hf : FrameIs w' F lb s.replay.2) (ho : Only (· = F) w w') : Left w F lb p q s.replay.2 xs w' :=
  ⟨lb, h.replay (replay_mp s) hf ho, .inl rfl, ho.mono (fun _ _ e => .inl e)⟩

theorem left_kept {w w1 w2 w3 : World} {F lb lb' p q : Nat} {s : FrSt} {xs ys : List Int} {r : Int} (h : FMIs w F lb p q s xs) (ho1 : Only (· = F) w w1)
    (hm : Holds 130 w2 (.pointer s.mp) p q ys) (ho2 : Only (· = q) w1 w2)
    (hf : FrameIs w3 F lb' (s.kept r)) (hl : lb' = lb ∨ w2.heap.size ≤ lb') (ho3 : Only (fun k => k = F ∨ k = lb) w2 w3) : Left w F lb p q (s.kept r) ys w3 := by
  have z1 := ho1.size
  have z2 := ho2.size
  have z3 := ho3.size
  have a1 := h.lp
  have a2 := h.lq
  have a3 := h.ll
  have b1 := h.n1
  have b2 := h.n2
  have b3 := h.n3
  have b4 := h.n4
  refine ⟨lb', ⟨hf, hm.only ho3 (by omega) (by omega), by omega, by omega, hf.log_lt (by simp [FrSt.kept]), h.n1, h.n2, by omega, by omega⟩, by omega, ?_⟩
  refine (((ho1.mono (T := fun x => x = F ∨ x = lb ∨ x = q) (fun _ _ e => .inl e)).chain ho2 (fun _ _ e => .inr (.inr e)))).chain ho3 (fun _ _ e => ?_)
  rcases e with e | e
  · exact .inl e
  · exact .inr (.inl e)

set_option maxHeartbeats 1000000 in
theorem fload_rel (w : World) (F lb p q : Nat) (s : FrSt) (xs : List Int) (h : FMIs w F lb p q s xs) (hr : Ready s) (a v u : Int) :
    Calls Tryz.prog 89 #[.pointer (some ⟨F, 0, none⟩), .int .i64 a] w fun e w' => e = .returned (.int .i64 (acc 0 a v u s xs).1) ∧ Left w F lb p q (acc 0 a v u s xs).2.1 (acc 0 a v u s xs).2.2 w' := by
  cases hf : s.isFresh with
  | false =>
    rw [acc, if_neg (by simp [hf])]
    go_enter Tryz.func89, Tryz.ntmps89
    go_wp2_with fail
    refine (ask_replay _ _ _ _ h.frame hr hf).mono ?_
    rintro e w1 ⟨rfl, h1, ho1⟩
    have HL : Hid (Left w F lb p q s.replay.2 xs w1) := left_replay h h1 ho1
    clear h1 ho1 h hr hf
    go_wp2_with fail
    go_ret
    exact ⟨rfl, HL.out⟩
  | true =>
    rw [acc, if_pos hf]
    have hs := hr.short
    have hb := hr.behind
    go_enter Tryz.func89, Tryz.ntmps89
    go_wp2_with fail
    refine (ask_new _ _ _ _ h.frame hf).mono ?_
    rintro e w1 ⟨rfl, h1, ho1⟩
    have c0 := h1.mem_cell
    have hm1 := (h.replay rfl h1 ho1).mem
    go_wp2_with fail
    refine (load_rel _ _ p q xs hm1 _).mono ?_
    rintro e w2 ⟨rfl, rfl⟩
    clear c0
    go_wp2_with fail
    refine (keep_rel _ F lb s _ h1 (by omega) (by omega)).mono ?_
    rintro e w3 ⟨lb', rfl, h3, hl3, ho3⟩
    have HL : Hid (Left w F lb p q (s.kept (valA xs a)) xs w3) := left_kept h ho1 hm1 (Only.refl _ _) h3 hl3 ho3
    clear h1 ho1 h hr hf hm1 h3 hl3 ho3
    go_wp2_with fail
    go_ret
    exact ⟨rfl, HL.out⟩

set_option maxHeartbeats 1000000 in
theorem fstore_rel (w : World) (F lb p q : Nat) (s : FrSt) (xs : List Int) (h : FMIs w F lb p q s xs) (hr : Ready s) (a v u : Int) :
    Calls Tryz.prog 61 #[.pointer (some ⟨F, 0, none⟩), .int .i64 a, .int .i64 v] w fun e w' => e = .returned (.tuple #[]) ∧ Left w F lb p q (acc 1 a v u s xs).2.1 (acc 1 a v u s xs).2.2 w' := by
  cases hf : s.isFresh with
  | false =>
    rw [acc, if_neg (by simp [hf])]
    go_enter Tryz.func61, Tryz.ntmps61
    go_wp2_with fail
    refine (ask_replay _ _ _ _ h.frame hr hf).mono ?_
    rintro e w1 ⟨rfl, h1, ho1⟩
    have HL : Hid (Left w F lb p q s.replay.2 xs w1) := left_replay h h1 ho1
    clear h1 ho1 h hr hf
    go_wp2_with fail
    go_end0
    exact ⟨rfl, HL.out⟩
  | true =>
    rw [acc, if_pos hf]
    have hs := hr.short
    have hb := hr.behind
    go_enter Tryz.func61, Tryz.ntmps61
    go_wp2_with fail
    refine (ask_new _ _ _ _ h.frame hf).mono ?_
    rintro e w1 ⟨rfl, h1, ho1⟩
    have c0 := h1.mem_cell
    have hm1 := (h.replay rfl h1 ho1).mem
    go_wp2_with fail
    refine (sto_rel _ _ p q xs hm1 _ _).mono ?_
    rintro e w2 ⟨rfl, hm2, ho2⟩
    have h2 : FrameIs w2 F lb s := h1.only ho2 h.n2 h.n4
    clear c0
    go_wp2_with fail
    refine (keep_rel _ F lb s _ h2 (by omega) (by omega)).mono ?_
    rintro e w3 ⟨lb', rfl, h3, hl3, ho3⟩
    have HL : Hid (Left w F lb p q (s.kept 0) (setA xs a v) w3) := left_kept h ho1 hm2 ho2 h3 hl3 ho3
    clear h1 ho1 h hr hf hm1 h3 hl3 ho3 hm2 ho2 h2
    go_wp2_with fail
    go_end0
    exact ⟨rfl, HL.out⟩

end Go.Proofs.YtmcmjcaigipoaaaGreat

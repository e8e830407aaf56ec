/-
  The frame's small calls: New, Steps, Done, Off, Marked, goOff, begin. Conditions: the frame is there.
-/
import Derived.Test.YtapmakdklpbjkaaAccess
import Derived.Test.YtapmakdklpbjkaaFrameIs
import Derived.Deep.QuietTactic
import Derived.BigQuiet
namespace Go.Proofs.Ytapmakdklpbjkaa
open Go.RowKit Go.Sept

abbrev FrameIs (w : World) (F lb : Nat) (s : FrSt) : Prop := FrameAt 135 151 w F lb s

def fresh (mp : Option Addr) : FrSt := ⟨mp, [], false, false, false, 0, 0, 0, 0, 0, false⟩

set_option maxHeartbeats 400000 in
theorem fnew_any (w : World) (mp : Option Addr) :
    Calls Try.prog 59 #[.pointer mp] w fun e w' => e = .returned (.pointer (some ⟨w.heap.size, 0, none⟩)) ∧ w' = w.alloc (.cells ((fresh mp).cells (.slice none 0 0)) 135) := by
  go_enter Try.func59, Try.ntmps59
  go_wp2
  go_ret
  exact ⟨rfl, rfl⟩

theorem fnew_rel (w : World) (mp : Option Addr) :
    Calls Try.prog 59 #[.pointer mp] w fun e w' => ∃ F, e = .returned (.pointer (some ⟨F, 0, none⟩)) ∧ FrameIs w' F F (fresh mp) ∧ F = w.heap.size ∧ Only (fun _ => False) w w' := by
  refine (fnew_any w mp).mono ?_
  rintro e w' ⟨rfl, rfl⟩
  exact ⟨_, rfl, ⟨by decide, _, heap_new _ _, Grow.nil _ _ _ _⟩, rfl, (Only.refl _ _).alloc _⟩

set_option maxHeartbeats 400000 in
theorem steps_rel (w : World) (F lb : Nat) (s : FrSt) (h : FrameIs w F lb s) :
    Calls Try.prog 61 #[.pointer (some ⟨F, 0, none⟩)] w fun e w' => e = .returned (.int .i64 (s.log.length : Int)) ∧ w' = w := by
  obtain ⟨_, lv, h1, h2⟩ := h
  obtain ⟨ao, cap, rfl, _, _⟩ := h2.shape
  have c1 : w.cell? ⟨F, 1, none⟩ = some (.slice ao s.log.length cap) := cell_of_block h1 1
  clear h1 h2
  go_enter Try.func61, Try.ntmps61
  go_wp2
  go_ret
  exact ⟨rfl, rfl⟩

set_option maxHeartbeats 400000 in
theorem off_rel (w : World) (F lb : Nat) (s : FrSt) (h : FrameIs w F lb s) :
    Calls Try.prog 89 #[.pointer (some ⟨F, 0, none⟩)] w fun e w' => e = .returned (.bool (!s.underway || s.off)) ∧ w' = w := by
  obtain ⟨_, lv, h1, h2⟩ := h
  have c3 : w.cell? ⟨F, 3, none⟩ = some (.bool s.underway) := cell_of_block h1 3
  have c4 : w.cell? ⟨F, 4, none⟩ = some (.bool s.off) := cell_of_block h1 4
  clear h1 h2
  cases hu : s.underway <;> rw [hu] at c3 <;> clear hu
  all_goals
    go_enter Try.func89, Try.ntmps89
    go_wp2
    go_ret
    exact ⟨by simp, rfl⟩

set_option maxHeartbeats 400000 in
theorem goOff_rel (w : World) (F lb : Nat) (s : FrSt) (h : FrameIs w F lb s) (hu : s.unheard < 1048576) :
    Calls Try.prog 82 #[.pointer (some ⟨F, 0, none⟩)] w fun e w' => e = .returned (.tuple #[]) ∧ FrameIs w' F lb { s with off := true, unheard := s.unheard + 1 } ∧ Only (· = F) w w' := by
  obtain ⟨hne, lv, h1, h2⟩ := h
  have c4 : w.cell? ⟨F, 4, none⟩ = some (.bool s.off) := cell_of_block h1 4
  have c8 : w.cell? ⟨F, 8, none⟩ = some (.int .i64 (s.unheard : Int)) := cell_of_block h1 8
  have f4 : w.frozen? ⟨F, 4, none⟩ = false := frozen_of_block h1 4
  have f8 : w.frozen? ⟨F, 8, none⟩ = false := frozen_of_block h1 8
  have hO : Hid (FrameIs ((w.setCell ⟨F, 4, none⟩ (.bool true)).setCell ⟨F, 8, none⟩ (.int .i64 ((s.unheard : Int) + 1))) F lb { s with off := true, unheard := s.unheard + 1 } ∧ Only (· = F) w ((w.setCell ⟨F, 4, none⟩ (.bool true)).setCell ⟨F, 8, none⟩ (.int .i64 ((s.unheard : Int) + 1)))) := by
    have ho : Only (· = F) w ((w.setCell ⟨F, 4, none⟩ (.bool true)).setCell ⟨F, 8, none⟩ (.int .i64 ((s.unheard : Int) + 1))) := ((Only.self F w).own 4 _).own 8 _
    exact ⟨FrameAt.upd hne h1 h2 ho (by rw [block_setCell (block_setCell h1 4 _) 8]; rfl) rfl, ho⟩
  have hu1 : (s.unheard : Int) < 1048576 := by omega
  have hu2 : ¬ (1048576 : Int) < (s.unheard : Int) + 1 := by omega
  clear h1 h2
  go_enter Try.func82, Try.ntmps82
  go_wp2
  go_end0
  exact ⟨rfl, hO.out⟩

end Go.Proofs.Ytapmakdklpbjkaa

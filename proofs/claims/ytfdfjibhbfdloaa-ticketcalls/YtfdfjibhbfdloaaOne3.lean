/-
  The bodies of septumlaw03's one, as trees of accesses. Conditions: all of it lies in blocks that are not the same.
-/
import Derived.Test.YtfdfjibhbfdloaaTRun
namespace Go.Proofs.Ytfdfjibhbfdloaa
open Go.RowKit Go.Sept

abbrev oneCells (k a t : Int) (g : Int) (b : Bool) : Array Value := #[.int .u8 k, .int .i64 a, .int .i64 t, .int .i64 g, .bool b]

set_option maxRecDepth 100000 in
set_option maxHeartbeats 400000 in
theorem one_draw (a t : Int) : BodyOf (drawT a) 26 (fun g => oneCells 0 a t g false) 66 100 where
  enters := enters_of Try.func26 (by kernel_rfl) rfl
  small := by decide
  does := fun w F lb p q U s xs r h hf _ _ => by
    have H := hid h
    have HF := hid hf
    have c0 : w.cell? ⟨U, 0, none⟩ = some (.int .u8 0) := cell_of_block h.blk 0
    have c1 : w.cell? ⟨U, 1, none⟩ = some (.int .i64 a) := cell_of_block h.blk 1
    clear h hf
    go_enter Try.func26, Try.ntmps26
    go_wp2_with fail
    refine (draw_rel _ F lb p q s xs H.out.fm (HF.out.mono (by omega)) a).mono ?_
    rintro e w1 ⟨rfl, hL⟩
    have H1 := hid (H.out.self.left H.out (.inl rfl) hL)
    obtain ⟨lb1, hb1, _, _⟩ := H1.out
    have d3 : w1.cell? ⟨U, 3, none⟩ = some (.int .i64 r) := cell_of_block hb1.blk 3
    have f3 := frozen_of_block hb1.blk 3
    have H2 := hid (H1.out.set 3 (.int .i64 ((drawT a).run s xs).1))
    clear hL H H1 hb1 c0 c1 HF
    go_wp2_with fail
    go_end0
    exact ⟨rfl, H2.out⟩

set_option maxRecDepth 100000 in
set_option maxHeartbeats 400000 in
theorem one_served (a t : Int) : BodyOf (servedT a t) 26 (fun b => oneCells 1 a t 0 b) 66 100 where
  enters := enters_of Try.func26 (by kernel_rfl) rfl
  small := by decide
  does := fun w F lb p q U s xs r h hf _ _ => by
    have H := hid h
    have HD := hid h.self.drew
    have HF := hid hf
    have c0 : w.cell? ⟨U, 0, none⟩ = some (.int .u8 1) := cell_of_block h.blk 0
    have c1 : w.cell? ⟨U, 1, none⟩ = some (.int .i64 a) := cell_of_block h.blk 1
    have c2 : w.cell? ⟨U, 2, none⟩ = some (.int .i64 t) := cell_of_block h.blk 2
    clear h hf
    go_enter Try.func26, Try.ntmps26
    go_wp2_with fail
    obtain ⟨lb0, hb0, hl0, ho0⟩ := HD.out
    have HB0 := hid (And.intro hb0 hl0)
    clear hb0 hl0 ho0 H c0
    go_region_held (fun w' => w'.cell? ⟨U, 1, none⟩ = some (.int .i64 a) ∧ w'.cell? ⟨U, 2, none⟩ = some (.int .i64 t)) (go_keep)
      (first | (go_at_call 44; refine (served_rel _ F lb0 p q s xs ?_ ?_ a t).mono ?_; exact HB0.out.1.fm; exact HF.out.mono (by omega); rintro e w1 ⟨rfl, hL⟩; have H1 := hid (HD.out.left HB0.out.1 HB0.out.2 hL); obtain ⟨lb1, hb1, _, _⟩ := H1.out; have d1 : w1.cell? ⟨U, 1, none⟩ = some (.int .i64 a) := cell_of_block hb1.blk 1; have d2 : w1.cell? ⟨U, 2, none⟩ = some (.int .i64 t) := cell_of_block hb1.blk 2; have d4 : w1.cell? ⟨U, 4, none⟩ = some (.bool r) := cell_of_block hb1.blk 4; have f4 := frozen_of_block hb1.blk 4; have H2 := hid (H1.out.set 4 (.bool ((servedT a t).run s xs).1)); obtain ⟨lb2, hb2, _, _⟩ := H2.out; have x1 : (w1.setCell ⟨U, 4, none⟩ (.bool ((servedT a t).run s xs).1)).cell? ⟨U, 1, none⟩ = some (.int .i64 a) := cell_of_block hb2.blk 1; have x2 : (w1.setCell ⟨U, 4, none⟩ (.bool ((servedT a t).run s xs).1)).cell? ⟨U, 2, none⟩ = some (.int .i64 t) := cell_of_block hb2.blk 2; clear hL hb1 hb2))
    clear HD HB0 HF c1 c2 H1 d1 d2 d4 f4 x1 x2
    go_wp2_with fail
    go_end0
    exact ⟨rfl, H2.out⟩

set_option maxRecDepth 100000 in
set_option maxHeartbeats 400000 in
theorem one_leave (a t : Int) : BodyOf (leaveT a t) 26 (fun _ => oneCells 2 a t 0 false) 66 100 where
  enters := enters_of Try.func26 (by kernel_rfl) rfl
  small := by decide
  does := fun w F lb p q U s xs r h hf _ _ => by
    have HD := hid h.self.drew
    have HF := hid hf
    have c0 : w.cell? ⟨U, 0, none⟩ = some (.int .u8 2) := cell_of_block h.blk 0
    have c1 : w.cell? ⟨U, 1, none⟩ = some (.int .i64 a) := cell_of_block h.blk 1
    have c2 : w.cell? ⟨U, 2, none⟩ = some (.int .i64 t) := cell_of_block h.blk 2
    clear h hf
    go_enter Try.func26, Try.ntmps26
    go_wp2_with fail
    obtain ⟨lb0, hb0, hl0, ho0⟩ := HD.out
    have HB0 := hid (And.intro hb0 hl0)
    clear hb0 hl0 ho0 c0
    go_region_held (fun w' => w'.cell? ⟨U, 1, none⟩ = some (.int .i64 a) ∧ w'.cell? ⟨U, 2, none⟩ = some (.int .i64 t)) (go_keep)
      (first | (go_at_call 42; refine (leave_rel _ F lb0 p q s xs ?_ ?_ a t).mono ?_; exact HB0.out.1.fm; exact HF.out.mono (by omega); rintro e w1 ⟨rfl, hL⟩; have H1 := hid (HD.out.left HB0.out.1 HB0.out.2 hL); obtain ⟨lb1, hb1, _, _⟩ := H1.out; have d1 : w1.cell? ⟨U, 1, none⟩ = some (.int .i64 a) := cell_of_block hb1.blk 1; have d2 : w1.cell? ⟨U, 2, none⟩ = some (.int .i64 t) := cell_of_block hb1.blk 2; clear hL hb1))
    clear HD HB0 HF c1 c2 d1 d2
    go_wp2_with fail
    go_end0
    exact ⟨rfl, H1.out⟩
end Go.Proofs.Ytfdfjibhbfdloaa

/-
  The frame's Swap and Mark. Conditions: the frame and its memory are there, and share no block.
-/
import Derived.Test.YtmcmjcaigipoaaaGreatFrame1
import Derived.BigRegion
import Derived.Test.YtmcmjcaigipoaaaGreatHide
import Derived.Defers
import Derived.Recover
namespace Go.Proofs.YtmcmjcaigipoaaaGreat
open Go.RowKit Go.Sept

end Go.Proofs.YtmcmjcaigipoaaaGreat

/-
  The frame's Mark, where there is an access ahead. Conditions: the frame is there.
-/
namespace Go.Proofs.YtmcmjcaigipoaaaGreat
open Go.RowKit Go.Sept

theorem toMark_mp (s : FrSt) : s.toMark.mp = s.mp := by
  unfold FrSt.toMark
  split <;> rfl

end Go.Proofs.YtmcmjcaigipoaaaGreat

/-
  The frame's play and Step, of any body that returns. Conditions: the frame is there; what the body does is told by its contract.
-/
namespace Go.Proofs.YtmcmjcaigipoaaaGreat
open Go.RowKit Go.Sept

theorem catch_idle (b F : Nat) (x : Bool) (w : World) (hb : w.cell? ⟨b, 0, none⟩ = some (.pointer (some ⟨F, 0, none⟩))) (hc : w.cell? ⟨F, 3, none⟩ = some (.bool x)) (hz : w.frozen? ⟨F, 3, none⟩ = false) :
    CallsD Tryz.prog 107 #[.pointer (some ⟨b, 0, none⟩)] .returning w fun e u' w' => e = .returned (.tuple #[]) ∧ u' = .returning ∧ w' = w.setCell ⟨F, 3, none⟩ (.bool false) := by
  refine callsD_of_wpS Tryz.func107 rfl fun c₀ cs hu => ?_
  apply wpS_seq
  apply wpS_region
  simp [wpOpsS, go_sem, recoverD, hu, Tryz.ntmps107, Exit.thenS]
  apply wpS_region
  simp [wpOpsS, go_sem, hb, hc, hz, bodyPostS, results, Tryz.results107]
  cases c₀
  simp_all

set_option maxHeartbeats 1000000 in
theorem play_rel (w : World) (F : Nat) (fn : Nat) (first cap : Array Value) (Q : World → Nat → FrSt → Prop)
    (hent : ∀ (args : Array Value) (w : World), (callFunc fn args).run Tryz.prog w = .ok (.enter fn args) w)
    (hb : Calls Tryz.prog fn (first.push (.pointer (some ⟨F, 0, none⟩)) ++ cap) (w.alloc (.cells #[.pointer (some ⟨F, 0, none⟩)] 78)) (fun e w' => e = .returned (.tuple #[]) ∧ ∃ lb s, Q w' lb s ∧ FrameIs w' F lb s ∧ w'.heap[w.heap.size]? = some (.cells #[.pointer (some ⟨F, 0, none⟩)] 78))) :
    Calls Tryz.prog 71 #[.pointer (some ⟨F, 0, none⟩), .func (.func fn) first cap] w fun e w' => ∃ w1 lb s, Q w1 lb s ∧ e = .returned (.bool (!s.off)) ∧ FrameIs w' F lb { s with underway := false } ∧ Only (· = F) w1 w' := by
  have hmf : ∀ (fn : Fn) (first cap : Array Value) (w : World), (Instr.makeFunc fn first cap).run Tryz.prog w = .ok (.func fn first cap) w := fun _ _ _ _ => rfl
  go_enter_defers Tryz.func71, Tryz.ntmps71
  go_wp2_with fail
  refine hb.mono ?_
  rintro e w1 ⟨rfl, lb, s, hQ, hf, hx⟩
  have HQ : Hid (Q w1 lb s) := hQ
  obtain ⟨hne, lv, h1, h2⟩ := hf
  have c4 : w1.cell? ⟨F, 4, none⟩ = some (.bool s.off) := cell_of_block h1 4
  have c3 : w1.cell? ⟨F, 3, none⟩ = some (.bool s.underway) := cell_of_block h1 3
  have f3 : w1.frozen? ⟨F, 3, none⟩ = false := frozen_of_block h1 3
  have cx : w1.cell? ⟨w.heap.size, 0, none⟩ = some (.pointer (some ⟨F, 0, none⟩)) := cell_of_block hx 0
  have HF : Hid (FrameIs (w1.setCell ⟨F, 3, none⟩ (.bool false)) F lb { s with underway := false } ∧ Only (· = F) w1 (w1.setCell ⟨F, 3, none⟩ (.bool false))) := by
    have ho := (Only.self F w1).own 3 (.bool false)
    exact ⟨FrameAt.upd hne h1 h2 ho (blk3 h1 false) rfl, ho⟩
  clear hQ hx h1 h2 hb hent
  go_wp2
  refine leaves_cons (f := 107) (args := #[.pointer (some ⟨w.heap.size, 0, none⟩)]) (by simp) (by simp [go_sem]) ?_
  refine (catch_idle w.heap.size F s.underway _ cx c3 f3).mono ?_
  rintro e u' w'' ⟨rfl, rfl, rfl⟩
  exact ⟨_, results_tmp rfl _ _ _, w1, lb, s, HQ.out, rfl, HF.out⟩

set_option maxHeartbeats 1000000 in
theorem step_rel (w : World) (F lb : Nat) (s : FrSt) (now : Int) (h : FrameIs w F lb s) (hd : s.done = false) (hu : s.underway = false) (hl : s.log.length ≤ 1000000) (fn : Nat) (first cap : Array Value) (Q : World → Nat → FrSt → Prop)
    (hent : ∀ (args : Array Value) (w : World), (callFunc fn args).run Tryz.prog w = .ok (.enter fn args) w)
    (hb : ∀ w1, FrameIs w1 F lb (FrSt.begun s now) → Only (· = F) w w1 → Calls Tryz.prog fn (first.push (.pointer (some ⟨F, 0, none⟩)) ++ cap) (w1.alloc (.cells #[.pointer (some ⟨F, 0, none⟩)] 78)) (fun e w' => e = .returned (.tuple #[]) ∧ ∃ lb s, Q w' lb s ∧ FrameIs w' F lb s ∧ w'.heap[w1.heap.size]? = some (.cells #[.pointer (some ⟨F, 0, none⟩)] 78))) :
    Calls Tryz.prog 40 #[.pointer (some ⟨F, 0, none⟩), .int .i64 now, .func (.func fn) first cap] w fun e w' => ∃ w1 lb s, Q w1 lb s ∧ e = .returned (.bool (!s.off)) ∧ FrameIs w' F lb { s with underway := false, done := !s.off } ∧ Only (· = F) w1 w' := by
  have hnil : ∀ w : World, (binOp BinOp.eql 105 (.func (.func fn) first cap) .nilFunc).run Tryz.prog w = .ok (.bool false) w := fun _ => by kernel_rfl
  have H : Hid (FrameIs w F lb s) := h
  obtain ⟨_, lv, h1, h2⟩ := h
  have c2 : w.cell? ⟨F, 2, none⟩ = some (.bool s.done) := cell_of_block h1 2
  have c3 : w.cell? ⟨F, 3, none⟩ = some (.bool s.underway) := cell_of_block h1 3
  rw [hd] at c2
  rw [hu] at c3
  have HB := hid hb
  have HL : Hid (s.log.length ≤ 1000000) := hl
  clear h1 h2 hb hd hu hl
  go_enter Tryz.func40, Tryz.ntmps40
  go_wp2_with fail
  refine (begin_rel _ _ _ _ _ H.out HL.out).mono ?_
  rintro e w1 ⟨rfl, hf1, ho1⟩
  have hb1 := HB.out w1 hf1 ho1
  clear c2 c3
  go_wp2_with fail
  refine (play_rel w1 F fn first cap Q hent hb1).mono ?_
  rintro e w2 ⟨w3, lb3, s3, hQ, rfl, hf2, ho2⟩
  have HQ : Hid (Q w3 lb3 s3) := hQ
  obtain ⟨hne, lv, h1, h2⟩ := hf2
  have c2 : w2.cell? ⟨F, 2, none⟩ = some (.bool s3.done) := cell_of_block h1 2
  have f2 : w2.frozen? ⟨F, 2, none⟩ = false := frozen_of_block h1 2
  have HF : Hid (FrameIs (w2.setCell ⟨F, 2, none⟩ (.bool (!s3.off))) F lb3 { s3 with underway := false, done := !s3.off } ∧ Only (· = F) w3 (w2.setCell ⟨F, 2, none⟩ (.bool (!s3.off)))) := by
    have ho := (Only.self F w2).own 2 (.bool (!s3.off))
    exact ⟨FrameAt.upd hne h1 h2 ho (blk2 h1 (!s3.off)) rfl, ho2.trans ho⟩
  clear hQ h1 h2 hb1 hent ho2 HB H hf1 ho1
  go_wp2_with fail
  go_ret
  exact ⟨w3, lb3, s3, HQ.out, rfl, HF.out⟩

set_option maxHeartbeats 1000000 in
theorem step_over (w : World) (F lb : Nat) (s : FrSt) (now : Int) (h : FrameIs w F lb s) (hd : s.done = true) (bv : Value) :
    Calls Tryz.prog 40 #[.pointer (some ⟨F, 0, none⟩), .int .i64 now, bv] w fun e w' => e = .returned (.bool true) ∧ w' = w := by
  obtain ⟨_, lv, h1, h2⟩ := h
  have c2 : w.cell? ⟨F, 2, none⟩ = some (.bool s.done) := cell_of_block h1 2
  rw [hd] at c2
  clear h1 h2 hd
  go_enter Tryz.func40, Tryz.ntmps40
  go_wp2
  go_ret
  exact ⟨rfl, rfl⟩

set_option maxHeartbeats 1000000 in
theorem step_nil (w : World) (F lb : Nat) (s : FrSt) (now : Int) (h : FrameIs w F lb s) (hd : s.done = false) (hu : s.underway = false) :
    Calls Tryz.prog 40 #[.pointer (some ⟨F, 0, none⟩), .int .i64 now, .nilFunc] w fun e w' => e = .returned (.bool false) ∧ w' = w := by
  have hnil : ∀ w : World, (binOp BinOp.eql 105 .nilFunc .nilFunc).run Tryz.prog w = .ok (.bool true) w := fun _ => by kernel_rfl
  obtain ⟨_, lv, h1, h2⟩ := h
  have c2 : w.cell? ⟨F, 2, none⟩ = some (.bool s.done) := cell_of_block h1 2
  have c3 : w.cell? ⟨F, 3, none⟩ = some (.bool s.underway) := cell_of_block h1 3
  rw [hd] at c2
  rw [hu] at c3
  clear h1 h2 hd hu
  go_enter Tryz.func40, Tryz.ntmps40
  go_wp2
  go_ret
  exact ⟨rfl, rfl⟩
end Go.Proofs.YtmcmjcaigipoaaaGreat

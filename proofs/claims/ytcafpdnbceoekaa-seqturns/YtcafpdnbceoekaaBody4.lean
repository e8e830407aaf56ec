/-
  The bodies of septumlaw04, writer and reader, as trees of accesses. Conditions: all of it lies in blocks that are not the same.
-/
import Derived.Test.YtcafpdnbceoekaaSeq3
namespace Go.Proofs.Ytcafpdnbceoekaa
open Go.RowKit Go.Sept

abbrev writerO (a : Int) (ta : Option Addr) (tc : Nat) (l : List Int) : Obj := .cells #[.int .i64 a, .slice ta l.length tc] 28
abbrev readerO (a : Int) (n : Nat) (v : Value) : Obj := .cells #[.int .i64 a, .int .i64 (n : Int), v] 31

def writerK (U : Nat) (a : Int) (ta : Option Addr) (tc : Nat) (l : List Int) (V : Nat) : Kept Unit where
  V := fun k => k = U ∨ (l ≠ [] ∧ k = V)
  W := fun _ => False
  Pre := fun w => w.heap[U]? = some (writerO a ta tc l) ∧ Sees w ta l V
  Post := fun _ _ _ => True
  sub := fun _ h => h.elim
  low := fun w k h hk => by
    rcases hk with rfl | ⟨hl, rfl⟩
    · exact lt_of_block h.1
    · exact h.2.lt hl
  keep := fun S w w' h ho hv => ⟨(ho.block U (lt_of_block h.1) (hv U (.inl rfl))).trans h.1, h.2.only ho (fun hl => hv V (.inr ⟨hl, rfl⟩))⟩
  held := fun _ _ _ _ _ _ _ _ _ => trivial
  less := fun _ _ _ _ _ _ => trivial

def readerK (U : Nat) (a : Int) (n : Nat) : Kept (Option (List Int)) where
  V := fun k => k = U
  W := fun k => k = U
  Pre := fun w => ∃ v, w.heap[U]? = some (readerO a n v)
  Post := fun b r w => ∃ v, w.heap[U]? = some (readerO a n v) ∧ GotIs w v r b
  sub := fun _ h => h
  low := fun w k h hk => by
    obtain ⟨v, h⟩ := h
    obtain rfl : k = U := hk
    exact lt_of_block h
  keep := fun S w w' h ho hv => by
    obtain ⟨v, h⟩ := h
    exact ⟨v, (ho.block U (lt_of_block h) (hv U rfl)).trans h⟩
  held := fun S b r w w' h ho hv hb => by
    obtain ⟨v, h, hg⟩ := h
    exact ⟨v, (ho.block U (lt_of_block h) (hv U rfl)).trans h, hg.only ho hb⟩
  less := fun b b' r w h hb => by
    obtain ⟨v, h, hg⟩ := h
    exact ⟨v, h, hg.less hb⟩

set_option maxRecDepth 100000 in
set_option maxHeartbeats 400000 in
theorem writer_of (n : Nat) (hn : n ≤ 5000) (U : Nat) (a : Int) (ta : Option Addr) (tc : Nat) (l : List Int) (V : Nat) (hm : l.length ≤ 9223372036854775807) : BodyIn (writeT a l) 10 (.pointer (some ⟨U, 0, none⟩)) (writerK U a ta tc l V) n where
  enters := enters_of Try.func10 (by kernel_rfl) rfl
  small := by omega
  does := fun w F lb p q s xs h hf h1 h2 => by
    have ho : Only (fun _ => False) w w.drew := (Only.refl _ _).drew
    have H := hid (h.only ho (fun h => h) (fun h => h) (fun h => h) (fun h => h) (fun _ _ h => h))
    have HF := hid hf
    have c0 : w.cell? ⟨U, 0, none⟩ = some (.int .i64 a) := cell_of_block h.pre.1 0
    have c1 : w.cell? ⟨U, 1, none⟩ = some (.slice ta l.length tc) := cell_of_block h.pre.1 1
    have HGO : Hid (Calls Try.prog 19 #[.pointer (some ⟨F, 0, none⟩), .int .i64 a, .slice ta l.length tc] w.drew fun e w' => e = .returned (.tuple #[]) ∧ w'.heap[U]? = some (writerO a ta tc l) ∧ Went (writerK U a ta tc l V) w F lb p q ((writeT a l).run s xs).2.1 ((writeT a l).run s xs).2.2 ((writeT a l).run s xs).1 w') := by
      by_cases hl : l.length = 0 ∨ 16 < l.length
      · refine (write_none _ F a ta l.length tc hl hm).mono ?_
        rintro e w' ⟨rfl, rfl⟩
        refine ⟨rfl, H.out.pre.1, ?_⟩
        rw [writeT, if_pos hl, Tree.run_ret]
        exact ⟨lb, H.out, .inl rfl, (Only.refl _ w).drew, trivial⟩
      · have hne : l ≠ [] := by rintro rfl; exact hl (.inl rfl)
        have hV := h.apart V (.inr ⟨hne, rfl⟩)
        have hU := h.apart U (.inl rfl)
        refine (write_some _ F lb p q s xs H.out.fm a ta tc l V (by omega) (by omega) (HF.out.mono (by omega)) H.out.pre.2 hV.1 hV.2.1 hV.2.2.2).mono ?_
        rintro e w' ⟨rfl, lb', k1, k2, k3⟩
        have hp := (writerK U a ta tc l V).keep _ _ _ H.out.pre k3 (fun k hk e => by have := h.apart k hk; omega)
        refine ⟨rfl, hp.1, lb', ⟨k1, hp, fun k hk => ?_⟩, k2, ?_, trivial⟩
        · have h9 := h.apart k hk
          have h8 := (writerK U a ta tc l V).low _ _ h.pre hk
          have h7 : w.drew.heap.size = w.heap.size := rfl
          exact ⟨h9.1, by omega, h9.2.2⟩
        · exact ((Only.refl _ w).drew).chain k3 (fun i hi e => by omega)
    clear h hf
    go_enter Try.func10, Try.ntmps10
    go_wp2_with fail
    go_region_held (fun w' => w'.cell? ⟨U, 0, none⟩ = some (.int .i64 a) ∧ w'.cell? ⟨U, 1, none⟩ = some (.slice ta l.length tc)) (go_keep)
      (first | (go_at_call 19; refine HGO.out.mono ?_; rintro e w1 ⟨rfl, hb1, hL⟩; have HL := hid hL; have d1 : w1.cell? ⟨U, 0, none⟩ = some (.int .i64 a) := cell_of_block hb1 0; have d2 : w1.cell? ⟨U, 1, none⟩ = some (.slice ta l.length tc) := cell_of_block hb1 1; clear hL hb1))
    clear H HF HGO c0 c1 d1 d2
    go_wp2_with fail
    go_end0
    exact ⟨rfl, HL.out⟩

set_option maxRecDepth 100000 in
set_option maxHeartbeats 400000 in
theorem reader_of (m : Nat) (hm : m ≤ 5000) (U : Nat) (a : Int) (n : Nat) (hn : n ≤ 9223372036854775807) : BodyIn (readT a n m) 11 (.pointer (some ⟨U, 0, none⟩)) (readerK U a n) m where
  enters := enters_of Try.func11 (by kernel_rfl) rfl
  small := by omega
  does := fun w F lb p q s xs h hf h1 h2 => by
    have ho : Only (fun _ => False) w w.drew := (Only.refl _ _).drew
    have H := hid (h.only ho (fun h => h) (fun h => h) (fun h => h) (fun h => h) (fun _ _ h => h))
    have HF := hid hf
    obtain ⟨v0, hv0⟩ := h.pre
    have c0 : w.cell? ⟨U, 0, none⟩ = some (.int .i64 a) := cell_of_block hv0 0
    have c1 : w.cell? ⟨U, 1, none⟩ = some (.int .i64 (n : Int)) := cell_of_block hv0 1
    have HGO : Hid (Calls Try.prog 20 #[.pointer (some ⟨F, 0, none⟩), .int .i64 a, .int .i64 (n : Int)] w.drew fun e w' => ∃ ao x y, e = .returned (.slice ao x y) ∧ w'.heap[U]? = some (readerO a n v0) ∧ Went (readerK U a n) w F lb p q ((readT a n m).run s xs).2.1 ((readT a n m).run s xs).2.2 ((readT a n m).run s xs).1 (w'.setCell ⟨U, 2, none⟩ (.slice ao x y))) := by
      have hU := h.apart U rfl
      have lU : U < w.heap.size := lt_of_block hv0
      have fin : ∀ w' v, Left w.drew F lb p q ((readT a n m).run s xs).2.1 ((readT a n m).run s xs).2.2 w' → GotIs w' v ((readT a n m).run s xs).1 w.heap.size → w'.heap[U]? = some (readerO a n v0) ∧ Went (readerK U a n) w F lb p q ((readT a n m).run s xs).2.1 ((readT a n m).run s xs).2.2 ((readT a n m).run s xs).1 (w'.setCell ⟨U, 2, none⟩ v) := by
        rintro w' v ⟨lb', k1, k2, k3⟩ hg
        have e1 : w'.heap[U]? = some (readerO a n v0) := (k3.block U lU (by omega)).trans hv0
        have e2 : (w'.setCell ⟨U, 2, none⟩ v).heap[U]? = some (readerO a n v) := block_setCell e1 2 v
        have ho2 := (Only.self U w').own 2 v
        have z : w.drew.heap.size = w.heap.size := rfl
        have hUl : U ≠ lb' := by omega
        refine ⟨e1, lb', ⟨k1.only ho2 (fun e => hU.1 e.symm) (fun e => hUl e.symm) (fun e => hU.2.2.1 e.symm) (fun e => hU.2.2.2 e.symm), ⟨v, e2⟩, ?_⟩, k2, ?_, v, e2, hg.only ho2 (fun k hk e => ?_)⟩
        · rintro k rfl
          exact ⟨hU.1, hUl, hU.2.2.1, hU.2.2.2⟩
        · exact (((Only.refl _ w).drew).chain k3 (fun i hi e => by omega)).chain ho2 (fun _ _ e => .inr (.inr (.inr e)))
        · have e' : k = U := e
          omega
      by_cases hl : n = 0 ∨ 16 < n
      · refine (read_none _ F a n hl hn).mono ?_
        rintro e w' ⟨rfl, rfl⟩
        refine ⟨_, _, _, rfl, fin _ _ ?_ ?_⟩
        · rw [readT, if_pos hl, Tree.run_ret]
          exact ⟨lb, H.out.fm, .inl rfl, Only.refl _ _⟩
        · rw [readT, if_pos hl, Tree.run_ret]
          rfl
      · refine (read_some m _ F lb p q s xs H.out.fm a n (by omega) (by omega) (HF.out.mono (by omega)) h1 h2).mono ?_
        rintro e w' ⟨v, rfl, hL, hg⟩
        obtain ⟨ao, x, y, rfl⟩ := hg.slice
        exact ⟨ao, x, y, rfl, fin _ _ hL hg⟩
    clear h hf hv0
    go_enter Try.func11, Try.ntmps11
    go_wp2_with fail
    go_region_held (fun w' => w'.cell? ⟨U, 0, none⟩ = some (.int .i64 a) ∧ w'.cell? ⟨U, 1, none⟩ = some (.int .i64 (n : Int))) (go_keep)
      (first | (go_at_call 20; refine HGO.out.mono ?_; rintro e w1 ⟨ao, x, y, rfl, hb1, hL⟩; have HL := hid hL; have d1 : w1.cell? ⟨U, 0, none⟩ = some (.int .i64 a) := cell_of_block hb1 0; have d2 : w1.cell? ⟨U, 1, none⟩ = some (.int .i64 (n : Int)) := cell_of_block hb1 1; have d3 : w1.cell? ⟨U, 2, none⟩ = some v0 := cell_of_block hb1 2; have f3 := frozen_of_block hb1 2; have hb2 := block_setCell hb1 2 (.slice ao x y); have x1 : (w1.setCell ⟨U, 2, none⟩ (.slice ao x y)).cell? ⟨U, 0, none⟩ = some (.int .i64 a) := cell_of_block hb2 0; have x2 : (w1.setCell ⟨U, 2, none⟩ (.slice ao x y)).cell? ⟨U, 1, none⟩ = some (.int .i64 (n : Int)) := cell_of_block hb2 1; clear hL hb1 hb2))
    clear H HF HGO c0 c1 d1 d2 d3 f3 x1 x2
    go_wp2_with fail
    go_end0
    exact ⟨rfl, HL.out⟩
end Go.Proofs.Ytcafpdnbceoekaa

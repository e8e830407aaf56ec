/-
  The body look of septumlaw06. Conditions: all of it lies in blocks that are not the same.
-/
import Derived.Test.YthihbkhgemdpdaaPair6
import Derived.Deep.DeepCutAuto
import Derived.Deep.CutBlock
namespace Go.Sept
open Go.RowKit
def goT : (k : Nat) → List (Int × Int) → Int × Int × Bool → Tree (List (Int × Int)) (5 * k)
  | 0, l, _ => .ret l
  | k + 1, l, x => if x.2.2 = true then (qAfterT 5 x.1 x.2.1).bind fun y => goT k (l ++ [(x.1, x.2.1)]) y else .ret l
def lookT (k : Nat) : Tree (List (Int × Int)) (5 * k + 3) := (belowT 5 16).bind fun x => goT k [] x
end Go.Sept

namespace Go.Proofs.Ythihbkhgemdpdaa
open Go.RowKit Go.Sept

def pairB (U : Nat) (gv pv : Value) (l : List (Int × Int)) : Bag where
  V := fun k => k = U ∨ Own gv k ∨ Own pv k
  P := fun w => Pair w U gv pv l
  low := fun w k h hk => by
    rcases hk with rfl | hk | hk
    · exact lt_of_block h.blk
    · exact h.gl hk
    · exact h.pl hk
  keep := fun S w w' h ho hV => h.keep ho hV

def lookK (U : Nat) : Kept (List (Int × Int)) where
  V := fun k => k = U
  W := fun k => k = U
  Pre := fun w => ∃ gv pv, w.heap[U]? = some (lookO gv pv)
  Post := fun b l w => ∃ gv pv, Pair w U gv pv l ∧ ∀ k, Own gv k ∨ Own pv k → b ≤ k
  sub := fun _ h => h
  low := fun w k h hk => by
    obtain ⟨gv, pv, h⟩ := h
    obtain rfl : k = U := hk
    exact lt_of_block h
  keep := fun S w w' h ho hv => by
    obtain ⟨gv, pv, h⟩ := h
    exact ⟨gv, pv, (ho.block U (lt_of_block h) (hv U rfl)).trans h⟩
  held := fun S b r w w' h ho hv hb => by
    obtain ⟨gv, pv, h, hg⟩ := h
    exact ⟨gv, pv, h.keep ho (fun k hk => by
      rcases hk with rfl | hk | hk
      · exact hv k rfl
      · exact hb k (hg k (.inl hk))
      · exact hb k (hg k (.inr hk))), hg⟩
  less := fun b b' r w h hb => by
    obtain ⟨gv, pv, h, hg⟩ := h
    exact ⟨gv, pv, h, fun k hk => Nat.le_trans hb (hg k hk)⟩

theorem Try.infoInt : (Try.prog.info? 3).map (fun i => (i.zero, i.size, i.bytes)) = some (some (.int .i64 0), 1, 8) := by kernel_rfl
theorem cell_alloc {w : World} {b i : Nat} {v : Value} (h : w.cell? ⟨b, i, none⟩ = some v) (o : Obj) : (w.alloc o).cell? ⟨b, i, none⟩ = some v := by
  have hb : b < w.heap.size := by
    cases e : w.heap[b]? with
    | none => simp [World.cell?, e] at h
    | some o => exact lt_of_block e
  exact (World.cell?_of_block (Below.heap_alloc _ _ _ hb)).trans h
theorem one_int (n : Int) : ∀ u ∈ [Value.int .i64 n], u.oneCell' = true := by
  intro u hu
  simp at hu
  subst hu
  rfl

set_option maxRecDepth 100000 in
set_option maxHeartbeats 4000000 in
theorem look_of (U : Nat) : BodyIn (lookT 50) 12 (ptrV U) (lookK U) 6000 := by
  refine body_of (enters_of Try.func12 (by kernel_rfl) rfl) (by decide) (by decide) fun w hw => ?_
  obtain ⟨gv0, pv0, hb⟩ := hw
  refine ⟨Bag.one U (lookO gv0 pv0), hb, fun _ h => h, fun F lb p q R h0 => ?_⟩
  have c0 : w.cell? ⟨U, 0, none⟩ = some gv0 := cell_of_block hb 0
  have c1 : w.cell? ⟨U, 1, none⟩ = some pv0 := cell_of_block hb 1
  have f0 := frozen_of_block hb 0
  have f1 := frozen_of_block hb 1
  have h1 : At w F lb p q (fun k => k = U) (Bag.one U (lookO (.slice none 0 0) (.slice none 0 0))) (lookT 50) R ((w.setCell ⟨U, 0, none⟩ (.slice none 0 0)).setCell ⟨U, 1, none⟩ (.slice none 0 0)) := (h0.set 0 (.slice none 0 0)).set 1 (.slice none 0 0)
  have h2 : At w F lb p q (fun k => k = U) (pairB U (.slice none 0 0) (.slice none 0 0) []) (lookT 50) R ((w.setCell ⟨U, 0, none⟩ (.slice none 0 0)).setCell ⟨U, 1, none⟩ (.slice none 0 0)) :=
    h1.turn (S2 := fun _ => False) (Only.refl _ _) (fun _ h => h.elim) (fun _ _ h => h.elim) ⟨h1.bag, ⟨0, Grow.nil _ _ _ _⟩, ⟨0, Grow.nil _ _ _ _⟩, fun k hk => by simp [Own, Value.ownBlock] at hk⟩ (fun k hk => by
      rcases hk with hk | hk | hk
      · exact .inl hk
      · simp [Own, Value.ownBlock] at hk
      · simp [Own, Value.ownBlock] at hk)
  have H := hid h2
  clear h0 hb h1 h2
  go_enter Try.func12, Try.ntmps12
  go_wp2_with fail
  generalize hw1 : (w.setCell ⟨U, 0, none⟩ (.slice none 0 0)).setCell ⟨U, 1, none⟩ (.slice none 0 0) = w1 at *
  clear hw1 c0 c1 f0 f1
  refine (H.out.call (qFirst_does 5)).mono ?_
  rintro e w2 ⟨⟨n0, p0, o0⟩, rfl, h2⟩
  have H2 := hid h2
  clear H h2
  go_wp2_with fail
  go_loopg [4, 5, 6] 50 (fun g i j k wx => ∃ (n p1 : Int) (o : Bool) (l : List (Int × Int)) (gv pv : Value), i = .int .i64 n ∧ j = .int .i64 p1 ∧ k = .bool o ∧ l.length + g = 50 ∧ At w F lb p q (fun k => k = U) (pairB U gv pv l) (goT g l (n, p1, o)) R wx ∧ ∀ k, Own gv k ∨ Own pv k → w.heap.size ≤ k)
  case atStart => exact ⟨n0, p0, o0, [], _, _, rfl, rfl, rfl, rfl, H2.out, fun k hk => by simp [Own, Value.ownBlock] at hk⟩
  case round =>
    obtain ⟨n, p1, o, l, gv, pv, rfl, rfl, rfl, hl, hat, hnew⟩ := hrel
    have HNEW := hid hnew
    have hP : Pair wr U gv pv l := hat.bag
    have HP := hid hP
    clear H2 hnew
    cases o
    · have hend : At w F lb p q (fun k => k = U) (pairB U gv pv l) (Tree.ret l : Tree (List (Int × Int)) 0) R wr := by
        cases gk with
        | zero => exact hat.fin
        | succ k => exact (At.neg hat (by simp)).fin
      have H3 := hid hend
      clear hat hend hP
      go_wp2_with fail
      go_end0
      exact ⟨l, _, rfl, H3.out, fun _ h => .inl h, fun h => ⟨⟨_, _, h.blk⟩, _, _, h, HNEW.out⟩⟩
    · obtain ⟨gb, hg⟩ := hP.g
      obtain ⟨pb, hp⟩ := hP.p
      obtain ⟨ga, gc, rfl, _, _⟩ := hg.shape
      obtain ⟨pa, pc, rfl, _, _⟩ := hp.shape
      have c0 : wr.cell? ⟨U, 0, none⟩ = some (.slice ga l.length gc) := cell_of_block hP.blk 0
      have c1 : wr.cell? ⟨U, 1, none⟩ = some (.slice pa l.length pc) := cell_of_block hP.blk 1
      cases gk with
      | zero =>
        have H3 := hid hat.fin
        have hL : ¬ (l.length : Int) < 50 := by omega
        clear hat hP hg hp c1
        go_wp2_with fail
        go_end0
        exact ⟨rfl, l, _, H3.out, fun _ h => .inl h, fun h => ⟨⟨_, _, h.blk⟩, _, _, h, HNEW.out⟩⟩
      | succ g =>
        have H3 := hid (At.pos hat rfl)
        have hL : (l.length : Int) < 50 := by omega
        obtain ⟨gb1, hg1, hg2⟩ := hg.spot_at wr.heap.size
        have HGA : Hid (∀ W, Only (fun _ => False) wr W → Grow 3 1 W (.slice ga l.length gc) gb1 l.length (fsts l)) := fun W hW => hg1.keep hW (fun _ _ h => h)
        have HG2 := hid hg2
        clear hat hP hg hp hg1 hg2
        go_wp2_with fail
        go_cut [] (fun wd => ∃ gv' pv', Pair wd U gv' pv' (l ++ [(n, p1)]) ∧ Only (fun k => k = U ∨ Own (.slice ga l.length gc) k ∨ Own (.slice pa l.length pc) k) wr wd ∧ ∀ k, (Own gv' k ∨ Own pv' k) → (Own (.slice ga l.length gc) k ∨ Own (.slice pa l.length pc) k) ∨ wr.heap.size ≤ k)
        case first =>
          have hL2 : l.length ≤ 50 := by omega
          have a1 := cell_alloc c0 (.cells #[.int .i64 n] 3)
          have a2 := cell_alloc c1 (.cells #[.int .i64 n] 3)
          have a3 := cell_alloc c0 (.cells #[.int .i64 p1] 3)
          have a4 := cell_alloc c1 (.cells #[.int .i64 p1] 3)
          have a5 := cell_alloc a1 (.cells #[.int .i64 p1] 3)
          have a6 := cell_alloc a2 (.cells #[.int .i64 p1] 3)
          have a7 := cell_alloc a3 (.cells #[.int .i64 n] 3)
          have a8 := cell_alloc a4 (.cells #[.int .i64 n] 3)
          have HB1 : Hid (((wr.alloc (.cells #[.int .i64 n] 3)).alloc (.cells #[.int .i64 p1] 3)).heap[wr.heap.size + 1]? = some (.cells #[.int .i64 p1] 3)) := heap_new_at _ _ _ (by simp)
          have HB2 : Hid (((wr.alloc (.cells #[.int .i64 p1] 3)).alloc (.cells #[.int .i64 n] 3)).heap[wr.heap.size]? = some (.cells #[.int .i64 p1] 3)) := (Below.heap_alloc _ _ _ (by simp)).trans (heap_new _ _)
          have HA1 : Hid ((wr.alloc (.cells #[.int .i64 n] 3)).heap[wr.heap.size]? = some (.cells #[.int .i64 n] 3)) := heap_new _ _
          have HA2 : Hid (((wr.alloc (.cells #[.int .i64 n] 3)).alloc (.cells #[.int .i64 p1] 3)).heap[wr.heap.size]? = some (.cells #[.int .i64 n] 3)) := (Below.heap_alloc _ _ _ (by simp)).trans (heap_new _ _)
          have HA3 : Hid (((wr.alloc (.cells #[.int .i64 p1] 3)).alloc (.cells #[.int .i64 n] 3)).heap[wr.heap.size + 1]? = some (.cells #[.int .i64 n] 3)) := heap_new_at _ _ _ (by simp)
          go_region_law (first
            | (refine step_append_grown _ rfl (.tmp 33) (.tmp 35) 39 rfl 3 _ 1 8 Try.underlying39 Try.infoInt rfl (by decide) (.slice ga l.length gc) gb1 l.length (fsts l) rfl (HGA.out _ (by first | exact ((Only.refl _ _).alloc _).drew | exact (((Only.refl _ _).alloc _).alloc _).drew)) _ 1 1 [.int .i64 n] rfl (by decide) rfl (news_of_block (t := 3) (by first | exact HA1.out | exact HA2.out | exact HA3.out)) (one_int n) (by unfold maxLen; omega) (by omega) ?_
               intro b' cap' w5 hgr ho hbb
               have hK := half_of HP.out (by first | exact ((Only.refl _ _).alloc _).drew | exact (((Only.refl _ _).alloc _).alloc _).drew) HG2.out hgr ho hbb
               have HN5 := hid (newer HP.out ho)
               obtain ⟨pb5, hp5, hp6⟩ := hK.p.choose_spec.spot_at w5.heap.size
               have HGB : Hid (∀ W, Only (fun _ => False) w5 W → Grow 3 1 W (.slice pa l.length pc) pb5 l.length (snds l)) := fun W hW => hp5.keep hW (fun _ _ h => h)
               have HP5 := hid hp6
               have d1 : w5.cell? ⟨U, 1, none⟩ = some (.slice pa l.length pc) := cell_of_block hK.blk 1
               have d2 : (w5.alloc (.cells #[.int .i64 p1] 3)).cell? ⟨U, 1, none⟩ = some (.slice pa l.length pc) := cell_alloc d1 _
               have HK := hid hK
               clear hgr ho hbb hK hp5 hp6)
            | (refine step_append_grown _ rfl (.tmp 40) (.tmp 42) 39 rfl 3 _ 1 8 Try.underlying39 Try.infoInt rfl (by decide) (.slice pa l.length pc) pb5 l.length (snds l) rfl (HGB.out _ (by first | exact Only.refl _ _ | exact (Only.refl _ _).alloc _)) _ 1 1 [.int .i64 p1] rfl (by decide) rfl (news_of_block (t := 3) (by first | exact heap_new _ _ | exact HN5.out _ _ (by simp) HB1.out | exact HN5.out _ _ (by simp) HB2.out)) (one_int p1) (by unfold maxLen; omega) (by omega) ?_
               intro b6 cap6 w6 hgr ho hbb
               have hK6 := pair_of HP.out HK.out (by first | exact Only.refl _ _ | exact (Only.refl _ _).alloc _) HP5.out hgr ho hbb
               have e0 : w6.cell? ⟨U, 0, none⟩ = some (.slice ga l.length gc) := cell_of_block hK6.1 0
               have e1 : w6.cell? ⟨U, 1, none⟩ = some (.slice pa l.length pc) := cell_of_block hK6.1 1
               have f0 := frozen_of_block hK6.1 0
               have f1 := frozen_of_block hK6.1 1
               have HK6 := hid hK6.2
               clear hgr ho hbb hK6))
          all_goals
            go_wp2_with fail
            go_meet
            case rel => exact ⟨_, _, HK6.out⟩
        case rest =>
          obtain ⟨gv', pv', hP', hO', hN'⟩ := hcut
          have h4 : At w F lb p q (fun k => k = U) (pairB U gv' pv' (l ++ [(n, p1)])) ((qAfterT 5 n p1).bind fun y => goT g (l ++ [(n, p1)]) y) R wc :=
            H3.out.turn (S2 := fun k => k = U ∨ Own (.slice ga l.length gc) k ∨ Own (.slice pa l.length pc) k) hO' (fun _ h => h) (fun k hk e => by
              rcases e with e | e | e
              · exact e
              · have := HNEW.out k (.inl e)
                omega
              · have := HNEW.out k (.inr e)
                omega) hP' (fun k hk => by
              rcases hk with hk | hk | hk
              · exact .inl (.inl hk)
              · rcases hN' k (.inl hk) with h9 | h9
                · exact .inl (.inr h9)
                · exact .inr h9
              · rcases hN' k (.inr hk) with h9 | h9
                · exact .inl (.inr h9)
                · exact .inr h9)
          have HNEW' : Hid (∀ k, Own gv' k ∨ Own pv' k → w.heap.size ≤ k) := fun k hk => by
            rcases hN' k hk with h9 | h9
            · exact HNEW.out k h9
            · have := H3.out.size
              omega
          have H4 := hid h4
          clear hP' hO' hN' h4 H3 HNEW HP HGA HG2 c0 c1
          go_wp2_with fail
          refine (H4.out.call (qAfter_does 5 n p1)).mono ?_
          rintro e w5 ⟨⟨n5, p5, o5⟩, rfl, h5⟩
          have H5 := hid h5
          clear H4 h5
          go_wp2_with fail
          go_roundg g
          case measure => omega
          case rel => exact ⟨n5, p5, o5, l ++ [(n, p1)], gv', pv', rfl, rfl, rfl, by simp; omega, H5.out, HNEW'.out⟩
end Go.Proofs.Ythihbkhgemdpdaa

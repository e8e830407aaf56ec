/-
  septumref01.Queue's Add, of the last one of a priority. Conditions: how many there are.
-/
import Derived.Test.YtmcmjcaigipoaaaGreatQueue13
import Derived.Deep.RegionLaw
import Derived.Laws.NewBlocks
namespace Go.Sept
open Go.RowKit
section
variable {w w' : World} {o x : Obj} {b g : Nat}
theorem al_keep13 (h : w.heap[b]? = some x) : (w.alloc o).heap[b]? = some x := (Below.heap_alloc _ _ _ (lt_of_block h)).trans h
theorem al_new13 (h : b = w.heap.size) : (w.alloc o).heap[b]? = some o := by rw [h]; exact heap_new w o
theorem dr_keep13 (h : w.heap[b]? = some x) : w.drew.heap[b]? = some x := h
theorem carry13 {S : Nat → Prop} (ho : Only S w w') (h : w.heap[b]? = some x) (hne : ¬ S b) : w'.heap[b]? = some x := (ho.block b (lt_of_block h) hne).trans h
theorem cellN13 (ho : Only (fun _ => False) w w') {a : Addr} {v : Value} (hc : w.cell? a = some v) : w'.cell? a = some v := (World.cell?_of_block (ho.block a.block (World.block_lt_of_cell? _ _ hc) (fun h => h))).trans hc
end
/-- One of the sixteen is another one. -/
theorem QIs.set {P : Nat → Prop} {w : World} {M o : Nat} {qs : Nat → List Int} {p : Nat} {n : Int} {b2 c2 m : Nat} {news : List Value} {mo : Array Value} {tm : TypeId} (h : QIs P w M o qs) (hM : w.heap[M]? = some (.cells mo tm)) (hp : p < 16)
    (hg : Grow 3 1 w (.slice (some ⟨b2, 0, none⟩) (m + 1 : Nat) c2) b2 (m + 1) (news ++ [.int .i64 n])) (hm : (qs p).length = m) (hl : news.length = m * 1) (hnews : ∀ (w' : World) (b' : Nat), True → (∀ j u, news[j]? = some u → w'.cell? ⟨b', j, none⟩ = some u) → ∀ i x, (qs p)[i]? = some x → intE w' b' (i * 1) x)
    (hPM : ∀ k, P k → k ≠ M) (hb : P b2) (hn : -9223372036854775808 ≤ n ∧ n ≤ 9223372036854775807) : QIs P (w.setCell ⟨M, o + p, none⟩ (.slice (some ⟨b2, 0, none⟩) (m + 1 : Nat) c2)) M o (fun i => if i = p then qs p ++ [n] else qs i) := by
  have hall : Only (fun k => k = M) w (w.setCell ⟨M, o + p, none⟩ (.slice (some ⟨b2, 0, none⟩) (m + 1 : Nat) c2)) := (Only.refl (fun k => k = M) w).setCell (p := ⟨M, o + p, none⟩) (.inr rfl) _
  intro i hi
  by_cases e : i = p
  · subst e
    obtain ⟨u, k1, _⟩ := h i hi
    refine ⟨_, cell_set_self hM k1 _, ?_⟩
    dsimp only
    rw [if_pos rfl]
    obtain ⟨cap, hv, hc1, hc2, hc⟩ := Grow.cells hg (Nat.succ_pos _)
    injection hv with _ _ hv
    subst hv
    have hsl : SlOf P 1 intE w (.slice (some ⟨b2, 0, none⟩) (m + 1 : Nat) c2) (qs i ++ [n]) := by
      refine ⟨_, c2, by rw [List.length_append, List.length_singleton, hm], ⟨by rw [List.length_append, List.length_singleton, hm]; exact hc1, by unfold maxLen at hc2; omega⟩, b2, 0, fun a x hx => ⟨rfl, hb, ?_⟩⟩
      rw [Nat.zero_add]
      by_cases ea : a < (qs i).length
      · rw [List.getElem?_append_left ea] at hx
        refine hnews w b2 trivial (fun j u hj => hc j u ?_) a x hx
        rw [List.getElem?_append_left (List.getElem?_eq_some_iff.1 hj).1]
        exact hj
      · have hlt := (List.getElem?_eq_some_iff.1 hx).1
        rw [List.length_append, List.length_singleton] at hlt
        have ha : a = m := by omega
        subst ha
        rw [List.getElem?_append_right (by omega), hm, Nat.sub_self] at hx
        injection hx with hx
        subst hx
        refine ⟨?_, hn⟩
        rw [Nat.mul_one]
        exact hc a _ (by rw [List.getElem?_append_right (by omega), hl, Nat.mul_one, Nat.sub_self]; rfl)
    exact hsl.only (stay_int hall hPM)
  · obtain ⟨u, k1, k2⟩ := h i hi
    dsimp only
    rw [if_neg e]
    exact ⟨u, (World.cell?_setCell_other w _ _ _ (fun e2 => by injection e2 with _ e2 _; omega)).trans k1, k2.only (stay_int hall hPM)⟩
end Go.Sept
namespace Go.Proofs.YtmcmjcaigipoaaaGreat
open Go.RowKit Go.Sept

set_option maxRecDepth 100000 in
set_option maxHeartbeats 2000000 in
theorem add13 {P : Nat → Prop} (w : World) (M o : Nat) (qs : Nat → List Int) (n : Int) (p : Nat) (mo : Array Value) (tm : TypeId) (h : QIs P w M o qs) (hp : p < 16) (hM : w.heap[M]? = some (.cells mo tm)) (hPM : ∀ k, P k → k ≠ M) (hPn : ∀ k, w.heap.size ≤ k → P k) (hlen : (qs p).length ≤ 1000) (hn : -9223372036854775808 ≤ n ∧ n ≤ 9223372036854775807) :
    Calls Tryz.prog 34 #[.pointer (some ⟨M, o, none⟩), .int .i64 n, .int .i64 (p : Int), .bool false] w fun e w' => e = .returned (.tuple #[]) ∧ QIs P w' M o (fun i => if i = p then qs p ++ [n] else qs i) ∧ Only (fun k => k = M) w w' ∧ ∃ v, w'.heap[M]? = some (.cells (mo.setIfInBounds (o + p) v) tm) := by
  obtain ⟨u, k1, k2⟩ := h p hp
  obtain ⟨ao, cap, rfl, hm⟩ := k2.shape
  obtain ⟨news, n1, n2, n3, n4⟩ := news_of k2 (whole_int w)
  obtain ⟨m, hmm⟩ : ∃ m, (qs p).length = m := ⟨_, rfl⟩
  have e0 : w.cell? ⟨M, o + p, none⟩ = some (.slice ao (qs p).length cap) := k1
  rw [hmm] at e0 hm n1 hlen
  have HQ := hid h
  have HMB := hid hM
  have HN := hid hn
  have HN2 := hid n2
  have HN3 := hid n3
  have HN4 := hid n4
  have HMM := hid hmm
  have HPM := hid hPM
  have HPN := hid hPn
  have hMl := lt_of_block hM
  have fz : w.frozen? ⟨M, o + p, none⟩ = false := frozen_of_block hM _
  clear h k1 k2 n2 n3 n4 hmm hM hn hPM hPn
  go_enter Tryz.func34, Tryz.ntmps34
  go_wp2_with fail
  have hp16 : (p : Int) < 16 := by omega
  have HOL : Hid (Only (fun _ => False) w w) := Only.refl _ _
  have HX := HMB
  go_region_law
    (first
    | (refine step_append_fresh _ rfl (.tmp 29) (.tmp 34) 30 rfl 3 _ 1 8 Tryz.underlying30 infoInt13 rfl (by decide) _ rfl (by (first | with_reducible exact HX.out | (with_reducible refine dr_keep13 ?_; (first | with_reducible exact HX.out | (with_reducible refine dr_keep13 ?_; (first | with_reducible exact HX.out | (with_reducible refine dr_keep13 ?_; (first | with_reducible exact HX.out)) | (with_reducible refine al_new13 ?_; first | with_reducible rfl | (rw [World.size_alloc]; done)) | (with_reducible refine al_keep13 ?_; (first | with_reducible exact HX.out)))) | (with_reducible refine al_new13 ?_; first | with_reducible rfl | (rw [World.size_alloc]; done)) | (with_reducible refine al_keep13 ?_; (first | with_reducible exact HX.out | (with_reducible refine dr_keep13 ?_; (first | with_reducible exact HX.out)) | (with_reducible refine al_new13 ?_; first | with_reducible rfl | (rw [World.size_alloc]; done)) | (with_reducible refine al_keep13 ?_; (first | with_reducible exact HX.out)))))) | (with_reducible refine al_new13 ?_; first | with_reducible rfl | (rw [World.size_alloc]; done)) | (with_reducible refine al_keep13 ?_; (first | with_reducible exact HX.out | (with_reducible refine dr_keep13 ?_; (first | with_reducible exact HX.out | (with_reducible refine dr_keep13 ?_; (first | with_reducible exact HX.out)) | (with_reducible refine al_new13 ?_; first | with_reducible rfl | (rw [World.size_alloc]; done)) | (with_reducible refine al_keep13 ?_; (first | with_reducible exact HX.out)))) | (with_reducible refine al_new13 ?_; first | with_reducible rfl | (rw [World.size_alloc]; done)) | (with_reducible refine al_keep13 ?_; (first | with_reducible exact HX.out | (with_reducible refine dr_keep13 ?_; (first | with_reducible exact HX.out)) | (with_reducible refine al_new13 ?_; first | with_reducible rfl | (rw [World.size_alloc]; done)) | (with_reducible refine al_keep13 ?_; (first | with_reducible exact HX.out)))))))) ao m cap news rfl n1 (fun j u hj => by
         obtain ⟨a, ha, hc⟩ := HN2.out j u hj
         exact ⟨a, ha, cellN13 (by (first | with_reducible exact Only.refl _ _ | with_reducible exact HOL.out | (with_reducible refine Only.drew ?_; (first | with_reducible exact Only.refl _ _ | with_reducible exact HOL.out | (with_reducible refine Only.drew ?_; (first | with_reducible exact Only.refl _ _ | with_reducible exact HOL.out | (with_reducible refine Only.drew ?_; (first | with_reducible exact Only.refl _ _ | with_reducible exact HOL.out)) | (with_reducible refine Only.alloc ?_ _; (first | with_reducible exact Only.refl _ _ | with_reducible exact HOL.out)))) | (with_reducible refine Only.alloc ?_ _; (first | with_reducible exact Only.refl _ _ | with_reducible exact HOL.out | (with_reducible refine Only.drew ?_; (first | with_reducible exact Only.refl _ _ | with_reducible exact HOL.out)) | (with_reducible refine Only.alloc ?_ _; (first | with_reducible exact Only.refl _ _ | with_reducible exact HOL.out)))))) | (with_reducible refine Only.alloc ?_ _; (first | with_reducible exact Only.refl _ _ | with_reducible exact HOL.out | (with_reducible refine Only.drew ?_; (first | with_reducible exact Only.refl _ _ | with_reducible exact HOL.out | (with_reducible refine Only.drew ?_; (first | with_reducible exact Only.refl _ _ | with_reducible exact HOL.out)) | (with_reducible refine Only.alloc ?_ _; (first | with_reducible exact Only.refl _ _ | with_reducible exact HOL.out)))) | (with_reducible refine Only.alloc ?_ _; (first | with_reducible exact Only.refl _ _ | with_reducible exact HOL.out | (with_reducible refine Only.drew ?_; (first | with_reducible exact Only.refl _ _ | with_reducible exact HOL.out)) | (with_reducible refine Only.alloc ?_ _; (first | with_reducible exact Only.refl _ _ | with_reducible exact HOL.out)))))))) hc⟩) HN3.out (by unfold maxLen; omega) (by omega) ?_
       intro v1 b1 w1 h1 h2 h3
       have ho : Only (fun _ => False) w w1 := Only.chain (by (first | with_reducible exact Only.refl _ _ | with_reducible exact HOL.out | (with_reducible refine Only.drew ?_; (first | with_reducible exact Only.refl _ _ | with_reducible exact HOL.out | (with_reducible refine Only.drew ?_; (first | with_reducible exact Only.refl _ _ | with_reducible exact HOL.out | (with_reducible refine Only.drew ?_; (first | with_reducible exact Only.refl _ _ | with_reducible exact HOL.out)) | (with_reducible refine Only.alloc ?_ _; (first | with_reducible exact Only.refl _ _ | with_reducible exact HOL.out)))) | (with_reducible refine Only.alloc ?_ _; (first | with_reducible exact Only.refl _ _ | with_reducible exact HOL.out | (with_reducible refine Only.drew ?_; (first | with_reducible exact Only.refl _ _ | with_reducible exact HOL.out)) | (with_reducible refine Only.alloc ?_ _; (first | with_reducible exact Only.refl _ _ | with_reducible exact HOL.out)))))) | (with_reducible refine Only.alloc ?_ _; (first | with_reducible exact Only.refl _ _ | with_reducible exact HOL.out | (with_reducible refine Only.drew ?_; (first | with_reducible exact Only.refl _ _ | with_reducible exact HOL.out | (with_reducible refine Only.drew ?_; (first | with_reducible exact Only.refl _ _ | with_reducible exact HOL.out)) | (with_reducible refine Only.alloc ?_ _; (first | with_reducible exact Only.refl _ _ | with_reducible exact HOL.out)))) | (with_reducible refine Only.alloc ?_ _; (first | with_reducible exact Only.refl _ _ | with_reducible exact HOL.out | (with_reducible refine Only.drew ?_; (first | with_reducible exact Only.refl _ _ | with_reducible exact HOL.out)) | (with_reducible refine Only.alloc ?_ _; (first | with_reducible exact Only.refl _ _ | with_reducible exact HOL.out)))))))) h2 (fun i hi e => by omega)
       first
         | (have HB0 : Hid (w1.heap[w.heap.size]? = some (.cells #[.int .i64 n] 3)) := carry13 h2 (by (first | with_reducible exact HX.out | (with_reducible refine dr_keep13 ?_; (first | with_reducible exact HX.out | (with_reducible refine dr_keep13 ?_; (first | with_reducible exact HX.out | (with_reducible refine dr_keep13 ?_; (first | with_reducible exact HX.out)) | (with_reducible refine al_new13 ?_; first | with_reducible rfl | (rw [World.size_alloc]; done)) | (with_reducible refine al_keep13 ?_; (first | with_reducible exact HX.out)))) | (with_reducible refine al_new13 ?_; first | with_reducible rfl | (rw [World.size_alloc]; done)) | (with_reducible refine al_keep13 ?_; (first | with_reducible exact HX.out | (with_reducible refine dr_keep13 ?_; (first | with_reducible exact HX.out)) | (with_reducible refine al_new13 ?_; first | with_reducible rfl | (rw [World.size_alloc]; done)) | (with_reducible refine al_keep13 ?_; (first | with_reducible exact HX.out)))))) | (with_reducible refine al_new13 ?_; first | with_reducible rfl | (rw [World.size_alloc]; done)) | (with_reducible refine al_keep13 ?_; (first | with_reducible exact HX.out | (with_reducible refine dr_keep13 ?_; (first | with_reducible exact HX.out | (with_reducible refine dr_keep13 ?_; (first | with_reducible exact HX.out)) | (with_reducible refine al_new13 ?_; first | with_reducible rfl | (rw [World.size_alloc]; done)) | (with_reducible refine al_keep13 ?_; (first | with_reducible exact HX.out)))) | (with_reducible refine al_new13 ?_; first | with_reducible rfl | (rw [World.size_alloc]; done)) | (with_reducible refine al_keep13 ?_; (first | with_reducible exact HX.out | (with_reducible refine dr_keep13 ?_; (first | with_reducible exact HX.out)) | (with_reducible refine al_new13 ?_; first | with_reducible rfl | (rw [World.size_alloc]; done)) | (with_reducible refine al_keep13 ?_; (first | with_reducible exact HX.out)))))))) (by omega))
         | (have HB0 : Hid (w1.heap[w.heap.size + 1]? = some (.cells #[.int .i64 n] 3)) := carry13 h2 (by (first | with_reducible exact HX.out | (with_reducible refine dr_keep13 ?_; (first | with_reducible exact HX.out | (with_reducible refine dr_keep13 ?_; (first | with_reducible exact HX.out | (with_reducible refine dr_keep13 ?_; (first | with_reducible exact HX.out)) | (with_reducible refine al_new13 ?_; first | with_reducible rfl | (rw [World.size_alloc]; done)) | (with_reducible refine al_keep13 ?_; (first | with_reducible exact HX.out)))) | (with_reducible refine al_new13 ?_; first | with_reducible rfl | (rw [World.size_alloc]; done)) | (with_reducible refine al_keep13 ?_; (first | with_reducible exact HX.out | (with_reducible refine dr_keep13 ?_; (first | with_reducible exact HX.out)) | (with_reducible refine al_new13 ?_; first | with_reducible rfl | (rw [World.size_alloc]; done)) | (with_reducible refine al_keep13 ?_; (first | with_reducible exact HX.out)))))) | (with_reducible refine al_new13 ?_; first | with_reducible rfl | (rw [World.size_alloc]; done)) | (with_reducible refine al_keep13 ?_; (first | with_reducible exact HX.out | (with_reducible refine dr_keep13 ?_; (first | with_reducible exact HX.out | (with_reducible refine dr_keep13 ?_; (first | with_reducible exact HX.out)) | (with_reducible refine al_new13 ?_; first | with_reducible rfl | (rw [World.size_alloc]; done)) | (with_reducible refine al_keep13 ?_; (first | with_reducible exact HX.out)))) | (with_reducible refine al_new13 ?_; first | with_reducible rfl | (rw [World.size_alloc]; done)) | (with_reducible refine al_keep13 ?_; (first | with_reducible exact HX.out | (with_reducible refine dr_keep13 ?_; (first | with_reducible exact HX.out)) | (with_reducible refine al_new13 ?_; first | with_reducible rfl | (rw [World.size_alloc]; done)) | (with_reducible refine al_keep13 ?_; (first | with_reducible exact HX.out)))))))) (by omega))
         | skip
       have hb1 : w.heap.size ≤ b1 := by
         rcases h3 with h | h
         · omega
         · exact Nat.le_trans (show w.heap.size ≤ _ from (show Only (fun _ => False) w _ by (first | with_reducible exact Only.refl _ _ | with_reducible exact HOL.out | (with_reducible refine Only.drew ?_; (first | with_reducible exact Only.refl _ _ | with_reducible exact HOL.out | (with_reducible refine Only.drew ?_; (first | with_reducible exact Only.refl _ _ | with_reducible exact HOL.out | (with_reducible refine Only.drew ?_; (first | with_reducible exact Only.refl _ _ | with_reducible exact HOL.out)) | (with_reducible refine Only.alloc ?_ _; (first | with_reducible exact Only.refl _ _ | with_reducible exact HOL.out)))) | (with_reducible refine Only.alloc ?_ _; (first | with_reducible exact Only.refl _ _ | with_reducible exact HOL.out | (with_reducible refine Only.drew ?_; (first | with_reducible exact Only.refl _ _ | with_reducible exact HOL.out)) | (with_reducible refine Only.alloc ?_ _; (first | with_reducible exact Only.refl _ _ | with_reducible exact HOL.out)))))) | (with_reducible refine Only.alloc ?_ _; (first | with_reducible exact Only.refl _ _ | with_reducible exact HOL.out | (with_reducible refine Only.drew ?_; (first | with_reducible exact Only.refl _ _ | with_reducible exact HOL.out | (with_reducible refine Only.drew ?_; (first | with_reducible exact Only.refl _ _ | with_reducible exact HOL.out)) | (with_reducible refine Only.alloc ?_ _; (first | with_reducible exact Only.refl _ _ | with_reducible exact HOL.out)))) | (with_reducible refine Only.alloc ?_ _; (first | with_reducible exact Only.refl _ _ | with_reducible exact HOL.out | (with_reducible refine Only.drew ?_; (first | with_reducible exact Only.refl _ _ | with_reducible exact HOL.out)) | (with_reducible refine Only.alloc ?_ _; (first | with_reducible exact Only.refl _ _ | with_reducible exact HOL.out)))))))).size) h
       obtain ⟨a1, c1, rfl, _⟩ := h1.shape
       have HG1 := hid h1
       have HOL := hid ho
       first | (have HX := HB0; clear HB0) | skip
       have e1 := cellN13 ho e0
       have hs1 := ho.size
       have hl1 : M < w1.heap.size := by omega
       clear h1 h2 h3 ho)
    | (refine step_append_grown _ rfl (.tmp 35) (.tmp 37) 30 rfl 3 _ 1 8 Tryz.underlying30 infoInt13 rfl (by decide) (.slice a1 m c1) b1 m news rfl (Grow.only (S := fun _ => False) HG1.out (show Only (fun _ => False) w1 _ by (first | with_reducible exact Only.refl _ _ | with_reducible exact HOL.out | (with_reducible refine Only.drew ?_; (first | with_reducible exact Only.refl _ _ | with_reducible exact HOL.out | (with_reducible refine Only.drew ?_; (first | with_reducible exact Only.refl _ _ | with_reducible exact HOL.out | (with_reducible refine Only.drew ?_; (first | with_reducible exact Only.refl _ _ | with_reducible exact HOL.out)) | (with_reducible refine Only.alloc ?_ _; (first | with_reducible exact Only.refl _ _ | with_reducible exact HOL.out)))) | (with_reducible refine Only.alloc ?_ _; (first | with_reducible exact Only.refl _ _ | with_reducible exact HOL.out | (with_reducible refine Only.drew ?_; (first | with_reducible exact Only.refl _ _ | with_reducible exact HOL.out)) | (with_reducible refine Only.alloc ?_ _; (first | with_reducible exact Only.refl _ _ | with_reducible exact HOL.out)))))) | (with_reducible refine Only.alloc ?_ _; (first | with_reducible exact Only.refl _ _ | with_reducible exact HOL.out | (with_reducible refine Only.drew ?_; (first | with_reducible exact Only.refl _ _ | with_reducible exact HOL.out | (with_reducible refine Only.drew ?_; (first | with_reducible exact Only.refl _ _ | with_reducible exact HOL.out)) | (with_reducible refine Only.alloc ?_ _; (first | with_reducible exact Only.refl _ _ | with_reducible exact HOL.out)))) | (with_reducible refine Only.alloc ?_ _; (first | with_reducible exact Only.refl _ _ | with_reducible exact HOL.out | (with_reducible refine Only.drew ?_; (first | with_reducible exact Only.refl _ _ | with_reducible exact HOL.out)) | (with_reducible refine Only.alloc ?_ _; (first | with_reducible exact Only.refl _ _ | with_reducible exact HOL.out)))))))) (fun h => h)) ⟨_, 0, none⟩ 1 1 [.int .i64 n] rfl (by decide) rfl (news_of_block (by (first | with_reducible exact HX.out | (with_reducible refine dr_keep13 ?_; (first | with_reducible exact HX.out | (with_reducible refine dr_keep13 ?_; (first | with_reducible exact HX.out | (with_reducible refine dr_keep13 ?_; (first | with_reducible exact HX.out)) | (with_reducible refine al_new13 ?_; first | with_reducible rfl | (rw [World.size_alloc]; done)) | (with_reducible refine al_keep13 ?_; (first | with_reducible exact HX.out)))) | (with_reducible refine al_new13 ?_; first | with_reducible rfl | (rw [World.size_alloc]; done)) | (with_reducible refine al_keep13 ?_; (first | with_reducible exact HX.out | (with_reducible refine dr_keep13 ?_; (first | with_reducible exact HX.out)) | (with_reducible refine al_new13 ?_; first | with_reducible rfl | (rw [World.size_alloc]; done)) | (with_reducible refine al_keep13 ?_; (first | with_reducible exact HX.out)))))) | (with_reducible refine al_new13 ?_; first | with_reducible rfl | (rw [World.size_alloc]; done)) | (with_reducible refine al_keep13 ?_; (first | with_reducible exact HX.out | (with_reducible refine dr_keep13 ?_; (first | with_reducible exact HX.out | (with_reducible refine dr_keep13 ?_; (first | with_reducible exact HX.out)) | (with_reducible refine al_new13 ?_; first | with_reducible rfl | (rw [World.size_alloc]; done)) | (with_reducible refine al_keep13 ?_; (first | with_reducible exact HX.out)))) | (with_reducible refine al_new13 ?_; first | with_reducible rfl | (rw [World.size_alloc]; done)) | (with_reducible refine al_keep13 ?_; (first | with_reducible exact HX.out | (with_reducible refine dr_keep13 ?_; (first | with_reducible exact HX.out)) | (with_reducible refine al_new13 ?_; first | with_reducible rfl | (rw [World.size_alloc]; done)) | (with_reducible refine al_keep13 ?_; (first | with_reducible exact HX.out))))))))) (one_int13 _) (by unfold maxLen; omega) (by omega) ?_
       intro b2 c2 w2 h1 h2 h3
       have ho : Only (fun _ => False) w w2 := Only.chain (by (first | with_reducible exact Only.refl _ _ | with_reducible exact HOL.out | (with_reducible refine Only.drew ?_; (first | with_reducible exact Only.refl _ _ | with_reducible exact HOL.out | (with_reducible refine Only.drew ?_; (first | with_reducible exact Only.refl _ _ | with_reducible exact HOL.out | (with_reducible refine Only.drew ?_; (first | with_reducible exact Only.refl _ _ | with_reducible exact HOL.out)) | (with_reducible refine Only.alloc ?_ _; (first | with_reducible exact Only.refl _ _ | with_reducible exact HOL.out)))) | (with_reducible refine Only.alloc ?_ _; (first | with_reducible exact Only.refl _ _ | with_reducible exact HOL.out | (with_reducible refine Only.drew ?_; (first | with_reducible exact Only.refl _ _ | with_reducible exact HOL.out)) | (with_reducible refine Only.alloc ?_ _; (first | with_reducible exact Only.refl _ _ | with_reducible exact HOL.out)))))) | (with_reducible refine Only.alloc ?_ _; (first | with_reducible exact Only.refl _ _ | with_reducible exact HOL.out | (with_reducible refine Only.drew ?_; (first | with_reducible exact Only.refl _ _ | with_reducible exact HOL.out | (with_reducible refine Only.drew ?_; (first | with_reducible exact Only.refl _ _ | with_reducible exact HOL.out)) | (with_reducible refine Only.alloc ?_ _; (first | with_reducible exact Only.refl _ _ | with_reducible exact HOL.out)))) | (with_reducible refine Only.alloc ?_ _; (first | with_reducible exact Only.refl _ _ | with_reducible exact HOL.out | (with_reducible refine Only.drew ?_; (first | with_reducible exact Only.refl _ _ | with_reducible exact HOL.out)) | (with_reducible refine Only.alloc ?_ _; (first | with_reducible exact Only.refl _ _ | with_reducible exact HOL.out)))))))) h2 (fun i hi e => by have := HG1.out.spot i e; omega)
       have hb2 : w.heap.size ≤ b2 := by
         rcases h3 with h | h
         · omega
         · exact Nat.le_trans (show w.heap.size ≤ _ from (show Only (fun _ => False) w _ by (first | with_reducible exact Only.refl _ _ | with_reducible exact HOL.out | (with_reducible refine Only.drew ?_; (first | with_reducible exact Only.refl _ _ | with_reducible exact HOL.out | (with_reducible refine Only.drew ?_; (first | with_reducible exact Only.refl _ _ | with_reducible exact HOL.out | (with_reducible refine Only.drew ?_; (first | with_reducible exact Only.refl _ _ | with_reducible exact HOL.out)) | (with_reducible refine Only.alloc ?_ _; (first | with_reducible exact Only.refl _ _ | with_reducible exact HOL.out)))) | (with_reducible refine Only.alloc ?_ _; (first | with_reducible exact Only.refl _ _ | with_reducible exact HOL.out | (with_reducible refine Only.drew ?_; (first | with_reducible exact Only.refl _ _ | with_reducible exact HOL.out)) | (with_reducible refine Only.alloc ?_ _; (first | with_reducible exact Only.refl _ _ | with_reducible exact HOL.out)))))) | (with_reducible refine Only.alloc ?_ _; (first | with_reducible exact Only.refl _ _ | with_reducible exact HOL.out | (with_reducible refine Only.drew ?_; (first | with_reducible exact Only.refl _ _ | with_reducible exact HOL.out | (with_reducible refine Only.drew ?_; (first | with_reducible exact Only.refl _ _ | with_reducible exact HOL.out)) | (with_reducible refine Only.alloc ?_ _; (first | with_reducible exact Only.refl _ _ | with_reducible exact HOL.out)))) | (with_reducible refine Only.alloc ?_ _; (first | with_reducible exact Only.refl _ _ | with_reducible exact HOL.out | (with_reducible refine Only.drew ?_; (first | with_reducible exact Only.refl _ _ | with_reducible exact HOL.out)) | (with_reducible refine Only.alloc ?_ _; (first | with_reducible exact Only.refl _ _ | with_reducible exact HOL.out)))))))).size) h
       have HG2 := hid h1
       have HOL := hid ho
       have hM2 := (ho.block M hMl (fun h => h)).trans HMB.out
       have HM2 := hid hM2
       have e2 := cellN13 ho e0
       have f2 : w2.frozen? ⟨M, o + p, none⟩ = false := frozen_of_block hM2 _
       clear h1 h2 h3 ho hM2))
  all_goals go_wp2_with fail
  all_goals go_end0
  all_goals exact ⟨rfl, QIs.set (HQ.out.only HOL.out (fun h => h) (fun _ _ h => h)) HM2.out hp HG2.out HMM.out n1 HN4.out HPM.out (HPN.out _ hb2) HN.out, Only.setCell (S := fun k => k = M) (p := ⟨M, o + p, none⟩) (HOL.out.mono (fun _ _ h => h.elim)) (.inr rfl) _, _, block_set11 HM2.out _ _⟩
end Go.Proofs.YtmcmjcaigipoaaaGreat

/-
  septumref01.Free: a block of its own. Conditions: how many.
-/
namespace Go.Proofs.YtmcmjcaigipoaaaGreat
open Go.RowKit Go.Sept

set_option maxRecDepth 100000 in
set_option maxHeartbeats 2000000 in
theorem free13 (w : World) (n : Nat) (hn : n ≤ 1000) :
    Calls Tryz.prog 33 #[.int .i64 (n : Int)] w fun e w' => ∃ b, e = .returned (.pointer (some ⟨b, 0, none⟩)) ∧ w.heap.size ≤ b ∧ Only (fun _ => False) w w' := by
  have HNN := hid hn
  clear hn
  go_enter Tryz.func33, Tryz.ntmps33
  go_wp2_with fail
  go_loopw [9] (fun i wx => ∃ (j b : Nat) (v : Value), i = .int .i64 (j : Int) ∧ j ≤ n ∧ wx.heap[w.heap.size]? = some (.cells #[.int .i64 (n : Int), v] 140) ∧ w.heap.size < b ∧ (∃ news, Grow 3 1 wx v b j news ∧ ∀ u ∈ news, u.oneCell' = true) ∧ Only (fun _ => False) w wx) (fun i _ => n - (intOf i).toNat)
  case atStart => exact ⟨0, w.heap.size + 1, _, rfl, Nat.zero_le _, heap_new _ _, Nat.lt_succ_self _, ⟨[], Grow.nil _ _ _ _, fun u hu => by simp at hu⟩, Only.alloc (Only.refl _ _) _⟩
  case round =>
  obtain ⟨j, b, v, rfl, hj, hM, hb, ⟨news, hg, hone⟩, hox⟩ := hrel
  obtain ⟨va, vc, rfl, hcap⟩ := Grow.shape hg
  have HG1 := hid hg
  have HMB := hid hM
  have HONE := hid hone
  have HOX := hid hox
  have hMl := lt_of_block hM
  have HJ := hid hj
  by_cases hlt : (j : Int) < (n : Int)
  · have e0 : wr.cell? ⟨w.heap.size, 1, none⟩ = some (.slice va j vc) := by rw [cell_of_block hM]; rfl
    have hjn : j < n := by omega
    have hn9 : n ≤ 1000 := HNN.out
    clear hg hM hone hox hj
    have HOL : Hid (Only (fun _ => False) wr wr) := Only.refl _ _
    have HX := HMB
    go_wp2_with (at_builtin; refine wpList_append_grown _ rfl (.tmp 16) (.tmp 18) 30 rfl 3 _ 1 8 Tryz.underlying30 infoInt13 rfl (by decide) (.slice va j vc) b j news rfl (Grow.only (S := fun _ => False) HG1.out (Only.alloc (Only.refl _ _) _) (fun h => h)) ⟨_, 0, none⟩ 1 1 [.int .i64 (j : Int)] rfl (by decide) rfl (news_of_block (heap_new _ _)) (one_int13 _) (by unfold maxLen; omega) (by omega) ?_)
    intro b2 c2 w2 h1 h2 h3
    have ho : Only (fun _ => False) w w2 := Only.chain (Only.alloc HOX.out _) h2 (fun i hi e => by
      have := HG1.out.spot i e
      have := HOX.out.size
      omega)
    have hb2 : w.heap.size < b2 := by
      rcases h3 with h | h
      · omega
      · have : wr.heap.size ≤ b2 := Nat.le_trans (Nat.le_succ _) h
        omega
    have hM2 := carry13 h2 (al_keep13 HMB.out) (fun e => by have := HG1.out.spot _ e; omega)
    have HM2 := hid hM2
    have HG2 := hid h1
    have HOW := hid ho
    have f2 : w2.frozen? ⟨w.heap.size, 1, none⟩ = false := frozen_of_block hM2 _
    have e2 : w2.cell? ⟨w.heap.size, 1, none⟩ = some (.slice va j vc) := by rw [cell_of_block hM2]; rfl
    clear h1 h2 h3 ho hM2
    go_wp2_with fail
    go_roundw
    case rel =>
      refine ⟨j + 1, b2, _, rfl, by omega, block_set11 HM2.out 1 _, hb2, ⟨_, HG2.out.only (S := fun k => k = w.heap.size) (Only.setCell (S := fun k => k = w.heap.size) (p := ⟨w.heap.size, 1, none⟩) (Only.refl _ _) (.inr rfl) _) (fun e => by omega), ?_⟩, Only.setCell (p := ⟨w.heap.size, 1, none⟩) HOW.out (.inl (Nat.le_refl _)) _⟩
      intro u hu
      rcases List.mem_append.1 hu with hu | hu
      · exact HONE.out u hu
      · exact one_int13 _ u hu
    case measure => simp [intOf] <;> omega
  · have HR : Hid (j = n) := by show _ = _; have := HJ.out; omega
    go_wp2_with fail
    go_ret
    exact ⟨_, rfl, Nat.le_refl _, HOX.out⟩
end Go.Proofs.YtmcmjcaigipoaaaGreat

/-
  septumref01's Without, and a queue's Drop; Add of the first one. Conditions: how many there are.
-/
namespace Go.Sept
open Go.RowKit
/-- All but one. -/
def butL (xs : List Int) (x : Int) : List Int := xs.filter (fun y => y != x)
theorem butL_len (xs : List Int) (x : Int) : (butL xs x).length ≤ xs.length := List.length_filter_le _ _
theorem butL_yes {xs : List Int} {x y : Int} {j : Nat} (h : xs[j]? = some y) (hne : (y != x) = true) : butL (xs.take (j + 1)) x = butL (xs.take j) x ++ [y] := by
  unfold butL
  rw [List.take_add_one, h, List.filter_append]
  simp [hne]
theorem butL_no {xs : List Int} {x y : Int} {j : Nat} (h : xs[j]? = some y) (hne : (y != x) = false) : butL (xs.take (j + 1)) x = butL (xs.take j) x := by
  unfold butL
  rw [List.take_add_one, h, List.filter_append]
  simp [hne]
theorem butL_cut {A B : List Int} {x : Int} (h : (A ++ x :: B).Nodup) : butL (A ++ x :: B) x = A ++ B := by
  have h1 := List.nodup_append.1 h
  have h2 := List.nodup_cons.1 h1.2.1
  have e1 : A.filter (fun y => y != x) = A := List.filter_eq_self.2 (fun a ha => bne_iff_ne.2 (fun e => h1.2.2 a ha x (List.mem_cons_self ..) e))
  have e2 : B.filter (fun y => y != x) = B := List.filter_eq_self.2 (fun a ha => bne_iff_ne.2 (fun e => by subst e; exact h2.1 ha))
  unfold butL
  rw [List.filter_append, List.filter_cons_of_neg (by simp), e1, e2]
/-- One of the sixteen is another one. -/
theorem QIs.put {P : Nat → Prop} {w : World} {M o : Nat} {qs : Nat → List Int} {p : Nat} {v : Value} {L : List Int} {mo : Array Value} {tm : TypeId} (h : QIs P w M o qs) (hM : w.heap[M]? = some (.cells mo tm)) (hp : p < 16)
    (hv : SlOf P 1 intE w v L) (hPM : ∀ k, P k → k ≠ M) : QIs P (w.setCell ⟨M, o + p, none⟩ v) M o (fun i => if i = p then L else qs i) := by
  have hall : Only (fun k => k = M) w (w.setCell ⟨M, o + p, none⟩ v) := (Only.refl (fun k => k = M) w).setCell (p := ⟨M, o + p, none⟩) (.inr rfl) _
  intro i hi
  by_cases e : i = p
  · subst e
    obtain ⟨u, k1, _⟩ := h i hi
    refine ⟨_, cell_set_self hM k1 _, ?_⟩
    dsimp only
    rw [if_pos rfl]
    exact hv.only (stay_int hall hPM)
  · obtain ⟨u, k1, k2⟩ := h i hi
    dsimp only
    rw [if_neg e]
    exact ⟨u, (World.cell?_setCell_other w _ _ _ (fun e2 => by injection e2 with _ e2 _; omega)).trans k1, k2.only (stay_int hall hPM)⟩
theorem Grow.one {e : TypeId} {w : World} {g : Nat} {u : Value} (h : w.heap[g]? = some (.cells #[u] e)) : Grow e 1 w (.slice (some ⟨g, 0, none⟩) 1 1) g 1 [u] :=
  ⟨⟨rfl, .inr ⟨g, 1, #[u], rfl, Nat.zero_le _, h, Nat.le_refl _, by decide, by simp, by simp⟩⟩, fun k h => by simpa [Value.ownBlock] using h.symm⟩
end Go.Sept
namespace Go.Proofs.YtmcmjcaigipoaaaGreat
open Go.RowKit Go.Sept

set_option maxRecDepth 100000 in
set_option maxHeartbeats 1000000 in
theorem without14 {P : Nat → Prop} (w : World) (v : Value) (xs : List Int) (x : Int) (h : SlOf P 1 intE w v xs) (hlen : xs.length ≤ 1000) :
    Calls Tryz.prog 106 #[v, .int .i64 x] w fun e w' => ∃ v' b, e = .returned v' ∧ Own13 w' v' b (butL xs x) ∧ w.heap.size ≤ b ∧ Only (fun _ => False) w w' := by
  obtain ⟨ao, cap, rfl, hm⟩ := h.shape
  obtain ⟨n, hn⟩ : ∃ n, xs.length = n := ⟨_, rfl⟩
  have HN := hid hn
  have HI := hid h
  have hn1000 : n ≤ 1000 := by omega
  rw [hn] at hm HI ⊢
  clear h hn hlen
  go_enter Tryz.func106, Tryz.ntmps106
  go_wp2_with fail
  go_loopw [5, 9] (fun v i wx => ∃ (j b : Nat), i = .int .i64 (j : Int) ∧ j ≤ n ∧ Own13 wx v b (butL (xs.take j) x) ∧ w.heap.size ≤ b ∧ Only (fun _ => False) w wx) (fun _ i _ => n - (intOf i).toNat)
  case atStart => exact ⟨0, w.heap.size, rfl, Nat.zero_le _, Grow.nil _ _ _ _, Nat.le_refl _, Only.refl _ _⟩
  case round =>
  obtain ⟨j, b, rfl, hj, hown, hbw, hox⟩ := hrel
  have HOW := hid hown
  have HX := hid hox
  have HBW := hid hbw
  obtain ⟨oa, oc, rfl, _⟩ := Grow.shape hown
  obtain ⟨k, hk⟩ : ∃ k, (butL (xs.take j) x).length = k := ⟨_, rfl⟩
  have HK := hid hk
  have hkj : k ≤ j := by
    rw [← hk]
    refine Nat.le_trans (butL_len _ _) ?_
    rw [List.length_take]
    exact Nat.min_le_left _ _
  rw [hk]
  clear hox hbw hown
  by_cases hlt : (j : Int) < (n : Int)
  · obtain ⟨b2, off, rfl, hb2, y, hy, hc⟩ := (HI.out.only (stay_int HX.out (fun _ _ h => h))).get j (by rw [HN.out]; omega)
    have e0 : wr.cell? ⟨b2, off + j * 1, none⟩ = some (.int .i64 y) := hc.1
    rw [Nat.mul_one] at e0
    have HY := hid hy
    clear hy hc hb2 hk
    cases hyx : (y != x) with
    | true =>
      have HST : Hid (butL (xs.take (j + 1)) x = butL (xs.take j) x ++ [y]) := butL_yes HY.out hyx
      have e1 : (wr.alloc (.cells #[.int .i64 y] 3)).cell? ⟨b2, off + j, none⟩ = some (.int .i64 y) := cellN13 ((Only.refl (fun _ => False) _).alloc _) e0
      have HG0 : Hid (Grow 3 1 (wr.alloc (.cells #[.int .i64 y] 3)) (.slice oa k oc) b k ((butL (xs.take j) x).map (Value.int .i64))) := by
        have h9 := HOW.out
        unfold Own13 at h9
        rw [HK.out] at h9
        exact Grow.only h9 ((Only.refl (fun _ => False) _).alloc _) (fun h => h)
      go_wp2_with (at_builtin; refine wpList_append_grown _ rfl (.tmp 18) (.tmp 23) 30 rfl 3 _ 1 8 Tryz.underlying30 infoInt13 rfl (by decide) (.slice oa k oc) b k ((butL (xs.take j) x).map (Value.int .i64)) rfl HG0.out ⟨wr.heap.size, 0, none⟩ 1 1 [.int .i64 y] rfl (by decide) rfl (news_of_block (heap_new wr (.cells #[.int .i64 y] 3))) (one_int13 _) (by unfold maxLen; omega) (by omega) ?_)
      intro b' cap' w' h1 h2 h3
      have HOW2 : Hid (Own13 w' (.slice (some ⟨b', 0, none⟩) (k + 1 : Nat) cap') b' (butL (xs.take (j + 1)) x)) := by
        show Grow 3 1 _ _ _ _ _
        rw [HST.out, List.length_append, List.length_singleton, HK.out, List.map_append]
        exact h1
      have HBW2 : Hid (w.heap.size ≤ b') := by
        have := HBW.out
        have := HX.out.size
        show _ ≤ _
        rcases h3 with h3 | h3 <;> omega
      have HX2 : Hid (Only (fun _ => False) w w') := (HX.out.alloc (.cells #[.int .i64 y] 3)).chain h2 (fun i hi e => by
        have := HG0.out.spot i e
        have := HBW.out
        omega)
      clear h1 h2 h3 HG0 e0 e1
      go_wp2_with fail
      go_roundw
      case rel => exact ⟨j + 1, b', by go_num, by omega, HOW2.out, HBW2.out, HX2.out⟩
      case measure => simp [intOf]; omega
    | false =>
      have HOW2 : Hid (Own13 wr (.slice oa k oc) b (butL (xs.take (j + 1)) x)) := by
        rw [butL_no HY.out hyx]
        have := HOW.out
        unfold Own13 at *
        rw [HK.out] at this ⊢
        exact this
      go_wp2_with fail
      go_roundw
      case rel => exact ⟨j + 1, b, by go_num, by omega, HOW2.out, HBW.out, HX.out⟩
      case measure => simp [intOf]; omega
  · have HE : Hid (Own13 wr (.slice oa k oc) b (butL xs x)) := by
      have h9 := HOW.out
      rw [List.take_of_length_le (by rw [HN.out]; omega)] at h9
      unfold Own13 at *
      have h8 := HK.out
      rw [List.take_of_length_le (by rw [HN.out]; omega)] at h8
      rw [h8] at h9 ⊢
      exact h9
    go_wp2_with fail
    go_ret
    first
      | exact ⟨_, b, rfl, HE.out, HBW.out, HX.out⟩
      | exact ⟨_, rfl, b, HE.out, HBW.out, HX.out⟩

set_option maxRecDepth 100000 in
set_option maxHeartbeats 2000000 in
theorem drop14 {P : Nat → Prop} (w : World) (M o : Nat) (qs : Nat → List Int) (x : Int) (p : Nat) (mo : Array Value) (tm : TypeId) (h : QIs P w M o qs) (hp : p < 16) (hM : w.heap[M]? = some (.cells mo tm)) (hPM : ∀ k, P k → k ≠ M) (hPn : ∀ k, w.heap.size ≤ k → P k) (hlen : (qs p).length ≤ 1000) :
    Calls Tryz.prog 69 #[.pointer (some ⟨M, o, none⟩), .int .i64 x, .int .i64 (p : Int)] w fun e w' => e = .returned (.tuple #[]) ∧ QIs P w' M o (fun i => if i = p then butL (qs p) x else qs i) ∧ Only (fun k => k = M) w w' ∧ ∃ v, w'.heap[M]? = some (.cells (mo.setIfInBounds (o + p) v) tm) := by
  obtain ⟨u, k1, k2⟩ := h p hp
  obtain ⟨ao, cap, rfl, hm⟩ := k2.shape
  have e0 : w.cell? ⟨M, o + p, none⟩ = some (.slice ao (qs p).length cap) := k1
  have HW : Hid (∀ wx, Only (fun _ => False) w wx → Calls Tryz.prog 106 #[.slice ao (qs p).length cap, .int .i64 x] wx fun e w' => ∃ v' b, e = .returned v' ∧ Own13 w' v' b (butL (qs p) x) ∧ wx.heap.size ≤ b ∧ Only (fun _ => False) wx w') := fun wx ho => without14 wx _ (qs p) x (k2.only (stay_int ho (fun _ _ h => h))) hlen
  have HBD := hid (sl_bounds k2)
  have HQ := hid h
  have HMB := hid hM
  have HPM := hid hPM
  have HPN := hid hPn
  obtain ⟨m, hmm⟩ : ∃ m, (qs p).length = m := ⟨_, rfl⟩
  have hp16 : (p : Int) < 16 := by omega
  rw [hmm] at e0 hm HW
  clear h k1 k2 hM hPM hPn hmm hlen
  go_enter Tryz.func69, Tryz.ntmps69
  go_wp2_with fail
  go_region_with (first | (go_at_call 106; refine (HW.out _ ((Only.refl _ _).drew)).mono ?_; rintro e w1 ⟨v1, b1, rfl, hown, hb1, ho1⟩
                           have HO1 : Hid (Only (fun _ => False) w w1) := ((Only.refl _ _).drew).chain ho1 (fun _ _ h => h)
                           have hb2 : w.heap.size ≤ b1 := hb1
                           have HB1 := hid hb2
                           have hM1 := (HO1.out.block M (lt_of_block HMB.out) (fun h => h)).trans HMB.out
                           have HM1 := hid hM1
                           have e1 := cellN13 HO1.out e0
                           have f1 : w1.frozen? ⟨M, o + p, none⟩ = false := frozen_of_block hM1 _
                           obtain ⟨a1, c1, rfl, _⟩ := Grow.shape hown
                           have HOWN := hid hown
                           clear hown hb1 ho1 hb2 hM1))
  all_goals go_wp2_with fail
  all_goals go_end0
  all_goals
    refine ⟨rfl, QIs.put (HQ.out.only HO1.out (fun h => h) (fun _ _ h => h)) HM1.out hp ((Own13.sl HOWN.out (fun y hy => HBD.out y (List.mem_filter.1 hy).1)).mono (fun k hk => ?_) (fun _ _ _ h => h)) HPM.out, Only.setCell (S := fun k => k = M) (p := ⟨M, o + p, none⟩) (HO1.out.mono (fun _ _ h => h.elim)) (.inr rfl) _, _, block_set11 HM1.out _ _⟩
    have e : k = b1 := hk
    exact e ▸ HPN.out _ HB1.out

set_option maxRecDepth 100000 in
set_option maxHeartbeats 2000000 in
theorem front14 {P : Nat → Prop} (w : World) (M o : Nat) (qs : Nat → List Int) (n : Int) (p : Nat) (mo : Array Value) (tm : TypeId) (h : QIs P w M o qs) (hp : p < 16) (hM : w.heap[M]? = some (.cells mo tm)) (hPM : ∀ k, P k → k ≠ M) (hPn : ∀ k, w.heap.size ≤ k → P k) (hlen : (qs p).length ≤ 1000) (hn : -9223372036854775808 ≤ n ∧ n ≤ 9223372036854775807) :
    Calls Tryz.prog 34 #[.pointer (some ⟨M, o, none⟩), .int .i64 n, .int .i64 (p : Int), .bool true] w fun e w' => e = .returned (.tuple #[]) ∧ QIs P w' M o (fun i => if i = p then n :: qs p else qs i) ∧ Only (fun k => k = M) w w' ∧ ∃ v, w'.heap[M]? = some (.cells (mo.setIfInBounds (o + p) v) tm) := by
  obtain ⟨u, k1, k2⟩ := h p hp
  obtain ⟨ao, cap, rfl, hm⟩ := k2.shape
  have e0 : w.cell? ⟨M, o + p, none⟩ = some (.slice ao (qs p).length cap) := k1
  obtain ⟨news, n1, n2, n3, n4⟩ := news_of k2 (whole_int w)
  have HNW : Hid (news = (qs p).map (Value.int .i64)) := by
    show _ = _
    apply List.ext_getElem?
    intro i
    by_cases hi : i < (qs p).length
    · have hx : (qs p)[i]? = some (qs p)[i] := List.getElem?_eq_getElem hi
      obtain ⟨ao', cap', h1, _, b', off', h3⟩ := k2
      obtain ⟨h4, _, h5⟩ := h3 i _ hx
      injection h1 with h1 _ _
      have hi2 : i < news.length := by rw [n1]; omega
      obtain ⟨a, ha, hc⟩ := n2 i _ (List.getElem?_eq_getElem hi2)
      rw [h1, h4] at ha
      injection ha with ha
      subst ha
      rw [show (⟨b', off', none⟩ : Addr).add i = ⟨b', off' + i * 1, none⟩ by unfold Addr.add; split <;> simp_all, h5.1] at hc
      rw [List.getElem?_eq_getElem hi2, List.getElem?_map, hx, ← hc]
      rfl
    · rw [List.getElem?_eq_none (by rw [n1]; omega), List.getElem?_eq_none (by rw [List.length_map]; omega)]
  have HBD := hid (sl_bounds k2)
  obtain ⟨m, hmm⟩ : ∃ m, (qs p).length = m := ⟨_, rfl⟩
  rw [hmm] at e0 hm n1 hlen
  have HQ := hid h
  have HMB := hid hM
  have HN := hid hn
  have HN2 := hid n2
  have HN3 := hid n3
  have HMM := hid hmm
  have HPM := hid hPM
  have HPN := hid hPn
  have hMl := lt_of_block hM
  have fz : w.frozen? ⟨M, o + p, none⟩ = false := frozen_of_block hM _
  have HB1 : Hid (((w.alloc (.cells #[.int .i64 n] 3)).drew).heap[w.heap.size]? = some (.cells #[.int .i64 n] 3)) := dr_keep13 (al_new13 rfl)
  have HOA : Hid (Only (fun _ => False) w ((w.alloc (.cells #[.int .i64 n] 3)).drew)) := ((Only.refl _ _).alloc _).drew
  clear h k1 k2 n2 n3 n4 hmm hM hn hPM hPn
  go_enter Tryz.func34, Tryz.ntmps34
  go_wp2_with fail
  have hp16 : (p : Int) < 16 := by omega
  go_region_law
    (first
    | (refine step_append_any _ rfl (.tmp 18) (.tmp 23) 30 rfl 3 _ 1 8 Tryz.underlying30 infoInt13 rfl (by decide) (.slice (some ⟨w.heap.size, 0, none⟩) 1 1) w.heap.size 1 [.int .i64 n] rfl (Grow.one HB1.out) ao m cap news rfl n1 (fun j u hj => by
         obtain ⟨a, ha, hc⟩ := HN2.out j u hj
         exact ⟨a, ha, cellN13 HOA.out hc⟩) HN3.out (by unfold maxLen; omega) (by omega) ?_
       intro v1 b1 w1 h1 h2 h3
       have ho : Only (fun _ => False) w w1 := HOA.out.chain h2 (fun i hi e => by
         have := (Grow.one HB1.out).spot i e
         omega)
       have hb1 : w.heap.size ≤ b1 := by
         rcases h3 with h | h
         · omega
         · exact Nat.le_trans HOA.out.size h
       obtain ⟨a1, c1, rfl, _⟩ := h1.shape
       have HG1 := hid h1
       have HOL := hid ho
       have HB2 := hid hb1
       have hM1 := (ho.block M hMl (fun h => h)).trans HMB.out
       have HM1 := hid hM1
       have e1 := cellN13 ho e0
       have f1 : w1.frozen? ⟨M, o + p, none⟩ = false := frozen_of_block hM1 _
       clear h1 h2 h3 ho hM1 hb1))
  all_goals go_wp2_with fail
  all_goals refine bodyPost_ret (results_none rfl _ _ _) rfl ?_
  all_goals
    refine ⟨rfl, QIs.put (HQ.out.only HOL.out (fun h => h) (fun _ _ h => h)) HM1.out hp ?_ HPM.out, Only.setCell (S := fun k => k = M) (p := ⟨M, o + p, none⟩) (HOL.out.mono (fun _ _ h => h.elim)) (.inr rfl) _, _, block_set11 HM1.out _ _⟩
    obtain ⟨cap9, hv9, hc1, hc2, hc⟩ := Grow.cells HG1.out (Nat.lt_of_lt_of_le Nat.zero_lt_one (Nat.le_add_right 1 m))
    injection hv9 with hv9 _ hv8
    subst hv9 hv8
    refine ⟨_, _, by rw [List.length_cons, HMM.out, Nat.add_comm], ⟨by rw [List.length_cons, HMM.out, Nat.add_comm]; exact hc1, by unfold maxLen at hc2; omega⟩, _, 0, fun a x hx => ⟨rfl, HPN.out _ HB2.out, ?_⟩⟩
    rw [Nat.zero_add]
    cases a with
    | zero =>
      rw [List.getElem?_cons_zero] at hx
      injection hx with hx
      subst hx
      exact ⟨hc 0 _ rfl, HN.out⟩
    | succ a =>
      rw [List.getElem?_cons_succ] at hx
      refine ⟨?_, HBD.out x (List.mem_of_getElem? hx)⟩
      rw [Nat.mul_one]
      refine hc (a + 1) _ ?_
      rw [List.cons_append, List.nil_append, List.getElem?_cons_succ, HNW.out, List.getElem?_map, hx]
      rfl
end Go.Proofs.YtmcmjcaigipoaaaGreat

/-
  septumlaw04.values: the words of a version, in a new row. Conditions: none but that the version and the number of words are small.
-/
import Derived.Test.YtcafpdnbceoekaaBody4
namespace Go.Sept
open Go.RowKit
theorem Grow.respot {e : TypeId} {size : Nat} {w : World} {v : Value} {b n : Nat} {xs : List Value} (h : Grow e size w v b n xs) : ∃ b0, Grow e size w v b0 n xs ∧ (v.ownBlock = some b0 ∨ w.heap.size ≤ b0) := by
  rcases h.own.2 with ⟨rfl, rfl⟩ | ⟨g, cap, cur, rfl, _⟩
  · exact ⟨w.heap.size, ⟨h.own, fun k hk => by cases hk⟩, .inr (Nat.le_refl _)⟩
  · have e : g = b := h.spot g rfl
    subst e
    exact ⟨g, h, .inl rfl⟩
theorem Grow.keep {e : TypeId} {size : Nat} {w w' : World} {v : Value} {b n : Nat} {xs : List Value} {S : Nat → Prop} (h : Grow e size w v b n xs) (ho : Only S w w') (hb : ∀ c, v.ownBlock = some c → ¬ S c) : Grow e size w' v b n xs := by
  refine ⟨⟨h.own.1, ?_⟩, h.spot⟩
  rcases h.own.2 with hn | ⟨g, cap, cur, rfl, hb0, hg, rest⟩
  · exact .inl hn
  · exact .inr ⟨g, cap, cur, rfl, hb0, (ho.block g (lt_of_block hg) (hb g rfl)).trans hg, rest⟩
theorem Grow.sees {w : World} {v : Value} {b : Nat} {xs : List Int} (h : Grow 2 1 w v b xs.length (xs.map (Value.int .i64))) : ∃ ao cap, v = .slice ao xs.length cap ∧ Sees w ao xs b := by
  by_cases h0 : 0 < xs.length
  · obtain ⟨cap, h1, _, _, h2⟩ := h.cells h0
    refine ⟨_, cap, h1, .inr ⟨0, rfl, fun i hi => ?_⟩⟩
    rw [Nat.zero_add]
    refine h2 i _ ?_
    rw [List.getElem?_map, List.getElem?_eq_getElem hi, Option.map_some, List.getD_eq_getElem?_getD, List.getElem?_eq_getElem hi]
    rfl
  · obtain ⟨ao, cap, h1, _⟩ := h.shape
    exact ⟨ao, cap, h1, .inl (List.length_eq_zero_iff.1 (by omega))⟩

/-- One word of a version. -/
def val1 (v i : Nat) : Int := if v = 0 then 0 else ((v + i * 1000 : Nat) : Int)
/-- The words of a version. -/
def vals (v k : Nat) : List Int := (List.range k).map (val1 v)
theorem vals_length (v k : Nat) : (vals v k).length = k := by simp [vals]
theorem vals_succ (v k : Nat) : vals v (k + 1) = vals v k ++ [val1 v k] := by simp [vals, List.range_succ]
theorem vals_getD (v k i : Nat) (h : i < k) : (vals v k).getD i 0 = val1 v i := by simp [vals, h]
end Go.Sept

namespace Go.Proofs.Ytcafpdnbceoekaa
open Go.RowKit Go.Sept

theorem one_int (x : Int) : ∀ u ∈ [Value.int .i64 x], u.oneCell' = true := by
  intro u hu
  rw [List.mem_singleton] at hu
  subst hu
  rfl

set_option maxRecDepth 100000 in
set_option maxHeartbeats 1000000 in
theorem values_rel (w : World) (v k : Nat) (hv : v ≤ 1000) (hk : k ≤ 100) :
    Calls Try.prog 15 #[.int .i64 (v : Int), .int .i64 (k : Int)] w fun e w' => ∃ ao cap b, e = .returned (.slice ao k cap) ∧ Sees w' ao (vals v k) b ∧ w.heap.size ≤ b ∧ Only (fun _ => False) w w' := by
  go_enter Try.func15, Try.ntmps15
  go_wp2_with fail
  go_loopw [8, 5] (fun i ov wx => ∃ (j b : Nat), i = .int .i64 (j : Int) ∧ j ≤ k ∧ Grow 2 1 wx ov b j ((vals v j).map (Value.int .i64)) ∧ (∀ c, ov.ownBlock = some c → w.heap.size ≤ c) ∧ Only (fun _ => False) w wx) (fun i _ _ => k - (intOf i).toNat)
  case atStart => exact ⟨0, 0, rfl, Nat.zero_le _, Grow.nil _ _ _ _, fun c hc => by simp [Value.ownBlock] at hc, Only.refl _ _⟩
  case round =>
    obtain ⟨j, b, rfl, hj, hg, hc, ho⟩ := hrel
    have HG := hid hg
    have HC := hid hc
    have HO := hid ho
    clear hg hc ho
    by_cases hlt : (j : Int) < k
    · obtain ⟨x, hx⟩ : ∃ x, x = val1 v j := ⟨_, rfl⟩
      have HX := hid hx
      clear hx
      have hG : ∃ b0, Grow 2 1 (wr.alloc (.cells #[.int .i64 x] 2)) u5 b0 j ((vals v j).map (Value.int .i64)) ∧ (u5.ownBlock = some b0 ∨ (wr.alloc (.cells #[.int .i64 x] 2)).heap.size ≤ b0) := (HG.out.keep ((Only.refl (fun _ => False) wr).alloc (.cells #[.int .i64 x] 2)) (fun _ _ h => h)).respot
      obtain ⟨b0, hg0, hb0⟩ := hG
      have HG0 := hid hg0
      have HB0 := hid hb0
      clear hg0 hb0 HG
      have fin : Hid (∀ b' cap' w', Grow 2 1 w' (.slice (some ⟨b', 0, none⟩) (j + 1 : Nat) cap') b' (j + 1) ((vals v j).map (Value.int .i64) ++ [.int .i64 x]) → Only (fun k => u5.ownBlock = some k) (wr.alloc (.cells #[.int .i64 x] 2)) w' → (b' = b0 ∨ (wr.alloc (.cells #[.int .i64 x] 2)).heap.size ≤ b') →
          ∃ (j' b : Nat), (.int .i64 ((j : Int) + 1) : Value) = .int .i64 (j' : Int) ∧ j' ≤ k ∧ Grow 2 1 w' (.slice (some ⟨b', 0, none⟩) (j + 1 : Nat) cap') b j' ((vals v j').map (Value.int .i64)) ∧ (∀ c, Value.ownBlock (.slice (some ⟨b', 0, none⟩) (j + 1 : Nat) cap') = some c → w.heap.size ≤ c) ∧ Only (fun _ => False) w w') := by
        intro b' cap' w' h1 h2 h3
        have z := HO.out.size
        have z2 : (wr.alloc (.cells #[.int .i64 x] 2)).heap.size = wr.heap.size + 1 := by simp
        refine ⟨j + 1, b', by push_cast; rfl, by omega, ?_, ?_, ?_⟩
        · rw [vals_succ, List.map_append, ← HX.out]
          exact h1
        · intro c hc
          simp [Value.ownBlock] at hc
          subst hc
          rcases h3 with h3 | h3
          · rcases HB0.out with h4 | h4
            · rw [h3]; exact HC.out b0 h4
            · omega
          · omega
        · exact (HO.out.alloc _).chain h2 (fun i hi e => by
            have := HC.out i e
            omega)
      by_cases hv0 : v = 0
      · have hv0' : (v : Int) = 0 := by omega
        have hx0 : x = 0 := by rw [HX.out, val1, if_pos hv0]
        subst hx0
        have hvb : ((v : Int) == 0) = true := by rw [hv0']; rfl
        clear HX HB0 HC HO hv0 hv0'
        go_wp2_with (at_builtin; refine wpList_append_grown _ rfl (.tmp 13) (.tmp 14) 22 rfl 2 _ 1 8 Try.underlying22 Try.info2 rfl (by decide) u5 b0 j ((vals v j).map (Value.int .i64)) rfl HG0.out ⟨wr.heap.size, 0, none⟩ 1 1 [.int .i64 0] rfl (by decide) rfl (news_of_block (heap_new wr (.cells #[.int .i64 0] 2))) (one_int 0) (by unfold maxLen; omega) (by omega) ?_)
        intro b' cap' w' h1 h2 h3
        have HF := hid (fin.out b' cap' w' h1 h2 (by simpa using h3))
        clear h1 h2 h3 fin HG0
        go_wp2_with fail
        go_roundw
        case rel => exact HF.out
        case measure => simp [intOf]; omega
      · have hvb : ((v : Int) == 0) = false := beq_eq_false_iff_ne.2 (by omega)
        have hx0 : x = (v : Int) + (j : Int) * 1000 := by rw [HX.out, val1, if_neg hv0]; push_cast; rfl
        subst hx0
        clear HX HB0 HC HO hv0
        go_wp2_with (at_builtin; refine wpList_append_grown _ rfl (.tmp 16) (.tmp 21) 22 rfl 2 _ 1 8 Try.underlying22 Try.info2 rfl (by decide) u5 b0 j ((vals v j).map (Value.int .i64)) rfl HG0.out ⟨wr.heap.size, 0, none⟩ 1 1 [.int .i64 ((v : Int) + (j : Int) * 1000)] rfl (by decide) rfl (news_of_block (heap_new wr (.cells #[.int .i64 ((v : Int) + (j : Int) * 1000)] 2))) (one_int _) (by unfold maxLen; omega) (by omega) ?_)
        intro b' cap' w' h1 h2 h3
        have HF := hid (fin.out b' cap' w' h1 h2 (by simpa using h3))
        clear h1 h2 h3 fin HG0
        go_wp2_with fail
        go_roundw
        case rel => exact HF.out
        case measure => simp [intOf]; omega
    · obtain rfl : j = k := by omega
      have HR : Hid (∃ ao cap b, u5 = .slice ao j cap ∧ Sees wr ao (vals v j) b ∧ w.heap.size ≤ b) := by
        obtain ⟨b0, hg0, hb0⟩ := HG.out.respot
        have hg1 : Grow 2 1 wr u5 b0 (vals v j).length ((vals v j).map (Value.int .i64)) := by rw [vals_length]; exact hg0
        obtain ⟨ao, cap, h1, h2⟩ := hg1.sees
        rw [vals_length] at h1
        refine ⟨ao, cap, b0, h1, h2, ?_⟩
        have := HO.out.size
        rcases hb0 with h3 | h3
        · exact HC.out b0 h3
        · omega
      obtain ⟨ao, cap, b1, rfl, h2, h3⟩ := HR.out
      have HS := hid (And.intro h2 h3)
      clear HR h2 h3 HG HC
      go_wp2_with fail
      go_ret
      exact ⟨ao, ⟨cap, rfl⟩, b1, HS.out.1, HS.out.2, HO.out⟩
end Go.Proofs.Ytcafpdnbceoekaa

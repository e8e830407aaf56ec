/-
  septumlaw12's things: where all of a plan's things begin, and how many words each one has. Conditions: at most 20 threads and objects.
-/
import Derived.Test.YtapmakdklpbjkaaOf12
import Derived.Test.YtapmakdklpbjkaaQueue13
namespace Go.Sept
open Go.RowKit
def headAts : List Int := [0, 2, 4, 3, 5, 6, 8, 41, 43]
def headNs (m : Nat) : List Int := [2, 1, 1, 1, 1, 2, 33, 2, (m : Int)]
/-- Where all of a plan's things begin, and how many words each one has. -/
def atL (n m : Nat) : List Int := headAts ++ thAts n m ++ obAts n m
def nL (n m : Nat) : List Int := headNs m ++ List.replicate n 24 ++ List.replicate m 24
theorem take_thAts (n m : Nat) : (thAts n m).take n = thAts n m := List.take_of_length_le (Nat.le_of_eq (length_stepsL _ _ _))
theorem take_obAts (n m : Nat) : (obAts n m).take m = obAts n m := List.take_of_length_le (Nat.le_of_eq (length_stepsL _ _ _))
theorem take_snoc {xs : List Int} {j : Nat} {x : Int} (h : xs[j]? = some x) : xs.take (j + 1) = xs.take j ++ [x] := by
  rw [List.take_add_one, h]
  rfl
end Go.Sept
namespace Go.Proofs.Ytapmakdklpbjkaa
open Go.RowKit Go.Sept

theorem one24 : ∀ u ∈ [Value.int .i64 24], u.oneCell' = true := by
  intro u hu
  rw [List.mem_singleton] at hu
  subst hu
  rfl
theorem Own13.keep12 {w w' : World} {v : Value} {b : Nat} {xs : List Int} {S : Nat → Prop} (h : Own13 w v b xs) (ho : Only S w w') (hb : ¬ S b) : Own13 w' v b xs := Grow.only h ho hb
/-- Two slices of ints that grow side by side, in new blocks. -/
structure Two12 (B : Nat) (w : World) (v1 v2 : Value) (b1 b2 : Nat) (xs ys : List Int) : Prop where
  o1 : Own13 w v1 b1 xs
  o2 : Own13 w v2 b2 ys
  ne : b1 ≠ b2
  l1 : B ≤ b1 ∧ b1 < w.heap.size
  l2 : B ≤ b2 ∧ b2 < w.heap.size
theorem Own13.snoc {w' : World} {b' n cap' : Nat} {xs : List Int} {x : Int} (hn : xs.length = n) (h : Grow 3 1 w' (.slice (some ⟨b', 0, none⟩) (n + 1 : Nat) cap') b' (n + 1) (xs.map (Value.int .i64) ++ [.int .i64 x])) : Own13 w' (.slice (some ⟨b', 0, none⟩) (n + 1 : Nat) cap') b' (xs ++ [x]) := by
  show Grow 3 1 _ _ _ _ _
  rw [List.length_append, List.length_singleton, hn, List.map_append]
  exact h

set_option maxRecDepth 100000 in
set_option maxHeartbeats 2000000 in
theorem things_rel {P : Nat → Prop} (w : World) (cs : Array Value) (p : Pt) (h : PlIs P w cs p) (hP : ∀ k, P k → k < w.heap.size) (hn : p.ths.length ≤ 20) (hm : p.obs.length ≤ 20) :
    Calls Try.prog 10 #[.agg cs] w fun e w' => ∃ v1 v2 b1 b2, e = .returned (.tuple #[v1, v2]) ∧ Two12 w.heap.size w' v1 v2 b1 b2 (atL p.ths.length p.obs.length) (nL p.ths.length p.obs.length) ∧ Only (fun _ => False) w w' := by
  obtain ⟨ta, oa, u0, u1, rfl, _, hS1, hS2⟩ := h
  obtain ⟨n, hn'⟩ : ∃ n, p.ths.length = n := ⟨_, rfl⟩
  obtain ⟨m, hm'⟩ : ∃ m, p.obs.length = m := ⟨_, rfl⟩
  rw [hn'] at hn hS1 hS2
  rw [hm'] at hm hS1 hS2
  rw [hn', hm']
  clear hn' hm'
  have hW : ∃ W z, W = ((w.alloc (plO (planCs n m ta oa u0 u1))).alloc (.cells #[.int .i64 0, .int .i64 2, .int .i64 4, .int .i64 3, .int .i64 5, .int .i64 6, .int .i64 8, .int .i64 41, .int .i64 43] 3)).alloc (.cells #[.int .i64 2, .int .i64 1, .int .i64 1, .int .i64 1, .int .i64 1, .int .i64 2, .int .i64 33, .int .i64 2, .int .i64 (m : Int)] 3) ∧ z = w.heap.size ∧ Only (fun _ => False) w W ∧ W.heap[z]? = some (plO (planCs n m ta oa u0 u1)) ∧
      Two12 w.heap.size W (.slice (some ⟨z + 1, 0, none⟩) 9 9) (.slice (some ⟨z + 1 + 1, 0, none⟩) 9 9) (z + 1) (z + 1 + 1) headAts (headNs m) := by
    refine ⟨_, _, rfl, rfl, (((Only.refl _ _).alloc _).alloc _).alloc _, newKeep12 (newKeep12 (heap_new _ _)), ?_, ?_, by omega, ⟨by omega, by simp⟩, ⟨by omega, by simp⟩⟩
    · have h9 := Grow.made (e := 3) (size := 1) (w.alloc (plO (planCs n m ta oa u0 u1))) 9 (headAts.map (Value.int .i64)) (by unfold maxLen; omega) (by simp [headAts])
      rw [World.size_alloc] at h9
      exact Grow.only h9 ((Only.refl (fun _ => False) _).alloc _) (fun h => h)
    · have h9 := Grow.made (e := 3) (size := 1) ((w.alloc (plO (planCs n m ta oa u0 u1))).alloc (.cells #[.int .i64 0, .int .i64 2, .int .i64 4, .int .i64 3, .int .i64 5, .int .i64 6, .int .i64 8, .int .i64 41, .int .i64 43] 3)) 9 ((headNs m).map (Value.int .i64)) (by unfold maxLen; omega) (by simp [headNs])
      rw [World.size_alloc, World.size_alloc] at h9
      exact h9
  obtain ⟨W, z, hWe, hze, hoW, hbz, hTW⟩ := hW
  have HZ := hid hze
  have HO := hid hoW
  have HB := hid hbz
  have HT := hid hTW
  have HPL := hid hP
  have HS1 := hid (hS1.only (stay_int hoW (fun _ _ h => h)))
  have HS2 := hid (hS2.only (stay_int hoW (fun _ _ h => h)))
  clear hoW hbz hTW hS1 hS2 hP
  go_enter Try.func10, Try.ntmps10
  go_upto_region 3 with fail
  rw [← hWe, ← hze]
  clear hWe hze
  have d0 : W.cell? ⟨z, 9, none⟩ = some (.slice ta n n) := cell_of_block HB.out 9
  go_wp2_with fail
  go_loopw [4, 5, 38] (fun v1 v2 i wx => ∃ (j b1 b2 : Nat), i = .int .i64 (j : Int) ∧ j ≤ n ∧ Two12 w.heap.size wx v1 v2 b1 b2 (headAts ++ (thAts n m).take j) (headNs m ++ List.replicate j 24) ∧ Only (fun k => z < k) W wx) (fun _ _ i _ => n - (intOf i).toNat)
  case atStart => exact ⟨0, _, _, rfl, Nat.zero_le _, by simpa using HT.out, Only.refl _ _⟩
  case round =>
  obtain ⟨j, b1, b2, rfl, hj, htw, hox⟩ := hrel
  have HX := hid hox
  have HTW := hid htw
  have hbz2 : wr.heap[z]? = some (plO (planCs n m ta oa u0 u1)) := (hox.block z (lt_of_block HB.out) (Nat.lt_irrefl _)).trans HB.out
  have HB2 := hid hbz2
  have d1 : wr.cell? ⟨z, 9, none⟩ = some (.slice ta n n) := cell_of_block hbz2 9
  obtain ⟨a1, c1, rfl, _⟩ := Grow.shape htw.o1
  obtain ⟨a2, c2, rfl, _⟩ := Grow.shape htw.o2
  obtain ⟨l1, hl1⟩ : ∃ l, (headAts ++ (thAts n m).take j).length = l := ⟨_, rfl⟩
  obtain ⟨l2, hl2⟩ : ∃ l, (headNs m ++ List.replicate j (24 : Int)).length = l := ⟨_, rfl⟩
  have HL1 := hid hl1
  have HL2 := hid hl2
  rw [hl1, hl2]
  have hl1b : l1 ≤ 60 := by rw [← hl1]; simp [headAts, thAts, stepsL]; omega
  have hl2b : l2 ≤ 60 := by rw [← hl2]; simp [headNs]; omega
  clear hbz2 htw hox hl1 hl2
  by_cases hlt : (j : Int) < (n : Int)
  · obtain ⟨b, off, hsl, _, x, hx, hc⟩ := (HS1.out.only (stay_int HX.out (fun k hk e => by have := HPL.out k hk; have := HZ.out; omega))).get j (by rw [show (thAts n m).length = n from length_stepsL _ _ _]; omega)
    subst hsl
    have e0 : wr.cell? ⟨b, off + j * 1, none⟩ = some (.int .i64 x) := hc.1
    rw [Nat.mul_one] at e0
    have HXJ := hid hx
    obtain ⟨X1, hX1⟩ : ∃ X, (headAts ++ (thAts n m).take j) = X := ⟨_, rfl⟩
    obtain ⟨X2, hX2⟩ : ∃ X, (headNs m ++ List.replicate j (24 : Int)) = X := ⟨_, rfl⟩
    have HX1' := hid hX1
    have HX2' := hid hX2
    clear hX1 hX2
    have HG0 : Hid (Grow 3 1 (wr.alloc (.cells #[.int .i64 x] 3)) (.slice a1 l1 c1) b1 l1 (X1.map (Value.int .i64))) := by
      have h9 := HTW.out.o1
      unfold Own13 at h9
      rw [HL1.out, HX1'.out] at h9
      exact Grow.only h9 ((Only.refl (fun _ => False) _).alloc _) (fun h => h)
    clear hx hc
    go_wp2_with (at_builtin; refine wpList_append_grown _ rfl (.tmp 41) (.tmp 47) 29 rfl 3 _ 1 8 Try.underlying29 infoInt13 rfl (by decide) (.slice a1 l1 c1) b1 l1 (X1.map (Value.int .i64)) rfl HG0.out ⟨wr.heap.size, 0, none⟩ 1 1 [.int .i64 x] rfl (by decide) rfl (news_of_block (heap_new wr (.cells #[.int .i64 x] 3))) (one_int13 _) (by unfold maxLen; omega) (by omega) ?_)
    intro b3 c3 w3 h1 h2 h3
    have HA : Hid (Own13 w3 (.slice (some ⟨b3, 0, none⟩) (l1 + 1 : Nat) c3) b3 (headAts ++ (thAts n m).take (j + 1)) ∧ Only (fun k => z < k) W w3 ∧ b3 < w3.heap.size ∧ w.heap.size ≤ b3 ∧ b3 ≠ b2 ∧ b2 < w3.heap.size ∧ Grow 3 1 (w3.alloc (.cells #[.int .i64 24] 3)) (.slice a2 l2 c2) b2 l2 (X2.map (Value.int .i64))) := by
      have q1 := HTW.out.l1
      have q2 := HTW.out.l2
      have q3 := HTW.out.ne
      have q4 := h2.size
      have q5 := HZ.out
      rw [World.size_alloc] at q4
      have hb : ∀ k, (Value.slice a1 l1 c1).ownBlock = some k → k = b1 := HG0.out.spot
      have hnb1 : b1 ≠ z := fun e => by have h9 := HTW.out.o1; unfold Own13 at h9; exact h9.far (F := z) (t := 31) (by decide) HB2.out (by obtain ⟨cap, hv, _⟩ := h9.cells (by rw [HL1.out]; have := HL1.out; simp [headAts] at this; omega); rw [hv, e]; rfl)
      refine ⟨?_, (HX.out.alloc _).chain h2 (fun i hi e => by have := hb i e; omega), h1.lt (by omega), by omega, by omega, by omega, ?_⟩
      · rw [take_snoc HXJ.out, ← List.append_assoc, HX1'.out]
        exact Own13.snoc (by rw [← HX1'.out]; exact HL1.out) h1
      · have h9 := HTW.out.o2
        unfold Own13 at h9
        rw [HL2.out, HX2'.out] at h9
        exact Grow.only (Grow.only (Grow.only h9 ((Only.refl (fun _ => False) _).alloc _) (fun h => h)) h2 (fun e => by have := hb _ e; omega)) ((Only.refl (fun _ => False) _).alloc _) (fun h => h)
    clear h1 h2 h3 HG0 e0 HX
    go_wp2_with (at_builtin; refine wpList_append_grown _ rfl (.tmp 49) (.tmp 50) 29 rfl 3 _ 1 8 Try.underlying29 infoInt13 rfl (by decide) (.slice a2 l2 c2) b2 l2 (X2.map (Value.int .i64)) rfl HA.out.2.2.2.2.2.2 ⟨w3.heap.size, 0, none⟩ 1 1 [.int .i64 24] rfl (by decide) rfl (news_of_block (heap_new w3 (.cells #[.int .i64 24] 3))) (one_int13 _) (by unfold maxLen; omega) (by omega) ?_)
    intro b4 c4 w4 h1 h2 h3
    have HE : Hid (Two12 w.heap.size w4 (.slice (some ⟨b3, 0, none⟩) (l1 + 1 : Nat) c3) (.slice (some ⟨b4, 0, none⟩) (l2 + 1 : Nat) c4) b3 b4 (headAts ++ (thAts n m).take (j + 1)) (headNs m ++ List.replicate (j + 1) 24) ∧ Only (fun k => z < k) W w4) := by
      obtain ⟨q1, q2, q3, q4, q5, q6, q7⟩ := HA.out
      have q8 := h2.size
      have q9 := HTW.out.l2
      have q10 := HZ.out
      rw [World.size_alloc] at q8
      have hb : ∀ k, (Value.slice a2 l2 c2).ownBlock = some k → k = b2 := q7.spot
      have hnb2 : b2 ≠ z := fun e => by have h9 := HTW.out.o2; unfold Own13 at h9; exact h9.far (F := z) (t := 31) (by decide) HB2.out (by obtain ⟨cap, hv, _⟩ := h9.cells (by rw [HL2.out]; have := HL2.out; simp [headNs] at this; omega); rw [hv, e]; rfl)
      refine ⟨⟨Own13.keep12 (Own13.keep12 q1 ((Only.refl (fun _ => False) _).alloc _) (fun h => h)) h2 (fun e => q5 (hb _ e)), ?_, by omega, ⟨by omega, by omega⟩, ⟨by omega, h1.lt (by omega)⟩⟩, (q2.alloc _).chain h2 (fun i hi e => by have := hb i e; omega)⟩
      rw [List.replicate_succ', ← List.append_assoc, HX2'.out]
      exact Own13.snoc (by rw [← HX2'.out]; exact HL2.out) h1
    clear h1 h2 h3 HA
    go_wp2_with fail
    go_roundw
    case rel => exact ⟨j + 1, b3, b4, by go_num, by omega, HE.out⟩
    case measure => simp [intOf]; omega
  · obtain rfl : j = n := by omega
    have HT2 : Hid (Two12 w.heap.size wr (.slice a1 l1 c1) (.slice a2 l2 c2) b1 b2 (headAts ++ thAts j m) (headNs m ++ List.replicate j 24)) := by
      have h9 := HTW.out
      rw [HL1.out, HL2.out, take_thAts] at h9
      exact h9
    have d2 : wr.cell? ⟨z, 10, none⟩ = some (.slice oa m m) := cell_of_block HB2.out 10
    have HX1 := hid HX.out
    clear HL1 HL2 HTW HX HT hl1b hl2b hlt hj
    go_wp2_with fail
    go_loopw [4, 5, 56] (fun v1 v2 i wx => ∃ (q b1 b2 : Nat), i = .int .i64 (q : Int) ∧ q ≤ m ∧ Two12 w.heap.size wx v1 v2 b1 b2 (headAts ++ thAts j m ++ (obAts j m).take q) (headNs m ++ List.replicate j 24 ++ List.replicate q 24) ∧ Only (fun k => z < k) W wx) (fun _ _ i _ => m - (intOf i).toNat)
    case atStart => exact ⟨0, _, _, rfl, Nat.zero_le _, by simpa using HT2.out, HX1.out⟩
    case round =>
    clear HT2 HX1
    obtain ⟨q, b1, b2, rfl, hq, htw, hox⟩ := hrel
    have HX := hid hox
    have HTW := hid htw
    have hbz2 : wr.heap[z]? = some (plO (planCs j m ta oa u0 u1)) := (hox.block z (lt_of_block HB.out) (Nat.lt_irrefl _)).trans HB.out
    have HB2 := hid hbz2
    have d1 : wr.cell? ⟨z, 10, none⟩ = some (.slice oa m m) := cell_of_block hbz2 10
    obtain ⟨a1, c1, rfl, _⟩ := Grow.shape htw.o1
    obtain ⟨a2, c2, rfl, _⟩ := Grow.shape htw.o2
    obtain ⟨l1, hl1⟩ : ∃ l, (headAts ++ thAts j m ++ (obAts j m).take q).length = l := ⟨_, rfl⟩
    obtain ⟨l2, hl2⟩ : ∃ l, (headNs m ++ List.replicate j 24 ++ List.replicate q (24 : Int)).length = l := ⟨_, rfl⟩
    have HL1 := hid hl1
    have HL2 := hid hl2
    rw [hl1, hl2]
    have hl1b : l1 ≤ 60 := by rw [← hl1]; simp [headAts, thAts, obAts, stepsL]; omega
    have hl2b : l2 ≤ 60 := by rw [← hl2]; simp [headNs]; omega
    clear hbz2 htw hox hl1 hl2
    by_cases hlt : (q : Int) < (m : Int)
    · obtain ⟨b, off, hsl, _, x, hx, hc⟩ := (HS2.out.only (stay_int HX.out (fun k hk e => by have := HPL.out k hk; have := HZ.out; omega))).get q (by rw [show (obAts j m).length = m from length_stepsL _ _ _]; omega)
      subst hsl
      have e0 : wr.cell? ⟨b, off + q * 1, none⟩ = some (.int .i64 x) := hc.1
      rw [Nat.mul_one] at e0
      have HXJ := hid hx
      obtain ⟨X1, hX1⟩ : ∃ X, (headAts ++ thAts j m ++ (obAts j m).take q) = X := ⟨_, rfl⟩
      obtain ⟨X2, hX2⟩ : ∃ X, (headNs m ++ List.replicate j 24 ++ List.replicate q (24 : Int)) = X := ⟨_, rfl⟩
      have HX1' := hid hX1
      have HX2' := hid hX2
      clear hX1 hX2
      have HG0 : Hid (Grow 3 1 (wr.alloc (.cells #[.int .i64 x] 3)) (.slice a1 l1 c1) b1 l1 (X1.map (Value.int .i64))) := by
        have h9 := HTW.out.o1
        unfold Own13 at h9
        rw [HL1.out, HX1'.out] at h9
        exact Grow.only h9 ((Only.refl (fun _ => False) _).alloc _) (fun h => h)
      clear hx hc
      go_wp2_with (at_builtin; refine wpList_append_grown _ rfl (.tmp 59) (.tmp 65) 29 rfl 3 _ 1 8 Try.underlying29 infoInt13 rfl (by decide) (.slice a1 l1 c1) b1 l1 (X1.map (Value.int .i64)) rfl HG0.out ⟨wr.heap.size, 0, none⟩ 1 1 [.int .i64 x] rfl (by decide) rfl (news_of_block (heap_new wr (.cells #[.int .i64 x] 3))) (one_int13 _) (by unfold maxLen; omega) (by omega) ?_)
      intro b3 c3 w3 h1 h2 h3
      have HA : Hid (Own13 w3 (.slice (some ⟨b3, 0, none⟩) (l1 + 1 : Nat) c3) b3 (headAts ++ thAts j m ++ (obAts j m).take (q + 1)) ∧ Only (fun k => z < k) W w3 ∧ b3 < w3.heap.size ∧ w.heap.size ≤ b3 ∧ b3 ≠ b2 ∧ b2 < w3.heap.size ∧ Grow 3 1 (w3.alloc (.cells #[.int .i64 24] 3)) (.slice a2 l2 c2) b2 l2 (X2.map (Value.int .i64))) := by
        have q1 := HTW.out.l1
        have q2 := HTW.out.l2
        have q3 := HTW.out.ne
        have q4 := h2.size
        have q5 := HZ.out
        rw [World.size_alloc] at q4
        have hb : ∀ k, (Value.slice a1 l1 c1).ownBlock = some k → k = b1 := HG0.out.spot
        have hnb1 : b1 ≠ z := fun e => by have h9 := HTW.out.o1; unfold Own13 at h9; exact h9.far (F := z) (t := 31) (by decide) HB2.out (by obtain ⟨cap, hv, _⟩ := h9.cells (by rw [HL1.out]; have := HL1.out; simp [headAts] at this; omega); rw [hv, e]; rfl)
        refine ⟨?_, (HX.out.alloc _).chain h2 (fun i hi e => by have := hb i e; omega), h1.lt (by omega), by omega, by omega, by omega, ?_⟩
        · rw [take_snoc HXJ.out, ← List.append_assoc, HX1'.out]
          exact Own13.snoc (by rw [← HX1'.out]; exact HL1.out) h1
        · have h9 := HTW.out.o2
          unfold Own13 at h9
          rw [HL2.out, HX2'.out] at h9
          exact Grow.only (Grow.only (Grow.only h9 ((Only.refl (fun _ => False) _).alloc _) (fun h => h)) h2 (fun e => by have := hb _ e; omega)) ((Only.refl (fun _ => False) _).alloc _) (fun h => h)
      clear h1 h2 h3 HG0 e0 HX
      go_wp2_with (at_builtin; refine wpList_append_grown _ rfl (.tmp 67) (.tmp 68) 29 rfl 3 _ 1 8 Try.underlying29 infoInt13 rfl (by decide) (.slice a2 l2 c2) b2 l2 (X2.map (Value.int .i64)) rfl HA.out.2.2.2.2.2.2 ⟨w3.heap.size, 0, none⟩ 1 1 [.int .i64 24] rfl (by decide) rfl (news_of_block (heap_new w3 (.cells #[.int .i64 24] 3))) (one_int13 _) (by unfold maxLen; omega) (by omega) ?_)
      intro b4 c4 w4 h1 h2 h3
      have HE : Hid (Two12 w.heap.size w4 (.slice (some ⟨b3, 0, none⟩) (l1 + 1 : Nat) c3) (.slice (some ⟨b4, 0, none⟩) (l2 + 1 : Nat) c4) b3 b4 (headAts ++ thAts j m ++ (obAts j m).take (q + 1)) (headNs m ++ List.replicate j 24 ++ List.replicate (q + 1) 24) ∧ Only (fun k => z < k) W w4) := by
        obtain ⟨q1, q2, q3, q4, q5, q6, q7⟩ := HA.out
        have q8 := h2.size
        have q9 := HTW.out.l2
        have q10 := HZ.out
        rw [World.size_alloc] at q8
        have hb : ∀ k, (Value.slice a2 l2 c2).ownBlock = some k → k = b2 := q7.spot
        have hnb2 : b2 ≠ z := fun e => by have h9 := HTW.out.o2; unfold Own13 at h9; exact h9.far (F := z) (t := 31) (by decide) HB2.out (by obtain ⟨cap, hv, _⟩ := h9.cells (by rw [HL2.out]; have := HL2.out; simp [headNs] at this; omega); rw [hv, e]; rfl)
        refine ⟨⟨Own13.keep12 (Own13.keep12 q1 ((Only.refl (fun _ => False) _).alloc _) (fun h => h)) h2 (fun e => q5 (hb _ e)), ?_, by omega, ⟨by omega, by omega⟩, ⟨by omega, h1.lt (by omega)⟩⟩, (q2.alloc _).chain h2 (fun i hi e => by have := hb i e; omega)⟩
        rw [List.replicate_succ', ← List.append_assoc, HX2'.out]
        exact Own13.snoc (by rw [← HX2'.out]; exact HL2.out) h1
      clear h1 h2 h3 HA
      go_wp2_with fail
      go_roundw
      case rel => exact ⟨q + 1, b3, b4, by go_num, by omega, HE.out⟩
      case measure => simp [intOf]; omega
    · obtain rfl : q = m := by omega
      have HE : Hid (Two12 w.heap.size wr (.slice a1 l1 c1) (.slice a2 l2 c2) b1 b2 (atL j q) (nL j q)) := by
        have h9 := HTW.out
        rw [HL1.out, HL2.out, take_obAts] at h9
        exact h9
      go_wp2_with fail
      go_ret2
      exact ⟨.slice a1 l1 c1, .slice a2 l2 c2, rfl, ⟨b1, b2, HE.out⟩, HO.out.chain HX.out (fun k hk e => by have := HZ.out; omega)⟩
end Go.Proofs.Ytapmakdklpbjkaa

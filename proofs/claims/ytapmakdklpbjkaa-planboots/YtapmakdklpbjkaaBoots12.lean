/-
  PlanBoots: a partition's memory is as at the beginning. Conditions: none.
-/
import Derived.Test.YtapmakdklpbjkaaNew13
import Derived.Test.YtapmakdklpbjkaaMath12d
import Derived.Test.YtapmakdklpbjkaaOpenCf11
import Derived.Deep.RegionHeld
namespace Go.Sept
open Go.RowKit
theorem rdyN_mem (ths : List Th) (t q : Nat) : ∀ j ∈ rdyN ths t q, 0 ≤ j ∧ j < t := by
  induction t with
  | zero => intro j hj; simp [rdyN] at hj
  | succ t ih =>
    intro j hj
    rw [rdyN] at hj
    split at hj
    · rcases List.mem_append.1 hj with hj | hj
      · have := ih j hj
        omega
      · rw [List.mem_singleton] at hj
        omega
    · have := ih j hj
      omega
theorem ordN_most (qs : Nat → List Int) (k : Nat) (h : ∀ p, (qs p).length ≤ k) : ∀ r, (ordN qs r).length ≤ r * k := by
  intro r
  induction r with
  | zero => exact Nat.zero_le _
  | succ r ih =>
    rw [ordN, List.length_append, Nat.add_mul, Nat.one_mul]
    exact Nat.add_le_add ih (h _)
theorem ordN_mem (qs : Nat → List Int) {j : Int} : ∀ r, j ∈ ordN qs r → ∃ q, j ∈ qs q := by
  intro r
  induction r with
  | zero => intro h; simp [ordN] at h
  | succ r ih =>
    intro h
    rw [ordN] at h
    rcases List.mem_append.1 h with h | h
    · exact ih h
    · exact ⟨_, h⟩
theorem best_full (a b : Int) : ∀ L, bestF 2 [] [a, b] L = [a, b]
  | [] => rfl
  | x :: r => by
    rw [bestF, if_neg (fun h => absurd h.1 (by simp))]
    exact best_full a b r
theorem best_two : ∀ L : List Int, bestF 2 [] [] L = L.take 2
  | [] => rfl
  | [a] => rfl
  | a :: b :: r => by
    have h : bestF 2 [] [] (a :: b :: r) = bestF 2 [] [a, b] r := rfl
    rw [h, best_full]
    rfl
theorem row_val {w : World} {q : Nat} {xs : List Int} (h : RowIs w q xs) (i : Nat) (hi : i < xs.length) : w.cell? ⟨q, i, none⟩ = some (.int .i64 (valA xs (i : Int))) := by
  have e : valA xs (i : Int) = xs.getD i 0 := by
    unfold valA
    rw [if_pos (by unfold okA; simp; omega)]
    rfl
  rw [e]
  exact h.cell i hi
end Go.Sept
namespace Go.Proofs.Ytapmakdklpbjkaa.planBoots
open Go.Sept Go.RowKit Go.ChangeShapes Go.WideShapes Go.ChangeAt Go.Joins Go.Deep

theorem own : ownKnob Try.prog.godebug = none := by kernel_rfl
theorem laidOut : laidOutB Try.prog = true := by kernel_rfl
end Go.Proofs.Ytapmakdklpbjkaa.planBoots
namespace Go.Proofs.Ytapmakdklpbjkaa.planBoots
open Go.Sept Go.RowKit

theorem Own13.cell12 {w : World} {v : Value} {b i : Nat} {xs : List Int} {x : Int} (h : Own13 w v b xs) (hx : xs[i]? = some x) : ∃ cap, v = .slice (some ⟨b, 0, none⟩) xs.length cap ∧ w.cell? ⟨b, i, none⟩ = some (.int .i64 x) := by
  have h0 : 0 < xs.length := Nat.lt_of_le_of_lt (Nat.zero_le _) (List.getElem?_eq_some_iff.1 hx).1
  obtain ⟨cap, hv, _, _, hc⟩ := Grow.cells h h0
  exact ⟨cap, hv, hc i _ (by rw [List.getElem?_map, hx]; rfl)⟩

set_option maxRecDepth 100000 in
set_option maxHeartbeats 4000000 in
theorem walk {P0 : Nat → Prop} (w : World) (v0 v1 : Value) (p : Pt) (h0 : PtIs P0 w v0 v1 p) :
    Calls Try.prog 4 #[.agg #[v0, v1]] w fun e w' => e = .returned (.bool true) ∧ Below w.heap.size w w' := by
  have h : PtIs (fun k => k < w.heap.size) w v0 v1 p := ⟨h0.1.low (fun _ _ _ h => low_th _ h), h0.2.low (fun _ _ _ h => ⟨Cel.lt h.1.1, h⟩)⟩
  clear h0
  obtain ⟨xa, xc, rfl, xm⟩ := h.1.shape
  obtain ⟨ya, yc, rfl, ym⟩ := h.2.shape
  obtain ⟨n, hn⟩ : ∃ n, p.ths.length = n := ⟨_, rfl⟩
  obtain ⟨m, hm⟩ : ∃ m, p.obs.length = m := ⟨_, rfl⟩
  have HN := hid hn
  have HM := hid hm
  rw [hn] at h xm ⊢
  rw [hm] at h ym ⊢
  clear hn hm
  have hW : ∃ W z, W = w.alloc (ptO (.slice xa n xc) (.slice ya m yc)) ∧ z = w.heap.size ∧ Only (fun _ => False) w W ∧ W.heap[z]? = some (ptO (.slice xa n xc) (.slice ya m yc)) := ⟨_, _, rfl, rfl, (Only.refl _ _).alloc _, heap_new _ _⟩
  obtain ⟨W, z, hWe, hze, hoW, hbz⟩ := hW
  have HC := hid (h.only hoW (fun _ _ h => h))
  have HO := hid hoW
  have HB := hid hbz
  have HCELL : Hid (∀ w', Only (fun _ => False) W w' → w'.cell? ⟨z, 0, none⟩ = some (.slice xa n xc) ∧ w'.cell? ⟨z, 1, none⟩ = some (.slice ya m yc)) := fun w' ho => by
    have h9 := (ho.block z (lt_of_block hbz) (fun h => h)).trans hbz
    exact ⟨cell_of_block h9 0, cell_of_block h9 1⟩
  clear hoW hbz h
  simp only [ptO] at hWe
  go_enter Try.func4, Try.ntmps4
  go_upto_region 1 with fail
  rw [← hWe, ← hze]
  clear hWe hze
  go_wp2_with fail
  refine (awake12_any _).mono ?_
  rintro e w1 ⟨rfl, ho1⟩
  obtain ⟨c0, c1⟩ := HCELL.out w1 ho1
  have HO1 := hid ho1
  clear ho1
  go_wp2_with fail
  refine (fewPart2_any _ _ _ p (HC.out.only HO1.out (fun _ _ h => h))).mono ?_
  rintro e w2 ⟨⟨b, rfl, hb⟩, ho2⟩
  have HO2 := hid (HO1.out.chain ho2 (fun _ _ h => h))
  clear ho2 c0 c1
  cases b
  · clear hb
    go_wp2_with fail
    refine (awake12_any _).mono ?_
    rintro e w3 ⟨rfl, ho3⟩
    have HO3 := hid (HO.out.chain (HO2.out.chain ho3 (fun _ _ h => h)) (fun _ _ h => h))
    clear ho3
    go_wp2_with fail
    go_ret
    exact ⟨rfl, HO3.out.below (Nat.le_refl _) (fun _ _ h => h)⟩
  have HS := hid (hb rfl)
  have HC2 := hid (HC.out.only HO2.out (fun _ _ h => h))
  obtain ⟨c0, c1⟩ := HCELL.out w2 HO2.out
  clear hb HO1
  go_wp2_with fail
  refine (of_rel _ _ _ p HC2.out HS.out).mono ?_
  rintro e w3 ⟨hof, ho3⟩
  have HO3 := hid (HO2.out.chain ho3 (fun _ _ h => h))
  clear ho3 c0 c1 HO2 HC2
  rcases hof with ⟨hne, rfl⟩ | ⟨heq, cs, rfl, hpl⟩
  · clear hne
    go_wp2_with fail
    go_ret
    exact ⟨rfl, (HO.out.chain (HO3.out.alloc _) (fun _ _ h => h)).below (Nat.le_refl _) (fun _ _ h => h)⟩
  obtain ⟨⟨hsn1, hsn⟩, hsm, hths, hobs⟩ := part_parts heq
  have hplL := hpl
  obtain ⟨ta, oa, za, zc, zb, zd, rfl⟩ := hpl.shape
  clear hpl
  rw [HN.out, HM.out] at hplL ⊢
  rw [HN.out] at hsn hsn1
  rw [HM.out] at hsm
  have HPL := hid hplL
  have HEQ := hid heq
  have HSZ : Hid (∀ x ∈ p.obs, x.kind = 4 → 0 ≤ x.size ∧ x.size ≤ 1000) := fun x hx hk => by
    have h8 := of_decide_eq_true (List.all_eq_true.1 hobs x hx)
    omega
  have HPR : Hid (∀ x ∈ p.ths, 0 ≤ x.prio ∧ x.prio < 16) := fun x hx => by
    have h8 := of_decide_eq_true (List.all_eq_true.1 hths x hx)
    exact ⟨h8.1, by omega⟩
  have HV : ∃ V y, V = w3.alloc (plO (planCs n m ta oa (.slice za n zc) (.slice zb m zd))) ∧ y = w3.heap.size ∧ Only (fun _ => False) w3 V ∧ V.heap[y]? = some (plO (planCs n m ta oa (.slice za n zc) (.slice zb m zd))) := ⟨_, _, rfl, rfl, (Only.refl _ _).alloc _, heap_new _ _⟩
  obtain ⟨V, y, hVe, hye, hoV, hby⟩ := HV
  have HOV := hid (HO3.out.chain hoV (fun _ _ h => h))
  have HBY := hid hby
  have HBT := hid (boot_rel V _ p (HPL.out.only hoV (fun _ _ h => h)) heq)
  have f0 : V.cell? ⟨y, 0, none⟩ = some (.int .i64 0) := cell_of_block hby 0
  have f1 : V.cell? ⟨y, 1, none⟩ = some (.int .i64 2) := cell_of_block hby 1
  have f2 : V.cell? ⟨y, 2, none⟩ = some (.int .i64 4) := cell_of_block hby 2
  have f3 : V.cell? ⟨y, 3, none⟩ = some (.int .i64 3) := cell_of_block hby 3
  have f4 : V.cell? ⟨y, 4, none⟩ = some (.int .i64 5) := cell_of_block hby 4
  have f5 : V.cell? ⟨y, 5, none⟩ = some (.int .i64 6) := cell_of_block hby 5
  have f6 : V.cell? ⟨y, 6, none⟩ = some (.int .i64 8) := cell_of_block hby 6
  have f7 : V.cell? ⟨y, 7, none⟩ = some (.int .i64 41) := cell_of_block hby 7
  have f8 : V.cell? ⟨y, 8, none⟩ = some (.int .i64 43) := cell_of_block hby 8
  have f9 : V.cell? ⟨y, 9, none⟩ = some (.slice ta n n) := cell_of_block hby 9
  have f10 : V.cell? ⟨y, 10, none⟩ = some (.slice oa m m) := cell_of_block hby 10
  have f11 : V.cell? ⟨y, 11, none⟩ = some (.int .i64 (43 + (m : Int) + (n : Int) * 24 + (m : Int) * 24)) := cell_of_block hby 11
  have f12 : V.cell? ⟨y, 12, none⟩ = some (.slice za n zc) := cell_of_block hby 12
  have f13 : V.cell? ⟨y, 13, none⟩ = some (.slice zb m zd) := cell_of_block hby 13
  clear hoV hby heq hths hobs hplL
  go_upto_region 4 with fail
  rw [← hVe, ← hye]
  clear hVe hye
  go_wp2_with fail
  refine HBT.out.mono ?_
  rintro e w4 ⟨g, r, rfl, hmem, _, ho4⟩
  rw [HN.out, HM.out] at hmem
  obtain ⟨hz0, hz3, hz5⟩ := boot_words HEQ.out
  rw [HN.out, HM.out] at hz0 hz3 hz5
  have hlen := length_bootX 16 [3, 5] p n m
  obtain ⟨YS, hYS⟩ : ∃ YS, bootX 16 [3, 5] p n m = YS := ⟨_, rfl⟩
  rw [hYS] at hmem hz0 hz3 hz5 hlen
  have hby := (ho4.block y (lt_of_block HBY.out) (fun h => h)).trans HBY.out
  have HO4 := hid (HOV.out.chain ho4 (fun _ _ h => h))
  have HBY4 := hid hby
  have HMEM := hid hmem
  have HZ0 := hid hz0
  have HZ3 := hid hz3
  have HZ5 := hid hz5
  have HLEN := hid hlen
  have HLE : Hid (∀ w', Only (fun _ => False) w4 w' → Calls Try.prog 12 #[.pointer (some ⟨g, 0, none⟩)] w' fun e w'' => e = .returned (.int .i64 (43 + (m : Int) + (n : Int) * 24 + (m : Int) * 24)) ∧ w'' = w') := fun w' ho => by
    have h9 := lenIs_of_mem (hmem.only ho (fun h => h) (fun h => h))
    rw [hlen] at h9
    have h8 := len_any w' _ _ h9
    push_cast at h8
    exact h8
  clear f0 f1 f2 f3 f4 f5 f6 f7 f8 f9 f10 f11 f12 f13 ho4 hmem hz0 hz3 hz5 HBT
  have d11 : w4.cell? ⟨y, 11, none⟩ = some (.int .i64 (43 + (m : Int) + (n : Int) * 24 + (m : Int) * 24)) := cell_of_block hby 11
  clear hby
  have hself : (43 + (m : Int) + (n : Int) * 24 + (m : Int) * 24 != 43 + (m : Int) + (n : Int) * 24 + (m : Int) * 24) = false := by simp
  go_upto_region 7 with fail
  go_region_held (fun w' => w'.cell? ⟨y, 11, none⟩ = some (.int .i64 (43 + (m : Int) + (n : Int) * 24 + (m : Int) * 24))) (go_keep)
    (first | (go_at_call 12; refine (HLE.out _ (by first | exact (Only.refl _ _).drew | exact Only.refl _ _)).mono ?_; rintro e w5 ⟨rfl, rfl⟩))
  obtain ⟨w5, hw5⟩ : ∃ w5, w4.drew = w5 := ⟨_, rfl⟩
  have hO45 : Only (fun _ => False) w4 w5 := by rw [← hw5]; exact (Only.refl _ _).drew
  have HO5 := hid (HO4.out.chain hO45 (fun _ _ h => h))
  have hmem5 := HMEM.out.only hO45 (fun h => h) (fun h => h)
  have hby5 := (hO45.block y (lt_of_block HBY4.out) (fun h => h)).trans HBY4.out
  have HBY5 := hid hby5
  obtain ⟨LN, hLN⟩ : ∃ LN, YS.length = LN := ⟨_, rfl⟩
  have hLNv : LN = 43 + m + n * 24 + m * 24 := by rw [← hLN]; exact HLEN.out
  have HWD : Hid (Calls Try.prog 13 #[.pointer (some ⟨g, 0, none⟩)] w5 fun e w' => ∃ c, e = .returned (.slice (some ⟨c, 0, none⟩) LN LN) ∧ RowIs w' c YS ∧ Only (fun _ => False) w5 w') := by
    refine (words_some w5 g r YS hmem5 (by omega) (by omega)).mono ?_
    rintro e w' ⟨rfl, rfl⟩
    exact ⟨w5.heap.size, by rw [hLN], copied_row _ _, copied_only _ _ _⟩
  have HLN := hid hLN
  have HLV := hid hLNv
  have hLN43 : 43 ≤ LN := by omega
  have hLNm : (43 : Int) + (m : Int) ≤ (LN : Int) := by omega
  rw [hw5]
  clear hw5 hO45 hmem5 hby5 d11 hself hLN hLNv HLE
  go_wp2_with fail
  refine HWD.out.mono ?_
  rintro e w6 ⟨c, rfl, hrow, ho6⟩
  have HROW := hid hrow
  have HO6 := hid (HO5.out.chain ho6 (fun _ _ h => h))
  have HBY6 := hid ((ho6.block y (lt_of_block HBY5.out) (fun h => h)).trans HBY5.out)
  obtain ⟨c0, c1⟩ := HCELL.out w6 HO6.out
  have HNEW := hid (new13 w6 _ _ p (HC.out.only HO6.out (fun _ _ h => h)) (fun k hk => Nat.lt_of_lt_of_le hk (Nat.le_trans HO.out.size HO6.out.size)) HSZ.out HPR.out ⟨by rw [HN.out]; omega, by rw [HM.out]; omega⟩)
  clear hrow ho6 HWD
  go_wp2_with fail
  refine HNEW.out.mono ?_
  rintro e w7 ⟨M, rfl, hMs, hq, ho7⟩
  rw [HN.out] at hq
  have HO7 := hid ho7
  obtain ⟨L, hL⟩ : ∃ L, ordN (rdyN p.ths n) 16 = L := ⟨_, rfl⟩
  have HLL := hid hL
  have HLB : Hid (∀ j ∈ L, 0 ≤ j ∧ j < n) := fun j hj => by
    rw [← hL] at hj
    obtain ⟨q, hq⟩ := ordN_mem _ _ hj
    exact rdyN_mem _ _ _ _ hq
  have HBE : Hid (Calls Try.prog 15 #[.pointer (some ⟨M, 0, none⟩), .int .i64 2, .slice none 0 0] w7 fun e w' => ∃ v b, e = .returned v ∧ Own13 w' v b (L.take 2) ∧ w7.heap.size ≤ b ∧ Only (fun _ => False) w7 w') := by
    have h9 := best13 (P2 := fun _ => False) w7 M (rdyN p.ths n) 2 (.slice none 0 0) [] hq (Nat.le_trans (ordN_most _ n (fun q => rdyN_len _ _ _) 16) (by omega)) (fun q _ x hx => by have := rdyN_mem _ _ _ x hx; omega) SlOf.nil
    rw [hL, best_two] at h9
    exact h9
  have HROW7 := hid (HROW.out.only ho7 (fun h => h))
  have HBY7 := hid ((ho7.block y (lt_of_block HBY6.out) (fun h => h)).trans HBY6.out)
  clear hMs hq ho7 hL c0 c1 HNEW
  go_wp2_with fail
  refine HBE.out.mono ?_
  rintro e w8 ⟨v8, b8, rfl, hown, hb8, ho8⟩
  obtain ⟨a8, k8, rfl, _⟩ := Grow.shape hown
  have HOWN := hid hown
  have HO8 := hid (HO6.out.chain (HO7.out.chain ho8 (fun _ _ h => h)) (fun _ _ h => h))
  have HRW : Hid (∀ i : Nat, i < LN → w8.cell? ⟨c, i, none⟩ = some (.int .i64 (valA YS (i : Int)))) := fun i hi => row_val (HROW7.out.only ho8 (fun h => h)) i (by rw [HLN.out]; exact hi)
  have HBY8 := hid ((ho8.block y (lt_of_block HBY7.out) (fun h => h)).trans HBY7.out)
  obtain ⟨nb, hnb⟩ : ∃ nb, (L.take 2).length = nb := ⟨_, rfl⟩
  have hnb2 : nb = min 2 L.length := by rw [← hnb, List.length_take]
  have HNB := hid hnb2
  have HNBB := hid hnb
  have hnb3 : nb ≤ 2 := by omega
  have r0 : w8.cell? ⟨c, 0, none⟩ = some (.int .i64 0) := by have h9 := HRW.out 0 (by omega); rwa [HZ0.out _ (.inl ⟨by omega, by omega, by omega⟩)] at h9
  have r1 : w8.cell? ⟨c, 1, none⟩ = some (.int .i64 0) := by have h9 := HRW.out 1 (by omega); rwa [HZ0.out _ (.inl ⟨by omega, by omega, by omega⟩)] at h9
  have r2 : w8.cell? ⟨c, 2, none⟩ = some (.int .i64 0) := by have h9 := HRW.out 2 (by omega); rwa [HZ0.out _ (.inl ⟨by omega, by omega, by omega⟩)] at h9
  have r4 : w8.cell? ⟨c, 4, none⟩ = some (.int .i64 0) := by have h9 := HRW.out 4 (by omega); rwa [HZ0.out _ (.inl ⟨by omega, by omega, by omega⟩)] at h9
  have r6 : w8.cell? ⟨c, 6, none⟩ = some (.int .i64 0) := by have h9 := HRW.out 6 (by omega); rwa [HZ0.out _ (.inl ⟨by omega, by omega, by omega⟩)] at h9
  have r7 : w8.cell? ⟨c, 7, none⟩ = some (.int .i64 0) := by have h9 := HRW.out 7 (by omega); rwa [HZ0.out _ (.inl ⟨by omega, by omega, by omega⟩)] at h9
  have r3 : w8.cell? ⟨c, 3, none⟩ = some (.int .i64 (coreV L 0)) := by have h9 := HRW.out 3 (by omega); rwa [show ((3 : Nat) : Int) = 3 from rfl, HZ3.out, HLL.out] at h9
  have r5 : w8.cell? ⟨c, 5, none⟩ = some (.int .i64 (coreV L 1)) := by have h9 := HRW.out 5 (by omega); rwa [show ((5 : Nat) : Int) = 5 from rfl, HZ5.out, HLL.out] at h9
  have y0 : w8.cell? ⟨y, 0, none⟩ = some (.int .i64 0) := cell_of_block HBY8.out 0
  have y1 : w8.cell? ⟨y, 1, none⟩ = some (.int .i64 2) := cell_of_block HBY8.out 1
  have y2 : w8.cell? ⟨y, 2, none⟩ = some (.int .i64 4) := cell_of_block HBY8.out 2
  have y3 : w8.cell? ⟨y, 3, none⟩ = some (.int .i64 3) := cell_of_block HBY8.out 3
  have y4 : w8.cell? ⟨y, 4, none⟩ = some (.int .i64 5) := cell_of_block HBY8.out 4
  have y5 : w8.cell? ⟨y, 5, none⟩ = some (.int .i64 6) := cell_of_block HBY8.out 5
  have y8 : w8.cell? ⟨y, 8, none⟩ = some (.int .i64 43) := cell_of_block HBY8.out 8
  have y10 : w8.cell? ⟨y, 10, none⟩ = some (.slice oa m m) := cell_of_block HBY8.out 10
  rw [hnb]
  clear hown hb8 ho8 hnb hnb2 HBE
  go_wp2_with fail
  go_loopw [38] (fun i wx => (i = .int .i64 0 ∨ i = .int .i64 1 ∨ i = .int .i64 2) ∧ wx = w8) (fun i _ => 2 - (intOf i).toNat)
  case atStart => exact ⟨.inl rfl, rfl⟩
  case round =>
  obtain ⟨hi, hwr⟩ := hrel
  obtain rfl : w8 = wr := hwr.symm
  clear hwr
  rcases hi with rfl | rfl | rfl
  · cases hL0 : L[0]? with
    | none =>
      have hn0 : nb = 0 := by have := HNB.out; have := List.getElem?_eq_none_iff.1 hL0; omega
      have hv : coreV L 0 = 0 := by rw [coreV, hL0]
      rw [hv] at r3
      subst hn0
      clear hL0
      go_wp2_with fail
      go_roundw
      case rel => exact ⟨.inr (.inl rfl), trivial⟩
      case measure => simp [intOf]
    | some j =>
      have hv : coreV L 0 = j + 1 := by rw [coreV, hL0]
      have hjb := HLB.out j (List.mem_of_getElem? hL0)
      obtain ⟨cap, hv8, hc8⟩ := Own13.cell12 (i := 0) (x := j) HOWN.out (by rw [List.getElem?_take, if_pos (by omega)]; exact hL0)
      rw [HNBB.out] at hv8
      injection hv8 with hv8 _ _
      subst hv8
      have hn1 : 1 ≤ nb := by have := HNB.out; have := (List.getElem?_eq_some_iff.1 hL0).1; omega
      have hs2 : (j + 1 != j + 1) = false := by simp
      rw [hv] at r3
      clear hL0 hv
      go_wp2_with fail
      go_roundw
      case rel => exact ⟨.inr (.inl rfl), trivial⟩
      case measure => simp [intOf]
  · cases hL0 : L[1]? with
    | none =>
      have hn0 : nb ≤ 1 := by have := HNB.out; have := List.getElem?_eq_none_iff.1 hL0; omega
      have hv : coreV L 1 = 0 := by rw [coreV, hL0]
      rw [hv] at r5
      clear hL0
      go_wp2_with fail
      go_roundw
      case rel => exact ⟨.inr (.inr rfl), trivial⟩
      case measure => simp [intOf]
    | some j =>
      have hv : coreV L 1 = j + 1 := by rw [coreV, hL0]
      have hjb := HLB.out j (List.mem_of_getElem? hL0)
      obtain ⟨cap, hv8, hc8⟩ := Own13.cell12 (i := 1) (x := j) HOWN.out (by rw [List.getElem?_take, if_pos (by omega)]; exact hL0)
      rw [HNBB.out] at hv8
      injection hv8 with hv8 _ _
      subst hv8
      have hn1 : 2 ≤ nb := by have := HNB.out; have := (List.getElem?_eq_some_iff.1 hL0).1; omega
      have hs2 : (j + 1 != j + 1) = false := by simp
      rw [hv] at r5
      clear hL0 hv
      go_wp2_with fail
      go_roundw
      case rel => exact ⟨.inr (.inr rfl), trivial⟩
      case measure => simp [intOf]
  · go_wp2_with fail
    go_loopw [73] (fun i wx => ∃ q : Nat, i = .int .i64 (q : Int) ∧ q ≤ m ∧ wx = w8) (fun i _ => m - (intOf i).toNat)
    case atStart => exact ⟨0, rfl, Nat.zero_le _, rfl⟩
    case round =>
    obtain ⟨q, rfl, hq, hwr⟩ := hrel
    obtain rfl : w8 = wr := hwr.symm
    clear hwr
    by_cases hlt : (q : Int) < (m : Int)
    · have rq : w8.cell? ⟨c, 43 + q, none⟩ = some (.int .i64 0) := by have h9 := HRW.out (43 + q) (by have := HLV.out; omega); rwa [HZ0.out _ (.inr ⟨by omega, by omega⟩)] at h9
      go_wp2_with fail
      go_roundw
      case rel => exact ⟨q + 1, by go_num, by omega, trivial⟩
      case measure => simp [intOf]; omega
    · go_wp2_with fail
      go_ret
      exact ⟨rfl, (HO.out.chain HO8.out (fun _ _ h => h)).below (Nat.le_refl _) (fun _ _ h => h)⟩
end Go.Proofs.Ytapmakdklpbjkaa.planBoots
namespace Go.Proofs.Ytapmakdklpbjkaa.planBoots
open Go.Sept Go.RowKit Go.ChangeShapes Go.WideShapes Go.ChangeAt Go.Joins Go.Deep

set_option maxRecDepth 100000 in
theorem lifted (os : Os) (started : os.Started) (H : Type) (enc : TypeId × Value → H) :
    ReturnsInHanded {} Try.checked os 4 .any (Rows.planBootsSpec.pre6 enc Try.prog Try.f4 Rows.planBootsRow.domain false) (Rows.planBootsSpec.post enc Try.prog Try.f4 false true false false) := by
  refine returnsInHanded_of_change (C := Try.checked) own started (by kernel_rfl) Try.func4
    (ChangeSpec.witness6 (enc := enc) (C := Try.checked) false ⟨#[], #[.agg #[.slice none 0 0, .slice none 0 0]], []⟩ 8 (by kernel_rfl) (by kernel_rfl) (by kernel_rfl) (by kernel_rfl)) ?_
  intro W base args ds gs before hval0 hW hcnd _
  have hval : ∀ (j : Nat) t v, Try.f4.params[j]? = some t → args[j]? = some v → Value.okWide Try.prog W .any base t v := hval0
  have hW' := hW
  obtain ⟨p, q, hA0, hV, rfl, hfz, hnd⟩ := hW
  have hA : DataW.TrodAll enc Try.prog W 0 (fun _ => true) true Try.f4.params.toList args.toList ds p := hA0
  rw [Try.params4] at hA hval
  obtain ⟨v0, vs0, d0, ds0, p0, q0, hargs, rfl, rfl, h0, r0⟩ := trodAll_cons hA
  obtain ⟨rfl, rfl, rfl⟩ := trodAll_nil r0
  obtain rfl : args = #[v0] := by cases args; simp_all
  obtain ⟨x0, x1, c, rfl, hc⟩ := open_pt (hval 0 25 v0 rfl rfl) h0
  refine (walk W x0 x1 c hc).mono fun e W' ⟨he, hg⟩ => ?_
  subst he
  exact ⟨_, rfl, post_law 1 4 laidOut (by kernel_rfl) rfl rfl rfl Try.underlying4 (fun l hl => by match l, hl with | [_], _ => rfl) hW' hg⟩

theorem over : Rows.planBootsRow.holds Try.pinned (OpenSpec.ofChange Rows.planBootsSpec) :=
  OpenClaim.holds_of_wide 4 Try.f4 rfl rfl rfl rfl rfl rfl rfl ⟨rfl, rfl, rfl, rfl, rfl⟩ rfl rfl rfl rfl rfl (by kernel_rfl) Try.func4 (by kernel_rfl)
    (of_decide_eq_true (by kernel_rfl)) (by unfold Func.isWrapper; first | (rw [if_pos (by decide +kernel)]; kernel_rfl) | (rw [if_neg (by decide +kernel)]; exact ⟨rfl, rfl⟩))
    (fun os started H enc _ => lifted os started H enc)

theorem proved : Rows.PlanBootsSaid := over
#print axioms proved
end Go.Proofs.Ytapmakdklpbjkaa.planBoots

/-
  septumlaw14's act: a call of package ready by a frame, for any trees that its calls do. Conditions: all of it lies in blocks that are not the same; each call's own contract.
-/
import Derived.Test.YtdmgkmkhonmgbaaGreatBody13
namespace Go.Proofs.YtdmgkmkhonmgbaaGreat
open Go.RowKit Go.Sept

abbrev act14O (n m : Nat) (ta oa za zb : Option Addr) (zc zd : Nat) (k t s p : Int) (f : Bool) : Obj :=
  .cells #[.int .i64 0, .int .i64 2, .int .i64 4, .int .i64 3, .int .i64 5, .int .i64 6, .int .i64 8, .int .i64 41, .int .i64 43, .slice ta n n, .slice oa m m, .int .i64 (43 + (m : Int) + (n : Int) * 24 + (m : Int) * 24), .slice za n zc, .slice zb m zd, .int .u8 k, .int .i64 t, .int .i64 s, .int .i64 p, .bool f] 45
theorem act14_enters (args : Array Value) (w : World) : (callFunc 11 args).run Tryz.prog w = .ok (.enter 11 args) w := enters_of Tryz.func11 (by kernel_rfl) rfl args w
theorem act14_cells {w : World} {U n m : Nat} {ta oa za zb : Option Addr} {zc zd : Nat} {k t s p : Int} {f : Bool} (h : w.heap[U]? = some (act14O n m ta oa za zb zc zd k t s p f)) :
    w.cell? ⟨U, 0, none⟩ = some (.int .i64 0) ∧ w.cell? ⟨U, 1, none⟩ = some (.int .i64 2) ∧ w.cell? ⟨U, 2, none⟩ = some (.int .i64 4) ∧ w.cell? ⟨U, 3, none⟩ = some (.int .i64 3) ∧ w.cell? ⟨U, 4, none⟩ = some (.int .i64 5) ∧ w.cell? ⟨U, 5, none⟩ = some (.int .i64 6) ∧ w.cell? ⟨U, 6, none⟩ = some (.int .i64 8) ∧ w.cell? ⟨U, 7, none⟩ = some (.int .i64 41) ∧ w.cell? ⟨U, 8, none⟩ = some (.int .i64 43) ∧ w.cell? ⟨U, 9, none⟩ = some (.slice ta n n) ∧ w.cell? ⟨U, 10, none⟩ = some (.slice oa m m) ∧ w.cell? ⟨U, 11, none⟩ = some (.int .i64 (43 + (m : Int) + (n : Int) * 24 + (m : Int) * 24)) ∧ w.cell? ⟨U, 12, none⟩ = some (.slice za n zc) ∧ w.cell? ⟨U, 13, none⟩ = some (.slice zb m zd) ∧ w.cell? ⟨U, 14, none⟩ = some (.int .u8 k) ∧ w.cell? ⟨U, 15, none⟩ = some (.int .i64 t) ∧ w.cell? ⟨U, 16, none⟩ = some (.int .i64 s) ∧ w.cell? ⟨U, 17, none⟩ = some (.int .i64 p) ∧ w.cell? ⟨U, 18, none⟩ = some (.bool f) :=
  ⟨cell_of_block h 0, cell_of_block h 1, cell_of_block h 2, cell_of_block h 3, cell_of_block h 4, cell_of_block h 5, cell_of_block h 6, cell_of_block h 7, cell_of_block h 8, cell_of_block h 9, cell_of_block h 10, cell_of_block h 11, cell_of_block h 12, cell_of_block h 13, cell_of_block h 14, cell_of_block h 15, cell_of_block h 16, cell_of_block h 17, cell_of_block h 18⟩

set_option maxRecDepth 100000 in
set_option maxHeartbeats 2000000 in
theorem act14_ready {j : Nat} {T : Tree Unit j} (hn : j ≤ 200000) (C : Bag) (U n m : Nat) (ta oa za zb : Option Addr) (zc zd : Nat) (k t s p : Int) (f : Bool) (h0 : k = 0) (hT : DoesIn C 39 (fun F => #[F, .agg (planCs n m ta oa (.slice za n zc) (.slice zb m zd)), .int .i64 t]) T (fun _ => .tuple #[])) :
    BodyIn T 11 (ptrV U) (besideK (readK U (act14O n m ta oa za zb zc zd k t s p f)) C) 6000 := by
  refine body_of act14_enters hn (by decide) fun w hw => ?_
  refine ⟨(Bag.one U (act14O n m ta oa za zb zc zd k t s p f)).and C, hw, fun _ h => h, fun F lb p' q R h0' => ?_⟩
  obtain ⟨BG, hBG⟩ : ∃ BG, (Bag.one U (act14O n m ta oa za zb zc zd k t s p f)).and C = BG := ⟨_, rfl⟩
  have HLE : Hid (C.Le BG) := hBG ▸ ⟨fun _ h => h.2, fun _ h => .inr h⟩
  have HBG := hid hBG
  rw [hBG] at h0'
  have H := hid h0'.drew
  have hb : w.heap[U]? = some (act14O n m ta oa za zb zc zd k t s p f) := hw.1
  obtain ⟨c0, c1, c2, c3, c4, c5, c6, c7, c8, c9, c10, c11, c12, c13, c14, c15, c16, c17, c18⟩ := act14_cells hb
  have HC := hid hT
  have b0 : (k == 0) = true := beq_iff_eq.2 h0
  clear h0
  clear h0' hb hw hBG hT hn
  go_enter Tryz.func11, Tryz.ntmps11
  go_wp2_with fail
  go_region_held (fun w' => w'.cell? ⟨U, 0, none⟩ = some (.int .i64 0) ∧ w'.cell? ⟨U, 1, none⟩ = some (.int .i64 2) ∧ w'.cell? ⟨U, 2, none⟩ = some (.int .i64 4) ∧ w'.cell? ⟨U, 3, none⟩ = some (.int .i64 3) ∧ w'.cell? ⟨U, 4, none⟩ = some (.int .i64 5) ∧ w'.cell? ⟨U, 5, none⟩ = some (.int .i64 6) ∧ w'.cell? ⟨U, 6, none⟩ = some (.int .i64 8) ∧ w'.cell? ⟨U, 7, none⟩ = some (.int .i64 41) ∧ w'.cell? ⟨U, 8, none⟩ = some (.int .i64 43) ∧ w'.cell? ⟨U, 9, none⟩ = some (.slice ta n n) ∧ w'.cell? ⟨U, 10, none⟩ = some (.slice oa m m) ∧ w'.cell? ⟨U, 11, none⟩ = some (.int .i64 (43 + (m : Int) + (n : Int) * 24 + (m : Int) * 24)) ∧ w'.cell? ⟨U, 12, none⟩ = some (.slice za n zc) ∧ w'.cell? ⟨U, 13, none⟩ = some (.slice zb m zd) ∧ w'.cell? ⟨U, 15, none⟩ = some (.int .i64 t)) (go_keep)
    (first | (go_at_call 39; refine (H.out.tailIn HC.out HLE.out).mono ?_; rintro e w1 ⟨x1, rfl, h1⟩; have hb1 := h1.bag; rw [← HBG.out] at hb1
              have hb2 : w1.heap[U]? = some (act14O n m ta oa za zb zc zd k t s p f) := hb1.1
              have H2 := hid h1
              obtain ⟨d0, d1, d2, d3, d4, d5, d6, d7, d8, d9, d10, d11, d12, d13, d14, d15, d16, d17, d18⟩ := act14_cells hb2
              clear h1 hb1 hb2))
  clear H HC c0 c1 c2 c3 c4 c5 c6 c7 c8 c9 c10 c11 c12 c13 c14 c15 c16 c17 c18 d0 d1 d2 d3 d4 d5 d6 d7 d8 d9 d10 d11 d12 d13 d14 d15 d16 d17 d18
  go_wp2_with fail
  go_end0
  exact ⟨x1, BG, rfl, H2.out, by rw [← HBG.out]; exact fun _ h => h, by rw [← HBG.out]; exact fun h => ⟨h, trivial⟩⟩

set_option maxRecDepth 100000 in
set_option maxHeartbeats 2000000 in
theorem act14_unready {j : Nat} {T : Tree Unit j} (hn : j ≤ 200000) (C : Bag) (U n m : Nat) (ta oa za zb : Option Addr) (zc zd : Nat) (k t s p : Int) (f : Bool) (h1 : k = 1) (hT : DoesIn C 40 (fun F => #[F, .agg (planCs n m ta oa (.slice za n zc) (.slice zb m zd)), .int .i64 t, .int .i64 s]) T (fun _ => .tuple #[])) :
    BodyIn T 11 (ptrV U) (besideK (readK U (act14O n m ta oa za zb zc zd k t s p f)) C) 6000 := by
  refine body_of act14_enters hn (by decide) fun w hw => ?_
  refine ⟨(Bag.one U (act14O n m ta oa za zb zc zd k t s p f)).and C, hw, fun _ h => h, fun F lb p' q R h0' => ?_⟩
  obtain ⟨BG, hBG⟩ : ∃ BG, (Bag.one U (act14O n m ta oa za zb zc zd k t s p f)).and C = BG := ⟨_, rfl⟩
  have HLE : Hid (C.Le BG) := hBG ▸ ⟨fun _ h => h.2, fun _ h => .inr h⟩
  have HBG := hid hBG
  rw [hBG] at h0'
  have H := hid h0'.drew
  have hb : w.heap[U]? = some (act14O n m ta oa za zb zc zd k t s p f) := hw.1
  obtain ⟨c0, c1, c2, c3, c4, c5, c6, c7, c8, c9, c10, c11, c12, c13, c14, c15, c16, c17, c18⟩ := act14_cells hb
  have HC := hid hT
  have b0 : (k == 0) = false := by rw [h1]; rfl
  have b1 : (k == 1) = true := beq_iff_eq.2 h1
  clear h1
  clear h0' hb hw hBG hT hn
  go_enter Tryz.func11, Tryz.ntmps11
  go_wp2_with fail
  go_region_held (fun w' => w'.cell? ⟨U, 0, none⟩ = some (.int .i64 0) ∧ w'.cell? ⟨U, 1, none⟩ = some (.int .i64 2) ∧ w'.cell? ⟨U, 2, none⟩ = some (.int .i64 4) ∧ w'.cell? ⟨U, 3, none⟩ = some (.int .i64 3) ∧ w'.cell? ⟨U, 4, none⟩ = some (.int .i64 5) ∧ w'.cell? ⟨U, 5, none⟩ = some (.int .i64 6) ∧ w'.cell? ⟨U, 6, none⟩ = some (.int .i64 8) ∧ w'.cell? ⟨U, 7, none⟩ = some (.int .i64 41) ∧ w'.cell? ⟨U, 8, none⟩ = some (.int .i64 43) ∧ w'.cell? ⟨U, 9, none⟩ = some (.slice ta n n) ∧ w'.cell? ⟨U, 10, none⟩ = some (.slice oa m m) ∧ w'.cell? ⟨U, 11, none⟩ = some (.int .i64 (43 + (m : Int) + (n : Int) * 24 + (m : Int) * 24)) ∧ w'.cell? ⟨U, 12, none⟩ = some (.slice za n zc) ∧ w'.cell? ⟨U, 13, none⟩ = some (.slice zb m zd) ∧ w'.cell? ⟨U, 15, none⟩ = some (.int .i64 t) ∧ w'.cell? ⟨U, 16, none⟩ = some (.int .i64 s)) (go_keep)
    (first | (go_at_call 40; refine (H.out.tailIn HC.out HLE.out).mono ?_; rintro e w1 ⟨x1, rfl, h1⟩; have hb1 := h1.bag; rw [← HBG.out] at hb1
              have hb2 : w1.heap[U]? = some (act14O n m ta oa za zb zc zd k t s p f) := hb1.1
              have H2 := hid h1
              obtain ⟨d0, d1, d2, d3, d4, d5, d6, d7, d8, d9, d10, d11, d12, d13, d14, d15, d16, d17, d18⟩ := act14_cells hb2
              clear h1 hb1 hb2))
  clear H HC c0 c1 c2 c3 c4 c5 c6 c7 c8 c9 c10 c11 c12 c13 c14 c15 c16 c17 c18 d0 d1 d2 d3 d4 d5 d6 d7 d8 d9 d10 d11 d12 d13 d14 d15 d16 d17 d18
  go_wp2_with fail
  go_end0
  exact ⟨x1, BG, rfl, H2.out, by rw [← HBG.out]; exact fun _ h => h, by rw [← HBG.out]; exact fun h => ⟨h, trivial⟩⟩

set_option maxRecDepth 100000 in
set_option maxHeartbeats 2000000 in
theorem act14_change {j : Nat} {T : Tree Unit j} (hn : j ≤ 200000) (C : Bag) (U n m : Nat) (ta oa za zb : Option Addr) (zc zd : Nat) (k t s p : Int) (f : Bool) (h1 : k = 2) (hT : DoesIn C 41 (fun F => #[F, .agg (planCs n m ta oa (.slice za n zc) (.slice zb m zd)), .int .i64 t, .int .i64 p, .bool f]) T (fun _ => .tuple #[])) :
    BodyIn T 11 (ptrV U) (besideK (readK U (act14O n m ta oa za zb zc zd k t s p f)) C) 6000 := by
  refine body_of act14_enters hn (by decide) fun w hw => ?_
  refine ⟨(Bag.one U (act14O n m ta oa za zb zc zd k t s p f)).and C, hw, fun _ h => h, fun F lb p' q R h0' => ?_⟩
  obtain ⟨BG, hBG⟩ : ∃ BG, (Bag.one U (act14O n m ta oa za zb zc zd k t s p f)).and C = BG := ⟨_, rfl⟩
  have HLE : Hid (C.Le BG) := hBG ▸ ⟨fun _ h => h.2, fun _ h => .inr h⟩
  have HBG := hid hBG
  rw [hBG] at h0'
  have H := hid h0'.drew
  have hb : w.heap[U]? = some (act14O n m ta oa za zb zc zd k t s p f) := hw.1
  obtain ⟨c0, c1, c2, c3, c4, c5, c6, c7, c8, c9, c10, c11, c12, c13, c14, c15, c16, c17, c18⟩ := act14_cells hb
  have HC := hid hT
  have b0 : (k == 0) = false := by rw [h1]; rfl
  have b1 : (k == 1) = false := by rw [h1]; rfl
  have b2 : (k == 2) = true := beq_iff_eq.2 h1
  clear h1
  clear h0' hb hw hBG hT hn
  go_enter Tryz.func11, Tryz.ntmps11
  go_wp2_with fail
  go_region_held (fun w' => w'.cell? ⟨U, 0, none⟩ = some (.int .i64 0) ∧ w'.cell? ⟨U, 1, none⟩ = some (.int .i64 2) ∧ w'.cell? ⟨U, 2, none⟩ = some (.int .i64 4) ∧ w'.cell? ⟨U, 3, none⟩ = some (.int .i64 3) ∧ w'.cell? ⟨U, 4, none⟩ = some (.int .i64 5) ∧ w'.cell? ⟨U, 5, none⟩ = some (.int .i64 6) ∧ w'.cell? ⟨U, 6, none⟩ = some (.int .i64 8) ∧ w'.cell? ⟨U, 7, none⟩ = some (.int .i64 41) ∧ w'.cell? ⟨U, 8, none⟩ = some (.int .i64 43) ∧ w'.cell? ⟨U, 9, none⟩ = some (.slice ta n n) ∧ w'.cell? ⟨U, 10, none⟩ = some (.slice oa m m) ∧ w'.cell? ⟨U, 11, none⟩ = some (.int .i64 (43 + (m : Int) + (n : Int) * 24 + (m : Int) * 24)) ∧ w'.cell? ⟨U, 12, none⟩ = some (.slice za n zc) ∧ w'.cell? ⟨U, 13, none⟩ = some (.slice zb m zd) ∧ w'.cell? ⟨U, 15, none⟩ = some (.int .i64 t) ∧ w'.cell? ⟨U, 17, none⟩ = some (.int .i64 p) ∧ w'.cell? ⟨U, 18, none⟩ = some (.bool f)) (go_keep)
    (first | (go_at_call 41; refine (H.out.tailIn HC.out HLE.out).mono ?_; rintro e w1 ⟨x1, rfl, h1⟩; have hb1 := h1.bag; rw [← HBG.out] at hb1
              have hb2 : w1.heap[U]? = some (act14O n m ta oa za zb zc zd k t s p f) := hb1.1
              have H2 := hid h1
              obtain ⟨d0, d1, d2, d3, d4, d5, d6, d7, d8, d9, d10, d11, d12, d13, d14, d15, d16, d17, d18⟩ := act14_cells hb2
              clear h1 hb1 hb2))
  clear H HC c0 c1 c2 c3 c4 c5 c6 c7 c8 c9 c10 c11 c12 c13 c14 c15 c16 c17 c18 d0 d1 d2 d3 d4 d5 d6 d7 d8 d9 d10 d11 d12 d13 d14 d15 d16 d17 d18
  go_wp2_with fail
  go_end0
  exact ⟨x1, BG, rfl, H2.out, by rw [← HBG.out]; exact fun _ h => h, by rw [← HBG.out]; exact fun h => ⟨h, trivial⟩⟩

set_option maxRecDepth 100000 in
set_option maxHeartbeats 2000000 in
theorem act14_yield {j : Nat} {T : Tree Unit j} (hn : j ≤ 200000) (C : Bag) (U n m : Nat) (ta oa za zb : Option Addr) (zc zd : Nat) (k t s p : Int) (f : Bool) (h0 : k ≠ 0) (h1 : k ≠ 1) (h2 : k ≠ 2) (hT : DoesIn C 42 (fun F => #[F, .agg (planCs n m ta oa (.slice za n zc) (.slice zb m zd)), .int .i64 t]) T (fun _ => .tuple #[])) :
    BodyIn T 11 (ptrV U) (besideK (readK U (act14O n m ta oa za zb zc zd k t s p f)) C) 6000 := by
  refine body_of act14_enters hn (by decide) fun w hw => ?_
  refine ⟨(Bag.one U (act14O n m ta oa za zb zc zd k t s p f)).and C, hw, fun _ h => h, fun F lb p' q R h0' => ?_⟩
  obtain ⟨BG, hBG⟩ : ∃ BG, (Bag.one U (act14O n m ta oa za zb zc zd k t s p f)).and C = BG := ⟨_, rfl⟩
  have HLE : Hid (C.Le BG) := hBG ▸ ⟨fun _ h => h.2, fun _ h => .inr h⟩
  have HBG := hid hBG
  rw [hBG] at h0'
  have H := hid h0'.drew
  have hb : w.heap[U]? = some (act14O n m ta oa za zb zc zd k t s p f) := hw.1
  obtain ⟨c0, c1, c2, c3, c4, c5, c6, c7, c8, c9, c10, c11, c12, c13, c14, c15, c16, c17, c18⟩ := act14_cells hb
  have HC := hid hT
  have b0 : (k == 0) = false := beq_eq_false_iff_ne.2 h0
  have b1 : (k == 1) = false := beq_eq_false_iff_ne.2 h1
  have b2 : (k == 2) = false := beq_eq_false_iff_ne.2 h2
  clear h0 h1 h2
  clear h0' hb hw hBG hT hn
  go_enter Tryz.func11, Tryz.ntmps11
  go_wp2_with fail
  go_region_held (fun w' => w'.cell? ⟨U, 0, none⟩ = some (.int .i64 0) ∧ w'.cell? ⟨U, 1, none⟩ = some (.int .i64 2) ∧ w'.cell? ⟨U, 2, none⟩ = some (.int .i64 4) ∧ w'.cell? ⟨U, 3, none⟩ = some (.int .i64 3) ∧ w'.cell? ⟨U, 4, none⟩ = some (.int .i64 5) ∧ w'.cell? ⟨U, 5, none⟩ = some (.int .i64 6) ∧ w'.cell? ⟨U, 6, none⟩ = some (.int .i64 8) ∧ w'.cell? ⟨U, 7, none⟩ = some (.int .i64 41) ∧ w'.cell? ⟨U, 8, none⟩ = some (.int .i64 43) ∧ w'.cell? ⟨U, 9, none⟩ = some (.slice ta n n) ∧ w'.cell? ⟨U, 10, none⟩ = some (.slice oa m m) ∧ w'.cell? ⟨U, 11, none⟩ = some (.int .i64 (43 + (m : Int) + (n : Int) * 24 + (m : Int) * 24)) ∧ w'.cell? ⟨U, 12, none⟩ = some (.slice za n zc) ∧ w'.cell? ⟨U, 13, none⟩ = some (.slice zb m zd) ∧ w'.cell? ⟨U, 15, none⟩ = some (.int .i64 t)) (go_keep)
    (first | (go_at_call 42; refine (H.out.tailIn HC.out HLE.out).mono ?_; rintro e w1 ⟨x1, rfl, h1⟩; have hb1 := h1.bag; rw [← HBG.out] at hb1
              have hb2 : w1.heap[U]? = some (act14O n m ta oa za zb zc zd k t s p f) := hb1.1
              have H2 := hid h1
              obtain ⟨d0, d1, d2, d3, d4, d5, d6, d7, d8, d9, d10, d11, d12, d13, d14, d15, d16, d17, d18⟩ := act14_cells hb2
              clear h1 hb1 hb2))
  clear H HC c0 c1 c2 c3 c4 c5 c6 c7 c8 c9 c10 c11 c12 c13 c14 c15 c16 c17 c18 d0 d1 d2 d3 d4 d5 d6 d7 d8 d9 d10 d11 d12 d13 d14 d15 d16 d17 d18
  go_wp2_with fail
  go_end0
  exact ⟨x1, BG, rfl, H2.out, by rw [← HBG.out]; exact fun _ h => h, by rw [← HBG.out]; exact fun h => ⟨h, trivial⟩⟩
end Go.Proofs.YtdmgkmkhonmgbaaGreat

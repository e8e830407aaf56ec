/-
  septumlaw15's act: a call by a frame, for any trees that its calls do. Conditions: all of it lies in blocks that are not the same; each call's own contract.
-/
import Derived.Test.YtmcmjcaigipoaaaGreatBody13
import Derived.Test.YtmcmjcaigipoaaaGreatMath13
import Derived.Test.YtmcmjcaigipoaaaGreatLay12
namespace Go.Proofs.YtmcmjcaigipoaaaGreat
open Go.RowKit Go.Sept

abbrev act15O (n m : Nat) (ta oa za zb : Option Addr) (zc zd : Nat) (k t p : Int) (f : Bool) (nn : Int) (x : Int × Bool) : Obj :=
  .cells #[.int .i64 0, .int .i64 2, .int .i64 4, .int .i64 3, .int .i64 5, .int .i64 6, .int .i64 8, .int .i64 41, .int .i64 43, .slice ta n n, .slice oa m m, .int .i64 (43 + (m : Int) + (n : Int) * 24 + (m : Int) * 24), .slice za n zc, .slice zb m zd, .int .u8 k, .int .i64 t, .int .i64 p, .bool f, .int .u8 nn, .int .i64 x.1, .bool x.2] 44
theorem act15_enters (args : Array Value) (w : World) : (callFunc 13 args).run Tryz.prog w = .ok (.enter 13 args) w := enters_of Tryz.func13 (by kernel_rfl) rfl args w
theorem act15_cells {w : World} {U n m : Nat} {ta oa za zb : Option Addr} {zc zd : Nat} {k t p : Int} {f : Bool} {nn : Int} {x : Int × Bool} (h : w.heap[U]? = some (act15O n m ta oa za zb zc zd k t p f nn x)) :
    w.cell? ⟨U, 0, none⟩ = some (.int .i64 0) ∧ w.cell? ⟨U, 1, none⟩ = some (.int .i64 2) ∧ w.cell? ⟨U, 2, none⟩ = some (.int .i64 4) ∧ w.cell? ⟨U, 3, none⟩ = some (.int .i64 3) ∧ w.cell? ⟨U, 4, none⟩ = some (.int .i64 5) ∧ w.cell? ⟨U, 5, none⟩ = some (.int .i64 6) ∧ w.cell? ⟨U, 6, none⟩ = some (.int .i64 8) ∧ w.cell? ⟨U, 7, none⟩ = some (.int .i64 41) ∧ w.cell? ⟨U, 8, none⟩ = some (.int .i64 43) ∧ w.cell? ⟨U, 9, none⟩ = some (.slice ta n n) ∧ w.cell? ⟨U, 10, none⟩ = some (.slice oa m m) ∧ w.cell? ⟨U, 11, none⟩ = some (.int .i64 (43 + (m : Int) + (n : Int) * 24 + (m : Int) * 24)) ∧ w.cell? ⟨U, 12, none⟩ = some (.slice za n zc) ∧ w.cell? ⟨U, 13, none⟩ = some (.slice zb m zd) ∧ w.cell? ⟨U, 14, none⟩ = some (.int .u8 k) ∧ w.cell? ⟨U, 15, none⟩ = some (.int .i64 t) ∧ w.cell? ⟨U, 16, none⟩ = some (.int .i64 p) ∧ w.cell? ⟨U, 17, none⟩ = some (.bool f) ∧ w.cell? ⟨U, 18, none⟩ = some (.int .u8 nn) ∧ w.cell? ⟨U, 19, none⟩ = some (.int .i64 x.1) ∧ w.cell? ⟨U, 20, none⟩ = some (.bool x.2) :=
  ⟨cell_of_block h 0, cell_of_block h 1, cell_of_block h 2, cell_of_block h 3, cell_of_block h 4, cell_of_block h 5, cell_of_block h 6, cell_of_block h 7, cell_of_block h 8, cell_of_block h 9, cell_of_block h 10, cell_of_block h 11, cell_of_block h 12, cell_of_block h 13, cell_of_block h 14, cell_of_block h 15, cell_of_block h 16, cell_of_block h 17, cell_of_block h 18, cell_of_block h 19, cell_of_block h 20⟩

set_option maxRecDepth 100000 in
set_option maxHeartbeats 2000000 in
theorem act15_ready {j : Nat} {T : Tree Unit j} (hn : j ≤ 200000) (C : Bag) (U n m : Nat) (ta oa za zb : Option Addr) (zc zd : Nat) (k t p : Int) (f : Bool) (nn : Int) (x : Int × Bool) (hk : k = 0) (hT : DoesIn C 42 (fun F => #[F, .agg (planCs n m ta oa (.slice za n zc) (.slice zb m zd)), .int .i64 t]) T (fun _ => .tuple #[])) :
    BodyIn T 13 (ptrV U) (besideK (readK U (act15O n m ta oa za zb zc zd k t p f nn x)) C) 6000 := by
  refine body_of act15_enters hn (by decide) fun w hw => ?_
  refine ⟨(Bag.one U (act15O n m ta oa za zb zc zd k t p f nn x)).and C, hw, fun _ h => h, fun F lb p' q R h0' => ?_⟩
  obtain ⟨BG, hBG⟩ : ∃ BG, (Bag.one U (act15O n m ta oa za zb zc zd k t p f nn x)).and C = BG := ⟨_, rfl⟩
  have HLE : Hid (C.Le BG) := hBG ▸ ⟨fun _ h => h.2, fun _ h => .inr h⟩
  have HBG := hid hBG
  rw [hBG] at h0'
  have H := hid h0'.drew
  have hb : w.heap[U]? = some (act15O n m ta oa za zb zc zd k t p f nn x) := hw.1
  obtain ⟨c0, c1, c2, c3, c4, c5, c6, c7, c8, c9, c10, c11, c12, c13, c14, c15, c16, c17, c18, c19, c20⟩ := act15_cells hb
  have HC := hid hT
  have b0 : (k == 0) = true := beq_iff_eq.2 hk
  clear h0' hb hw hBG hT hn hk
  go_enter Tryz.func13, Tryz.ntmps13
  go_wp2_with fail
  go_region_held (fun w' => w'.cell? ⟨U, 0, none⟩ = some (.int .i64 0) ∧ w'.cell? ⟨U, 1, none⟩ = some (.int .i64 2) ∧ w'.cell? ⟨U, 2, none⟩ = some (.int .i64 4) ∧ w'.cell? ⟨U, 3, none⟩ = some (.int .i64 3) ∧ w'.cell? ⟨U, 4, none⟩ = some (.int .i64 5) ∧ w'.cell? ⟨U, 5, none⟩ = some (.int .i64 6) ∧ w'.cell? ⟨U, 6, none⟩ = some (.int .i64 8) ∧ w'.cell? ⟨U, 7, none⟩ = some (.int .i64 41) ∧ w'.cell? ⟨U, 8, none⟩ = some (.int .i64 43) ∧ w'.cell? ⟨U, 9, none⟩ = some (.slice ta n n) ∧ w'.cell? ⟨U, 10, none⟩ = some (.slice oa m m) ∧ w'.cell? ⟨U, 11, none⟩ = some (.int .i64 (43 + (m : Int) + (n : Int) * 24 + (m : Int) * 24)) ∧ w'.cell? ⟨U, 12, none⟩ = some (.slice za n zc) ∧ w'.cell? ⟨U, 13, none⟩ = some (.slice zb m zd) ∧ w'.cell? ⟨U, 15, none⟩ = some (.int .i64 t)) (go_keep)
    (first | (go_at_call 42; refine (H.out.tailIn HC.out HLE.out).mono ?_; rintro e w1 ⟨x1, rfl, h1⟩; have hb1 := h1.bag; rw [← HBG.out] at hb1
              have hb2 : w1.heap[U]? = some (act15O n m ta oa za zb zc zd k t p f nn x) := hb1.1
              have H2 := hid h1
              obtain ⟨d0, d1, d2, d3, d4, d5, d6, d7, d8, d9, d10, d11, d12, d13, d14, d15, d16, d17, d18, d19, d20⟩ := act15_cells hb2
              clear h1 hb1 hb2))
  clear H HC c0 c1 c2 c3 c4 c5 c6 c7 c8 c9 c10 c11 c12 c13 c14 c15 c16 c17 c18 c19 c20 d0 d1 d2 d3 d4 d5 d6 d7 d8 d9 d10 d11 d12 d13 d14 d15 d16 d17 d18 d19 d20
  go_wp2_with fail
  go_end0
  exact ⟨x1, BG, rfl, H2.out, by rw [← HBG.out]; exact fun _ h => h, by rw [← HBG.out]; exact fun h => ⟨h, trivial⟩⟩

set_option maxRecDepth 100000 in
set_option maxHeartbeats 2000000 in
theorem act15_unready {j : Nat} {T : Tree Unit j} (hn : j ≤ 200000) (C : Bag) (U n m : Nat) (ta oa za zb : Option Addr) (zc zd : Nat) (k t p : Int) (f : Bool) (nn : Int) (x : Int × Bool) (hk : k = 1) (hT : DoesIn C 43 (fun F => #[F, .agg (planCs n m ta oa (.slice za n zc) (.slice zb m zd)), .int .i64 t, .int .i64 2]) T (fun _ => .tuple #[])) :
    BodyIn T 13 (ptrV U) (besideK (readK U (act15O n m ta oa za zb zc zd k t p f nn x)) C) 6000 := by
  refine body_of act15_enters hn (by decide) fun w hw => ?_
  refine ⟨(Bag.one U (act15O n m ta oa za zb zc zd k t p f nn x)).and C, hw, fun _ h => h, fun F lb p' q R h0' => ?_⟩
  obtain ⟨BG, hBG⟩ : ∃ BG, (Bag.one U (act15O n m ta oa za zb zc zd k t p f nn x)).and C = BG := ⟨_, rfl⟩
  have HLE : Hid (C.Le BG) := hBG ▸ ⟨fun _ h => h.2, fun _ h => .inr h⟩
  have HBG := hid hBG
  rw [hBG] at h0'
  have H := hid h0'.drew
  have hb : w.heap[U]? = some (act15O n m ta oa za zb zc zd k t p f nn x) := hw.1
  obtain ⟨c0, c1, c2, c3, c4, c5, c6, c7, c8, c9, c10, c11, c12, c13, c14, c15, c16, c17, c18, c19, c20⟩ := act15_cells hb
  have HC := hid hT
  have b0 : (k == 0) = false := beq_eq_false_iff_ne.2 (by omega)
  have b1 : (k == 1) = true := beq_iff_eq.2 hk
  clear h0' hb hw hBG hT hn hk
  go_enter Tryz.func13, Tryz.ntmps13
  go_wp2_with fail
  go_region_held (fun w' => w'.cell? ⟨U, 0, none⟩ = some (.int .i64 0) ∧ w'.cell? ⟨U, 1, none⟩ = some (.int .i64 2) ∧ w'.cell? ⟨U, 2, none⟩ = some (.int .i64 4) ∧ w'.cell? ⟨U, 3, none⟩ = some (.int .i64 3) ∧ w'.cell? ⟨U, 4, none⟩ = some (.int .i64 5) ∧ w'.cell? ⟨U, 5, none⟩ = some (.int .i64 6) ∧ w'.cell? ⟨U, 6, none⟩ = some (.int .i64 8) ∧ w'.cell? ⟨U, 7, none⟩ = some (.int .i64 41) ∧ w'.cell? ⟨U, 8, none⟩ = some (.int .i64 43) ∧ w'.cell? ⟨U, 9, none⟩ = some (.slice ta n n) ∧ w'.cell? ⟨U, 10, none⟩ = some (.slice oa m m) ∧ w'.cell? ⟨U, 11, none⟩ = some (.int .i64 (43 + (m : Int) + (n : Int) * 24 + (m : Int) * 24)) ∧ w'.cell? ⟨U, 12, none⟩ = some (.slice za n zc) ∧ w'.cell? ⟨U, 13, none⟩ = some (.slice zb m zd) ∧ w'.cell? ⟨U, 15, none⟩ = some (.int .i64 t)) (go_keep)
    (first | (go_at_call 43; refine (H.out.tailIn HC.out HLE.out).mono ?_; rintro e w1 ⟨x1, rfl, h1⟩; have hb1 := h1.bag; rw [← HBG.out] at hb1
              have hb2 : w1.heap[U]? = some (act15O n m ta oa za zb zc zd k t p f nn x) := hb1.1
              have H2 := hid h1
              obtain ⟨d0, d1, d2, d3, d4, d5, d6, d7, d8, d9, d10, d11, d12, d13, d14, d15, d16, d17, d18, d19, d20⟩ := act15_cells hb2
              clear h1 hb1 hb2))
  clear H HC c0 c1 c2 c3 c4 c5 c6 c7 c8 c9 c10 c11 c12 c13 c14 c15 c16 c17 c18 c19 c20 d0 d1 d2 d3 d4 d5 d6 d7 d8 d9 d10 d11 d12 d13 d14 d15 d16 d17 d18 d19 d20
  go_wp2_with fail
  go_end0
  exact ⟨x1, BG, rfl, H2.out, by rw [← HBG.out]; exact fun _ h => h, by rw [← HBG.out]; exact fun h => ⟨h, trivial⟩⟩

set_option maxRecDepth 100000 in
set_option maxHeartbeats 2000000 in
theorem act15_change {j : Nat} {T : Tree Unit j} (hn : j ≤ 200000) (C : Bag) (U n m : Nat) (ta oa za zb : Option Addr) (zc zd : Nat) (k t p : Int) (f : Bool) (nn : Int) (x : Int × Bool) (hk : k = 2) (hT : DoesIn C 44 (fun F => #[F, .agg (planCs n m ta oa (.slice za n zc) (.slice zb m zd)), .int .i64 t, .int .i64 p, .bool f]) T (fun _ => .tuple #[])) :
    BodyIn T 13 (ptrV U) (besideK (readK U (act15O n m ta oa za zb zc zd k t p f nn x)) C) 6000 := by
  refine body_of act15_enters hn (by decide) fun w hw => ?_
  refine ⟨(Bag.one U (act15O n m ta oa za zb zc zd k t p f nn x)).and C, hw, fun _ h => h, fun F lb p' q R h0' => ?_⟩
  obtain ⟨BG, hBG⟩ : ∃ BG, (Bag.one U (act15O n m ta oa za zb zc zd k t p f nn x)).and C = BG := ⟨_, rfl⟩
  have HLE : Hid (C.Le BG) := hBG ▸ ⟨fun _ h => h.2, fun _ h => .inr h⟩
  have HBG := hid hBG
  rw [hBG] at h0'
  have H := hid h0'.drew
  have hb : w.heap[U]? = some (act15O n m ta oa za zb zc zd k t p f nn x) := hw.1
  obtain ⟨c0, c1, c2, c3, c4, c5, c6, c7, c8, c9, c10, c11, c12, c13, c14, c15, c16, c17, c18, c19, c20⟩ := act15_cells hb
  have HC := hid hT
  have b0 : (k == 0) = false := beq_eq_false_iff_ne.2 (by omega)
  have b1 : (k == 1) = false := beq_eq_false_iff_ne.2 (by omega)
  have b2 : (k == 2) = true := beq_iff_eq.2 hk
  clear h0' hb hw hBG hT hn hk
  go_enter Tryz.func13, Tryz.ntmps13
  go_wp2_with fail
  go_region_held (fun w' => w'.cell? ⟨U, 0, none⟩ = some (.int .i64 0) ∧ w'.cell? ⟨U, 1, none⟩ = some (.int .i64 2) ∧ w'.cell? ⟨U, 2, none⟩ = some (.int .i64 4) ∧ w'.cell? ⟨U, 3, none⟩ = some (.int .i64 3) ∧ w'.cell? ⟨U, 4, none⟩ = some (.int .i64 5) ∧ w'.cell? ⟨U, 5, none⟩ = some (.int .i64 6) ∧ w'.cell? ⟨U, 6, none⟩ = some (.int .i64 8) ∧ w'.cell? ⟨U, 7, none⟩ = some (.int .i64 41) ∧ w'.cell? ⟨U, 8, none⟩ = some (.int .i64 43) ∧ w'.cell? ⟨U, 9, none⟩ = some (.slice ta n n) ∧ w'.cell? ⟨U, 10, none⟩ = some (.slice oa m m) ∧ w'.cell? ⟨U, 11, none⟩ = some (.int .i64 (43 + (m : Int) + (n : Int) * 24 + (m : Int) * 24)) ∧ w'.cell? ⟨U, 12, none⟩ = some (.slice za n zc) ∧ w'.cell? ⟨U, 13, none⟩ = some (.slice zb m zd) ∧ w'.cell? ⟨U, 15, none⟩ = some (.int .i64 t) ∧ w'.cell? ⟨U, 16, none⟩ = some (.int .i64 p) ∧ w'.cell? ⟨U, 17, none⟩ = some (.bool f)) (go_keep)
    (first | (go_at_call 44; refine (H.out.tailIn HC.out HLE.out).mono ?_; rintro e w1 ⟨x1, rfl, h1⟩; have hb1 := h1.bag; rw [← HBG.out] at hb1
              have hb2 : w1.heap[U]? = some (act15O n m ta oa za zb zc zd k t p f nn x) := hb1.1
              have H2 := hid h1
              obtain ⟨d0, d1, d2, d3, d4, d5, d6, d7, d8, d9, d10, d11, d12, d13, d14, d15, d16, d17, d18, d19, d20⟩ := act15_cells hb2
              clear h1 hb1 hb2))
  clear H HC c0 c1 c2 c3 c4 c5 c6 c7 c8 c9 c10 c11 c12 c13 c14 c15 c16 c17 c18 c19 c20 d0 d1 d2 d3 d4 d5 d6 d7 d8 d9 d10 d11 d12 d13 d14 d15 d16 d17 d18 d19 d20
  go_wp2_with fail
  go_end0
  exact ⟨x1, BG, rfl, H2.out, by rw [← HBG.out]; exact fun _ h => h, by rw [← HBG.out]; exact fun h => ⟨h, trivial⟩⟩

set_option maxRecDepth 100000 in
set_option maxHeartbeats 2000000 in
theorem act15_yield {j : Nat} {T : Tree Unit j} (hn : j ≤ 200000) (C : Bag) (U n m : Nat) (ta oa za zb : Option Addr) (zc zd : Nat) (k t p : Int) (f : Bool) (nn : Int) (x : Int × Bool) (hk : k = 3) (hT : DoesIn C 45 (fun F => #[F, .agg (planCs n m ta oa (.slice za n zc) (.slice zb m zd)), .int .i64 t]) T (fun _ => .tuple #[])) :
    BodyIn T 13 (ptrV U) (besideK (readK U (act15O n m ta oa za zb zc zd k t p f nn x)) C) 6000 := by
  refine body_of act15_enters hn (by decide) fun w hw => ?_
  refine ⟨(Bag.one U (act15O n m ta oa za zb zc zd k t p f nn x)).and C, hw, fun _ h => h, fun F lb p' q R h0' => ?_⟩
  obtain ⟨BG, hBG⟩ : ∃ BG, (Bag.one U (act15O n m ta oa za zb zc zd k t p f nn x)).and C = BG := ⟨_, rfl⟩
  have HLE : Hid (C.Le BG) := hBG ▸ ⟨fun _ h => h.2, fun _ h => .inr h⟩
  have HBG := hid hBG
  rw [hBG] at h0'
  have H := hid h0'.drew
  have hb : w.heap[U]? = some (act15O n m ta oa za zb zc zd k t p f nn x) := hw.1
  obtain ⟨c0, c1, c2, c3, c4, c5, c6, c7, c8, c9, c10, c11, c12, c13, c14, c15, c16, c17, c18, c19, c20⟩ := act15_cells hb
  have HC := hid hT
  have b0 : (k == 0) = false := beq_eq_false_iff_ne.2 (by omega)
  have b1 : (k == 1) = false := beq_eq_false_iff_ne.2 (by omega)
  have b2 : (k == 2) = false := beq_eq_false_iff_ne.2 (by omega)
  have b3 : (k == 3) = true := beq_iff_eq.2 hk
  clear h0' hb hw hBG hT hn hk
  go_enter Tryz.func13, Tryz.ntmps13
  go_wp2_with fail
  go_region_held (fun w' => w'.cell? ⟨U, 0, none⟩ = some (.int .i64 0) ∧ w'.cell? ⟨U, 1, none⟩ = some (.int .i64 2) ∧ w'.cell? ⟨U, 2, none⟩ = some (.int .i64 4) ∧ w'.cell? ⟨U, 3, none⟩ = some (.int .i64 3) ∧ w'.cell? ⟨U, 4, none⟩ = some (.int .i64 5) ∧ w'.cell? ⟨U, 5, none⟩ = some (.int .i64 6) ∧ w'.cell? ⟨U, 6, none⟩ = some (.int .i64 8) ∧ w'.cell? ⟨U, 7, none⟩ = some (.int .i64 41) ∧ w'.cell? ⟨U, 8, none⟩ = some (.int .i64 43) ∧ w'.cell? ⟨U, 9, none⟩ = some (.slice ta n n) ∧ w'.cell? ⟨U, 10, none⟩ = some (.slice oa m m) ∧ w'.cell? ⟨U, 11, none⟩ = some (.int .i64 (43 + (m : Int) + (n : Int) * 24 + (m : Int) * 24)) ∧ w'.cell? ⟨U, 12, none⟩ = some (.slice za n zc) ∧ w'.cell? ⟨U, 13, none⟩ = some (.slice zb m zd) ∧ w'.cell? ⟨U, 15, none⟩ = some (.int .i64 t)) (go_keep)
    (first | (go_at_call 45; refine (H.out.tailIn HC.out HLE.out).mono ?_; rintro e w1 ⟨x1, rfl, h1⟩; have hb1 := h1.bag; rw [← HBG.out] at hb1
              have hb2 : w1.heap[U]? = some (act15O n m ta oa za zb zc zd k t p f nn x) := hb1.1
              have H2 := hid h1
              obtain ⟨d0, d1, d2, d3, d4, d5, d6, d7, d8, d9, d10, d11, d12, d13, d14, d15, d16, d17, d18, d19, d20⟩ := act15_cells hb2
              clear h1 hb1 hb2))
  clear H HC c0 c1 c2 c3 c4 c5 c6 c7 c8 c9 c10 c11 c12 c13 c14 c15 c16 c17 c18 c19 c20 d0 d1 d2 d3 d4 d5 d6 d7 d8 d9 d10 d11 d12 d13 d14 d15 d16 d17 d18 d19 d20
  go_wp2_with fail
  go_end0
  exact ⟨x1, BG, rfl, H2.out, by rw [← HBG.out]; exact fun _ h => h, by rw [← HBG.out]; exact fun h => ⟨h, trivial⟩⟩

set_option maxRecDepth 100000 in
set_option maxHeartbeats 2000000 in
theorem act15_held {j : Nat} {T : Tree Unit j} (hn : j ≤ 200000) (C : Bag) (U n m : Nat) (ta oa za zb : Option Addr) (zc zd : Nat) (k t p : Int) (f : Bool) (nn : Int) (x : Int × Bool) (hk : k = 4) (hn0 : 0 ≤ nn) (hT : DoesIn C 46 (fun F => #[F, .agg (planCs n m ta oa (.slice za n zc) (.slice zb m zd)), .int .i64 t, .int .i64 10, .int .i64 (nn % 4)]) T (fun _ => .tuple #[])) :
    BodyIn T 13 (ptrV U) (besideK (readK U (act15O n m ta oa za zb zc zd k t p f nn x)) C) 6000 := by
  refine body_of act15_enters hn (by decide) fun w hw => ?_
  refine ⟨(Bag.one U (act15O n m ta oa za zb zc zd k t p f nn x)).and C, hw, fun _ h => h, fun F lb p' q R h0' => ?_⟩
  obtain ⟨BG, hBG⟩ : ∃ BG, (Bag.one U (act15O n m ta oa za zb zc zd k t p f nn x)).and C = BG := ⟨_, rfl⟩
  have HLE : Hid (C.Le BG) := hBG ▸ ⟨fun _ h => h.2, fun _ h => .inr h⟩
  have HBG := hid hBG
  rw [hBG] at h0'
  have H := hid h0'.drew
  have hb : w.heap[U]? = some (act15O n m ta oa za zb zc zd k t p f nn x) := hw.1
  obtain ⟨c0, c1, c2, c3, c4, c5, c6, c7, c8, c9, c10, c11, c12, c13, c14, c15, c16, c17, c18, c19, c20⟩ := act15_cells hb
  have HC : Hid (∀ v : Value, v = .int .i64 (nn % 4) → DoesIn C 46 (fun F => #[F, .agg (planCs n m ta oa (.slice za n zc) (.slice zb m zd)), .int .i64 t, .int .i64 10, v]) T (fun _ => .tuple #[])) := fun v hv => hv ▸ hT
  have b0 : (k == 0) = false := beq_eq_false_iff_ne.2 (by omega)
  have b1 : (k == 1) = false := beq_eq_false_iff_ne.2 (by omega)
  have b2 : (k == 2) = false := beq_eq_false_iff_ne.2 (by omega)
  have b3 : (k == 3) = false := beq_eq_false_iff_ne.2 (by omega)
  have b4 : (k == 4) = true := beq_iff_eq.2 hk
  clear h0' hb hw hBG hT hn hk
  go_enter Tryz.func13, Tryz.ntmps13
  go_wp2_with fail
  go_region_held (fun w' => w'.cell? ⟨U, 0, none⟩ = some (.int .i64 0) ∧ w'.cell? ⟨U, 1, none⟩ = some (.int .i64 2) ∧ w'.cell? ⟨U, 2, none⟩ = some (.int .i64 4) ∧ w'.cell? ⟨U, 3, none⟩ = some (.int .i64 3) ∧ w'.cell? ⟨U, 4, none⟩ = some (.int .i64 5) ∧ w'.cell? ⟨U, 5, none⟩ = some (.int .i64 6) ∧ w'.cell? ⟨U, 6, none⟩ = some (.int .i64 8) ∧ w'.cell? ⟨U, 7, none⟩ = some (.int .i64 41) ∧ w'.cell? ⟨U, 8, none⟩ = some (.int .i64 43) ∧ w'.cell? ⟨U, 9, none⟩ = some (.slice ta n n) ∧ w'.cell? ⟨U, 10, none⟩ = some (.slice oa m m) ∧ w'.cell? ⟨U, 11, none⟩ = some (.int .i64 (43 + (m : Int) + (n : Int) * 24 + (m : Int) * 24)) ∧ w'.cell? ⟨U, 12, none⟩ = some (.slice za n zc) ∧ w'.cell? ⟨U, 13, none⟩ = some (.slice zb m zd) ∧ w'.cell? ⟨U, 15, none⟩ = some (.int .i64 t) ∧ w'.cell? ⟨U, 18, none⟩ = some (.int .u8 nn)) (go_keep)
    (first | (go_at_call 46; refine (H.out.tailIn (HC.out _ (by rw [Int.tmod_eq_emod_of_nonneg hn0, IntKind.wrap_i64]; congr 1; omega)) HLE.out).mono ?_; rintro e w1 ⟨x1, rfl, h1⟩; have hb1 := h1.bag; rw [← HBG.out] at hb1
              have hb2 : w1.heap[U]? = some (act15O n m ta oa za zb zc zd k t p f nn x) := hb1.1
              have H2 := hid h1
              obtain ⟨d0, d1, d2, d3, d4, d5, d6, d7, d8, d9, d10, d11, d12, d13, d14, d15, d16, d17, d18, d19, d20⟩ := act15_cells hb2
              clear h1 hb1 hb2))
  clear H HC c0 c1 c2 c3 c4 c5 c6 c7 c8 c9 c10 c11 c12 c13 c14 c15 c16 c17 c18 c19 c20 d0 d1 d2 d3 d4 d5 d6 d7 d8 d9 d10 d11 d12 d13 d14 d15 d16 d17 d18 d19 d20
  go_wp2_with fail
  go_end0
  exact ⟨x1, BG, rfl, H2.out, by rw [← HBG.out]; exact fun _ h => h, by rw [← HBG.out]; exact fun h => ⟨h, trivial⟩⟩

set_option maxRecDepth 100000 in
set_option maxHeartbeats 2000000 in
theorem act15_disp {j : Nat} {T : Tree (Int × Bool) j} (hn : j ≤ 200000) (C : Bag) (U n m : Nat) (ta oa za zb : Option Addr) (zc zd : Nat) (hCU : ¬ C.V U) (k t p : Int) (f : Bool) (nn : Int) (hk : 4 < k) (hT : DoesIn C 47 (fun F => #[F, .agg (planCs n m ta oa (.slice za n zc) (.slice zb m zd)), .int .i64 t]) T (fun x => .tuple #[.int .i64 x.1, .bool x.2])) :
    BodyIn T 13 (ptrV U) (besideK (cellK U (act15O n m ta oa za zb zc zd k t p f nn)) C) 6000 := by
  refine body_of act15_enters hn (by decide) fun w hw => ?_
  obtain ⟨⟨x0, hb⟩, hC0⟩ := hw
  refine ⟨(Bag.one U (act15O n m ta oa za zb zc zd k t p f nn x0)).and C, ⟨hb, hC0⟩, fun _ h => h, fun F lb p' q R h0' => ?_⟩
  have H := hid h0'.drew
  obtain ⟨c0, c1, c2, c3, c4, c5, c6, c7, c8, c9, c10, c11, c12, c13, c14, c15, c16, c17, c18, c19, c20⟩ := act15_cells hb
  have HC := hid hT
  have HV := hid hCU
  have b0 : (k == 0) = false := beq_eq_false_iff_ne.2 (by omega)
  have b1 : (k == 1) = false := beq_eq_false_iff_ne.2 (by omega)
  have b2 : (k == 2) = false := beq_eq_false_iff_ne.2 (by omega)
  have b3 : (k == 3) = false := beq_eq_false_iff_ne.2 (by omega)
  have b4 : (k == 4) = false := beq_eq_false_iff_ne.2 (by omega)
  clear h0' hb hC0 hT hn hk hCU
  go_enter Tryz.func13, Tryz.ntmps13
  go_wp2_with fail
  go_region_held (fun w' => w'.cell? ⟨U, 0, none⟩ = some (.int .i64 0) ∧ w'.cell? ⟨U, 1, none⟩ = some (.int .i64 2) ∧ w'.cell? ⟨U, 2, none⟩ = some (.int .i64 4) ∧ w'.cell? ⟨U, 3, none⟩ = some (.int .i64 3) ∧ w'.cell? ⟨U, 4, none⟩ = some (.int .i64 5) ∧ w'.cell? ⟨U, 5, none⟩ = some (.int .i64 6) ∧ w'.cell? ⟨U, 6, none⟩ = some (.int .i64 8) ∧ w'.cell? ⟨U, 7, none⟩ = some (.int .i64 41) ∧ w'.cell? ⟨U, 8, none⟩ = some (.int .i64 43) ∧ w'.cell? ⟨U, 9, none⟩ = some (.slice ta n n) ∧ w'.cell? ⟨U, 10, none⟩ = some (.slice oa m m) ∧ w'.cell? ⟨U, 11, none⟩ = some (.int .i64 (43 + (m : Int) + (n : Int) * 24 + (m : Int) * 24)) ∧ w'.cell? ⟨U, 12, none⟩ = some (.slice za n zc) ∧ w'.cell? ⟨U, 13, none⟩ = some (.slice zb m zd) ∧ w'.cell? ⟨U, 15, none⟩ = some (.int .i64 t)) (go_keep)
    (first | (go_at_call 47; refine (H.out.tailIn HC.out ⟨fun _ h => h.2, fun _ h => .inr h⟩).mono ?_; rintro e w1 ⟨x, rfl, h1⟩
              have hb1 : w1.heap[U]? = some (act15O n m ta oa za zb zc zd k t p f nn x0) := h1.bag.1
              have hb2 : (w1.setCell ⟨U, 19, none⟩ (.int .i64 x.1)).heap[U]? = some (act15O n m ta oa za zb zc zd k t p f nn (x.1, x0.2)) := block_setCell hb1 19 _
              have hb3 : (w1.setCell ⟨U, 20, none⟩ (.bool x.2)).heap[U]? = some (act15O n m ta oa za zb zc zd k t p f nn (x0.1, x.2)) := block_setCell hb1 20 _
              have hb4 : ((w1.setCell ⟨U, 19, none⟩ (.int .i64 x.1)).setCell ⟨U, 20, none⟩ (.bool x.2)).heap[U]? = some (act15O n m ta oa za zb zc zd k t p f nn x) := block_setCell hb2 20 _
              have H2 : Hid (At w F lb p' q (fun k => k = U) ((Bag.one U (act15O n m ta oa za zb zc zd k t p f nn x)).and C) (Tree.ret x : Tree (Int × Bool) 0) R ((w1.setCell ⟨U, 19, none⟩ (.int .i64 x.1)).setCell ⟨U, 20, none⟩ (.bool x.2))) := (h1.setIn HV.out 19 (.int .i64 x.1)).setIn HV.out 20 (.bool x.2)
              obtain ⟨d0, d1, d2, d3, d4, d5, d6, d7, d8, d9, d10, d11, d12, d13, d14, d15, d16, d17, d18, d19, d20⟩ := act15_cells hb1
              obtain ⟨e0, e1, e2, e3, e4, e5, e6, e7, e8, e9, e10, e11, e12, e13, e14, e15, e16, e17, e18, e19, e20⟩ := act15_cells hb2
              obtain ⟨f0, f1, f2, f3, f4, f5, f6, f7, f8, f9, f10, f11, f12, f13, f14, f15, f16, f17, f18, f19, f20⟩ := act15_cells hb3
              obtain ⟨g0, g1, g2, g3, g4, g5, g6, g7, g8, g9, g10, g11, g12, g13, g14, g15, g16, g17, g18, g19, g20⟩ := act15_cells hb4
              have z1 := frozen_of_block hb1 19
              have z2 := frozen_of_block hb1 20
              have z3 := frozen_of_block hb2 20
              have z4 := frozen_of_block hb3 19
              clear h1 hb1 hb2 hb3 hb4 H))
  clear HC c0 c1 c2 c3 c4 c5 c6 c7 c8 c9 c10 c11 c12 c13 c14 c15 c16 c17 c18 c19 c20 d0 d1 d2 d3 d4 d5 d6 d7 d8 d9 d10 d11 d12 d13 d14 d15 d16 d17 d18 d19 d20 e0 e1 e2 e3 e4 e5 e6 e7 e8 e9 e10 e11 e12 e13 e14 e15 e16 e17 e18 e19 e20 f0 f1 f2 f3 f4 f5 f6 f7 f8 f9 f10 f11 f12 f13 f14 f15 f16 f17 f18 f19 f20 g0 g1 g2 g3 g4 g5 g6 g7 g8 g9 g10 g11 g12 g13 g14 g15 g16 g17 g18 g19 g20 z1 z2 z3 z4
  go_wp2_with fail
  go_end0
  exact ⟨x, _, rfl, H2.out, fun _ h => h, fun h => ⟨⟨⟨x, h.1⟩, h.2⟩, h.1⟩⟩
end Go.Proofs.YtmcmjcaigipoaaaGreat

/-
  septumlaw15's look, and its act: bodies that call package dispatch (and ready), for any trees that its calls do. Conditions: all of it lies in blocks that are not the same; each call's own contract.
-/
namespace Go.Sept
open Go.RowKit
/-- What is seen of a core: who runs there, whether there is one, whether it is called. -/
abbrev Seen15 : Type := ((Int × Bool) × Bool)
def seenT {d e : Nat} (cur : Tree (Int × Bool) d) (cal : Tree Bool e) : Tree Seen15 (0 + e + d) := cur.bind fun x => cal.bind fun k => (Tree.ret (x, k) : Tree Seen15 0)
def look15T {d e : Nat} (cur : Int → Tree (Int × Bool) d) (cal : Int → Tree Bool e) : Tree (Seen15 × Seen15) (0 + e + d + e + d) :=
  (cur 0).bind fun x0 => (cal 0).bind fun k0 => (cur 1).bind fun x1 => (cal 1).bind fun k1 => (Tree.ret ((x0, k0), (x1, k1)) : Tree (Seen15 × Seen15) 0)
end Go.Sept
namespace Go.Proofs.YtmcmjcaigipoaaaGreat
open Go.RowKit Go.Sept

abbrev look15O (n m : Nat) (ta oa za zb : Option Addr) (zc zd : Nat) (x : Seen15 × Seen15) : Obj := .cells #[.int .i64 0, .int .i64 2, .int .i64 4, .int .i64 3, .int .i64 5, .int .i64 6, .int .i64 8, .int .i64 41, .int .i64 43, .slice ta n n, .slice oa m m, .int .i64 (43 + (m : Int) + (n : Int) * 24 + (m : Int) * 24), .slice za n zc, .slice zb m zd, .int .i64 x.1.1.1, .int .i64 x.2.1.1, .bool x.1.1.2, .bool x.2.1.2, .bool x.1.2, .bool x.2.2] 55
theorem look15_enters (args : Array Value) (w : World) : (callFunc 17 args).run Tryz.prog w = .ok (.enter 17 args) w := enters_of Tryz.func17 (by kernel_rfl) rfl args w
theorem look15_cells {w : World} {U n m : Nat} {ta oa za zb : Option Addr} {zc zd : Nat} {x : Seen15 × Seen15} (h : w.heap[U]? = some (look15O n m ta oa za zb zc zd x)) :
    w.cell? ⟨U, 0, none⟩ = some (.int .i64 0) ∧ w.cell? ⟨U, 1, none⟩ = some (.int .i64 2) ∧ w.cell? ⟨U, 2, none⟩ = some (.int .i64 4) ∧ w.cell? ⟨U, 3, none⟩ = some (.int .i64 3) ∧ w.cell? ⟨U, 4, none⟩ = some (.int .i64 5) ∧ w.cell? ⟨U, 5, none⟩ = some (.int .i64 6) ∧ w.cell? ⟨U, 6, none⟩ = some (.int .i64 8) ∧ w.cell? ⟨U, 7, none⟩ = some (.int .i64 41) ∧ w.cell? ⟨U, 8, none⟩ = some (.int .i64 43) ∧ w.cell? ⟨U, 9, none⟩ = some (.slice ta n n) ∧ w.cell? ⟨U, 10, none⟩ = some (.slice oa m m) ∧ w.cell? ⟨U, 11, none⟩ = some (.int .i64 (43 + (m : Int) + (n : Int) * 24 + (m : Int) * 24)) ∧ w.cell? ⟨U, 12, none⟩ = some (.slice za n zc) ∧ w.cell? ⟨U, 13, none⟩ = some (.slice zb m zd) ∧ w.cell? ⟨U, 14, none⟩ = some (.int .i64 x.1.1.1) ∧ w.cell? ⟨U, 15, none⟩ = some (.int .i64 x.2.1.1) ∧ w.cell? ⟨U, 16, none⟩ = some (.bool x.1.1.2) ∧ w.cell? ⟨U, 17, none⟩ = some (.bool x.2.1.2) ∧ w.cell? ⟨U, 18, none⟩ = some (.bool x.1.2) ∧ w.cell? ⟨U, 19, none⟩ = some (.bool x.2.2) :=
  ⟨cell_of_block h 0, cell_of_block h 1, cell_of_block h 2, cell_of_block h 3, cell_of_block h 4, cell_of_block h 5, cell_of_block h 6, cell_of_block h 7, cell_of_block h 8, cell_of_block h 9, cell_of_block h 10, cell_of_block h 11, cell_of_block h 12, cell_of_block h 13, cell_of_block h 14, cell_of_block h 15, cell_of_block h 16, cell_of_block h 17, cell_of_block h 18, cell_of_block h 19⟩

set_option maxRecDepth 100000 in
set_option maxHeartbeats 4000000 in
theorem look15 {d e : Nat} (C : Bag) (U : Nat) (hC : ¬ C.V U) (n m : Nat) (ta oa za zb : Option Addr) (zc zd : Nat) (cur : Int → Tree (Int × Bool) d) (cal : Int → Tree Bool e) (hd : 0 + e + d + e + d ≤ 200000)
    (hcur : ∀ k : Int, DoesIn C 51 (fun F => #[F, .agg (planCs n m ta oa (.slice za n zc) (.slice zb m zd)), .int .i64 k]) (cur k) (fun x => .tuple #[.int .i64 x.1, .bool x.2]))
    (hcal : ∀ k : Int, DoesIn C 52 (fun F => #[F, .agg (planCs n m ta oa (.slice za n zc) (.slice zb m zd)), .int .i64 k]) (cal k) .bool) :
    BodyIn (look15T cur cal) 17 (ptrV U) (besideK (cellK U (look15O n m ta oa za zb zc zd)) C) 6000 := by
  refine body_of look15_enters hd (by decide) fun w hw => ?_
  obtain ⟨⟨⟨⟨y0, q0⟩, y1, q1⟩, hb⟩, hC0⟩ := hw
  refine ⟨(Bag.one U (look15O n m ta oa za zb zc zd ((y0, q0), (y1, q1)))).and C, ⟨hb, hC0⟩, fun _ h => h, fun F lb p q R h0 => ?_⟩
  have HCUR := hid hcur
  have HCAL := hid hcal
  have HV := hid hC
  have H0 : Hid (At w F lb p q (fun k => k = U) ((Bag.one U (look15O n m ta oa za zb zc zd ((y0, q0), (y1, q1)))).and C) (look15T cur cal) R w) := h0
  clear h0 hb hC0 hcur hcal hC hd
  go_enter Tryz.func17, Tryz.ntmps17
  go_wp2_with fail
  go_loopw [5] (fun i wx => (i = .int .i64 0 ∧ ∃ y0 q0 y1 q1, At w F lb p q (fun k => k = U) ((Bag.one U (look15O n m ta oa za zb zc zd ((y0, q0), (y1, q1)))).and C) (look15T cur cal) R wx) ∨ (i = .int .i64 1 ∧ ∃ x0 k0 y1 q1, At w F lb p q (fun k => k = U) ((Bag.one U (look15O n m ta oa za zb zc zd ((x0, k0), (y1, q1)))).and C) ((cur 1).bind fun x1 => (cal 1).bind fun k1 => (Tree.ret ((x0, k0), (x1, k1)) : Tree (Seen15 × Seen15) 0)) R wx) ∨ (i = .int .i64 2 ∧ ∃ x, At w F lb p q (fun k => k = U) ((Bag.one U (look15O n m ta oa za zb zc zd x)).and C) (Tree.ret x : Tree (Seen15 × Seen15) 0) R wx)) (fun i _ => 2 - (intOf i).toNat)
  case atStart => exact .inl ⟨rfl, _, _, _, _, H0.out⟩
  case round =>
    clear H0
    rcases hrel with ⟨rfl, y0, q0, y1, q1, hat⟩ | ⟨rfl, x0, k0, y1, q1, hat⟩ | ⟨rfl, x, hat⟩
    · have H := hid hat.drew
      obtain ⟨c0, c1, c2, c3, c4, c5, c6, c7, c8, c9, c10, c11, c12, c13, c14, c15, c16, c17, c18, c19⟩ := look15_cells hat.bag.1
      clear hat
      go_wp2_with fail
      go_region_held (fun w' => w'.cell? ⟨U, 0, none⟩ = some (.int .i64 0) ∧ w'.cell? ⟨U, 1, none⟩ = some (.int .i64 2) ∧ w'.cell? ⟨U, 2, none⟩ = some (.int .i64 4) ∧ w'.cell? ⟨U, 3, none⟩ = some (.int .i64 3) ∧ w'.cell? ⟨U, 4, none⟩ = some (.int .i64 5) ∧ w'.cell? ⟨U, 5, none⟩ = some (.int .i64 6) ∧ w'.cell? ⟨U, 6, none⟩ = some (.int .i64 8) ∧ w'.cell? ⟨U, 7, none⟩ = some (.int .i64 41) ∧ w'.cell? ⟨U, 8, none⟩ = some (.int .i64 43) ∧ w'.cell? ⟨U, 9, none⟩ = some (.slice ta n n) ∧ w'.cell? ⟨U, 10, none⟩ = some (.slice oa m m) ∧ w'.cell? ⟨U, 11, none⟩ = some (.int .i64 (43 + (m : Int) + (n : Int) * 24 + (m : Int) * 24)) ∧ w'.cell? ⟨U, 12, none⟩ = some (.slice za n zc) ∧ w'.cell? ⟨U, 13, none⟩ = some (.slice zb m zd)) (go_keep)
        (first | (go_at_call 51; refine (H.out.callIn (HCUR.out 0) ⟨fun _ h => h.2, fun _ h => .inr h⟩).mono ?_; rintro e w1 ⟨x, rfl, h1⟩
                  have hb1 : w1.heap[U]? = some (look15O n m ta oa za zb zc zd ((y0, q0), (y1, q1))) := h1.bag.1
                  have hb2 : (w1.setCell ⟨U, 14, none⟩ (.int .i64 x.1)).heap[U]? = some (look15O n m ta oa za zb zc zd (((x.1, y0.2), q0), (y1, q1))) := block_setCell hb1 14 _
                  have hb3 : (w1.setCell ⟨U, 16, none⟩ (.bool x.2)).heap[U]? = some (look15O n m ta oa za zb zc zd (((y0.1, x.2), q0), (y1, q1))) := block_setCell hb1 16 _
                  have hb4 : ((w1.setCell ⟨U, 14, none⟩ (.int .i64 x.1)).setCell ⟨U, 16, none⟩ (.bool x.2)).heap[U]? = some (look15O n m ta oa za zb zc zd ((x, q0), (y1, q1))) := block_setCell hb2 16 _
                  have H2 : Hid (At w F lb p q (fun k => k = U) ((Bag.one U (look15O n m ta oa za zb zc zd ((x, q0), (y1, q1)))).and C) ((cal 0).bind fun k => (cur 1).bind fun x1 => (cal 1).bind fun k1 => (Tree.ret ((x, k), (x1, k1)) : Tree (Seen15 × Seen15) 0)) R ((w1.setCell ⟨U, 14, none⟩ (.int .i64 x.1)).setCell ⟨U, 16, none⟩ (.bool x.2))) := (h1.setIn HV.out 14 (.int .i64 x.1)).setIn HV.out 16 (.bool x.2)
                  obtain ⟨d0, d1, d2, d3, d4, d5, d6, d7, d8, d9, d10, d11, d12, d13, d14, d15, d16, d17, d18, d19⟩ := look15_cells hb1
                  obtain ⟨e0, e1, e2, e3, e4, e5, e6, e7, e8, e9, e10, e11, e12, e13, e14, e15, e16, e17, e18, e19⟩ := look15_cells hb2
                  obtain ⟨f0, f1, f2, f3, f4, f5, f6, f7, f8, f9, f10, f11, f12, f13, f14, f15, f16, f17, f18, f19⟩ := look15_cells hb3
                  obtain ⟨g0, g1, g2, g3, g4, g5, g6, g7, g8, g9, g10, g11, g12, g13, g14, g15, g16, g17, g18, g19⟩ := look15_cells hb4
                  have z1 := frozen_of_block hb1 14
                  have z2 := frozen_of_block hb1 16
                  have z3 := frozen_of_block hb2 16
                  have z4 := frozen_of_block hb3 14
                  clear h1 hb1 hb2 hb3 hb4 H))
      clear c0 c1 c2 c3 c4 c5 c6 c7 c8 c9 c10 c11 c12 c13 c14 c15 c16 c17 c18 c19 d0 d1 d2 d3 d4 d5 d6 d7 d8 d9 d10 d11 d12 d13 d14 d15 d16 d17 d18 d19 e0 e1 e2 e3 e4 e5 e6 e7 e8 e9 e10 e11 e12 e13 e14 e15 e16 e17 e18 e19 f0 f1 f2 f3 f4 f5 f6 f7 f8 f9 f10 f11 f12 f13 f14 f15 f16 f17 f18 f19 z1 z2 z3 z4
      obtain ⟨W2, hW2⟩ : ∃ W2, ((w1.setCell ⟨U, 14, none⟩ (.int .i64 x.1)).setCell ⟨U, 16, none⟩ (.bool x.2)) = W2 := ⟨_, rfl⟩
      rw [hW2] at H2 g0 g1 g2 g3 g4 g5 g6 g7 g8 g9 g10 g11 g12 g13 g14 g15 g16 g17 g18 g19
      go_upto_region 4 with fail
      try rw [hW2]
      clear hW2
      have H3 := hid H2.out.drew
      clear H2
      go_region_held (fun w' => w'.cell? ⟨U, 0, none⟩ = some (.int .i64 0) ∧ w'.cell? ⟨U, 1, none⟩ = some (.int .i64 2) ∧ w'.cell? ⟨U, 2, none⟩ = some (.int .i64 4) ∧ w'.cell? ⟨U, 3, none⟩ = some (.int .i64 3) ∧ w'.cell? ⟨U, 4, none⟩ = some (.int .i64 5) ∧ w'.cell? ⟨U, 5, none⟩ = some (.int .i64 6) ∧ w'.cell? ⟨U, 6, none⟩ = some (.int .i64 8) ∧ w'.cell? ⟨U, 7, none⟩ = some (.int .i64 41) ∧ w'.cell? ⟨U, 8, none⟩ = some (.int .i64 43) ∧ w'.cell? ⟨U, 9, none⟩ = some (.slice ta n n) ∧ w'.cell? ⟨U, 10, none⟩ = some (.slice oa m m) ∧ w'.cell? ⟨U, 11, none⟩ = some (.int .i64 (43 + (m : Int) + (n : Int) * 24 + (m : Int) * 24)) ∧ w'.cell? ⟨U, 12, none⟩ = some (.slice za n zc) ∧ w'.cell? ⟨U, 13, none⟩ = some (.slice zb m zd)) (go_keep)
        (first | (go_at_call 52; refine (H3.out.callIn (HCAL.out 0) ⟨fun _ h => h.2, fun _ h => .inr h⟩).mono ?_; rintro e w3 ⟨k, rfl, h1⟩
                  have hb1 : w3.heap[U]? = some (look15O n m ta oa za zb zc zd ((x, q0), (y1, q1))) := h1.bag.1
                  have hb2 : (w3.setCell ⟨U, 18, none⟩ (.bool k)).heap[U]? = some (look15O n m ta oa za zb zc zd ((x, k), (y1, q1))) := block_setCell hb1 18 _
                  have H4 : Hid (At w F lb p q (fun k => k = U) ((Bag.one U (look15O n m ta oa za zb zc zd ((x, k), (y1, q1)))).and C) ((cur 1).bind fun x1 => (cal 1).bind fun k1 => (Tree.ret ((x, k), (x1, k1)) : Tree (Seen15 × Seen15) 0)) R (w3.setCell ⟨U, 18, none⟩ (.bool k))) := h1.setIn HV.out 18 (.bool k)
                  obtain ⟨d0, d1, d2, d3, d4, d5, d6, d7, d8, d9, d10, d11, d12, d13, d14, d15, d16, d17, d18, d19⟩ := look15_cells hb1
                  obtain ⟨e0, e1, e2, e3, e4, e5, e6, e7, e8, e9, e10, e11, e12, e13, e14, e15, e16, e17, e18, e19⟩ := look15_cells hb2
                  have z1 := frozen_of_block hb1 18
                  clear h1 hb1 hb2 H3))
      clear d0 d1 d2 d3 d4 d5 d6 d7 d8 d9 d10 d11 d12 d13 d14 d15 d16 d17 d18 d19 e0 e1 e2 e3 e4 e5 e6 e7 e8 e9 e10 e11 e12 e13 e14 e15 e16 e17 e18 e19 g0 g1 g2 g3 g4 g5 g6 g7 g8 g9 g10 g11 g12 g13 g14 g15 g16 g17 g18 g19 z1
      go_wp2_with fail
      go_roundw
      case rel => exact .inr (.inl ⟨by go_num, _, _, _, _, H4.out⟩)
      case measure => simp [intOf]
    · have H := hid hat.drew
      obtain ⟨c0, c1, c2, c3, c4, c5, c6, c7, c8, c9, c10, c11, c12, c13, c14, c15, c16, c17, c18, c19⟩ := look15_cells hat.bag.1
      clear hat
      go_wp2_with fail
      go_region_held (fun w' => w'.cell? ⟨U, 0, none⟩ = some (.int .i64 0) ∧ w'.cell? ⟨U, 1, none⟩ = some (.int .i64 2) ∧ w'.cell? ⟨U, 2, none⟩ = some (.int .i64 4) ∧ w'.cell? ⟨U, 3, none⟩ = some (.int .i64 3) ∧ w'.cell? ⟨U, 4, none⟩ = some (.int .i64 5) ∧ w'.cell? ⟨U, 5, none⟩ = some (.int .i64 6) ∧ w'.cell? ⟨U, 6, none⟩ = some (.int .i64 8) ∧ w'.cell? ⟨U, 7, none⟩ = some (.int .i64 41) ∧ w'.cell? ⟨U, 8, none⟩ = some (.int .i64 43) ∧ w'.cell? ⟨U, 9, none⟩ = some (.slice ta n n) ∧ w'.cell? ⟨U, 10, none⟩ = some (.slice oa m m) ∧ w'.cell? ⟨U, 11, none⟩ = some (.int .i64 (43 + (m : Int) + (n : Int) * 24 + (m : Int) * 24)) ∧ w'.cell? ⟨U, 12, none⟩ = some (.slice za n zc) ∧ w'.cell? ⟨U, 13, none⟩ = some (.slice zb m zd)) (go_keep)
        (first | (go_at_call 51; refine (H.out.callIn (HCUR.out 1) ⟨fun _ h => h.2, fun _ h => .inr h⟩).mono ?_; rintro e w1 ⟨x, rfl, h1⟩
                  have hb1 : w1.heap[U]? = some (look15O n m ta oa za zb zc zd ((x0, k0), (y1, q1))) := h1.bag.1
                  have hb2 : (w1.setCell ⟨U, 15, none⟩ (.int .i64 x.1)).heap[U]? = some (look15O n m ta oa za zb zc zd ((x0, k0), ((x.1, y1.2), q1))) := block_setCell hb1 15 _
                  have hb3 : (w1.setCell ⟨U, 17, none⟩ (.bool x.2)).heap[U]? = some (look15O n m ta oa za zb zc zd ((x0, k0), ((y1.1, x.2), q1))) := block_setCell hb1 17 _
                  have hb4 : ((w1.setCell ⟨U, 15, none⟩ (.int .i64 x.1)).setCell ⟨U, 17, none⟩ (.bool x.2)).heap[U]? = some (look15O n m ta oa za zb zc zd ((x0, k0), (x, q1))) := block_setCell hb2 17 _
                  have H2 : Hid (At w F lb p q (fun k => k = U) ((Bag.one U (look15O n m ta oa za zb zc zd ((x0, k0), (x, q1)))).and C) ((cal 1).bind fun k => (Tree.ret ((x0, k0), (x, k)) : Tree (Seen15 × Seen15) 0)) R ((w1.setCell ⟨U, 15, none⟩ (.int .i64 x.1)).setCell ⟨U, 17, none⟩ (.bool x.2))) := (h1.setIn HV.out 15 (.int .i64 x.1)).setIn HV.out 17 (.bool x.2)
                  obtain ⟨d0, d1, d2, d3, d4, d5, d6, d7, d8, d9, d10, d11, d12, d13, d14, d15, d16, d17, d18, d19⟩ := look15_cells hb1
                  obtain ⟨e0, e1, e2, e3, e4, e5, e6, e7, e8, e9, e10, e11, e12, e13, e14, e15, e16, e17, e18, e19⟩ := look15_cells hb2
                  obtain ⟨f0, f1, f2, f3, f4, f5, f6, f7, f8, f9, f10, f11, f12, f13, f14, f15, f16, f17, f18, f19⟩ := look15_cells hb3
                  obtain ⟨g0, g1, g2, g3, g4, g5, g6, g7, g8, g9, g10, g11, g12, g13, g14, g15, g16, g17, g18, g19⟩ := look15_cells hb4
                  have z1 := frozen_of_block hb1 15
                  have z2 := frozen_of_block hb1 17
                  have z3 := frozen_of_block hb2 17
                  have z4 := frozen_of_block hb3 15
                  clear h1 hb1 hb2 hb3 hb4 H))
      clear c0 c1 c2 c3 c4 c5 c6 c7 c8 c9 c10 c11 c12 c13 c14 c15 c16 c17 c18 c19 d0 d1 d2 d3 d4 d5 d6 d7 d8 d9 d10 d11 d12 d13 d14 d15 d16 d17 d18 d19 e0 e1 e2 e3 e4 e5 e6 e7 e8 e9 e10 e11 e12 e13 e14 e15 e16 e17 e18 e19 f0 f1 f2 f3 f4 f5 f6 f7 f8 f9 f10 f11 f12 f13 f14 f15 f16 f17 f18 f19 z1 z2 z3 z4
      obtain ⟨W2, hW2⟩ : ∃ W2, ((w1.setCell ⟨U, 15, none⟩ (.int .i64 x.1)).setCell ⟨U, 17, none⟩ (.bool x.2)) = W2 := ⟨_, rfl⟩
      rw [hW2] at H2 g0 g1 g2 g3 g4 g5 g6 g7 g8 g9 g10 g11 g12 g13 g14 g15 g16 g17 g18 g19
      go_upto_region 4 with fail
      try rw [hW2]
      clear hW2
      have H3 := hid H2.out.drew
      clear H2
      go_region_held (fun w' => w'.cell? ⟨U, 0, none⟩ = some (.int .i64 0) ∧ w'.cell? ⟨U, 1, none⟩ = some (.int .i64 2) ∧ w'.cell? ⟨U, 2, none⟩ = some (.int .i64 4) ∧ w'.cell? ⟨U, 3, none⟩ = some (.int .i64 3) ∧ w'.cell? ⟨U, 4, none⟩ = some (.int .i64 5) ∧ w'.cell? ⟨U, 5, none⟩ = some (.int .i64 6) ∧ w'.cell? ⟨U, 6, none⟩ = some (.int .i64 8) ∧ w'.cell? ⟨U, 7, none⟩ = some (.int .i64 41) ∧ w'.cell? ⟨U, 8, none⟩ = some (.int .i64 43) ∧ w'.cell? ⟨U, 9, none⟩ = some (.slice ta n n) ∧ w'.cell? ⟨U, 10, none⟩ = some (.slice oa m m) ∧ w'.cell? ⟨U, 11, none⟩ = some (.int .i64 (43 + (m : Int) + (n : Int) * 24 + (m : Int) * 24)) ∧ w'.cell? ⟨U, 12, none⟩ = some (.slice za n zc) ∧ w'.cell? ⟨U, 13, none⟩ = some (.slice zb m zd)) (go_keep)
        (first | (go_at_call 52; refine (H3.out.callIn (HCAL.out 1) ⟨fun _ h => h.2, fun _ h => .inr h⟩).mono ?_; rintro e w3 ⟨k, rfl, h1⟩
                  have hb1 : w3.heap[U]? = some (look15O n m ta oa za zb zc zd ((x0, k0), (x, q1))) := h1.bag.1
                  have hb2 : (w3.setCell ⟨U, 19, none⟩ (.bool k)).heap[U]? = some (look15O n m ta oa za zb zc zd ((x0, k0), (x, k))) := block_setCell hb1 19 _
                  have H4 : Hid (At w F lb p q (fun k => k = U) ((Bag.one U (look15O n m ta oa za zb zc zd ((x0, k0), (x, k)))).and C) ((Tree.ret ((x0, k0), (x, k)) : Tree (Seen15 × Seen15) 0)) R (w3.setCell ⟨U, 19, none⟩ (.bool k))) := h1.setIn HV.out 19 (.bool k)
                  obtain ⟨d0, d1, d2, d3, d4, d5, d6, d7, d8, d9, d10, d11, d12, d13, d14, d15, d16, d17, d18, d19⟩ := look15_cells hb1
                  obtain ⟨e0, e1, e2, e3, e4, e5, e6, e7, e8, e9, e10, e11, e12, e13, e14, e15, e16, e17, e18, e19⟩ := look15_cells hb2
                  have z1 := frozen_of_block hb1 19
                  clear h1 hb1 hb2 H3))
      clear d0 d1 d2 d3 d4 d5 d6 d7 d8 d9 d10 d11 d12 d13 d14 d15 d16 d17 d18 d19 e0 e1 e2 e3 e4 e5 e6 e7 e8 e9 e10 e11 e12 e13 e14 e15 e16 e17 e18 e19 g0 g1 g2 g3 g4 g5 g6 g7 g8 g9 g10 g11 g12 g13 g14 g15 g16 g17 g18 g19 z1
      go_wp2_with fail
      go_roundw
      case rel => exact .inr (.inr ⟨by go_num, _, H4.out⟩)
      case measure => simp [intOf]
    · have H := hid hat
      clear hat
      go_wp2_with fail
      go_end0
      first
        | exact ⟨rfl, x, _, H.out, fun _ h => h, fun h => ⟨⟨⟨x, h.1⟩, h.2⟩, h.1⟩⟩
        | exact ⟨x, _, rfl, H.out, fun _ h => h, fun h => ⟨⟨⟨x, h.1⟩, h.2⟩, h.1⟩⟩
end Go.Proofs.YtmcmjcaigipoaaaGreat

/-
  frame.Run of septumlaw15's look, and seen, for any trees that Current and Called do. Conditions: all of it lies in blocks that are not the same; each call's own contract.
-/
namespace Go.Proofs.YtmcmjcaigipoaaaGreat
open Go.RowKit Go.Sept

set_option maxRecDepth 100000 in
set_option maxHeartbeats 2000000 in
theorem run_look15 {V w : World} {n m g r U : Nat} {ta oa za zb : Option Addr} {zc zd : Nat} {xs : List Int} (h : Mid13 V w (planCs n m ta oa (.slice za n zc) (.slice zb m zd)) n m g r xs) {d e : Nat} (cur : Int → Tree (Int × Bool) d) (cal : Int → Tree Bool e) (hd : 0 + e + d + e + d ≤ 5000)
    (hcur : ∀ k : Int, DoesIn (thBag (planCs n m ta oa (.slice za n zc) (.slice zb m zd)) n m (fun k => k < V.heap.size)) 51 (fun F => #[F, .agg (planCs n m ta oa (.slice za n zc) (.slice zb m zd)), .int .i64 k]) (cur k) (fun x => .tuple #[.int .i64 x.1, .bool x.2]))
    (hcal : ∀ k : Int, DoesIn (thBag (planCs n m ta oa (.slice za n zc) (.slice zb m zd)) n m (fun k => k < V.heap.size)) 52 (fun F => #[F, .agg (planCs n m ta oa (.slice za n zc) (.slice zb m zd)), .int .i64 k]) (cal k) .bool)
    (x : Seen15 × Seen15) (hU : w.heap[U]? = some (look15O n m ta oa za zb zc zd x)) (h1 : V.heap.size ≤ U) (h2 : U ≠ g) (h3 : U ≠ r) :
    Calls Tryz.prog 12 #[.pointer (some ⟨g, 0, none⟩), bodyV 17 (ptrV U), .int .i64 5000] w fun e w' => e = .returned (.bool true) ∧ Mid13 V w' (planCs n m ta oa (.slice za n zc) (.slice zb m zd)) n m g r ((look15T cur cal).alone xs).2.1 ∧ w'.heap[U]? = some (look15O n m ta oa za zb zc zd ((look15T cur cal).alone xs).1) ∧ Only (fun k => k = r ∨ k = U) w w' := by
  have hle := (look15T cur cal).alone_le xs
  have hz := h.only.size
  refine ((look15 _ U (show ¬ U < V.heap.size by omega) n m ta oa za zb zc zd cur cal (by omega) hcur hcal).run_all w g r xs 5000 (.inl ⟨rfl, h.mem⟩) (lt_of_block h.mem.head) h.mem.row.lt ⟨⟨x, hU⟩, h.th, fun k hk => by omega⟩ ?_ (by omega) (by decide) (by decide) (by omega)).mono ?_
  · have a1 := h.hg
    have a2 := h.hr
    rintro k (rfl | hk)
    · exact ⟨h2, h3⟩
    · have hk' : k < V.heap.size := hk
      omega
  · rintro e w' ⟨rfl, k1, k2, k3, k4⟩
    have k5 : Only (fun k => k = r ∨ k = U) w w' := k4
    have a2 := h.hr
    have hp : 0 < ((look15T cur cal).alone xs).2.1.length := by rw [Tree.alone_length]; exact h.pos
    exact ⟨rfl, ⟨k2.2.1, holds_mem k1 hp, h.hg, h.hr, hp, h.only.chain k5 (fun i hi e => by omega)⟩, k3, k5⟩

set_option maxRecDepth 100000 in
set_option maxHeartbeats 2000000 in
theorem seen15 {V w : World} {n m g r : Nat} {ta oa za zb : Option Addr} {zc zd : Nat} {xs : List Int} (h : Mid13 V w (planCs n m ta oa (.slice za n zc) (.slice zb m zd)) n m g r xs) {d e : Nat} (cur : Int → Tree (Int × Bool) d) (cal : Int → Tree Bool e) (hd : 0 + e + d + e + d ≤ 5000)
    (hcur : ∀ k : Int, DoesIn (thBag (planCs n m ta oa (.slice za n zc) (.slice zb m zd)) n m (fun k => k < V.heap.size)) 51 (fun F => #[F, .agg (planCs n m ta oa (.slice za n zc) (.slice zb m zd)), .int .i64 k]) (cur k) (fun x => .tuple #[.int .i64 x.1, .bool x.2]))
    (hcal : ∀ k : Int, DoesIn (thBag (planCs n m ta oa (.slice za n zc) (.slice zb m zd)) n m (fun k => k < V.heap.size)) 52 (fun F => #[F, .agg (planCs n m ta oa (.slice za n zc) (.slice zb m zd)), .int .i64 k]) (cal k) .bool) :
    Calls Tryz.prog 14 #[.agg (planCs n m ta oa (.slice za n zc) (.slice zb m zd)), .pointer (some ⟨g, 0, none⟩)] w fun e w' => ∃ U, e = .returned (.pointer (some ⟨U, 0, none⟩)) ∧ w.heap.size ≤ U ∧ Mid13 V w' (planCs n m ta oa (.slice za n zc) (.slice zb m zd)) n m g r ((look15T cur cal).alone xs).2.1 ∧ w'.heap[U]? = some (look15O n m ta oa za zb zc zd ((look15T cur cal).alone xs).1) ∧ Only (fun k => k = r) w w' := by
  have hW : ∃ W y, W = w.alloc (plO (planCs n m ta oa (.slice za n zc) (.slice zb m zd))) ∧ y = w.heap.size ∧ Only (fun _ => False) w W ∧ W.heap[y]? = some (plO (planCs n m ta oa (.slice za n zc) (.slice zb m zd))) := ⟨_, _, rfl, rfl, (Only.refl _ _).alloc _, heap_new _ _⟩
  obtain ⟨W, y, hWe, hye, hoW, hby⟩ := hW
  have hX : ∃ X U, X = W.alloc (look15O n m ta oa za zb zc zd (((0, false), false), ((0, false), false))) ∧ U = W.heap.size ∧ Only (fun _ => False) W X ∧ X.heap[U]? = some (look15O n m ta oa za zb zc zd (((0, false), false), ((0, false), false))) := ⟨_, _, rfl, rfl, (Only.refl _ _).alloc _, heap_new _ _⟩
  obtain ⟨X, U, hXe, hUe, hoX, hbU⟩ := hX
  have hwU : w.heap.size ≤ U := by have := hoW.size; omega
  have hUg : V.heap.size ≤ U ∧ U ≠ g ∧ U ≠ r := by
    have e1 := h.only.size
    have e2 := lt_of_block h.mem.head
    have e3 := h.mem.row.lt
    exact ⟨by omega, by omega, by omega⟩
  have HRUN := hid (run_look15 ((h.keep hoW).keep hoX) cur cal hd hcur hcal _ hbU hUg.1 hUg.2.1 hUg.2.2)
  have HOX := hid (hoW.chain hoX (fun _ _ h => h))
  have HWU := hid hwU
  obtain ⟨c0, c1, c2, c3, c4, c5, c6, c7, c8, c9, c10, c11, c12, c13⟩ := plan_cells hby
  clear h hoW hby hoX hbU hUg hwU hcur hcal hd
  simp only [look15O] at hXe
  have hmf : ∀ (fn : Fn) (first cap : Array Value) (w : World), (Instr.makeFunc fn first cap).run Tryz.prog w = .ok (.func fn first cap) w := fun _ _ _ _ => rfl
  go_enter Tryz.func14, Tryz.ntmps14
  go_upto_region 1 with fail
  rw [← hWe, ← hye]
  clear hWe hye
  go_upto_region 2 with fail
  rw [← hXe, ← hUe]
  clear hXe hUe c0 c1 c2 c3 c4 c5 c6 c7 c8 c9 c10 c11 c12 c13
  go_wp2_with fail
  refine HRUN.out.mono ?_
  rintro e w3 ⟨rfl, hm3, hb3, ho3⟩
  have HM3 := hid hm3
  have HB3 := hid hb3
  have HO3 : Hid (Only (fun k => k = r) w w3) := (HOX.out.mono (T := fun k => k = r) (fun _ _ h => h.elim)).chain ho3 (fun i hi e => by have := HWU.out; rcases e with e | e; exact e; omega)
  clear hm3 hb3 ho3 HRUN
  go_wp2_with fail
  go_ret
  first
    | exact ⟨U, rfl, HWU.out, HM3.out, HB3.out, HO3.out⟩
    | exact ⟨_, rfl, HWU.out, HM3.out, HB3.out, HO3.out⟩
end Go.Proofs.YtmcmjcaigipoaaaGreat

/-
  septumlaw15's now: who runs on both cores, out of what was seen. Conditions: it was seen.
-/
namespace Go.Sept
open Go.RowKit
/-- Who runs there; -1: nobody. -/
def nowV (x : Seen15) : Int := if x.1.2 = true then x.1.1 else -1
end Go.Sept
namespace Go.Proofs.YtmcmjcaigipoaaaGreat
open Go.RowKit Go.Sept

/-- What stands between the rounds: the result's block, and out's. -/
structure N15 (w : World) (A : Nat) (wx : World) (a c : Int) : Prop where
  ra : wx.heap[A]? = some (.cells #[.int .i64 0, .int .i64 0] 29)
  rb : wx.heap[A + 1]? = some (.cells #[.int .i64 a, .int .i64 c] 29)
  only : Only (fun _ => False) w wx
theorem N15.set0 {w wx : World} {A : Nat} {a c : Int} (h : N15 w A wx a c) (hA : w.heap.size ≤ A) (v : Int) : N15 w A (wx.setCell ⟨A + 1, 0, none⟩ (.int .i64 v)) v c := by
  have ho : Only (fun k => k = A + 1) wx (wx.setCell ⟨A + 1, 0, none⟩ (.int .i64 v)) := (Only.self (A + 1) wx).own 0 _
  exact ⟨(ho.block A (lt_of_block h.ra) (by omega)).trans h.ra, block_setCell h.rb 0 _, h.only.chain ho (fun i hi e => by omega)⟩
theorem N15.set1 {w wx : World} {A : Nat} {a c : Int} (h : N15 w A wx a c) (hA : w.heap.size ≤ A) (v : Int) : N15 w A (wx.setCell ⟨A + 1, 1, none⟩ (.int .i64 v)) a v := by
  have ho : Only (fun k => k = A + 1) wx (wx.setCell ⟨A + 1, 1, none⟩ (.int .i64 v)) := (Only.self (A + 1) wx).own 1 _
  exact ⟨(ho.block A (lt_of_block h.ra) (by omega)).trans h.ra, block_setCell h.rb 1 _, h.only.chain ho (fun i hi e => by omega)⟩

set_option maxRecDepth 100000 in
set_option maxHeartbeats 2000000 in
theorem now15 (w : World) (U n m : Nat) (ta oa za zb : Option Addr) (zc zd : Nat) (x : Seen15 × Seen15) (h : w.heap[U]? = some (look15O n m ta oa za zb zc zd x)) :
    Calls Tryz.prog 16 #[.pointer (some ⟨U, 0, none⟩)] w fun e w' => e = .returned (.agg #[.int .i64 (nowV x.1), .int .i64 (nowV x.2)]) ∧ Only (fun _ => False) w w' := by
  obtain ⟨⟨⟨t0, o0⟩, k0⟩, ⟨⟨t1, o1⟩, k1⟩⟩ := x
  have hU : U < w.heap.size := lt_of_block h
  have HB := hid h
  -- the result's block, and out's
  obtain ⟨A, hA⟩ : ∃ A, w.heap.size = A := ⟨_, rfl⟩
  have HA := hid hA
  clear h
  go_enter Tryz.func16, Tryz.ntmps16
  go_upto_region 2 with fail
  obtain ⟨W, hW⟩ : ∃ W, (w.alloc (.cells #[.int .i64 0, .int .i64 0] 29)).alloc (.cells #[.int .i64 (-1), .int .i64 (-1)] 29) = W := ⟨_, rfl⟩
  have hoW : Only (fun _ => False) w W := by rw [← hW]; exact ((Only.refl _ _).alloc _).alloc _
  have hA0 : W.heap[A]? = some (.cells #[.int .i64 0, .int .i64 0] 29) := by rw [← hW, ← hA]; exact newKeep12 (newAt12 _ _ (by simp))
  have hA1 : W.heap[A + 1]? = some (.cells #[.int .i64 (-1), .int .i64 (-1)] 29) := by rw [← hW, ← hA]; exact newAt12 _ _ (by simp)
  have HST : Hid (N15 w A W (-1) (-1)) := ⟨hA0, hA1, hoW⟩
  have HUA : Hid (U < A) := by show U < A; omega
  rw [hW]
  clear hW hoW hA0 hA1 hA hU
  go_wp2_with fail
  go_loopw [6] (fun i wx => (i = .int .i64 0 ∧ N15 w A wx (-1) (-1)) ∨ (i = .int .i64 1 ∧ N15 w A wx (nowV ((t0, o0), k0)) (-1)) ∨ (i = .int .i64 2 ∧ N15 w A wx (nowV ((t0, o0), k0)) (nowV ((t1, o1), k1)))) (fun i _ => 2 - (intOf i).toNat)
  case atStart => exact .inl ⟨rfl, HST.out⟩
  case round =>
    clear HST
    rcases hrel with ⟨rfl, hst⟩ | ⟨rfl, hst⟩ | ⟨rfl, hst⟩
    · have hbU := (hst.only.block U (lt_of_block HB.out) (fun h => h)).trans HB.out
      obtain ⟨_, _, _, _, _, _, _, _, _, _, _, _, _, _, c14, _, c16, _, _, _⟩ := look15_cells hbU
      have f0 : wr.frozen? ⟨A + 1, 0, none⟩ = false := frozen_of_block hst.rb 0
      have e0 : wr.cell? ⟨A + 1, 0, none⟩ = some (.int .i64 (-1)) := cell_of_block hst.rb 0
      have HS := hid hst
      clear hbU hst
      cases o0
      · go_wp2_with fail
        go_roundw
        case rel => exact .inr (.inl ⟨by go_num, HS.out⟩)
        case measure => simp [intOf]
      · have HS2 := hid (HS.out.set0 (Nat.le_of_eq HA.out) t0)
        go_wp2_with fail
        go_roundw
        case rel => exact .inr (.inl ⟨by go_num, HS2.out⟩)
        case measure => simp [intOf]
    · have hbU := (hst.only.block U (lt_of_block HB.out) (fun h => h)).trans HB.out
      obtain ⟨_, _, _, _, _, _, _, _, _, _, _, _, _, _, _, c15, _, c17, _, _⟩ := look15_cells hbU
      have f0 : wr.frozen? ⟨A + 1, 1, none⟩ = false := frozen_of_block hst.rb 1
      have e0 : wr.cell? ⟨A + 1, 1, none⟩ = some (.int .i64 (-1)) := cell_of_block hst.rb 1
      have HS := hid hst
      clear hbU hst
      cases o1
      · go_wp2_with fail
        go_roundw
        case rel => exact .inr (.inr ⟨by go_num, HS.out⟩)
        case measure => simp [intOf]
      · have HS2 := hid (HS.out.set1 (Nat.le_of_eq HA.out) t1)
        go_wp2_with fail
        go_roundw
        case rel => exact .inr (.inr ⟨by go_num, HS2.out⟩)
        case measure => simp [intOf]
    · have e0 : wr.cell? ⟨A + 1, 0, none⟩ = some (.int .i64 (nowV ((t0, o0), k0))) := cell_of_block hst.rb 0
      have e1 : wr.cell? ⟨A + 1, 1, none⟩ = some (.int .i64 (nowV ((t1, o1), k1))) := cell_of_block hst.rb 1
      have e2 : wr.cell? ⟨A, 0, none⟩ = some (.int .i64 0) := cell_of_block hst.ra 0
      have e3 : wr.cell? ⟨A, 1, none⟩ = some (.int .i64 0) := cell_of_block hst.ra 1
      have f0 : wr.frozen? ⟨A, 0, none⟩ = false := frozen_of_block hst.ra 0
      have f1 : wr.frozen? ⟨A, 1, none⟩ = false := frozen_of_block hst.ra 1
      have hfin : ((wr.setCell ⟨A, 0, none⟩ (.int .i64 (nowV ((t0, o0), k0)))).setCell ⟨A, 1, none⟩ (.int .i64 (nowV ((t1, o1), k1)))).heap[A]? = some (.cells #[.int .i64 (nowV ((t0, o0), k0)), .int .i64 (nowV ((t1, o1), k1))] 29) := block_setCell (block_setCell hst.ra 0 _) 1 _
      have HFIN := hid hfin
      have HOF : Hid (Only (fun _ => False) w ((wr.setCell ⟨A, 0, none⟩ (.int .i64 (nowV ((t0, o0), k0)))).setCell ⟨A, 1, none⟩ (.int .i64 (nowV ((t1, o1), k1))))) := hst.only.chain (((Only.self A wr).own 0 _).own 1 _) (fun i hi e => by have := HA.out; have e' : i = A := e; omega)
      clear hst hfin
      go_wp2_with fail
      exact bodyPost_ret (results_cell_row rfl _ _ A 29 #[.int .i64 (nowV ((t0, o0), k0)), .int .i64 (nowV ((t1, o1), k1))] (0, 0) _ rfl HFIN.out Tryz.underlying29 rfl (by kernel_rfl)) rfl ⟨rfl, HOF.out⟩
end Go.Proofs.YtmcmjcaigipoaaaGreat

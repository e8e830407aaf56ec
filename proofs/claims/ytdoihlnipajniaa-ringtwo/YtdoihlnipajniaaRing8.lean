/-
  The calls of package ring, as trees of accesses. Conditions: none beside what Does asks; a size that is one, or that is none.
-/
import Derived.Test.YtdoihlnipajniaaDoes
namespace Go.Sept
open Go.RowKit

/-- Where the n-th word stands in a ring of the size c. -/
def placeI (c n : Int) : Int := if n < -4611686018427387904 then 2 + n % 18446744073709551616 % c else 2 + n % c
def countsT (a : Int) : Tree (Int × Int) 2 := (loadT (wrap64 a)).bind fun g => (loadT (wrap64 (a + 1))).bind fun t => (Tree.ret (g, t) : Tree (Int × Int) 0)
def putT (a c v : Int) : Tree Bool 5 := (countsT a).bind fun x => if c ≤ wrap64 (x.2 - x.1) then Tree.ret false else (storeT (wrap64 (a + placeI c x.2)) v).bind fun _ => (storeT (wrap64 (a + 1)) (wrap64 (x.2 + 1))).bind fun _ => offT.bind fun o => (Tree.ret (!o) : Tree Bool 0)
def getT (a c : Int) : Tree (Int × Bool) 5 := (countsT a).bind fun x => if wrap64 (x.2 - x.1) ≤ 0 then Tree.ret (0, false) else (loadT (wrap64 (a + placeI c x.1))).bind fun v => (storeT (wrap64 a) (wrap64 (x.1 + 1))).bind fun _ => offT.bind fun o => (Tree.ret (if o = true then (0, false) else (v, true)) : Tree (Int × Bool) 0)
def lenT (a : Int) : Tree Int 3 := (countsT a).bind fun x => offT.bind fun o => (Tree.ret (if o = true then 0 else max (wrap64 (x.2 - x.1)) 0) : Tree Int 0)
def clearT (a : Int) : Tree Unit 2 := (loadT (wrap64 (a + 1))).bind fun t => storeT (wrap64 a) t
end Go.Sept

namespace Go.Proofs.Ytdoihlnipajniaa
open Go.RowKit Go.Sept

theorem ringWords_in (w : World) (c : Int) (h1 : 1 ≤ c) (h2 : c ≤ 16) : Calls Try.prog 15 #[.int .i64 c] w fun e w' => e = .returned (.int .i64 (2 + c)) ∧ w' = w := by
  have k1 : ¬ c < 1 := by omega
  have k2 : ¬ 16 < c := by omega
  go_enter Try.func15, Try.ntmps15
  go_wp2
  go_ret
  exact ⟨rfl, rfl⟩
theorem ringWords_out (w : World) (c : Int) (h : c < 1 ∨ 16 < c) : Calls Try.prog 15 #[.int .i64 c] w fun e w' => e = .returned (.int .i64 0) ∧ w' = w := by
  by_cases k1 : c < 1
  · clear h
    go_enter Try.func15, Try.ntmps15
    go_wp2
    go_ret
    exact ⟨rfl, rfl⟩
  · have k2 : 16 < c := by omega
    clear h
    go_enter Try.func15, Try.ntmps15
    go_wp2
    go_ret
    exact ⟨rfl, rfl⟩

theorem wrap_small {x : Int} (h1 : -1000 ≤ x) (h2 : x ≤ 1000) : wrap64 x = x := by
  unfold wrap64
  omega
theorem round_mod (c n : Int) (h1 : 1 ≤ c) (h2 : c ≤ 16) : wrap64 (2 + (wrap64 (n.tmod c + c)).tmod c) = 2 + n % c := by
  have e1 := Int.emod_nonneg n (show c ≠ 0 by omega)
  have e2 := Int.emod_lt_of_pos n (show 0 < c by omega)
  have e3 : n.tmod c = n % c ∨ n.tmod c = n % c - c := by
    rw [Int.tmod_eq_emod]
    split
    · left; omega
    · right; omega
  have e4 : (wrap64 (n.tmod c + c)).tmod c = n % c := by
    rw [wrap_small (by omega) (by omega), Int.tmod_eq_emod_of_nonneg (by omega)]
    rcases e3 with e | e
    · rw [e, Int.add_emod_right, Int.emod_emod_of_dvd _ (Int.dvd_refl c)]
    · rw [e, Int.sub_add_cancel, Int.emod_emod_of_dvd _ (Int.dvd_refl c)]
  rw [e4, wrap_small (by omega) (by omega)]
theorem far_mod (c n : Int) (h1 : 1 ≤ c) (h2 : c ≤ 16) : wrap64 (2 + wrap64 ((IntKind.u64.wrap n).tmod c)) = 2 + n % 18446744073709551616 % c := by
  have e : IntKind.u64.wrap n = n % 18446744073709551616 := by rw [IntKind.wrap_u64]
  have e0 : 0 ≤ n % 18446744073709551616 := by omega
  rw [e, Int.tmod_eq_emod_of_nonneg e0]
  have e1 := Int.emod_nonneg (n % 18446744073709551616) (show c ≠ 0 by omega)
  have e2 := Int.emod_lt_of_pos (n % 18446744073709551616) (show 0 < c by omega)
  rw [wrap_small (x := n % 18446744073709551616 % c) (by omega) (by omega), wrap_small (by omega) (by omega)]

theorem place_rel (w : World) (c n : Int) (h1 : 1 ≤ c) (h2 : c ≤ 16) : Calls Try.prog 29 #[.int .i64 c, .int .i64 n] w fun e w' => e = .returned (.int .i64 (placeI c n)) ∧ w' = w := by
  have hc0 : c ≠ 0 := by omega
  unfold placeI
  by_cases hn : n < -4611686018427387904
  · rw [if_pos hn, ← far_mod c n h1 h2]
    go_enter Try.func29, Try.ntmps29
    go_wp2
    go_ret
    exact ⟨rfl, rfl⟩
  · rw [if_neg hn, ← round_mod c n h1 h2]
    go_enter Try.func29, Try.ntmps29
    go_wp2
    go_ret
    exact ⟨rfl, rfl⟩

set_option maxHeartbeats 400000 in
theorem counts_does (a : Int) : Does 27 (fun f => #[f, .int .i64 a]) (countsT a) (fun x => .tuple #[.int .i64 x.1, .int .i64 x.2]) := by
  refine Does.of fun w F lb p q R h0 => ?_
  have H := hid h0
  clear h0
  go_enter Try.func27, Try.ntmps27
  go_wp2_with fail
  refine (H.out.call (load_does _)).mono ?_
  rintro e w1 ⟨x1, rfl, h1⟩
  have H1 := hid h1
  clear H h1
  go_wp2_with fail
  refine (H1.out.call (load_does _)).mono ?_
  rintro e w2 ⟨x2, rfl, h2⟩
  have H2 := hid h2
  clear H1 h2
  go_wp2_with fail
  go_ret2
  exact ⟨_, rfl, H2.out⟩

set_option maxHeartbeats 400000 in
theorem clear_does (a : Int) : Does 23 (fun f => #[f, .int .i64 a]) (clearT a) (fun _ => .tuple #[]) := by
  refine Does.of fun w F lb p q R h0 => ?_
  have H := hid h0
  clear h0
  go_enter Try.func23, Try.ntmps23
  go_wp2_with fail
  refine (H.out.call (load_does _)).mono ?_
  rintro e w1 ⟨x1, rfl, h1⟩
  have H1 := hid h1
  clear H h1
  go_wp2_with fail
  refine (H1.out.tail (store_does _ _)).mono ?_
  rintro e w2 ⟨x2, rfl, h2⟩
  have H2 := hid h2
  clear H1 h2
  go_wp2_with fail
  go_end0
  exact ⟨_, rfl, H2.out⟩

set_option maxHeartbeats 400000 in
theorem ringLen_does (a : Int) : Does 22 (fun f => #[f, .int .i64 a]) (lenT a) (.int .i64) := by
  refine Does.of fun w F lb p q R h0 => ?_
  have H := hid h0
  clear h0
  go_enter Try.func22, Try.ntmps22
  go_wp2_with fail
  refine (H.out.call (counts_does _)).mono ?_
  rintro e w1 ⟨⟨g, t⟩, rfl, h1⟩
  have H1 := hid h1
  clear H h1
  go_wp2_with fail
  refine (H1.out.call off_does).mono ?_
  rintro e w2 ⟨o, rfl, h2⟩
  have H2 := hid h2
  clear H1 h2
  cases o
  · by_cases hn : wrap64 (t - g) < 0
    · have H3 := hid (H2.out.eq (t2 := Tree.ret 0) (by rw [if_neg (by decide), Int.max_eq_right (by omega)]))
      clear H2
      go_wp2_with fail
      go_ret
      exact ⟨_, rfl, H3.out⟩
    · have H3 := hid (H2.out.eq (t2 := Tree.ret (wrap64 (t - g))) (by rw [if_neg (by decide), Int.max_eq_left (by omega)]))
      clear H2
      go_wp2_with fail
      go_ret
      exact ⟨_, rfl, H3.out⟩
  · go_wp2_with fail
    go_ret
    exact ⟨_, rfl, H2.out⟩

set_option maxRecDepth 100000 in
set_option maxHeartbeats 1000000 in
theorem put_does (a c v : Int) (h1 : 1 ≤ c) (h2 : c ≤ 16) : Does 20 (fun f => #[f, .int .i64 a, .int .i64 c, .int .i64 v]) (putT a c v) .bool := by
  refine Does.of fun w F lb p q R h0 => ?_
  have H := hid h0
  have HW : Hid (∀ w : World, _) := fun w => ringWords_in w c h1 h2
  have HP : Hid (∀ (w : World) (n : Int), _) := fun w n => place_rel w c n h1 h2
  have hne : (2 + c == 0) = false := beq_eq_false_iff_ne.2 (by omega)
  clear h0 h1 h2
  go_enter Try.func20, Try.ntmps20
  go_wp2_with fail
  refine (HW.out _).mono ?_
  rintro e w0 ⟨rfl, rfl⟩
  go_wp2_with fail
  refine (H.out.call (counts_does _)).mono ?_
  rintro e w1 ⟨⟨g, t⟩, rfl, h1⟩
  by_cases hf : c ≤ wrap64 (t - g)
  · have H1 := hid (h1.pos hf).fin
    clear H h1
    go_wp2_with fail
    go_ret
    exact ⟨_, rfl, H1.out⟩
  · have H1 := hid (h1.neg hf)
    clear H h1
    go_wp2_with fail
    refine (HP.out _ t).mono ?_
    rintro e w2 ⟨rfl, rfl⟩
    go_wp2_with fail
    refine (H1.out.call (store_does _ v)).mono ?_
    rintro e w3 ⟨x3, rfl, h3⟩
    have H3 := hid h3
    clear H1 h3
    go_wp2_with fail
    refine (H3.out.call (store_does _ _)).mono ?_
    rintro e w4 ⟨x4, rfl, h4⟩
    have H4 := hid h4
    clear H3 h4
    go_wp2_with fail
    refine (H4.out.call off_does).mono ?_
    rintro e w5 ⟨o, rfl, h5⟩
    have H5 := hid h5
    clear H4 h5
    go_wp2_with fail
    go_ret
    exact ⟨_, rfl, H5.out⟩

set_option maxRecDepth 100000 in
set_option maxHeartbeats 1000000 in
theorem put_idle (a c v : Int) (h1 : c < 1 ∨ 16 < c) : Does 20 (fun f => #[f, .int .i64 a, .int .i64 c, .int .i64 v]) (Tree.ret false : Tree Bool 0) .bool := by
  refine Does.idle fun w F => ?_
  have HW : Hid (∀ w : World, _) := fun w => ringWords_out w c h1
  clear h1
  go_enter Try.func20, Try.ntmps20
  go_wp2_with fail
  refine (HW.out _).mono ?_
  rintro e w0 ⟨rfl, rfl⟩
  go_wp2_with fail
  go_ret
  exact ⟨rfl, rfl⟩

set_option maxRecDepth 100000 in
set_option maxHeartbeats 1000000 in
theorem get_does (a c : Int) (h1 : 1 ≤ c) (h2 : c ≤ 16) : Does 21 (fun f => #[f, .int .i64 a, .int .i64 c]) (getT a c) (fun x => .tuple #[.int .i64 x.1, .bool x.2]) := by
  refine Does.of fun w F lb p q R h0 => ?_
  have H := hid h0
  have HW : Hid (∀ w : World, _) := fun w => ringWords_in w c h1 h2
  have HP : Hid (∀ (w : World) (n : Int), _) := fun w n => place_rel w c n h1 h2
  have hne : (2 + c == 0) = false := beq_eq_false_iff_ne.2 (by omega)
  clear h0 h1 h2
  go_enter Try.func21, Try.ntmps21
  go_wp2_with fail
  refine (HW.out _).mono ?_
  rintro e w0 ⟨rfl, rfl⟩
  go_wp2_with fail
  refine (H.out.call (counts_does _)).mono ?_
  rintro e w1 ⟨⟨g, t⟩, rfl, h1⟩
  by_cases hf : wrap64 (t - g) ≤ 0
  · have H1 := hid (h1.pos hf).fin
    clear H h1
    go_wp2_with fail
    go_ret2
    exact ⟨_, rfl, H1.out⟩
  · have H1 := hid (h1.neg hf)
    clear H h1
    go_wp2_with fail
    refine (HP.out _ g).mono ?_
    rintro e w2 ⟨rfl, rfl⟩
    go_wp2_with fail
    refine (H1.out.call (load_does _)).mono ?_
    rintro e w3 ⟨x3, rfl, h3⟩
    have H3 := hid h3
    clear H1 h3
    go_wp2_with fail
    refine (H3.out.call (store_does _ _)).mono ?_
    rintro e w4 ⟨x4, rfl, h4⟩
    have H4 := hid h4
    clear H3 h4
    go_wp2_with fail
    refine (H4.out.call off_does).mono ?_
    rintro e w5 ⟨o, rfl, h5⟩
    have H5 := hid h5
    clear H4 h5
    cases o
    · go_wp2_with fail
      go_ret2
      exact ⟨_, rfl, H5.out⟩
    · go_wp2_with fail
      go_ret2
      exact ⟨_, rfl, H5.out⟩

set_option maxRecDepth 100000 in
set_option maxHeartbeats 1000000 in
theorem get_idle (a c : Int) (h1 : c < 1 ∨ 16 < c) : Does 21 (fun f => #[f, .int .i64 a, .int .i64 c]) (Tree.ret (0, false) : Tree (Int × Bool) 0) (fun x => .tuple #[.int .i64 x.1, .bool x.2]) := by
  refine Does.idle fun w F => ?_
  have HW : Hid (∀ w : World, _) := fun w => ringWords_out w c h1
  clear h1
  go_enter Try.func21, Try.ntmps21
  go_wp2_with fail
  refine (HW.out _).mono ?_
  rintro e w0 ⟨rfl, rfl⟩
  go_wp2_with fail
  go_ret2
  exact ⟨rfl, rfl⟩
end Go.Proofs.Ytdoihlnipajniaa

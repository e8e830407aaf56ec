/-
  FrameOver: for every access x and every time the law answers true: behind its end a frame does nothing more; without a body, and out of a step, it does nothing. Conditions: none.
-/
import Derived.Test.YthadfbcknaedgaaOpen2
namespace Go.Proofs.Ythadfbcknaedgaa.frameOver
open Go.Sept Go.RowKit Go.ChangeShapes Go.WideShapes Go.ChangeAt Go.Joins Go.Deep

theorem acc_idle {s : FrSt} (h : s.underway = false) (k a v u : Int) (xs : List Int) : acc k a v u s xs = (0, s, xs) := by
  have h1 : s.isFresh = false := by simp [FrSt.isFresh, h]
  have h2 : s.replay = (0, s) := by rw [FrSt.replay, if_pos h]
  rw [acc, if_neg (by simp [h1]), h2]
theorem ready_fresh (mp : Option Addr) : Ready (fresh mp) := ⟨Nat.zero_lt_succ _, Nat.zero_lt_succ _, Nat.le_refl _⟩

section
variable (w : World) (F lb p q : Nat) (mp : Option Addr) (xs : List Int)
theorem load_idle (h : FMIs w F lb p q (fresh mp) xs) (a : Int) : Calls Try.prog 23 #[.pointer (some ⟨F, 0, none⟩), .int .i64 a] w fun e w' => e = .returned (.int .i64 0) ∧ Left w F lb p q (fresh mp) xs w' := by
  have h1 := fload_rel w F lb p q (fresh mp) xs h (ready_fresh mp) a 0 0
  rw [acc_idle rfl] at h1
  exact h1
theorem add_idle (h : FMIs w F lb p q (fresh mp) xs) (a v : Int) : Calls Try.prog 24 #[.pointer (some ⟨F, 0, none⟩), .int .i64 a, .int .i64 v] w fun e w' => e = .returned (.int .i64 0) ∧ Left w F lb p q (fresh mp) xs w' := by
  have h1 := fadd_rel w F lb p q (fresh mp) xs h (ready_fresh mp) a v 0
  rw [acc_idle rfl] at h1
  exact h1
theorem store_idle (h : FMIs w F lb p q (fresh mp) xs) (a v : Int) : Calls Try.prog 26 #[.pointer (some ⟨F, 0, none⟩), .int .i64 a, .int .i64 v] w fun e w' => e = .returned (.tuple #[]) ∧ Left w F lb p q (fresh mp) xs w' := by
  have h1 := fstore_rel w F lb p q (fresh mp) xs h (ready_fresh mp) a v 0
  rw [acc_idle rfl] at h1
  exact h1
theorem swap_idle (h : FMIs w F lb p q (fresh mp) xs) (a u v : Int) : Calls Try.prog 25 #[.pointer (some ⟨F, 0, none⟩), .int .i64 a, .int .i64 u, .int .i64 v] w fun e w' => e = .returned (.bool false) ∧ Left w F lb p q (fresh mp) xs w' := by
  have h1 := fswap_rel w F lb p q (fresh mp) xs h (ready_fresh mp) 3 a v u (by decide) (by decide) (by decide)
  rw [acc_idle rfl] at h1
  exact h1
end

/-- What stays while the law goes on: the frame and its memory, the access x in its box. -/
structure Going (w0 w : World) (B F lb p q : Nat) (x : Ins) (s : FrSt) (xs : List Int) : Prop where
  fm : FMIs w F lb p q s xs
  box : BoxIns w B x
  far : B < w0.heap.size ∧ w0.heap.size ≤ F ∧ w0.heap.size ≤ lb ∧ w0.heap.size ≤ p ∧ w0.heap.size ≤ q
  only : Only (fun _ => False) w0 w
theorem Going.left {w0 w w' : World} {B F lb p q : Nat} {x : Ins} {s s' : FrSt} {xs xs' : List Int} (h : Going w0 w B F lb p q x s xs) (hl : Left w F lb p q s' xs' w') : ∃ lb', Going w0 w' B F lb' p q x s' xs' := by
  obtain ⟨lb', h1, h2, h3⟩ := hl
  obtain ⟨f1, f2, f3, f4, f5⟩ := h.far
  have z := h.only.size
  refine ⟨lb', h1, h.box.only h3 (not3 (by omega) (by omega) (by omega)), ⟨f1, f2, ?_, f4, f5⟩, h.only.chain h3 (fun i hi e => ?_)⟩
  · rcases h2 with h2 | h2 <;> omega
  · rcases e with e | e | e <;> omega

def insOver : List Ins := [⟨2, 3, 1, 0, false, false, false⟩]

set_option maxRecDepth 100000 in
set_option maxHeartbeats 4000000 in
theorem walk (x : Ins) (now : Int) (w : World) :
    Calls Try.prog 6 #[.agg (insCells x).toArray, .int .i64 now] w fun e w' => e = .returned (.bool true) ∧ Below w.heap.size w w' := by
  have hmf : ∀ (fn : Fn) (first cap : Array Value) (w : World), (Instr.makeFunc fn first cap).run Try.prog w = .ok (.func fn first cap) w := fun _ _ _ _ => rfl
  unfold insCells
  have HO0 : Hid (Only (fun _ => False) w (w.alloc (.cells #[.int .u8 x.k, .int .i64 x.a, .int .i64 x.v, .int .i64 x.u, .bool x.dep, .bool x.skip, .bool x.mark] 57))) := (Only.refl _ _).alloc _
  have HX0 : Hid (BoxIns (w.alloc (.cells #[.int .u8 x.k, .int .i64 x.a, .int .i64 x.v, .int .i64 x.u, .bool x.dep, .bool x.skip, .bool x.mark] 57)) w.heap.size x) := heap_new _ _
  have hz0 : w.heap.size < (w.alloc (.cells #[.int .u8 x.k, .int .i64 x.a, .int .i64 x.v, .int .i64 x.u, .bool x.dep, .bool x.skip, .bool x.mark] 57)).heap.size := by simp
  go_enter Try.func6, Try.ntmps6
  go_wp2_with fail
  refine (awake_any _).mono ?_
  rintro e w1 ⟨rfl, hb1⟩
  have ho1 := Only.of_below hb1 (fun _ => False)
  have HX1 := hid (HX0.out.only ho1 (fun h => h))
  have HO1 := hid (HO0.out.chain ho1 (fun _ _ h => h))
  have hz1 : w.heap.size < w1.heap.size := Nat.lt_of_lt_of_le hz0 ho1.size
  clear HX0 HO0 ho1 hb1 hz0
  go_wp2_with fail
  refine (new_rel _ _).mono ?_
  rintro e w2 ⟨p, q, rfl, hm, hp, hq, ho2⟩
  rw [show clampN 4 = 4 from clamp_nat 4 (by decide)] at hm
  have HX2 := hid (HX1.out.only ho2 (fun h => h))
  have HO2 := hid (ho2)
  have HM := hid hm
  clear hm ho2 HX1
  go_wp2_with fail
  refine (fnew_rel _ _).mono ?_
  rintro e w3 ⟨F, rfl, hf3, hF, ho3⟩
  have l1 : p < w2.heap.size := lt_of_block HM.out.head
  have l2 : q < w2.heap.size := HM.out.row.lt
  have z2 := HO2.out.size
  have hm3 := HM.out.only ho3 (fun h => h) (fun h => h)
  have HG3 : Hid (Going w1 w3 w.heap.size F F p q x (fresh (some ⟨p, 0, none⟩)) [0, 0, 0, 0]) :=
    ⟨⟨hf3, .inl ⟨rfl, hm3⟩, lt_of_block hm3.head, hm3.row.lt, hf3.lt, by omega, by omega, by omega, by omega⟩, HX2.out.only ho3 (fun h => h), ⟨hz1, by omega, by omega, by omega, by omega⟩, HO2.out.chain ho3 (fun _ _ h => h)⟩
  clear hf3 ho3 hm3 HM HX2 HO2 l1 l2 hF
  go_wp2_with fail
  refine (load_idle _ F F p q _ _ HG3.out.fm 0).mono ?_
  rintro e w4 ⟨rfl, hl⟩
  obtain ⟨lb4, hg4⟩ := HG3.out.left hl
  have HG4 := hid hg4
  clear hl hg4 HG3
  go_wp2_with fail
  refine (add_idle _ F lb4 p q _ _ HG4.out.fm 1 5).mono ?_
  rintro e w5 ⟨rfl, hl⟩
  obtain ⟨lb5, hg5⟩ := HG4.out.left hl
  have HG5 := hid hg5
  clear hl hg5 HG4
  go_wp2_with fail
  refine (swap_idle _ F lb5 p q _ _ HG5.out.fm 0 0 9).mono ?_
  rintro e w6 ⟨rfl, hl⟩
  obtain ⟨lb6, hg6⟩ := HG5.out.left hl
  have HG6 := hid hg6
  clear hl hg6 HG5
  go_wp2_with fail
  refine (step_nil _ F lb6 _ _ HG6.out.fm.frame rfl rfl).mono ?_
  rintro e w6' ⟨rfl, rfl⟩
  go_wp2_with fail
  refine (store_idle _ F lb6 p q _ _ HG6.out.fm 2 7).mono ?_
  rintro e w7 ⟨rfl, hl⟩
  obtain ⟨lb7, hg7⟩ := HG6.out.left hl
  have HG7 := hid hg7
  clear hl hg7 HG6
  have hL := prog_laid w7 insOver 1
  have z7 := HG7.out.only.size
  have y1 := HG7.out.fm.frame.lt
  have y2 := HG7.out.fm.ll
  have y3 := HG7.out.fm.lp
  have y4 := HG7.out.fm.lq
  obtain ⟨_, x2, x3, x4, x5⟩ := HG7.out.far
  have HU7 := hid (under_mk (HG7.out.fm.only hL.2.2.1 (fun h => h) (fun h => h) (fun h => h) (fun h => h)) hL.2.1 hL.1 (by omega) (by omega) (by omega) (by omega) (fun _ => ⟨by omega, by omega, by omega, by omega⟩))
  have HB7 := hid (HG7.out.box.only hL.2.2.1 (fun h => h))
  have HO7 : Hid (Only (fun _ => False) w _) := (HO1.out.chain HG7.out.only (fun _ _ h => h)).chain hL.2.2.1 (fun _ _ h => h)
  have hs7 := hL.2.2.2
  clear hL HG7 HO1
  go_wp2_with fail
  refine (step2_go _ F lb7 p q (w7.heap.size + 1) (w7.heap.size + 1) w7.heap.size _ 1 insOver _ [0, 0, 0, 0] 0 [] now [] rfl HU7.out rfl rfl (Live.nil _) (by decide) (by decide)).mono ?_
  rintro e w8 ⟨lb8, gb8, s8, la8, go8, rfl, hU8, ⟨r1, r2, r3, r4⟩, _, hlb8, hgb8, ho8⟩
  have eLog : nextLog insOver [] [0, 0, 0, 0] now = [(0, now)] := rfl
  have eOver : overB insOver [(0, now)] = true := rfl
  rw [eLog] at r2 r4
  rw [eLog, eOver]
  rw [eOver] at r4
  rw [show nextWords insOver [] [0, 0, 0, 0] = [0, 0, 0, 1] by decide +kernel] at hU8
  have HB8 := hid (HB7.out.only ho8 (by rintro (e | e | e | e) <;> omega))
  have HO8 : Hid (Only (fun _ => False) w w8) := HO7.out.chain ho8 (fun i hi e => by rcases e with e | e | e | e <;> omega)
  have HF8 := hid hU8.fm.frame
  have hm8 : Holds 72 w8 (.pointer (some ⟨p, 0, none⟩)) p q [0, 0, 0, 1] := by
    have h9 := hU8.fm.mem
    rwa [r1] at h9
  have HM8 := hid (holds_pos hm8 (n := 0) (by decide)).2
  have HD8 := hid r4
  have HL8 : Hid (s8.log.length = 1) := by rw [r2]; rfl
  clear hU8 ho8 hm8 r1 r2 r3 r4 eLog eOver HU7 HB7 HO7 hs7
  have hbx : w8.heap[w.heap.size]? = some (.cells #[.int .u8 x.k, .int .i64 x.a, .int .i64 x.v, .int .i64 x.u, .bool x.dep, .bool x.skip, .bool x.mark] 57) := HB8.out
  have b0 : w8.cell? ⟨w.heap.size, 0, none⟩ = some (.int .u8 x.k) := Sept.cell_of_block hbx 0
  have b1 : w8.cell? ⟨w.heap.size, 1, none⟩ = some (.int .i64 x.a) := Sept.cell_of_block hbx 1
  have b2 : w8.cell? ⟨w.heap.size, 2, none⟩ = some (.int .i64 x.v) := Sept.cell_of_block hbx 2
  have b3 : w8.cell? ⟨w.heap.size, 3, none⟩ = some (.int .i64 x.u) := Sept.cell_of_block hbx 3
  have b4 : w8.cell? ⟨w.heap.size, 4, none⟩ = some (.bool x.dep) := Sept.cell_of_block hbx 4
  have b5 : w8.cell? ⟨w.heap.size, 5, none⟩ = some (.bool x.skip) := Sept.cell_of_block hbx 5
  have b6 : w8.cell? ⟨w.heap.size, 6, none⟩ = some (.bool x.mark) := Sept.cell_of_block hbx 6
  clear hbx
  go_wp2_with fail
  have hO9 : ∀ o1 o2, Only (fun _ => False) w8 ((w8.alloc o1).alloc o2) := fun o1 o2 => ((Only.refl _ _).alloc _).alloc _
  refine (step_over _ F lb8 s8 now (HF8.out.only (hO9 _ _) (fun h => h) (fun h => h)) HD8.out _).mono ?_
  rintro e w9 ⟨rfl, rfl⟩
  clear b0 b1 b2 b3 b4 b5 b6
  go_wp2_with fail
  refine (words_rel_pos _ p q [0, 0, 0, 1] (HM8.out.only (hO9 _ _) (fun h => h) (fun h => h)) (by decide) (by decide)).mono ?_
  rintro e w10 ⟨b, rfl, hr10, hb10, ho10⟩
  have d0 : w10.cell? ⟨b, 0, none⟩ = some (.int .i64 0) := hr10.cell 0 (by decide)
  have d1 : w10.cell? ⟨b, 1, none⟩ = some (.int .i64 0) := hr10.cell 1 (by decide)
  have d2 : w10.cell? ⟨b, 2, none⟩ = some (.int .i64 0) := hr10.cell 2 (by decide)
  have d3 : w10.cell? ⟨b, 3, none⟩ = some (.int .i64 1) := hr10.cell 3 (by decide)
  have HF10 := hid ((HF8.out.only (hO9 _ _) (fun h => h) (fun h => h)).only ho10 (fun h => h) (fun h => h))
  have HE : Hid (Below w.heap.size w w10) := ((HO8.out.chain (hO9 _ _) (fun _ _ h => h)).chain ho10 (fun _ _ h => h)).below (Nat.le_refl _) (fun _ _ h => h)
  clear hr10 ho10 HM8 HF8 HO8
  go_wp2_with fail
  refine (steps_rel _ F lb8 s8 HF10.out).mono ?_
  rintro e w11 ⟨rfl, rfl⟩
  rw [HL8.out]
  go_wp2_with fail
  go_ret
  exact ⟨rfl, HE.out⟩

set_option maxRecDepth 100000 in
theorem lifted (os : Os) (started : os.Started) (H : Type) (enc : TypeId × Value → H) :
    ReturnsInHanded {} Try.checked os 6 .any (Rows.frameOverSpec.pre6 enc Try.prog Try.f6 Rows.frameOverRow.domain false) (Rows.frameOverSpec.post enc Try.prog Try.f6 false true false false) := by
  refine returnsInHanded_of_change (C := Try.checked) own started (by kernel_rfl) Try.func6
    (ChangeSpec.witness6 (enc := enc) (C := Try.checked) false ⟨#[], #[.agg #[.int .u8 0, .int .i64 0, .int .i64 0, .int .i64 0, .bool false, .bool false, .bool false], .int .i64 0], []⟩ 8 (by kernel_rfl) (by kernel_rfl) (by kernel_rfl) (by kernel_rfl)) ?_
  intro W base args ds gs before hval0 hW hcnd _
  have hval : ∀ (j : Nat) t v, Try.f6.params[j]? = some t → args[j]? = some v → Value.okWide Try.prog W .any base t v := hval0
  have hW' := hW
  obtain ⟨p, q, hA0, hV, rfl, hfz, hnd⟩ := hW
  have hA : DataW.TrodAll enc Try.prog W 0 (fun _ => true) true Try.f6.params.toList args.toList ds p := hA0
  rw [Try.params6] at hA hval
  obtain ⟨v0, vs0, d0, ds0, p0, q0, hargs, rfl, rfl, h0, r0⟩ := trodAll_cons hA
  obtain ⟨v1, vs1, d1, ds1, p1, q1, rfl, rfl, rfl, h1, r1⟩ := trodAll_cons r0
  obtain ⟨rfl, rfl, rfl⟩ := trodAll_nil r1
  obtain rfl : args = #[v0, v1] := by cases args; simp_all
  obtain ⟨x, rfl⟩ := open_ins (hval 0 57 v0 rfl rfl) h0
  obtain ⟨n, rfl, rfl, rfl, wn⟩ := open_int Try.underlying3 (hval 1 3 v1 rfl rfl) h1
  refine (walk x n W).mono fun e W' ⟨he, hg⟩ => ?_
  subst he
  exact ⟨_, rfl, post_law 2 4 laidOut (by kernel_rfl) rfl rfl rfl Try.underlying4 (fun l hl => by match l, hl with | [_, _], _ => rfl) hW' hg⟩

theorem over : Rows.frameOverRow.holds Try.pinned (OpenSpec.ofChange Rows.frameOverSpec) :=
  OpenClaim.holds_of_wide 6 Try.f6 rfl rfl rfl rfl rfl rfl rfl ⟨rfl, rfl, rfl, rfl, rfl⟩ rfl rfl rfl rfl rfl (by kernel_rfl) Try.func6 (by kernel_rfl)
    (of_decide_eq_true (by kernel_rfl)) (by unfold Func.isWrapper; first | (rw [if_pos (by decide +kernel)]; kernel_rfl) | (rw [if_neg (by decide +kernel)]; exact ⟨rfl, rfl⟩))
    (fun os started H enc _ => lifted os started H enc)

theorem proved : Rows.FrameOverSaid := over
#print axioms proved
end Go.Proofs.Ythadfbcknaedgaa.frameOver

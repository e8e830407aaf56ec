/-
  SeqTurns: for every number of words and every list of turns the law answers true: however the steps of one that writes, and of ones that read, are taken in turns, what is read was written whole, not ahead of what was there when the Read began, and not behind what was begun when it ended. Conditions: none.
-/
import Derived.Test.YtcafpdnbceoekaaAwake4
import Derived.Test.YtcafpdnbceoekaaOpens
import Derived.Test.YtcafpdnbceoekaaPlay6
import Derived.Deep.DeepCutAuto
import Derived.Deep.CutBlock
import Derived.BigQuiet
import Derived.Deep.RegionHeld
namespace Go.Proofs.Ytcafpdnbceoekaa.seqTurns
open Go.Sept Go.RowKit Go.ChangeShapes Go.WideShapes Go.ChangeAt Go.Joins Go.Deep

theorem own0 : ownKnob Try.prog.godebug = none := by kernel_rfl
theorem laidOut : laidOutB Try.prog = true := by kernel_rfl

set_option maxRecDepth 100000 in
set_option maxHeartbeats 1000000 in
theorem walk_out (ta : Option Addr) (L tc : Nat) (n : Int) (w : World) (hL : 400 < L) (hm : L ≤ 9223372036854775807) :
    Calls Try.prog 4 #[.int .u8 n, .slice ta L tc] w fun e w' => e = .returned (.bool true) ∧ Below w.heap.size w w' := by
  have hL' : (400 : Int) < L := by omega
  go_enter Try.func4, Try.ntmps4
  go_wp2_with fail
  refine (awake4_any _).mono ?_
  rintro e w1 ⟨rfl, hb1⟩
  go_wp2_with fail
  refine (awake4_any _).mono ?_
  rintro e w2 ⟨rfl, hb2⟩
  have hF : Hid (Below w.heap.size w w2) := ((Only.of_below hb1 (fun _ => False)).chain (Only.of_below hb2 (fun _ => False)) (fun _ _ h => h)).below (Nat.le_refl _) (fun _ _ h => h)
  clear hb1 hb2
  go_wp2_with fail
  go_ret
  exact ⟨rfl, hF.out⟩

theorem tab_ptr {w : World} {T : Nat} {D : Nat → Prop} {Xs : Nat → Nat} (h : Tab w T (fun i x => (∃ ao, x = .pointer ao) ∧ (¬ D i → x = ptr (Xs i)))) {i : Nat} (hi : i < 2) (hd : ¬ D i) : w.cell? ⟨T, i, none⟩ = some (.pointer (some ⟨Xs i, 0, none⟩)) := by
  obtain ⟨v, h1, h2, _⟩ := h.cell hi
  rw [h1, h2.2 hd]
  rfl
theorem tab_int {w : World} {T : Nat} {xs : Nat → Nat} (h : Tab w T (fun i x => x = .int .i64 (xs i : Int))) {i : Nat} (hi : i < 2) : w.cell? ⟨T, i, none⟩ = some (.int .i64 (xs i : Int)) := by
  obtain ⟨v, h1, h2, _⟩ := h.cell hi
  rw [h1, h2]
theorem same_vals (w : World) (ao1 ao2 : Option Addr) (c1 c2 b1 b2 u k : Nat) (h1 : Sees w ao1 (vals u k) b1) (h2 : Sees w ao2 (vals u k) b2) (hk : k ≤ 100) :
    Calls Try.prog 13 #[.slice ao1 k c1, .slice ao2 k c2] w fun e w' => e = .returned (.bool true) ∧ ∃ n, w' = w.drewN n := by
  have h9 := same_words w ao1 ao2 c1 c2 b1 b2 (vals u k) h1 h2 (by rw [vals_length]; omega)
  rwa [vals_length] at h9

/-- A Read begins: what was there then is kept. -/
theorem play_begin {B : Nat} {w : World} {k v n now p q FA RA LA tc WV : Nat} {ta : Option Addr} {Fs Ls Us : Nat → Nat} {ss : Nat → FrSt} {sts : Nat → Nat × Int × List Int} {least : Nat → Nat}
    (h : Play (fun _ => False) B w k v n now p q FA RA LA Fs Ls Us ta tc WV ss sts least) {i : Nat} (hi : i < 2) (hl : (ss i).log.length = 0) :
    Play (fun _ => False) B (w.setCell ⟨LA, i, none⟩ (.int .i64 (v : Int))) k v n now p q FA RA LA Fs Ls Us ta tc WV ss sts (ext least i v) ∧ RInv k v n (ext least i v i) (sts i) := by
  have hoff := h.lay.off
  have ho := (Only.self LA w).own i (.int .i64 (v : Int))
  have h0 : ((ss i).log = [] ∧ sts i = (0, 0, [])) ∨ ((ss i).log ≠ [] ∧ RInv k v n (least i) (sts i)) := h.inv i hi (fun e => e)
  have hl0 := List.length_eq_zero_iff.1 hl
  have hst : sts i = (0, 0, []) := by
    rcases h0 with ⟨_, h1⟩ | ⟨h1, _⟩
    · exact h1
    · exact absurd hl0 h1
  refine ⟨h.tables (ho.mono (fun x _ e => .inr (.inr e))) (h.fa.only ho (fun e => hoff.2.2.2.1 e)) (h.ra.only ho (fun e => hoff.2.2.2.2 e)) (h.la.set _ (by rw [ext_self]) (fun j x _ hj e => by rw [ext_ne _ _ hj]; exact e)) (fun j hj _ => ?_), by rw [ext_self]; exact .inl ⟨hst, Nat.le_refl _⟩⟩
  by_cases e : j = i
  · subst e; exact .inl ⟨hl0, hst⟩
  · rw [ext_ne _ _ e]; exact h.inv j hj (fun e => e)

set_option maxRecDepth 100000 in
set_option maxHeartbeats 2000000 in
theorem walk_in (ta : Option Addr) (tc m : Nat) (l : List Int) (V : Nat) (w : World) (hL : l.length ≤ 400) (hm : m ≤ 255) (hS : SeesOf .u8 w ta l V) (hb : ∀ x ∈ l, 0 ≤ x ∧ x ≤ 255) :
    Calls Try.prog 4 #[.int .u8 (m : Int), .slice ta l.length tc] w fun e w' => e = .returned (.bool true) ∧ Below w.heap.size w w' := by
  have hmf : ∀ (fn : Fn) (first cap : Array Value) (w : World), (Instr.makeFunc fn first cap).run Try.prog w = .ok (.func fn first cap) w := fun _ _ _ _ => rfl
  obtain ⟨k, hk⟩ : ∃ k, k = 1 + m % 6 := ⟨_, rfl⟩
  have hk1 : (1 : Int) + ((m : Int) % 6) = (k : Int) := by omega
  have hk6 : k ≤ 6 := by omega
  have hk0 : 0 < k := by omega
  obtain ⟨L, hLL⟩ : ∃ L, l.length = L := ⟨_, rfl⟩
  have HS := hid hS
  have HL := hid hLL
  have HB := hid hb
  rw [hLL] at hL ⊢
  have hL' : ¬ (400 : Int) < L := by omega
  clear hS hk hLL hb
  go_enter Try.func4, Try.ntmps4
  go_wp2_with fail
  refine (awake4_any _).mono ?_
  rintro e w0 ⟨rfl, hb0⟩
  have HO0 := hid (Only.of_below hb0 (fun _ => False))
  clear hb0
  go_wp2_with fail
  refine (new_rel _ _).mono ?_
  rintro e w1 ⟨p, q, rfl, hm1, hp, hq, ho1⟩
  have hm0 : MemIs 52 w1 p q (memAt k 0 0) := by
    rw [show clampN 20 = 20 from clamp_nat 20 (by decide)] at hm1
    rw [memAt_start, restOf, List.replicate_append_replicate, show 1 + k + (20 - (1 + k)) = 20 by omega]
    exact hm1
  have HM := hid hm0
  have HO1 := hid (HO0.out.chain ho1 (fun _ _ h => h))
  have lz : w.heap.size ≤ w0.heap.size := HO0.out.size
  have lp : w.heap.size ≤ p := by omega
  have lq : w.heap.size ≤ q := by omega
  have l1 : p < w1.heap.size := lt_of_block hm0.head
  have l2 : q < w1.heap.size := hm0.row.lt
  clear hm1 hm0 ho1 HO0 lz hp hq
  go_wp2_with fail
  refine (fnew_rel _ _).mono ?_
  rintro e w2 ⟨F, rfl, hf2, hF, ho2⟩
  have HF := hid hf2
  have HM2 := hid (HM.out.only ho2 (fun h => h) (fun h => h))
  have HO2 := hid (HO1.out.chain ho2 (fun _ _ h => h))
  have lF : F < w2.heap.size := hf2.lt
  have lF1 : w1.heap.size ≤ F := by omega
  clear hf2 hF ho2 HM HO1
  go_wp2_with fail
  refine (values_rel _ 1 k (by omega) (by omega)).mono ?_
  rintro e w3 ⟨ao, cap, VB, rfl, hs3, hv3, ho3⟩
  have HSV := hid hs3
  have HF3 := hid (HF.out.only ho3 (fun h => h) (fun h => h))
  have HM3 := hid (HM2.out.only ho3 (fun h => h) (fun h => h))
  have HO3 := hid (HO2.out.chain ho3 (fun _ _ h => h))
  have lz3 : w2.heap.size ≤ w3.heap.size := ho3.size
  clear hs3 ho3 HF HM2 HO2
  go_wp2_with fail
  have HP0 : Hid (∃ W, W = (((w3.alloc (.cells #[.int .i64 0, .slice ao k cap] 28)).alloc (.cells #[.pointer none, .pointer none] 44)).alloc (.cells #[.pointer none, .pointer none] 45)).alloc (.cells #[.int .i64 0, .int .i64 0] 46) ∧ Play (fun x => 0 ≤ x ∧ x < 2) w.heap.size W k 0 0 0 p q (w3.heap.size + 1) (w3.heap.size + 1 + 1) (w3.heap.size + 1 + 1 + 1) (fun _ => F) (fun _ => F) (fun _ => w3.heap.size) ao cap VB (fun _ => fresh (some ⟨p, 0, none⟩)) (fun _ => (0, 0, [])) (fun _ => 0) ∧ Only (fun _ => False) w W) := by
    refine ⟨_, rfl, play_init ⟨hk0, hk6⟩ HM3.out HF3.out HSV.out lq (by omega) (by omega) (by omega) (by omega) (by rw [writerO, vals_length]), (((HO3.out.alloc _).alloc _).alloc _).alloc _⟩
  obtain ⟨W, hWe, hP0, hO0⟩ := HP0.out
  rw [← hWe]
  have HPL := hid hP0
  have HOL := hid hO0
  obtain ⟨FA, hFA⟩ : ∃ x, x = w3.heap.size + 1 := ⟨_, rfl⟩
  obtain ⟨RA, hRA⟩ : ∃ x, x = w3.heap.size + 1 + 1 := ⟨_, rfl⟩
  obtain ⟨LA, hLA⟩ : ∃ x, x = w3.heap.size + 1 + 1 + 1 := ⟨_, rfl⟩
  obtain ⟨U0, hU0⟩ : ∃ x, x = w3.heap.size := ⟨_, rfl⟩
  rw [← hLA, ← hRA, ← hFA, ← hU0] at HPL ⊢
  clear hWe hP0 hO0 HP0 hFA hRA hLA hU0 HM3 HO3 HF3 HSV hk1
  go_loopw [37] (fun i wx => ∃ (j : Nat) (Fs Ls Us : Nat → Nat) (ss : Nat → FrSt) (sts : Nat → Nat × Int × List Int), i = .int .i64 (j : Int) ∧ j ≤ 2 ∧ Play (fun x => j ≤ x ∧ x < 2) w.heap.size wx k 0 0 0 p q FA RA LA Fs Ls Us ao cap VB ss sts (fun _ => 0) ∧ Fs 2 = F ∧ Us 2 = U0 ∧ Only (fun _ => False) w wx) (fun i _ => 2 - (intOf i).toNat)
  case atStart => exact ⟨0, _, _, _, _, _, rfl, by omega, HPL.out, rfl, rfl, HOL.out⟩
  case round =>
    obtain ⟨j, Fs, Ls, Us, ss, sts, rfl, hj, hP, hF2, hU2, hOx⟩ := hrel
    have HP := hid hP
    have HOx := hid hOx
    have HF2 := hid hF2
    have HU2 := hid hU2
    clear HPL HOL hP hOx hF2 hU2
    by_cases hlt : (j : Int) < 2
    · have hj2 : j < 2 := by omega
      go_wp2_with fail
      refine (fnew_rel _ _).mono ?_
      rintro e w5 ⟨F5, rfl, hf5, hF5, ho5⟩
      have HR : Hid (∃ U5 x0 x1, U5 = w5.heap.size ∧ (w5.alloc (.cells #[.int .i64 0, .int .i64 (k : Int), .slice none 0 0] 31)).cell? ⟨FA, j, none⟩ = some (.pointer x0) ∧ (w5.alloc (.cells #[.int .i64 0, .int .i64 (k : Int), .slice none 0 0] 31)).frozen? ⟨FA, j, none⟩ = false ∧
          ((w5.alloc (.cells #[.int .i64 0, .int .i64 (k : Int), .slice none 0 0] 31)).setCell ⟨FA, j, none⟩ (.pointer (some ⟨F5, 0, none⟩))).cell? ⟨RA, j, none⟩ = some (.pointer x1) ∧ ((w5.alloc (.cells #[.int .i64 0, .int .i64 (k : Int), .slice none 0 0] 31)).setCell ⟨FA, j, none⟩ (.pointer (some ⟨F5, 0, none⟩))).frozen? ⟨RA, j, none⟩ = false ∧
          Play (fun x => j + 1 ≤ x ∧ x < 2) w.heap.size (((w5.alloc (.cells #[.int .i64 0, .int .i64 (k : Int), .slice none 0 0] 31)).setCell ⟨FA, j, none⟩ (.pointer (some ⟨F5, 0, none⟩))).setCell ⟨RA, j, none⟩ (.pointer (some ⟨U5, 0, none⟩))) k 0 0 0 p q FA RA LA (ext Fs j F5) (ext Ls j F5) (ext Us j U5) ao cap VB (ext ss j (fresh (some ⟨p, 0, none⟩))) (ext sts j (0, 0, [])) (fun _ => 0) ∧
          Only (fun _ => False) w (((w5.alloc (.cells #[.int .i64 0, .int .i64 (k : Int), .slice none 0 0] 31)).setCell ⟨FA, j, none⟩ (.pointer (some ⟨F5, 0, none⟩))).setCell ⟨RA, j, none⟩ (.pointer (some ⟨U5, 0, none⟩)))) := by
        have hO6 : Only (fun _ => False) wr (w5.alloc (readerO 0 k (.slice none 0 0))) := ho5.alloc _
        have hP1 := HP.out.still hO6
        have hoff := HP.out.lay.off
        obtain ⟨x0, a1, ⟨⟨y0, rfl⟩, _⟩, a3⟩ := hP1.fa.cell hj2
        have hra := hP1.ra.only ((Only.self FA _).own j (.pointer (some ⟨F5, 0, none⟩))) (fun e => hoff.2.2.1 e.symm)
        obtain ⟨x1, c1, ⟨⟨y1, rfl⟩, _⟩, c3⟩ := hra.cell hj2
        have z1 := ho5.size
        have z2 := hf5.lt
        have tabs := HP.out.lay.tabs
        refine ⟨_, y0, y1, rfl, a1, a3, c1, c3, ?_, ?_⟩
        · exact (HP.out.congr (E := fun x => (j + 1 ≤ x ∧ x < 2) ∨ x = j) (fun x => by omega)).reader hj2 hO6 (hf5.only ((Only.refl (fun _ => False) w5).alloc _) (fun h => h) (fun h => h)) (heap_new _ _) (by omega) (by omega) (by omega)
        · exact ((HOx.out.chain hO6 (fun _ _ h => h)).setCell (p := ⟨FA, j, none⟩) (.inl tabs.2.1) _).setCell (p := ⟨RA, j, none⟩) (.inl tabs.2.2.1) _
      obtain ⟨U5, x0, x1, hU5, a1, a3, c1, c3, hP5, hO5⟩ := HR.out
      rw [hU5] at hP5 hO5
      have HP5 := hid hP5
      have HO5 := hid hO5
      have HF5 : Hid (ext Fs j F5 2 = F ∧ ext Us j U5 2 = U0) := ⟨(ext_ne _ _ (by omega)).trans HF2.out, (ext_ne _ _ (by omega)).trans HU2.out⟩
      rw [hU5] at HF5
      clear hf5 hF5 ho5 HR HP HOx HF2 HU2 hP5 hO5 hU5
      go_wp2_with fail
      go_roundw
      case rel => exact ⟨j + 1, _, _, _, _, _, by go_num, by omega, HP5.out, HF5.out.1, HF5.out.2, HO5.out⟩
      case measure => simp [intOf]; omega
    · obtain rfl : j = 2 := by omega
      have HP2 := hid (HP.out.congr (E := fun _ => False) (fun x => ⟨fun h => by omega, fun h => h.elim⟩))
      have h1 := HF2.out
      have h2 := HU2.out
      subst h1 h2
      clear HP HF2 HU2
      go_wp2_with fail
      go_loopw [52, 7, 8, 9, 14] (fun i vv wf wp bg wx => ∃ (now v n b : Nat) (Fs Ls Us : Nat → Nat) (ta' : Option Addr) (tc' WV : Nat) (ss : Nat → FrSt) (sts : Nat → Nat × Int × List Int) (least : Nat → Nat), i = .int .i64 (now : Int) ∧ vv = .int .i64 (v : Int) ∧ wf = .pointer (some ⟨Fs 2, 0, none⟩) ∧ wp = .pointer (some ⟨Us 2, 0, none⟩) ∧ bg = .int .i64 (b : Int) ∧ now ≤ L ∧ v ≤ b ∧ b ≤ v + 1 ∧ Play (fun _ => False) w.heap.size wx k v n now p q FA RA LA Fs Ls Us ta' tc' WV ss sts least ∧ Only (fun _ => False) w wx) (fun i _ _ _ _ _ => L - (intOf i).toNat)
      case atStart => exact ⟨0, 0, 0, 0, Fs, Ls, Us, ao, cap, VB, ss, sts, fun _ => 0, rfl, rfl, rfl, rfl, rfl, Nat.zero_le _, Nat.le_refl _, by omega, HP2.out, HOx.out⟩
      case round =>
        obtain ⟨now, v, n, b, Fs, Ls, Us, ta', tc', WV, ss, sts, least, rfl, rfl, rfl, rfl, rfl, hnow, hvb, hbv, hP, hO⟩ := hrel
        clear HP2 HOx
        have HP := hid hP
        have HO := hid hO
        have hvn : v ≤ now := hP.vn
        clear hP hO
        by_cases hlt : (now : Int) < L
        · have hnl : now < L := by omega
          have hfree : ∀ a x, a < 3 → own Fs Ls Us WV a x → w.heap.size ≤ x := fun a x ha hx => (HP.out.lay.far a x ha (fun e => e) hx).1.1
          have HFR := hid hfree
          have htabs := HP.out.lay.tabs
          have HTB := hid htabs
          clear hfree htabs
          obtain ⟨off, hc⟩ := (HS.out.only HO.out (fun _ h => h)).cells
          obtain ⟨rfl, hcell⟩ := hc now (by rw [HL.out]; exact hnl)
          obtain ⟨T, hT, hT255⟩ : ∃ T : Nat, l.getD now 0 = (T : Int) ∧ T ≤ 255 := by
            have h9 : l.getD now 0 ∈ l := by
              rw [List.getD_eq_getElem?_getD, List.getElem?_eq_getElem (by rw [HL.out]; exact hnl)]
              exact List.getElem_mem _
            have := HB.out _ h9
            exact ⟨(l.getD now 0).toNat, by omega, by omega⟩
          rw [hT] at hcell
          clear hc hT
          by_cases hi2 : T % 3 = 2
          · have h3 : (T : Int) % 3 = 2 := by omega
            clear hi2
            go_wp2_with fail
            refine (play_write HP.out (fun e => e) (by omega)).mono ?_
            rintro e w5 ⟨L5, s5, ho5, hor⟩
            have HO5 : Hid (Only (fun _ => False) w w5) := HO.out.chain ho5 (fun x hx e => by
              have h1 := HFR.out 2 (Fs 2) (by omega) (.inl rfl)
              have h2 := HFR.out 2 (Ls 2) (by omega) (.inr (.inl rfl))
              have h4 := HFR.out 2 (Us 2) (by omega) (.inr (.inr (.inl rfl)))
              have h5 := HTB.out.1
              omega)
            clear ho5 HP HO
            rcases hor with ⟨rfl, _, hP5⟩ | ⟨rfl, _, hP5⟩
            · have HP5 := hid hP5
              clear hP5 HFR HTB
              go_wp2_with fail
              go_roundw
              case rel => exact ⟨now + 1, v, _, v + 1, Fs, _, Us, ta', tc', WV, _, _, least, by go_num, rfl, rfl, rfl, by go_num, by omega, by omega, by omega, HP5.out, HO5.out⟩
              case measure => simp [intOf]; omega
            · have HP5 := hid hP5
              clear hP5 HFR HTB
              go_wp2_with fail
              refine (fnew_rel _ _).mono ?_
              rintro e w6 ⟨F6, rfl, hf6, hF6, ho6⟩
              have HF6 := hid (And.intro hf6 (And.intro hF6 ho6))
              clear hf6 hF6 ho6
              go_wp2_with fail
              rw [show (v : Int) + 1 + 1 = ((v + 2 : Nat) : Int) by push_cast; omega]
              refine (values_rel _ (v + 2) k (by omega) (by omega)).mono ?_
              rintro e w7 ⟨ao7, cap7, b7, rfl, hs7, hb7, ho7⟩
              have HP7 : Hid (Play (fun _ => False) w.heap.size (w7.alloc (.cells #[.int .i64 0, .slice ao7 k cap7] 28)) k (v + 1) 0 (now + 1) p q FA RA LA (ext Fs 2 F6) (ext (ext Ls 2 L5) 2 F6) (ext Us 2 w7.heap.size) ao7 cap7 b7 (ext (ext ss 2 s5) 2 (fresh (some ⟨p, 0, none⟩))) (ext sts 2 (0, 0, [])) least ∧ Only (fun _ => False) w (w7.alloc (.cells #[.int .i64 0, .slice ao7 k cap7] 28))) := by
                obtain ⟨hf6, hF6, ho6⟩ := HF6.out
                have ho8 : Only (fun _ => False) w6 (w7.alloc (.cells #[.int .i64 0, .slice ao7 k cap7] 28)) := ho7.alloc _
                have z6 := ho6.size
                have z7 := ho7.size
                have l6 := hf6.lt
                refine ⟨(HP5.out.congr (E := fun x => False ∨ x = 2) (fun x => Iff.rfl)).writer (ho6.chain ho8 (fun _ _ h => h)) (hf6.only ho8 (fun h => h) (fun h => h)) ?_ (hs7.only ((Only.refl (fun _ => False) w7).alloc _) (fun _ h => h)) (by omega) (by omega) (by omega) (by omega) (by omega), (HO5.out.chain ho6 (fun _ _ h => h)).chain ho8 (fun _ _ h => h)⟩
                rw [writerO, vals_length]
                exact heap_new _ _
              have he1 : Hid (ext Fs 2 F6 2 = F6 ∧ ext Us 2 w7.heap.size 2 = w7.heap.size) := ⟨ext_self _ _ _, ext_self _ _ _⟩
              clear hs7 hb7 ho7 HF6 HP5 HO5
              go_wp2_with fail
              go_roundw
              case rel => exact ⟨now + 1, v + 1, 0, v + 1, ext Fs 2 F6, _, ext Us 2 w7.heap.size, ao7, cap7, b7, _, _, least, by go_num, by go_num, by rw [he1.out.1], by rw [he1.out.2], by go_num, by omega, by omega, by omega, HP7.out.1, HP7.out.2⟩
              case measure => simp [intOf]; omega
          · obtain ⟨i, hi⟩ : ∃ i, i = T % 3 := ⟨_, rfl⟩
            have h3 : (T : Int) % 3 = (i : Int) := by omega
            have hi2 : i < 2 := by omega
            have hib : ((i : Int) == 2) = false := beq_eq_false_iff_ne.2 (by omega)
            have hil : (i : Int) < 2 := by omega
            have cF : wr.cell? ⟨FA, i, none⟩ = some (.pointer (some ⟨Fs i, 0, none⟩)) := tab_ptr HP.out.fa hi2 (fun e => e)
            have HFI := hid (HP.out.rd i hi2 (fun e => e)).choose_spec.2.near.fm.frame
            obtain ⟨len, hlen⟩ : ∃ len, (ss i).log.length = len := ⟨_, rfl⟩
            have HLE := hid hlen
            clear hi hlen
            go_wp2_with fail
            refine (steps_rel _ _ _ _ HFI.out).mono ?_
            rintro e w5 ⟨rfl, rfl⟩
            rw [HLE.out]
            clear HFI cF
            go_upto_if 84 with fail
            go_cut [] (fun wc => ∃ least', Play (fun _ => False) w.heap.size wc k v n now p q FA RA LA Fs Ls Us ta' tc' WV ss sts least' ∧ RInv k v n (least' i) (sts i) ∧ Only (fun _ => False) w wc)
            case first =>
              by_cases hl0 : len = 0
              · have hl0' : ((len : Int) == 0) = true := by rw [hl0]; rfl
                obtain ⟨hB1, hB2⟩ := play_begin HP.out hi2 (by rw [HLE.out, hl0])
                have HB1 := hid hB1
                have HB2 := hid hB2
                obtain ⟨x0, c1, rfl, c3⟩ := HP.out.la.cell hi2
                have HOL : Hid (Only (fun _ => False) w (w5.setCell ⟨LA, i, none⟩ (.int .i64 (v : Int)))) := HO.out.setCell (p := ⟨LA, i, none⟩) (.inl HTB.out.2.2.2) _
                clear hB1 hB2 hl0 HP HO
                go_wp2_with fail
                go_meet
                case rel => exact ⟨_, HB1.out, HB2.out, HOL.out⟩
              · have hl0' : ((len : Int) == 0) = false := beq_eq_false_iff_ne.2 (by omega)
                have hR : RInv k v n (least i) (sts i) := by
                  rcases HP.out.inv i hi2 (fun e => e) with ⟨h1, _⟩ | ⟨_, h1⟩
                  · exfalso
                    have := HLE.out
                    rw [h1] at this
                    exact hl0 this.symm
                  · exact h1
                have HR := hid hR
                clear hR hl0
                go_wp2_with fail
                go_meet
                case rel => exact ⟨least, HP.out, HR.out, HO.out⟩
            case rest =>
              obtain ⟨lea, hPc, hRc, hOc⟩ := hcut
              clear HP HO HLE
              have cF : wc.cell? ⟨FA, i, none⟩ = some (.pointer (some ⟨Fs i, 0, none⟩)) := tab_ptr hPc.fa hi2 (fun e => e)
              have cU : wc.cell? ⟨RA, i, none⟩ = some (.pointer (some ⟨Us i, 0, none⟩)) := tab_ptr hPc.ra hi2 (fun e => e)
              have HPd := hid (hPc.still (Only.refl (fun _ => False) wc).drew)
              have HOd := hid hOc.drew
              have HRd := hid hRc
              clear hPc hRc hOc
              go_wp2_with fail
              go_region_held (fun w' => w'.cell? ⟨FA, i, none⟩ = some (.pointer (some ⟨Fs i, 0, none⟩)) ∧ w'.cell? ⟨RA, i, none⟩ = some (.pointer (some ⟨Us i, 0, none⟩))) (go_keep)
                (first | (go_at_call 16; refine (play_read HPd.out hi2 ?_ HRd.out ?_).mono ?_; exact fun e => e; omega; rintro x w5 ⟨r5, L5, s5, st5, rfl, ho5, hfa5, hra5, hor5⟩; have HOR := hid hor5; have HO5 : Hid (Only (fun _ => False) w w5) := HOd.out.chain ho5 (fun x hx e => by
                    have h1 := HFR.out i (Fs i) (by omega) (.inl rfl)
                    have h2 := HFR.out i (Ls i) (by omega) (.inr (.inl rfl))
                    have h4 := HFR.out i (Us i) (by omega) (.inr (.inr (.inl rfl)))
                    have h5 := HTB.out.1
                    omega); have d1 : w5.cell? ⟨FA, i, none⟩ = some (.pointer (some ⟨Fs i, 0, none⟩)) := tab_ptr hfa5 hi2 (fun e => e); have d2 : w5.cell? ⟨RA, i, none⟩ = some (.pointer (some ⟨Us i, 0, none⟩)) := tab_ptr hra5 hi2 (fun e => e); clear ho5 hor5 hfa5 hra5))
              clear HPd HOd HRd cF cU d1
              rcases HOR.out with ⟨hr5, hP5⟩ | ⟨hr5, hP5, u, y, hu1, hu2, hy1, g, hg1, hg2, hg3⟩
              · subst hr5
                have HP5 := hid hP5
                clear HOR hP5 HFR HTB d2
                go_wp2_with fail
                go_roundw
                case rel => exact ⟨now + 1, v, n, b, Fs, _, Us, ta', tc', WV, _, _, lea, by go_num, rfl, by rfl, by rfl, rfl, by omega, hvb, hbv, HP5.out, HO5.out⟩
                case measure => simp [intOf]; omega
              · subst hr5
                have HP5 := hid hP5
                have hck : w5.cell? ⟨Us i, 2, none⟩ = some (.slice (some ⟨g, 0, none⟩) k k) := by
                  rw [vals_length] at hg2
                  have h9 := Sept.cell_of_block hy1 2
                  rw [h9, ← hg2]
                  rfl
                have hcu : w5.cell? ⟨g, 0, none⟩ = some (.int .i64 (u : Int)) := by
                  have h9 := hg3.cell 0 (by rw [vals_length]; exact hk0)
                  rw [vals_first u k hk0] at h9
                  exact h9
                have hcl : w5.cell? ⟨LA, i, none⟩ = some (.int .i64 (lea i : Int)) := tab_int hP5.la hi2
                have HG5 := hid hg3.sees
                have hkk : ((k : Int) != (k : Int)) = false := by simp
                have hul : decide ((u : Int) < (lea i : Int)) = false := decide_eq_false (by omega)
                have hub : decide ((b : Int) < (u : Int)) = false := decide_eq_false (by omega)
                have hu4 : u ≤ 1000 := by omega
                clear HOR hP5 hy1 hg1 hg2 hg3 hu1 hu2
                go_wp2_with fail
                have HO5d := hid HO5.out.drew
                have HP5d := hid (HP5.out.still (Only.refl (fun _ => False) w5).drew)
                have HG5d : Hid (Sees w5.drew (some ⟨g, 0, none⟩) (vals u k) g) := HG5.out
                have HCC : Hid (∀ w9, Only (fun _ => False) w5 w9 → w9.cell? ⟨LA, i, none⟩ = some (.int .i64 (lea i : Int)) ∧ w9.cell? ⟨RA, i, none⟩ = some (.pointer (some ⟨Us i, 0, none⟩)) ∧ w9.cell? ⟨Us i, 2, none⟩ = some (.slice (some ⟨g, 0, none⟩) k k)) := fun w9 h9 => ⟨(World.cell?_of_block (h9.block _ (lt_of_cell hcl) (fun h => h))).trans hcl, (World.cell?_of_block (h9.block _ (lt_of_cell d2) (fun h => h))).trans d2, (World.cell?_of_block (h9.block _ (lt_of_cell hck) (fun h => h))).trans hck⟩
                clear HO5 HP5 HG5 hcu
                refine wp_region_held_drew (S := fun w' => w'.cell? ⟨LA, i, none⟩ = some (.int .i64 (lea i : Int)) ∧ w'.cell? ⟨RA, i, none⟩ = some (.pointer (some ⟨Us i, 0, none⟩)) ∧ w'.cell? ⟨Us i, 2, none⟩ = some (.slice (some ⟨g, 0, none⟩) k k)) (by kernel_rfl) ?_ (fun hHeld => ?_)
                · (try dsimp only); go_keep
                refine wpAnyH_take (i := 0) (oi := { dst := some 115, op := Go.Op.move (Go.Operand.tmp 17), type := 3, pos := _, after := #[], guard := none }) (v := ?_) rfl (by kernel_rfl) (by kernel_rfl) (by kernel_rfl) (fun _ _ _ h => h) (Or.inl ⟨by rfl, ?_⟩) (by assumption) ?_
                rotate_left 1
                · intro w' hSw
                  try dsimp only at hSw
                  go_simp
                  try with_reducible rfl
                try simp only [Act.put, List.setIfInBounds_toArray, List.set_cons_zero, List.set_cons_succ]
                refine wpAnyH_take (i := 1) (oi := { dst := some 116, op := Go.Op.move (Go.Operand.tmp 16), type := 3, pos := _, after := #[], guard := none }) (v := ?_) rfl (by kernel_rfl) (by kernel_rfl) (by kernel_rfl) (fun _ _ _ h => h) (Or.inl ⟨by rfl, ?_⟩) (by assumption) ?_
                rotate_left 1
                · intro w' hSw
                  try dsimp only at hSw
                  go_simp
                  try with_reducible rfl
                try simp only [Act.put, List.setIfInBounds_toArray, List.set_cons_zero, List.set_cons_succ]
                refine wpAnyH_take (i := 2) (oi := { dst := some 117, op := Go.Op.indexAddr 46 (Go.Operand.tmp 12) (Go.Operand.tmp 116), type := 0, pos := _, after := #[{ on := 1, ground := Go.Ground.data }], guard := none }) (v := ?_) rfl (by kernel_rfl) (by kernel_rfl) (by kernel_rfl) (fun _ _ _ h => h) (Or.inl ⟨by rfl, ?_⟩) (by assumption) ?_
                rotate_left 1
                · intro w' hSw
                  try dsimp only at hSw
                  go_simp
                  try with_reducible rfl
                try simp only [Act.put, List.setIfInBounds_toArray, List.set_cons_zero, List.set_cons_succ]
                refine wpAnyH_take (i := 3) (oi := { dst := some 118, op := Go.Op.load 3 (Go.Operand.tmp 117), type := 3, pos := _, after := #[{ on := 2, ground := Go.Ground.data }], guard := none }) (v := ?_) rfl (by kernel_rfl) (by kernel_rfl) (by kernel_rfl) (fun _ _ _ h => h) (Or.inl ⟨by rfl, ?_⟩) (by assumption) ?_
                rotate_left 1
                · intro w' hSw
                  try dsimp only at hSw
                  go_simp
                  try with_reducible rfl
                try simp only [Act.put, List.setIfInBounds_toArray, List.set_cons_zero, List.set_cons_succ]
                refine wpAnyH_take (i := 4) (oi := { dst := some 119, op := Go.Op.binOp Go.BinOp.lss 3 (Go.Operand.tmp 115) (Go.Operand.tmp 118) 3, type := 4, pos := _, after := #[{ on := 0, ground := Go.Ground.data }, { on := 3, ground := Go.Ground.data }], guard := none }) (v := .bool false) rfl (by kernel_rfl) (by kernel_rfl) (by kernel_rfl) (fun _ _ _ h => h) (Or.inl ⟨by rfl, ?_⟩) (by assumption) ?_
                · intro w' hSw
                  try dsimp only at hSw
                  go_simp
                  first | exact hul | (have h9 := of_decide_eq_false hul; omega) | exact congrArg Value.bool hul
                try simp only [Act.put, List.setIfInBounds_toArray, List.set_cons_zero, List.set_cons_succ]
                refine wpAnyH_take (i := 5) (oi := { dst := some 120, op := Go.Op.move (Go.Operand.tmp 119), type := 4, pos := _, after := #[{ on := 4, ground := Go.Ground.data }], guard := none }) (v := ?_) rfl (by kernel_rfl) (by kernel_rfl) (by kernel_rfl) (fun _ _ _ h => h) (Or.inl ⟨by rfl, ?_⟩) (by assumption) ?_
                rotate_left 1
                · intro w' hSw
                  try dsimp only at hSw
                  go_simp
                  try with_reducible rfl
                try simp only [Act.put, List.setIfInBounds_toArray, List.set_cons_zero, List.set_cons_succ]
                refine wpAnyH_take (i := 6) (oi := { dst := some 121, op := Go.Op.move (Go.Operand.tmp 17), type := 3, pos := _, after := #[{ on := 5, ground := Go.Ground.guard }], guard := some (5, false) }) (v := ?_) rfl (by kernel_rfl) (by kernel_rfl) (by kernel_rfl) (fun _ _ _ h => h) (Or.inl ⟨by rfl, ?_⟩) (by assumption) ?_
                rotate_left 1
                · intro w' hSw
                  try dsimp only at hSw
                  go_simp
                  try with_reducible rfl
                try simp only [Act.put, List.setIfInBounds_toArray, List.set_cons_zero, List.set_cons_succ]
                refine wpAnyH_take (i := 7) (oi := { dst := some 122, op := Go.Op.move (Go.Operand.tmp 14), type := 3, pos := _, after := #[{ on := 5, ground := Go.Ground.guard }], guard := some (5, false) }) (v := ?_) rfl (by kernel_rfl) (by kernel_rfl) (by kernel_rfl) (fun _ _ _ h => h) (Or.inl ⟨by rfl, ?_⟩) (by assumption) ?_
                rotate_left 1
                · intro w' hSw
                  try dsimp only at hSw
                  go_simp
                  try with_reducible rfl
                try simp only [Act.put, List.setIfInBounds_toArray, List.set_cons_zero, List.set_cons_succ]
                refine wpAnyH_take (i := 8) (oi := { dst := some 123, op := Go.Op.binOp Go.BinOp.gtr 3 (Go.Operand.tmp 121) (Go.Operand.tmp 122) 3, type := 4, pos := _, after := #[{ on := 6, ground := Go.Ground.data }, { on := 7, ground := Go.Ground.data }, { on := 5, ground := Go.Ground.guard }], guard := some (5, false) }) (v := .bool false) rfl (by kernel_rfl) (by kernel_rfl) (by kernel_rfl) (fun _ _ _ h => h) (Or.inl ⟨by rfl, ?_⟩) (by assumption) ?_
                · intro w' hSw
                  try dsimp only at hSw
                  go_simp
                  first | exact hub | (have h9 := of_decide_eq_false hub; omega) | exact congrArg Value.bool hub
                try simp only [Act.put, List.setIfInBounds_toArray, List.set_cons_zero, List.set_cons_succ]
                refine wpAnyH_take (i := 9) (oi := { dst := some 124, op := Go.Op.pick (Go.Operand.tmp 120) (Go.Operand.const (Go.Value.bool true)) (Go.Operand.tmp 123), type := 4, pos := _, after := #[{ on := 5, ground := Go.Ground.data }, { on := 8, ground := Go.Ground.data }], guard := none }) (v := ?_) rfl (by kernel_rfl) (by kernel_rfl) (by kernel_rfl) (fun _ _ _ h => h) (Or.inl ⟨by rfl, ?_⟩) (by assumption) ?_
                rotate_left 1
                · intro w' hSw
                  try dsimp only at hSw
                  go_simp
                  try with_reducible rfl
                try simp only [Act.put, List.setIfInBounds_toArray, List.set_cons_zero, List.set_cons_succ]
                refine wpAnyH_take (i := 10) (oi := { dst := some 125, op := Go.Op.move (Go.Operand.tmp 124), type := 4, pos := _, after := #[{ on := 9, ground := Go.Ground.data }, { on := 5, ground := Go.Ground.chain }], guard := none }) (v := ?_) rfl (by kernel_rfl) (by kernel_rfl) (by kernel_rfl) (fun _ _ _ h => h) (Or.inl ⟨by rfl, ?_⟩) (by assumption) ?_
                rotate_left 1
                · intro w' hSw
                  try dsimp only at hSw
                  go_simp
                  try with_reducible rfl
                try simp only [Act.put, List.setIfInBounds_toArray, List.set_cons_zero, List.set_cons_succ]
                refine wpAnyH_take (i := 11) (oi := { dst := some 126, op := Go.Op.move (Go.Operand.tmp 16), type := 3, pos := _, after := #[{ on := 10, ground := Go.Ground.guard }], guard := some (10, false) }) (v := ?_) rfl (by kernel_rfl) (by kernel_rfl) (by kernel_rfl) (fun _ _ _ h => h) (Or.inl ⟨by rfl, ?_⟩) (by assumption) ?_
                rotate_left 1
                · intro w' hSw
                  try dsimp only at hSw
                  go_simp
                  try with_reducible rfl
                try simp only [Act.put, List.setIfInBounds_toArray, List.set_cons_zero, List.set_cons_succ]
                refine wpAnyH_take (i := 12) (oi := { dst := some 127, op := Go.Op.indexAddr 45 (Go.Operand.tmp 11) (Go.Operand.tmp 126), type := 0, pos := _, after := #[{ on := 11, ground := Go.Ground.data }, { on := 10, ground := Go.Ground.guard }], guard := some (10, false) }) (v := ?_) rfl (by kernel_rfl) (by kernel_rfl) (by kernel_rfl) (fun _ _ _ h => h) (Or.inl ⟨by rfl, ?_⟩) (by assumption) ?_
                rotate_left 1
                · intro w' hSw
                  try dsimp only at hSw
                  go_simp
                  try with_reducible rfl
                try simp only [Act.put, List.setIfInBounds_toArray, List.set_cons_zero, List.set_cons_succ]
                refine wpAnyH_take (i := 13) (oi := { dst := some 128, op := Go.Op.load 29 (Go.Operand.tmp 127), type := 29, pos := _, after := #[{ on := 12, ground := Go.Ground.data }, { on := 10, ground := Go.Ground.guard }], guard := some (10, false) }) (v := ?_) rfl (by kernel_rfl) (by kernel_rfl) (by kernel_rfl) (fun _ _ _ h => h) (Or.inl ⟨by rfl, ?_⟩) (by assumption) ?_
                rotate_left 1
                · intro w' hSw
                  try dsimp only at hSw
                  go_simp
                  try with_reducible rfl
                try simp only [Act.put, List.setIfInBounds_toArray, List.set_cons_zero, List.set_cons_succ]
                refine wpAnyH_take (i := 14) (oi := { dst := some 129, op := Go.Op.nilCheck (Go.Operand.tmp 128), type := 0, pos := _, after := #[{ on := 13, ground := Go.Ground.data }, { on := 10, ground := Go.Ground.guard }], guard := some (10, false) }) (v := ?_) rfl (by kernel_rfl) (by kernel_rfl) (by kernel_rfl) (fun _ _ _ h => h) (Or.inl ⟨by rfl, ?_⟩) (by assumption) ?_
                rotate_left 1
                · intro w' hSw
                  try dsimp only at hSw
                  go_simp
                  try with_reducible rfl
                try simp only [Act.put, List.setIfInBounds_toArray, List.set_cons_zero, List.set_cons_succ]
                refine wpAnyH_take (i := 15) (oi := { dst := some 130, op := Go.Op.fieldAddr 31 (Go.Operand.tmp 129) 2, type := 0, pos := _, after := #[{ on := 14, ground := Go.Ground.data }, { on := 10, ground := Go.Ground.guard }], guard := some (10, false) }) (v := ?_) rfl (by kernel_rfl) (by kernel_rfl) (by kernel_rfl) (fun _ _ _ h => h) (Or.inl ⟨by rfl, ?_⟩) (by assumption) ?_
                rotate_left 1
                · intro w' hSw
                  try dsimp only at hSw
                  go_simp
                  try with_reducible rfl
                try simp only [Act.put, List.setIfInBounds_toArray, List.set_cons_zero, List.set_cons_succ]
                refine wpAnyH_take (i := 16) (oi := { dst := some 131, op := Go.Op.load 22 (Go.Operand.tmp 130), type := 22, pos := _, after := #[{ on := 15, ground := Go.Ground.data }, { on := 10, ground := Go.Ground.guard }], guard := some (10, false) }) (v := ?_) rfl (by kernel_rfl) (by kernel_rfl) (by kernel_rfl) (fun _ _ _ h => h) (Or.inl ⟨by rfl, ?_⟩) (by assumption) ?_
                rotate_left 1
                · intro w' hSw
                  try dsimp only at hSw
                  go_simp
                  try with_reducible rfl
                try simp only [Act.put, List.setIfInBounds_toArray, List.set_cons_zero, List.set_cons_succ]
                refine wpAnyH_take (i := 17) (oi := { dst := some 132, op := Go.Op.move (Go.Operand.tmp 17), type := 3, pos := _, after := #[{ on := 10, ground := Go.Ground.guard }], guard := some (10, false) }) (v := ?_) rfl (by kernel_rfl) (by kernel_rfl) (by kernel_rfl) (fun _ _ _ h => h) (Or.inl ⟨by rfl, ?_⟩) (by assumption) ?_
                rotate_left 1
                · intro w' hSw
                  try dsimp only at hSw
                  go_simp
                  try with_reducible rfl
                try simp only [Act.put, List.setIfInBounds_toArray, List.set_cons_zero, List.set_cons_succ]
                refine wpAnyH_take (i := 18) (oi := { dst := some 133, op := Go.Op.move (Go.Operand.tmp 5), type := 3, pos := _, after := #[{ on := 10, ground := Go.Ground.guard }], guard := some (10, false) }) (v := ?_) rfl (by kernel_rfl) (by kernel_rfl) (by kernel_rfl) (fun _ _ _ h => h) (Or.inl ⟨by rfl, ?_⟩) (by assumption) ?_
                rotate_left 1
                · intro w' hSw
                  try dsimp only at hSw
                  go_simp
                  try with_reducible rfl
                try simp only [Act.put, List.setIfInBounds_toArray, List.set_cons_zero, List.set_cons_succ]
                refine wpAnyH_ready (rs := [19]) (by kernel_rfl) (by simp) ?_
                refine AllReadyH.cons rfl (fun K hK => ?_) AllReadyH.nil
                go_simp
                go_wp2_with (go_at_call 15; refine (values_rel _ u k ?_ ?_).mono ?_; exact hu4; omega; rintro x w6 ⟨ao6, cap6, b6, rfl, hs6, hb6, ho6⟩; have HS6 := hid hs6; have HO6 := hid (HO5d.out.chain ho6 (fun _ _ h => h)); have HP6 := hid (HP5d.out.still ho6); have HG6 := hid (HG5d.out.only ho6 (fun _ h => h)); have z0 := HCC.out w6 (((Only.refl (fun _ => False) w5).drew).chain ho6 (fun _ _ h => h)); have z1 := z0.1; have z2 := z0.2.1; have z3 := z0.2.2; clear hs6 hb6 ho6 z0)
                refine hK.out _ _ ?_ (fun hHeld => ?_)
                · (try dsimp only); go_keep
                clear hK K
                refine wpAnyH_ready (rs := [20]) (by kernel_rfl) (by simp) ?_
                refine AllReadyH.cons rfl (fun K hK => ?_) AllReadyH.nil
                go_simp
                go_wp2_with (go_at_call 13; refine (same_vals _ _ _ k cap6 g b6 u k ?_ ?_ ?_).mono ?_; exact HG6.out; exact HS6.out; omega; rintro x w7 ⟨rfl, nn, rfl⟩; have y1 : (w6.drewN nn).cell? ⟨LA, i, none⟩ = some (.int .i64 (lea i : Int)) := z1; have y2 : (w6.drewN nn).cell? ⟨RA, i, none⟩ = some (.pointer (some ⟨Us i, 0, none⟩)) := z2; have y3 : (w6.drewN nn).cell? ⟨Us i, 2, none⟩ = some (.slice (some ⟨g, 0, none⟩) k k) := z3)
                refine hK.out _ _ ?_ (fun hHeld => ?_)
                · (try dsimp only); go_keep
                clear hK K
                refine wpAnyH_take (i := 21) (oi := { dst := some 136, op := Go.Op.unOp Go.UnOp.not 4 (Go.Operand.tmp 135), type := 4, pos := _, after := #[{ on := 20, ground := Go.Ground.data }, { on := 10, ground := Go.Ground.guard }], guard := some (10, false) }) (v := ?_) rfl (by kernel_rfl) (by kernel_rfl) (by kernel_rfl) (fun _ _ _ h => h) (Or.inl ⟨by rfl, ?_⟩) (by assumption) ?_
                rotate_left 1
                · intro w' hSw
                  try dsimp only at hSw
                  go_simp
                  try with_reducible rfl
                try simp only [Act.put, List.setIfInBounds_toArray, List.set_cons_zero, List.set_cons_succ]
                refine wpAnyH_take (i := 22) (oi := { dst := some 137, op := Go.Op.pick (Go.Operand.tmp 125) (Go.Operand.const (Go.Value.bool true)) (Go.Operand.tmp 136), type := 4, pos := _, after := #[{ on := 10, ground := Go.Ground.data }, { on := 21, ground := Go.Ground.data }], guard := none }) (v := ?_) rfl (by kernel_rfl) (by kernel_rfl) (by kernel_rfl) (fun _ _ _ h => h) (Or.inl ⟨by rfl, ?_⟩) (by assumption) ?_
                rotate_left 1
                · intro w' hSw
                  try dsimp only at hSw
                  go_simp
                  try with_reducible rfl
                try simp only [Act.put, List.setIfInBounds_toArray, List.set_cons_zero, List.set_cons_succ]
                refine wpAnyH_done (by kernel_rfl) ?_ _
                have HP7 := hid (HP6.out.still (only_drewN (Only.refl (fun _ => False) w6) nn))
                have HO7 := hid (only_drewN HO6.out nn)
                clear HP6 HO6 HG6 HS6 HCC HO5d HP5d HG5d z1 z2 z3 y1 y2 y3 hck hcl d2
                generalize w6.drewN nn = w7 at *
                go_wp2_with fail
                refine (fnew_rel _ _).mono ?_
                rintro e w8 ⟨F8, rfl, hf8, hF8, ho8⟩
                have HR : Hid (∃ U8 x0 x1, U8 = w8.heap.size ∧ (w8.alloc (.cells #[.int .i64 0, .int .i64 (k : Int), .slice none 0 0] 31)).cell? ⟨FA, i, none⟩ = some (.pointer x0) ∧ (w8.alloc (.cells #[.int .i64 0, .int .i64 (k : Int), .slice none 0 0] 31)).frozen? ⟨FA, i, none⟩ = false ∧
                    ((w8.alloc (.cells #[.int .i64 0, .int .i64 (k : Int), .slice none 0 0] 31)).setCell ⟨FA, i, none⟩ (.pointer (some ⟨F8, 0, none⟩))).cell? ⟨RA, i, none⟩ = some (.pointer x1) ∧ ((w8.alloc (.cells #[.int .i64 0, .int .i64 (k : Int), .slice none 0 0] 31)).setCell ⟨FA, i, none⟩ (.pointer (some ⟨F8, 0, none⟩))).frozen? ⟨RA, i, none⟩ = false ∧
                    Play (fun _ => False) w.heap.size (((w8.alloc (.cells #[.int .i64 0, .int .i64 (k : Int), .slice none 0 0] 31)).setCell ⟨FA, i, none⟩ (.pointer (some ⟨F8, 0, none⟩))).setCell ⟨RA, i, none⟩ (.pointer (some ⟨U8, 0, none⟩))) k v n (now + 1) p q FA RA LA (ext Fs i F8) (ext (ext Ls i L5) i F8) (ext Us i U8) ta' tc' WV (ext (ext ss i s5) i (fresh (some ⟨p, 0, none⟩))) (ext (ext sts i st5) i (0, 0, [])) lea ∧
                    Only (fun _ => False) w (((w8.alloc (.cells #[.int .i64 0, .int .i64 (k : Int), .slice none 0 0] 31)).setCell ⟨FA, i, none⟩ (.pointer (some ⟨F8, 0, none⟩))).setCell ⟨RA, i, none⟩ (.pointer (some ⟨U8, 0, none⟩)))) := by
                  have hO9 : Only (fun _ => False) w7 (w8.alloc (readerO 0 k (.slice none 0 0))) := ho8.alloc _
                  have hP1 := HP7.out.still hO9
                  have hoff := HP7.out.lay.off
                  obtain ⟨x0, a1, ⟨⟨y0, rfl⟩, _⟩, a3⟩ := hP1.fa.cell hi2
                  have hra := hP1.ra.only ((Only.self FA _).own i (.pointer (some ⟨F8, 0, none⟩))) (fun e => hoff.2.2.1 e.symm)
                  obtain ⟨x1, c1, ⟨⟨y1, rfl⟩, _⟩, c3⟩ := hra.cell hi2
                  have z1 := ho8.size
                  have z2 := hf8.lt
                  have tabs := HP7.out.lay.tabs
                  refine ⟨_, y0, y1, rfl, a1, a3, c1, c3, ?_, ?_⟩
                  · exact HP7.out.reader hi2 hO9 (hf8.only ((Only.refl (fun _ => False) w8).alloc _) (fun h => h) (fun h => h)) (heap_new _ _) (by omega) (by omega) (by omega)
                  · exact ((HO7.out.chain hO9 (fun _ _ h => h)).setCell (p := ⟨FA, i, none⟩) (.inl tabs.2.1) _).setCell (p := ⟨RA, i, none⟩) (.inl tabs.2.2.1) _
                obtain ⟨U8, x0, x1, hU8, a1, a3, c1, c3, hP8, hO8⟩ := HR.out
                have HU2 : Hid (ext Fs i F8 2 = Fs 2 ∧ ext Us i U8 2 = Us 2) := ⟨ext_ne _ _ (by omega), ext_ne _ _ (by omega)⟩
                rw [hU8] at hP8 hO8 HU2
                have HP8 := hid hP8
                have HO8 := hid hO8
                clear hf8 hF8 ho8 HR HP7 HO7 hP8 hO8 hU8 HFR HTB
                go_wp2_with fail
                go_roundw
                case rel => exact ⟨now + 1, v, n, b, ext Fs i F8, _, ext Us i w8.heap.size, ta', tc', WV, _, _, lea, by go_num, rfl, by rw [HU2.out.1], by rw [HU2.out.2], rfl, by omega, hvb, hbv, HP8.out, HO8.out⟩
                case measure => simp [intOf]; omega
        · go_wp2_with fail
          go_ret
          exact ⟨rfl, HO.out.below (Nat.le_refl _) (fun _ _ h => h)⟩

theorem walk (ta : Option Addr) (tc m : Nat) (l : List Int) (V : Nat) (w : World) (hmx : l.length ≤ 9223372036854775807) (hm : m ≤ 255) (hS : SeesOf .u8 w ta l V) (hb : ∀ x ∈ l, 0 ≤ x ∧ x ≤ 255) :
    Calls Try.prog 4 #[.int .u8 (m : Int), .slice ta l.length tc] w fun e w' => e = .returned (.bool true) ∧ Below w.heap.size w w' := by
  by_cases h : 400 < l.length
  · exact walk_out ta _ tc m w h hmx
  · exact walk_in ta tc m l V w (by omega) hm hS hb

set_option maxRecDepth 100000 in
theorem lifted (os : Os) (started : os.Started) (H : Type) (enc : TypeId × Value → H) :
    ReturnsInHanded {} Try.checked os 4 .any (Rows.seqTurnsSpec.pre6 enc Try.prog Try.f4 Rows.seqTurnsRow.domain false) (Rows.seqTurnsSpec.post enc Try.prog Try.f4 false true false false) := by
  refine returnsInHanded_of_change (C := Try.checked) own0 started (by kernel_rfl) Try.func4
    (ChangeSpec.witness6 (enc := enc) (C := Try.checked) false ⟨#[], #[.int .u8 0, .slice none 0 0], []⟩ 8 (by kernel_rfl) (by kernel_rfl) (by kernel_rfl) (by kernel_rfl)) ?_
  intro W base args ds gs before hval0 hW hcnd _
  have hval : ∀ (j : Nat) t v, Try.f4.params[j]? = some t → args[j]? = some v → Value.okWide Try.prog W .any base t v := hval0
  have hW' := hW
  obtain ⟨p, q, hA0, hV, rfl, hfz, hnd⟩ := hW
  have hA : DataW.TrodAll enc Try.prog W 0 (fun _ => true) true Try.f4.params.toList args.toList ds p := hA0
  rw [Try.params4] at hA hval
  obtain ⟨v0, vs0, d0, ds0, p0, q0, hargs, rfl, rfl, h0, r0⟩ := trodAll_cons hA
  obtain ⟨v1, vs1, d1, ds1, p1, q1, rfl, rfl, rfl, h1, r1⟩ := trodAll_cons r0
  obtain ⟨rfl, rfl, rfl⟩ := trodAll_nil r1
  obtain rfl : args = #[v0, v1] := by cases args; simp_all
  obtain ⟨n0, rfl, rfl, rfl, wn0⟩ := open_int Try.underlying5 (hval 0 5 v0 rfl rfl) h0
  obtain ⟨m0, rfl, hm0⟩ : ∃ m : Nat, n0 = m ∧ m ≤ 255 := by
    have := bounds_u8 wn0
    exact ⟨n0.toNat, by omega, by omega⟩
  obtain ⟨ta, L, tc, rfl⟩ := okWide_slice Try.underlying40 (hval 1 40 v1 rfl rfl)
  obtain ⟨l, V, rfl, hS, hwf, hmx⟩ := open_sees Try.underlying40 Try.underlying5 (by kernel_rfl) h1
  refine (walk ta tc m0 l V W hmx hm0 hS (fun x hx => bounds_u8 (hwf x hx))).mono fun e W' ⟨he, hg⟩ => ?_
  subst he
  exact ⟨_, rfl, post_law 2 4 laidOut (by kernel_rfl) rfl rfl rfl Try.underlying4 (fun l hl => by match l, hl with | [_, _], _ => rfl) hW' hg⟩

theorem over : Rows.seqTurnsRow.holds Try.pinned (OpenSpec.ofChange Rows.seqTurnsSpec) :=
  OpenClaim.holds_of_wide 4 Try.f4 rfl rfl rfl rfl rfl rfl rfl ⟨rfl, rfl, rfl, rfl, rfl⟩ rfl rfl rfl rfl rfl (by kernel_rfl) Try.func4 (by kernel_rfl)
    (of_decide_eq_true (by kernel_rfl)) (by unfold Func.isWrapper; first | (rw [if_pos (by decide +kernel)]; kernel_rfl) | (rw [if_neg (by decide +kernel)]; exact ⟨rfl, rfl⟩))
    (fun os started H enc _ => lifted os started H enc)

theorem proved : Rows.SeqTurnsSaid := over
#print axioms proved
end Go.Proofs.Ytcafpdnbceoekaa.seqTurns

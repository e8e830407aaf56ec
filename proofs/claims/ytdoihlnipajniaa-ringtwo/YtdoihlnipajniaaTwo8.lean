/-
  RingTwo: for every size, every list of words and every list of turns the law answers true: what is got is what was put, in order. Conditions: none.
-/
import Derived.Test.YtdoihlnipajniaaDuo8b
import Derived.Test.YtdoihlnipajniaaOpens
import Derived.BigQuiet
import Derived.Deep.Slices
namespace Go.Proofs.Ytdoihlnipajniaa.ringTwo
open Go.Sept Go.RowKit Go.ChangeShapes Go.WideShapes Go.ChangeAt Go.Joins Go.Deep

theorem own : ownKnob Try.prog.godebug = none := by kernel_rfl
theorem laidOut : laidOutB Try.prog = true := by kernel_rfl

set_option maxRecDepth 100000 in
set_option maxHeartbeats 1000000 in
theorem walk_words (n : Nat) (ta tb : Option Addr) (L tc M td : Nat) (w : World) (hL : 40 < L) (hm : L ≤ 9223372036854775807) :
    Calls Try.prog 4 #[.int .u8 n, .slice ta L tc, .slice tb M td] w fun e w' => e = .returned (.bool true) ∧ Below w.heap.size w w' := by
  have hL' : (40 : Int) < L := by omega
  go_enter Try.func4, Try.ntmps4
  go_wp2_with fail
  refine (awake8_any _).mono ?_
  rintro e w1 ⟨rfl, hb1⟩
  have HB := hid hb1
  clear hb1
  go_wp2_with fail
  refine (awake8_any _).mono ?_
  rintro e w2 ⟨rfl, hb2⟩
  have hF : Hid (Below w.heap.size w w2) := ((Only.of_below HB.out (fun _ => False)).chain (Only.of_below hb2 (fun _ => False)) (fun _ _ h => h)).below (Nat.le_refl _) (fun _ _ h => h)
  clear HB hb2
  go_wp2_with fail
  go_ret
  exact ⟨rfl, hF.out⟩

set_option maxRecDepth 100000 in
set_option maxHeartbeats 1000000 in
theorem walk_turns (n : Nat) (ta tb : Option Addr) (L tc M td : Nat) (w : World) (hL : L ≤ 40) (hM : 400 < M) (hm : M ≤ 9223372036854775807) :
    Calls Try.prog 4 #[.int .u8 n, .slice ta L tc, .slice tb M td] w fun e w' => e = .returned (.bool true) ∧ Below w.heap.size w w' := by
  have hL' : ¬ (40 : Int) < L := by omega
  have hM' : (400 : Int) < M := by omega
  go_enter Try.func4, Try.ntmps4
  go_wp2_with fail
  refine (awake8_any _).mono ?_
  rintro e w1 ⟨rfl, hb1⟩
  have HB := hid hb1
  clear hb1
  go_wp2_with fail
  refine (awake8_any _).mono ?_
  rintro e w2 ⟨rfl, hb2⟩
  have hF : Hid (Below w.heap.size w w2) := ((Only.of_below HB.out (fun _ => False)).chain (Only.of_below hb2 (fun _ => False)) (fun _ _ h => h)).below (Nat.le_refl _) (fun _ _ h => h)
  clear HB hb2
  go_wp2_with fail
  go_ret
  exact ⟨rfl, hF.out⟩

theorem sees_take {κ : IntKind} {w : World} {ta : Option Addr} {l : List Int} {b : Nat} (h : SeesOf κ w ta l b) (n : Nat) : SeesOf κ w ta (l.take n) b := by
  rcases h with rfl | ⟨off, h1, h2⟩
  · exact .inl (by simp)
  · refine .inr ⟨off, h1, fun i hi => ?_⟩
    rw [List.length_take] at hi
    rw [h2 i (by omega), List.getD_eq_getElem?_getD, List.getD_eq_getElem?_getD, List.getElem?_take, if_pos (by omega)]
theorem open_cap {H : Type} {enc : TypeId × Value → H} {P : Program} {W : World} {base : Nat} {held : Bool} {t e : TypeId} {ta : Option Addr} {L tc : Nat} {d : DataW H} {p : List MemPlace} (ht : P.underlying t = some (.slice e))
    (h : DataW.Trod enc P W base (fun _ => true) held t (.slice ta L tc) d p) : L ≤ tc ∧ tc ≤ 9223372036854775807 := by
  obtain ⟨fuel, hf⟩ := h
  rcases open_slice ht hf with ⟨hcs, _⟩ | ⟨x, l, c, mm, nn, D, Pl, hcs, _, hl, hmx, _⟩
  · simp [Value.cells] at hcs
    obtain ⟨rfl, rfl, rfl⟩ := hcs
    exact ⟨Nat.le_refl _, Nat.zero_le _⟩
  · simp [Value.cells] at hcs
    obtain ⟨rfl, rfl, rfl⟩ := hcs
    unfold maxLen at hmx
    exact ⟨hl, hmx⟩
set_option maxRecDepth 100000 in
set_option maxHeartbeats 2000000 in
theorem walk_in (n : Nat) (ta tb : Option Addr) (tc td : Nat) (W Tn : List Int) (V V2 : Nat) (w : World) (hn : n ≤ 255) (hL : W.length ≤ 40) (hM : Tn.length ≤ 400) (hcap : W.length ≤ tc) (hmax : tc ≤ 9223372036854775807) (hS : SeesOf .i64 w ta W V) (hS2 : SeesOf .u8 w tb Tn V2) (hu : ∀ x ∈ Tn, 0 ≤ x ∧ x ≤ 255) :
    Calls Try.prog 4 #[.int .u8 n, .slice ta W.length tc, .slice tb Tn.length td] w fun e w' => e = .returned (.bool true) ∧ Below w.heap.size w w' := by
  have hmf : ∀ (fn : Fn) (first cap : Array Value) (w : World), (Instr.makeFunc fn first cap).run Try.prog w = .ok (.func fn first cap) w := fun _ _ _ _ => rfl
  have hL' : ¬ (40 : Int) < W.length := by omega
  have hM' : ¬ (400 : Int) < Tn.length := by omega
  have HS := hid hS
  have HS2 := hid hS2
  have HU := hid hu
  clear hS hS2 hu
  go_enter Try.func4, Try.ntmps4
  go_wp2_with fail
  refine (awake8_any _).mono ?_
  rintro e w1 ⟨rfl, hb1⟩
  have HB := hid (Only.of_below hb1 (fun _ => False))
  clear hb1
  go_wp2_with fail
  refine (new_rel _ _).mono ?_
  rintro e w2 ⟨p, q, rfl, hm, hp, hq, ho2⟩
  rw [show clampN 30 = 30 from clamp_nat 30 (by decide)] at hm
  obtain ⟨c, hc⟩ : ∃ c : Nat, 1 + (n : Int) % 16 = (c : Int) := ⟨1 + n % 16, by omega⟩
  have hc1 : 1 ≤ c := by omega
  have hc16 : c ≤ 16 := by omega
  rw [hc]
  have HM := hid hm
  have HO := hid (HB.out.chain ho2 (fun _ _ h => h))
  have zp : w.heap.size ≤ p := by have := HB.out.size; omega
  have zq : w.heap.size ≤ q := by have := HB.out.size; omega
  clear hm ho2 HB hp hq hc hn
  go_wp2_with fail
  refine (fnew_rel _ _).mono ?_
  rintro e w3 ⟨F1, rfl, hf3, hF3, ho3⟩
  have hW : ∃ W3 U1, W3 = w3.alloc (act8O 0 c 0 0 false 0) ∧ U1 = w3.heap.size ∧ HalfP w W3 c W p q F1 F1 U1 0 nilV [] 0 0 :=
    ⟨_, _, rfl, rfl, half_start HO.out HM.out zp zq hf3 (Nat.le_of_eq hF3.symm) ho3⟩
  obtain ⟨W3, U1, hWe, hze, hH3⟩ := hW
  have HH3 := hid hH3
  clear hf3 hF3 ho3 hH3 HO HM
  simp only [act8O] at hWe
  go_wp2_with fail
  rw [← hWe, ← hze]
  clear hWe hze
  refine (fnew_rel _ _).mono ?_
  rintro e w4 ⟨F2, rfl, hf4, hF4, ho4⟩
  have hW : ∃ W4 U2, W4 = w4.alloc (act8O 1 c 0 0 false 0) ∧ U2 = w4.heap.size ∧ Duo w W4 c W p q F1 F1 U1 F2 F2 U2 0 nilV 0 0 :=
    ⟨_, _, rfl, rfl, HalfP.fresh (ng := 0) HH3.out hf4 (Nat.le_of_eq hF4.symm) ho4⟩
  obtain ⟨W4, U2, hWe, hze, hD⟩ := hW
  have HD := hid hD
  clear hf4 hF4 ho4 hD HH3
  simp only [act8O] at hWe
  go_wp2_with fail
  rw [← hWe, ← hze]
  clear hWe hze
  go_loopw [9, 10, 11, 12, 13, 14, 46] (fun f1 u1 f2 u2 nx gv i wx => ∃ (F1 L1 U1 F2 L2 U2 b np ng j : Nat), f1 = .pointer (some ⟨F1, 0, none⟩) ∧ u1 = .pointer (some ⟨U1, 0, none⟩) ∧ f2 = .pointer (some ⟨F2, 0, none⟩) ∧ u2 = .pointer (some ⟨U2, 0, none⟩) ∧ nx = .int .i64 (np : Int) ∧ i = .int .i64 (j : Int) ∧ j ≤ Tn.length ∧ np ≤ W.length ∧ Duo w wx c W p q F1 L1 U1 F2 L2 U2 b gv np ng) (fun _ _ _ _ _ _ i _ => Tn.length - (intOf i).toNat)
  case atStart => exact ⟨F1, F1, U1, F2, F2, U2, 0, 0, 0, 0, rfl, rfl, rfl, rfl, rfl, rfl, Nat.zero_le _, Nat.zero_le _, HD.out⟩
  case round =>
    obtain ⟨F1, L1, U1, F2, L2, U2, b, np, ng, j, rfl, rfl, rfl, rfl, rfl, rfl, hj, hnp, hD⟩ := hrel
    clear HD
    obtain ⟨hng, hroom, hOx, hcut, v0, o0, hU1⟩ := hD.facts
    have htl : (W.take ng).length = ng := by rw [List.length_take]; omega
    obtain ⟨go', gc, hgv, hgc, hgm⟩ := hcut.shape
    rw [htl] at hgv hgc
    subst hgv
    have HOX := hid hOx
    have HD := hid hD
    have HTL := hid htl
    by_cases hlt : (j : Int) < Tn.length
    · obtain ⟨t, ht0, ht1⟩ : ∃ t : Nat, Tn.getD j 0 = (t : Int) ∧ t ≤ 255 := by
        have h9 := HU.out (Tn.getD j 0) (by rw [List.getD_eq_getElem?_getD, List.getElem?_eq_getElem (by omega)]; exact List.getElem_mem _)
        exact ⟨(Tn.getD j 0).toNat, by omega, by omega⟩
      obtain ⟨off2, htb, ct⟩ : ∃ off, tb = some ⟨V2, off, none⟩ ∧ wr.cell? ⟨V2, off + j, none⟩ = some (.int .u8 (t : Int)) := by
        rcases HS2.out.only hOx (fun _ h => h) with h0 | ⟨off, h1, h2⟩
        · rw [h0] at hlt; simp at hlt; omega
        · exact ⟨off, h1, by rw [← ht0]; exact h2 j (by omega)⟩
      subst htb
      clear ht0 hD hcut hOx htl
      by_cases he : (t : Int) % 2 = 0
      · by_cases hnx : np = W.length
        · have hb : ((np : Int) == (W.length : Int)) = true := by rw [hnx]; simp
          have HNX := hid hnx
          clear hnx hU1
          go_wp2_with fail
          go_roundw
          case rel => exact ⟨F1, L1, U1, F2, L2, U2, b, np, ng, j + 1, rfl, rfl, rfl, rfl, rfl, by go_num, by omega, by omega, HD.out⟩
          case measure => simp [intOf]; omega
        · have hb : ((np : Int) == (W.length : Int)) = false := beq_eq_false_iff_ne.2 (by omega)
          have hnl : (np : Int) < W.length := by omega
          obtain ⟨x, hx⟩ : ∃ x, W.getD np 0 = x := ⟨_, rfl⟩
          obtain ⟨off, hta, cw⟩ : ∃ off, ta = some ⟨V, off, none⟩ ∧ wr.cell? ⟨V, off + np, none⟩ = some (.int .i64 x) := by
            rcases HS.out.only HOX.out (fun _ h => h) with h0 | ⟨off, h1, h2⟩
            · rw [h0] at hnl; simp at hnl; omega
            · exact ⟨off, h1, by rw [← hx]; exact h2 np (by omega)⟩
          subst hta
          have c2 : wr.cell? ⟨U1, 2, none⟩ = some (.int .i64 v0) := Sept.cell_of_block hU1 2
          have f2 := frozen_of_block hU1 2
          have HST := hid (duo_put HD.out (j : Int) hc1 hc16 (by omega))
          rw [hx] at HST
          clear hU1 hnx hx HD
          go_wp2_with fail
          refine HST.out.mono ?_
          rintro e w5 (⟨L', rfl, hD5⟩ | ⟨rfl, c4, hH5⟩ | ⟨rfl, c4, hH5⟩)
          · have HD5 := hid hD5
            clear hD5 HST c2 f2 cw ct
            go_wp2_with fail
            go_roundw
            case rel => exact ⟨F1, L', U1, F2, L2, U2, b, np, ng, j + 1, rfl, rfl, rfl, rfl, rfl, by go_num, by omega, by omega, HD5.out⟩
            case measure => simp [intOf]; omega
          · have HH5 := hid hH5
            clear hH5 HST c2 f2 cw ct
            go_wp2_with fail
            refine (fnew_rel _ _).mono ?_
            rintro e w6 ⟨F3, rfl, hf6, hF6, ho6⟩
            have hW : ∃ W7 U3, W7 = w6.alloc (act8O 0 c 0 0 false 0) ∧ U3 = w6.heap.size ∧ Duo w W7 c W p q F3 F3 U3 F2 L2 U2 b (.slice go' ng gc) np ng :=
              ⟨_, _, rfl, rfl, HH5.out.fresh hf6 (Nat.le_of_eq hF6.symm) ho6⟩
            obtain ⟨W7, U3, hWe, hze, hD7⟩ := hW
            have HD7 := hid hD7
            clear hf6 hF6 ho6 hD7 HH5 c4
            simp only [act8O] at hWe
            go_wp2_with fail
            rw [← hWe, ← hze]
            clear hWe hze
            go_roundw
            case rel => exact ⟨F3, F3, U3, F2, L2, U2, b, np, ng, j + 1, rfl, rfl, rfl, rfl, rfl, by go_num, by omega, by omega, HD7.out⟩
            case measure => simp [intOf]; omega
          · have HH5 := hid hH5
            clear hH5 HST c2 f2 cw ct
            go_wp2_with fail
            refine (fnew_rel _ _).mono ?_
            rintro e w6 ⟨F3, rfl, hf6, hF6, ho6⟩
            have hW : ∃ W7 U3, W7 = w6.alloc (act8O 0 c 0 0 false 0) ∧ U3 = w6.heap.size ∧ Duo w W7 c W p q F3 F3 U3 F2 L2 U2 b (.slice go' ng gc) (np + 1) ng :=
              ⟨_, _, rfl, rfl, HH5.out.fresh hf6 (Nat.le_of_eq hF6.symm) ho6⟩
            obtain ⟨W7, U3, hWe, hze, hD7⟩ := hW
            have HD7 := hid hD7
            clear hf6 hF6 ho6 hD7 HH5 c4
            simp only [act8O] at hWe
            go_wp2_with fail
            rw [← hWe, ← hze]
            clear hWe hze
            go_roundw
            case rel => exact ⟨F3, F3, U3, F2, L2, U2, b, np + 1, ng, j + 1, rfl, rfl, rfl, rfl, by go_num, by go_num, by omega, by omega, HD7.out⟩
            case measure => simp [intOf]; omega
      · have hee : ((t : Int) % 2 == 0) = false := beq_eq_false_iff_ne.2 he
        have HST := hid (duo_get HD.out (j : Int) hc1 hc16 (by omega))
        clear hU1 HD
        go_wp2_with fail
        refine HST.out.mono ?_
        rintro e w5 (⟨L', rfl, hD5⟩ | ⟨rfl, c4, hH5⟩ | ⟨rfl, c4, c3, hlt5, hH5⟩)
        · have HD5 := hid hD5
          clear hD5 HST ct
          go_wp2_with fail
          go_roundw
          case rel => exact ⟨F1, L1, U1, F2, L', U2, b, np, ng, j + 1, rfl, rfl, rfl, rfl, rfl, by go_num, by omega, by omega, HD5.out⟩
          case measure => simp [intOf]; omega
        · have HH5 := hid hH5
          clear hH5 HST ct
          go_wp2_with fail
          refine (fnew_rel _ _).mono ?_
          rintro e w6 ⟨F3, rfl, hf6, hF6, ho6⟩
          have hW : ∃ W7 U3, W7 = w6.alloc (act8O 1 c 0 0 false 0) ∧ U3 = w6.heap.size ∧ Duo w W7 c W p q F1 L1 U1 F3 F3 U3 b (.slice go' ng gc) np ng :=
            ⟨_, _, rfl, rfl, HH5.out.fresh hf6 (Nat.le_of_eq hF6.symm) ho6⟩
          obtain ⟨W7, U3, hWe, hze, hD7⟩ := hW
          have HD7 := hid hD7
          clear hf6 hF6 ho6 hD7 HH5 c4
          simp only [act8O] at hWe
          go_wp2_with fail
          rw [← hWe, ← hze]
          clear hWe hze
          go_roundw
          case rel => exact ⟨F1, L1, U1, F3, F3, U3, b, np, ng, j + 1, rfl, rfl, rfl, rfl, rfl, by go_num, by omega, by omega, HD7.out⟩
          case measure => simp [intOf]; omega
        · obtain ⟨x, hx⟩ : ∃ x, W.getD ng 0 = x := ⟨_, rfl⟩
          rw [hx] at c3
          obtain ⟨G, hGe⟩ : ∃ G, W.take ng = G := ⟨_, rfl⟩
          have hGl : G.length = ng := by rw [← hGe]; exact HTL.out
          obtain ⟨b1, hc5, hnext⟩ := hH5.app (.cells #[.int .i64 x] 2) x
          have hcat : W.take ng ++ [x] = W.take (ng + 1) := by
            rw [List.take_add_one, ← hx, List.getD_eq_getElem?_getD, List.getElem?_eq_getElem (by omega)]
            simp
          rw [hGe] at hc5 hnext hcat
          rw [hcat] at hnext
          have HC5 := hid hc5
          have HN5 := hid hnext
          have HCAT := hid hcat
          have HGL := hid hGl
          have hlc : G.length ≤ 100000 := by omega
          clear hx hc5 hnext hH5 HST ct hcat hGe hGl HTL
          go_wp2_with (at_builtin; refine wpList_append_cut _ rfl (.tmp 91) (.tmp 96) 28 rfl Try.underlying28 Try.info2 (.slice go' ng gc) b1 G rfl HC5.out w5.heap.size 1 x rfl (Sept.cell_of_block (heap_new w5 (.cells #[.int .i64 x] 2)) 0) hlc ?_)
          intro b9 ao9 cap9 w9 hc9 ho9 hb9
          rw [HGL.out, HCAT.out] at hc9
          rw [HGL.out]
          have HH9 := hid (HN5.out b9 _ w9 hc9 ho9 (by simpa using hb9))
          clear hc9 ho9 hb9 HC5 HN5 HCAT HGL c3 c4 hlc
          go_wp2_with fail
          refine (fnew_rel _ _).mono ?_
          rintro e w6 ⟨F3, rfl, hf6, hF6, ho6⟩
          have hW : ∃ W7 U3, W7 = w6.alloc (act8O 1 c 0 0 false 0) ∧ U3 = w6.heap.size ∧ Duo w W7 c W p q F1 L1 U1 F3 F3 U3 b9 (.slice ao9 (ng + 1 : Nat) cap9) np (ng + 1) :=
            ⟨_, _, rfl, rfl, HH9.out.fresh hf6 (Nat.le_of_eq hF6.symm) ho6⟩
          obtain ⟨W7, U3, hWe, hze, hD7⟩ := hW
          have HD7 := hid hD7
          clear hf6 hF6 ho6 hD7 HH9
          simp only [act8O] at hWe
          go_wp2_with fail
          rw [← hWe, ← hze]
          clear hWe hze
          go_roundw
          case rel => exact ⟨F1, L1, U1, F3, F3, U3, b9, np, ng + 1, j + 1, rfl, rfl, rfl, rfl, rfl, by go_num, by omega, by omega, HD7.out⟩
          case measure => simp [intOf]; omega
    · have k1 : (ng : Int) ≤ (np : Int) + 1 := by omega
      have k2 : (ng : Int) ≤ W.length := by omega
      have k3 : (np : Int) - ng ≤ c := by omega
      have k4 : (ng : Int) ≤ tc := by omega
      have hsame := same_words wr go' ta gc tc b V (W.take ng) hcut.sees (sees_take (HS.out.only hOx (fun _ h => h)) ng) (by omega)
      rw [htl] at hsame
      have HSA := hid hsame
      clear hD hcut hU1 hOx htl HD HTL hsame
      by_cases hmn : (np : Int) + 1 ≤ W.length
      · go_wp2_with fail
        refine HSA.out.mono ?_
        rintro e w9 ⟨rfl, nn, rfl⟩
        have HO9 := hid (only_drewN HOX.out nn)
        clear HSA HOX
        go_wp2_with fail
        go_ret
        exact ⟨rfl, HO9.out.below (Nat.le_refl _) (fun _ _ h => h)⟩
      · go_wp2_with fail
        refine HSA.out.mono ?_
        rintro e w9 ⟨rfl, nn, rfl⟩
        have HO9 := hid (only_drewN HOX.out nn)
        clear HSA HOX
        go_wp2_with fail
        go_ret
        exact ⟨rfl, HO9.out.below (Nat.le_refl _) (fun _ _ h => h)⟩

theorem walk (n : Nat) (ta tb : Option Addr) (tc td : Nat) (W Tn : List Int) (V V2 : Nat) (w : World) (hn : n ≤ 255) (hL : W.length ≤ 9223372036854775807) (hM : Tn.length ≤ 9223372036854775807) (hcap : W.length ≤ tc) (hmax : tc ≤ 9223372036854775807) (hS : SeesOf .i64 w ta W V) (hS2 : SeesOf .u8 w tb Tn V2) (hu : ∀ x ∈ Tn, 0 ≤ x ∧ x ≤ 255) :
    Calls Try.prog 4 #[.int .u8 n, .slice ta W.length tc, .slice tb Tn.length td] w fun e w' => e = .returned (.bool true) ∧ Below w.heap.size w w' := by
  by_cases h1 : 40 < W.length
  · exact walk_words n ta tb _ tc _ td w h1 hL
  · by_cases h2 : 400 < Tn.length
    · exact walk_turns n ta tb _ tc _ td w (by omega) h2 hM
    · exact walk_in n ta tb tc td W Tn V V2 w hn (by omega) (by omega) hcap hmax hS hS2 hu

set_option maxRecDepth 100000 in
theorem lifted (os : Os) (started : os.Started) (H : Type) (enc : TypeId × Value → H) :
    ReturnsInHanded {} Try.checked os 4 .any (Rows.ringTwoSpec.pre6 enc Try.prog Try.f4 Rows.ringTwoRow.domain false) (Rows.ringTwoSpec.post enc Try.prog Try.f4 false true false false) := by
  refine returnsInHanded_of_change (C := Try.checked) own started (by kernel_rfl) Try.func4
    (ChangeSpec.witness6 (enc := enc) (C := Try.checked) false ⟨#[], #[.int .u8 0, .slice none 0 0, .slice none 0 0], []⟩ 8 (by kernel_rfl) (by kernel_rfl) (by kernel_rfl) (by kernel_rfl)) ?_
  intro W base args ds gs before hval0 hW hcnd _
  have hval : ∀ (j : Nat) t v, Try.f4.params[j]? = some t → args[j]? = some v → Value.okWide Try.prog W .any base t v := hval0
  have hW' := hW
  obtain ⟨p, q, hA0, hV, rfl, hfz, hnd⟩ := hW
  have hA : DataW.TrodAll enc Try.prog W 0 (fun _ => true) true Try.f4.params.toList args.toList ds p := hA0
  rw [Try.params4] at hA hval
  obtain ⟨v0, vs0, d0, ds0, p0, q0, hargs, rfl, rfl, h0, r0⟩ := trodAll_cons hA
  obtain ⟨v1, vs1, d1, ds1, p1, q1, rfl, rfl, rfl, h1, r1⟩ := trodAll_cons r0
  obtain ⟨v2, vs2, d2, ds2, p2, q2, rfl, rfl, rfl, h2, r2⟩ := trodAll_cons r1
  obtain ⟨rfl, rfl, rfl⟩ := trodAll_nil r2
  obtain rfl : args = #[v0, v1, v2] := by cases args; simp_all
  obtain ⟨a0, rfl, rfl, rfl, w0⟩ := open_int Try.underlying5 (hval 0 5 v0 rfl rfl) h0
  obtain ⟨m, rfl, hm⟩ : ∃ m : Nat, a0 = m ∧ m ≤ 255 := by
    have := bounds_u8 w0
    exact ⟨a0.toNat, by omega, by omega⟩
  obtain ⟨ta, L, tc, rfl⟩ := okWide_slice Try.underlying28 (hval 1 28 v1 rfl rfl)
  obtain ⟨tb, M, td, rfl⟩ := okWide_slice Try.underlying37 (hval 2 37 v2 rfl rfl)
  obtain ⟨hcap, hmax⟩ := open_cap Try.underlying28 h1
  obtain ⟨l, V, rfl, hS, _, hmx⟩ := open_sees Try.underlying28 Try.underlying2 (by kernel_rfl) h1
  obtain ⟨l2, V2, rfl, hS2, hwf, hmx2⟩ := open_sees Try.underlying37 Try.underlying5 (by kernel_rfl) h2
  refine (walk m ta tb tc td l l2 V V2 W hm hmx hmx2 hcap hmax hS hS2 (fun x hx => bounds_u8 (hwf x hx))).mono fun e W' ⟨he, hg⟩ => ?_
  subst he
  exact ⟨_, rfl, post_law 3 4 laidOut (by kernel_rfl) rfl rfl rfl Try.underlying4 (fun l hl => by match l, hl with | [_, _, _], _ => rfl) hW' hg⟩

theorem over : Rows.ringTwoRow.holds Try.pinned (OpenSpec.ofChange Rows.ringTwoSpec) :=
  OpenClaim.holds_of_wide 4 Try.f4 rfl rfl rfl rfl rfl rfl rfl ⟨rfl, rfl, rfl, rfl, rfl⟩ rfl rfl rfl rfl rfl (by kernel_rfl) Try.func4 (by kernel_rfl)
    (of_decide_eq_true (by kernel_rfl)) (by unfold Func.isWrapper; first | (rw [if_pos (by decide +kernel)]; kernel_rfl) | (rw [if_neg (by decide +kernel)]; exact ⟨rfl, rfl⟩))
    (fun os started H enc _ => lifted os started H enc)

theorem proved : Rows.RingTwoSaid := over
#print axioms proved
end Go.Proofs.Ytdoihlnipajniaa.ringTwo

/-
  SeqCounts: for every number of writes, every cut and every list of numbers the law answers true: each write counts on by two; in the midst of one the count is odd. Conditions: none.
-/
import Derived.Test.YtcafpdnbceoekaaAwake4
import Derived.Test.YtcafpdnbceoekaaOpens
import Derived.Test.YtcafpdnbceoekaaMach
import Derived.Test.YtcafpdnbceoekaaMach4
import Derived.BigQuiet
namespace Go.Proofs.Ytcafpdnbceoekaa.seqCounts
open Go.Sept Go.RowKit Go.ChangeShapes Go.WideShapes Go.ChangeAt Go.Joins Go.Deep

theorem own : ownKnob Try.prog.godebug = none := by kernel_rfl
theorem laidOut : laidOutB Try.prog = true := by kernel_rfl

set_option maxRecDepth 100000 in
set_option maxHeartbeats 1000000 in
theorem walk_out (ta : Option Addr) (L tc : Nat) (t n : Int) (w : World) (hL : L = 0 ∨ 16 < L) (hm : L ≤ 9223372036854775807) :
    Calls Try.prog 5 #[.int .u8 t, .int .u8 n, .slice ta L tc] w fun e w' => e = .returned (.bool true) ∧ Below w.heap.size w w' := by
  have hif : ((L : Int) < 1) ∨ (¬ (L : Int) < 1 ∧ (16 : Int) < L) := by omega
  go_enter Try.func5, Try.ntmps5
  go_wp2_with fail
  refine (awake4_any _).mono ?_
  rintro e w1 ⟨rfl, hb1⟩
  rcases hif with hlt | ⟨hnl, hlt⟩
  all_goals
    go_wp2_with fail
    refine (awake4_any _).mono ?_
    rintro e w2 ⟨rfl, hb2⟩
    have hF : Hid (Below w.heap.size w w2) := ((Only.of_below hb1 (fun _ => False)).chain (Only.of_below hb2 (fun _ => False)) (fun _ _ h => h)).below (Nat.le_refl _) (fun _ _ h => h)
    clear hb1 hb2
    go_wp2_with fail
    go_ret
    exact ⟨rfl, hF.out⟩

theorem zeros_val (n : Nat) (h : 1 + n ≤ 20) : List.replicate 20 (0 : Int) = valM [] 0 (List.replicate n 0) (List.replicate (20 - (1 + n)) 0) := by
  rw [valM, show (0 : Int) :: (List.replicate n 0 ++ List.replicate (20 - (1 + n)) 0) = List.replicate 1 0 ++ (List.replicate n 0 ++ List.replicate (20 - (1 + n)) 0) from rfl]
  simp only [List.replicate_append_replicate, List.nil_append]
  congr 1
  omega

set_option maxRecDepth 100000 in
set_option maxHeartbeats 1000000 in
theorem walk_in (ta : Option Addr) (tc t m : Nat) (l : List Int) (V : Nat) (w : World) (h0 : 0 < l.length) (h16 : l.length ≤ 16) (ht : t ≤ 255) (hm : m ≤ 255) (hS : Sees w ta l V) :
    Calls Try.prog 5 #[.int .u8 (t : Int), .int .u8 (m : Int), .slice ta l.length tc] w fun e w' => e = .returned (.bool true) ∧ Below w.heap.size w w' := by
  have hmf : ∀ (fn : Fn) (first cap : Array Value) (w : World), (Instr.makeFunc fn first cap).run Try.prog w = .ok (.func fn first cap) w := fun _ _ _ _ => rfl
  obtain ⟨k, hk⟩ : ∃ k, k = t % 10 := ⟨_, rfl⟩
  have hk1 : (t : Int) % 10 = (k : Int) := by omega
  have hk10 : k < 10 := by omega
  obtain ⟨L, hLL⟩ : ∃ L, l.length = L := ⟨_, rfl⟩
  have hne : l ≠ [] := List.length_pos_iff.1 h0
  have hmod : m % (L + 1) < L + 1 := Nat.mod_lt _ (Nat.succ_pos _)
  have hmodI : (m : Int) % ((L : Int) + 1) = ((m % (L + 1) : Nat) : Int) := by push_cast; rfl
  have hmodT : (m : Int).tmod ((L : Int) + 1) = ((m % (L + 1) : Nat) : Int) := by
    rw [Int.tmod_eq_emod_of_nonneg (by omega)]
    exact hmodI
  obtain ⟨r, hr⟩ : ∃ r, m % (L + 1) = r := ⟨_, rfl⟩
  rw [hr] at hmod hmodI hmodT
  have HS := hid hS
  have HL := hid hLL
  rw [hLL] at h0 h16 ⊢
  have hl1 : ¬ (L : Int) < 1 := by omega
  have hl2 : ¬ (16 : Int) < L := by omega
  have lV : V < w.heap.size := hS.lt hne
  have hz : ((L : Int) + 1 == 0) = false := beq_eq_false_iff_ne.2 (by omega)
  have hz2 : ¬ (L : Int) + 1 = 0 := by omega
  obtain ⟨post, hpost⟩ : ∃ post, post = List.replicate (20 - (1 + L)) (0 : Int) := ⟨_, rfl⟩
  have HP := hid hpost
  clear hS hk hLL hr hpost
  go_enter Try.func5, Try.ntmps5
  go_wp2_with fail
  refine (awake4_any _).mono ?_
  rintro e w0 ⟨rfl, hb0⟩
  have HO0 := hid (Only.of_below hb0 (fun _ => False))
  clear hb0
  go_wp2_with fail
  refine (new_rel _ _).mono ?_
  rintro e w1 ⟨p, q, rfl, hm, hp, hq, ho1⟩
  rw [show clampN 20 = 20 from clamp_nat 20 (by decide), zeros_val L (by omega), ← HP.out] at hm
  have HM := hid hm
  have HO1 := hid (HO0.out.chain ho1 (fun _ _ h => h))
  have lz : w.heap.size ≤ w0.heap.size := HO0.out.size
  have lp : w.heap.size ≤ p := by omega
  have lq : w.heap.size ≤ q := by omega
  clear hm ho1 HO0 lz hp hq
  go_wp2_with fail
  clear hk1
  go_loopw [35] (fun i wx => ∃ (j : Nat) (ws : List Int), i = .int .i64 (j : Int) ∧ j ≤ k ∧ ws.length = L ∧ MemIs 52 wx p q (valM [] (2 * (j : Int)) ws post) ∧ Only (fun _ => False) w wx) (fun i _ => k - (intOf i).toNat)
  case atStart => exact ⟨0, _, rfl, Nat.zero_le _, List.length_replicate, HM.out, HO1.out⟩
  case round =>
    obtain ⟨j, ws, rfl, hj, hws, hmx, hox⟩ := hrel
    have HMX := hid hmx
    have HOX := hid hox
    have HW := hid hws
    clear hmx hox hws HM HO1
    by_cases hlt : (j : Int) < k
    · have HW2 : Hid (∃ W z, W = wr.alloc (.cells #[.int .i64 0, .slice ta L tc] 28) ∧ z = wr.heap.size ∧ MemIs 52 W p q (valM [] (2 * (j : Int)) ws post) ∧ Only (fun _ => False) w W ∧ W.heap[z]? = some (writerO 0 ta tc l) ∧ p < z ∧ q < z ∧ w.heap.size ≤ z ∧ Sees W ta l V) := by
        have hO2 := HOX.out.alloc (.cells #[.int .i64 0, .slice ta L tc] 28)
        refine ⟨_, _, rfl, rfl, HMX.out.alloc _, hO2, ?_, lt_of_block HMX.out.head, HMX.out.row.lt, HOX.out.size, HS.out.only hO2 (fun _ h => h)⟩
        rw [writerO, HL.out]
        exact heap_new _ _
      obtain ⟨W, z, hWe, hze, h1, h2, h3, zp, zq, zw, h5⟩ := HW2.out
      have HM := hid h1
      have HO := hid h2
      have HA := hid h3
      have HV := hid h5
      have HE : Hid ((writeT 0 l).alone (valM [] (2 * (j : Int)) ws post) = ((), valM [] (2 * ((j + 1 : Nat) : Int)) l post, l.length + 3)) := by
        have h9 := alone_write [] post l ws (2 * (j : Int)) (by rw [HL.out, HW.out]) (by rw [HL.out]; omega) (by rw [HL.out]; omega) (by simp)
        rw [show wrap64 (2 * (j : Int) + 2) = 2 * (j : Int) + 2 by unfold wrap64; omega] at h9
        rw [show 2 * ((j + 1 : Nat) : Int) = 2 * (j : Int) + 2 by push_cast; omega]
        exact h9
      clear h1 h2 h3 h5 HMX HOX HW2
      go_wp2_with fail
      rw [← hWe, ← hze]
      clear hWe hze
      refine (run_write _ p q z V 0 ta tc l _ _ HM.out HA.out HV.out (by omega) (by omega) (fun h => by omega) (fun h => by omega) (by rw [HL.out]; omega) HE.out (by have := HL.out; omega) (by omega) (by omega) (by have := HL.out; omega) (by rw [valM_length]; omega)).mono ?_
      rintro e w3 ⟨rfl, hm3, ho3⟩
      have HM3 := hid hm3
      have HO3 := hid (HO.out.chain ho3 (fun i hi e => by omega))
      clear hm3 ho3 HM HO HA HV HE
      go_wp2_with fail
      go_roundw
      case rel => exact ⟨j + 1, l, by go_num, by omega, HL.out, HM3.out, HO3.out⟩
      case measure => simp [intOf]; omega
    · obtain rfl : j = k := by omega
      go_wp2_with fail
      refine (load_rel _ _ p q _ (.inl ⟨rfl, HMX.out⟩) _).mono ?_
      rintro e w4 ⟨rfl, rfl⟩
      have hv0 : valA (valM [] (2 * (j : Int)) ws post) 0 = 2 * (j : Int) := val_count
      rw [hv0]
      clear hv0
      have HW2 : Hid (∃ W z, W = w4.alloc (.cells #[.int .i64 0, .slice ta L tc] 28) ∧ z = w4.heap.size ∧ MemIs 52 W p q (valM [] (2 * (j : Int)) ws post) ∧ Only (fun _ => False) w W ∧ W.heap[z]? = some (writerO 0 ta tc l) ∧ p < z ∧ q < z ∧ w.heap.size ≤ z ∧ Sees W ta l V) := by
        have hO2 := HOX.out.alloc (.cells #[.int .i64 0, .slice ta L tc] 28)
        refine ⟨_, _, rfl, rfl, HMX.out.alloc _, hO2, ?_, lt_of_block HMX.out.head, HMX.out.row.lt, HOX.out.size, HS.out.only hO2 (fun _ h => h)⟩
        rw [writerO, HL.out]
        exact heap_new _ _
      obtain ⟨W, z, hWe, hze, h1, h2, h3, zp, zq, zw, h5⟩ := HW2.out
      have HM := hid h1
      have HO := hid h2
      have HA := hid h3
      have HV := hid h5
      clear h1 h2 h3 h5 HMX HOX HW2
      go_wp2_with fail
      rw [← hWe, ← hze]
      clear hWe hze
      refine (fnew_rel _ _).mono ?_
      rintro e w5 ⟨F, rfl, hf5, hF, ho5⟩
      have lz : z < W.heap.size := lt_of_block HA.out
      have HN : Hid (Walks (writerK z 0 ta tc l V) (writeT 0 l) (writeM 0 l) w5 F F p q (fresh (some ⟨p, 0, none⟩)) (wmem (2 * (j : Int)) ws l post 0) (stW 0 (2 * (j : Int))) 100) := by
        refine Walks.start ⟨⟨hf5, .inl ⟨rfl, ?_⟩, ?_, ?_, hf5.lt, ?_, ?_, ?_, ?_⟩, ?_, ?_⟩ (sim_write (by rw [HL.out]; omega) (by rw [HL.out]; omega) 101)
        · rw [wmem_start (by omega)]
          exact HM.out.only ho5 (fun h => h) (fun h => h)
        · have := hf5.lt; omega
        · have := hf5.lt; omega
        · omega
        · omega
        · omega
        · omega
        · exact (writerK z 0 ta tc l V).keep _ _ _ ⟨HA.out, HV.out⟩ ho5 (fun _ _ h => h)
        · rintro k (rfl | ⟨_, rfl⟩)
          · omega
          · omega
      have HO5 := hid (HO.out.chain ho5 (fun _ _ h => h))
      have lF : w.heap.size ≤ F := by omega
      have zF : z < F := by omega
      clear hf5 ho5 hF HM HO HA HV lz
      go_wp2_with fail
      go_loopw [63] (fun i wx => ∃ (x : Nat) (lb : Nat) (s : FrSt), i = .int .i64 (x : Int) ∧ x ≤ 2 + r ∧ Walks (writerK z 0 ta tc l V) (writeT 0 l) (writeM 0 l) wx F lb p q s (wmem (2 * (j : Int)) ws l post x) (stW x (2 * (j : Int))) (100 - x) ∧ s.log.length = x ∧ w.heap.size ≤ lb ∧ Only (fun _ => False) w wx) (fun i _ => 2 + r - (intOf i).toNat)
      case atStart => exact ⟨0, F, _, rfl, Nat.zero_le _, HN.out, rfl, lF, HO5.out⟩
      case round =>
        obtain ⟨x, lb, s, rfl, hx, hwk, hlog, hlb, hox⟩ := hrel
        have HWK := hid hwk
        have HOX := hid hox
        have HLOG := hid hlog
        clear HN HO5 hwk hox hlog
        by_cases hxr : (x : Int) < 2 + r
        · obtain ⟨k1, a1, v1, u1, g1, g2, g3⟩ := write_go (c := 2 * (j : Int)) (ws := ws) (l := l) (post := post) (by rw [HL.out, HW.out]) (by rw [HL.out]; omega) (n := x) (show x < l.length + 3 by rw [HL.out]; omega)
          have HG := hid (And.intro g1 (And.intro g2 g3))
          clear g1 g2 g3
          go_wp2_with fail
          refine ((by rwa [show 100 - x = (100 - (x + 1)) + 1 by omega] at HWK : Hid (Walks (writerK z 0 ta tc l V) (writeT 0 l) (writeM 0 l) wr F lb p q s (wmem (2 * (j : Int)) ws l post x) (stW x (2 * (j : Int))) (100 - (x + 1) + 1))).out.step (writer_of 5000 (Nat.le_refl _) z 0 ta tc l V (by rw [HL.out]; omega)) (x : Int) (by rw [HLOG.out]; omega) HG.out.1).mono ?_
          rintro e w6 ⟨s', lb', hl', hlb', ho6, hor⟩
          rw [HG.out.2.1, HG.out.2.2] at hor
          rcases hor with ⟨y, hy, _⟩ | ⟨_, rfl, hwk6⟩
          · exfalso
            obtain ⟨B, hB⟩ := writeM_more (a := 0) (l := l) (n := x + 1) (2 * (j : Int)) (by rw [HL.out]; omega)
            have h9 : stW (x + 1) (2 * (j : Int)) = (x + 1, 2 * (j : Int)) := by rw [stW, if_neg (by omega)]
            rw [h9, hB] at hy
            cases hy
          · have HWK6 := hid hwk6
            have HLOG6 : Hid (s'.log.length = x + 1) := by
              show s'.log.length = x + 1
              rw [hl', List.length_append, HLOG.out]
              rfl
            have HO6 : Hid (Only (fun _ => False) w w6) := HOX.out.chain ho6 (fun i hi e => by
              rcases e with e | e | e | e
              · omega
              · omega
              · omega
              · exact e.elim)
            have HLB6 : Hid (w.heap.size ≤ lb') := by have := HOX.out.size; show _ ≤ _; omega
            clear hwk6 hl' hlb' ho6 HWK HOX HLOG HG
            go_wp2_with fail
            go_roundw
            case rel => exact ⟨x + 1, lb', s', by go_num, by omega, HWK6.out, HLOG6.out, HLB6.out, HO6.out⟩
            case measure => simp [intOf]; omega
        · obtain rfl : x = 2 + r := by omega
          have HM6 := hid HWK.out.holds
          have HF6 := hid HWK.out.near.fm.frame
          have HD6 := hid HWK.out.live
          have hv : valA (wmem (2 * (j : Int)) ws l post (2 + r)) 0 = 2 * (j : Int) + 1 := by
            rw [show 2 + r = r + 2 by omega, wmem_mid (by rw [HL.out]; omega), show wrap64 (2 * (j : Int) + 1) = 2 * (j : Int) + 1 by unfold wrap64; omega]
            exact val_count
          have HVA := hid hv
          clear hv HWK
          go_wp2_with fail
          refine (load_rel _ _ p q _ HM6.out _).mono ?_
          rintro e w7 ⟨rfl, rfl⟩
          rw [HVA.out]
          clear HVA HM6
          go_wp2_with fail
          refine (done_rel _ _ _ _ HF6.out).mono ?_
          rintro e w8 ⟨rfl, rfl⟩
          rw [HD6.out]
          go_wp2_with fail
          go_ret
          exact ⟨by simp, HOX.out.below (Nat.le_refl _) (fun _ _ h => h)⟩

theorem walk (ta : Option Addr) (tc t m : Nat) (l : List Int) (V : Nat) (w : World) (hmx : l.length ≤ 9223372036854775807) (ht : t ≤ 255) (hm : m ≤ 255) (hS : Sees w ta l V) :
    Calls Try.prog 5 #[.int .u8 (t : Int), .int .u8 (m : Int), .slice ta l.length tc] w fun e w' => e = .returned (.bool true) ∧ Below w.heap.size w w' := by
  by_cases h1 : l.length = 0 ∨ 16 < l.length
  · exact walk_out ta _ tc t m w h1 hmx
  · exact walk_in ta tc t m l V w (by omega) (by omega) ht hm hS

set_option maxRecDepth 100000 in
theorem lifted (os : Os) (started : os.Started) (H : Type) (enc : TypeId × Value → H) :
    ReturnsInHanded {} Try.checked os 5 .any (Rows.seqCountsSpec.pre6 enc Try.prog Try.f5 Rows.seqCountsRow.domain false) (Rows.seqCountsSpec.post enc Try.prog Try.f5 false true false false) := by
  refine returnsInHanded_of_change (C := Try.checked) own started (by kernel_rfl) Try.func5
    (ChangeSpec.witness6 (enc := enc) (C := Try.checked) false ⟨#[], #[.int .u8 0, .int .u8 0, .slice none 0 0], []⟩ 8 (by kernel_rfl) (by kernel_rfl) (by kernel_rfl) (by kernel_rfl)) ?_
  intro W base args ds gs before hval0 hW hcnd _
  have hval : ∀ (j : Nat) t v, Try.f5.params[j]? = some t → args[j]? = some v → Value.okWide Try.prog W .any base t v := hval0
  have hW' := hW
  obtain ⟨p, q, hA0, hV, rfl, hfz, hnd⟩ := hW
  have hA : DataW.TrodAll enc Try.prog W 0 (fun _ => true) true Try.f5.params.toList args.toList ds p := hA0
  rw [Try.params5] at hA hval
  obtain ⟨v0, vs0, d0, ds0, p0, q0, hargs, rfl, rfl, h0, r0⟩ := trodAll_cons hA
  obtain ⟨v1, vs1, d1, ds1, p1, q1, rfl, rfl, rfl, h1, r1⟩ := trodAll_cons r0
  obtain ⟨v2, vs2, d2, ds2, p2, q2, rfl, rfl, rfl, h2, r2⟩ := trodAll_cons r1
  obtain ⟨rfl, rfl, rfl⟩ := trodAll_nil r2
  obtain rfl : args = #[v0, v1, v2] := by cases args; simp_all
  obtain ⟨n0, rfl, rfl, rfl, wn0⟩ := open_int Try.underlying5 (hval 0 5 v0 rfl rfl) h0
  obtain ⟨m0, rfl, hm0⟩ : ∃ m : Nat, n0 = m ∧ m ≤ 255 := by
    have := bounds_u8 wn0
    exact ⟨n0.toNat, by omega, by omega⟩
  obtain ⟨n1, rfl, rfl, rfl, wn1⟩ := open_int Try.underlying5 (hval 1 5 v1 rfl rfl) h1
  obtain ⟨m1, rfl, hm1⟩ : ∃ m : Nat, n1 = m ∧ m ≤ 255 := by
    have := bounds_u8 wn1
    exact ⟨n1.toNat, by omega, by omega⟩
  obtain ⟨ta, L, tc, rfl⟩ := okWide_slice Try.underlying22 (hval 2 22 v2 rfl rfl)
  obtain ⟨l, V, rfl, hS, _, hmx⟩ := open_sees Try.underlying22 Try.underlying2 (by kernel_rfl) h2
  refine (walk ta tc m0 m1 l V W hmx hm0 hm1 hS).mono fun e W' ⟨he, hg⟩ => ?_
  subst he
  exact ⟨_, rfl, post_law 3 4 laidOut (by kernel_rfl) rfl rfl rfl Try.underlying4 (fun l hl => by match l, hl with | [_, _, _], _ => rfl) hW' hg⟩

theorem over : Rows.seqCountsRow.holds Try.pinned (OpenSpec.ofChange Rows.seqCountsSpec) :=
  OpenClaim.holds_of_wide 5 Try.f5 rfl rfl rfl rfl rfl rfl rfl ⟨rfl, rfl, rfl, rfl, rfl⟩ rfl rfl rfl rfl rfl (by kernel_rfl) Try.func5 (by kernel_rfl)
    (of_decide_eq_true (by kernel_rfl)) (by unfold Func.isWrapper; first | (rw [if_pos (by decide +kernel)]; kernel_rfl) | (rw [if_neg (by decide +kernel)]; exact ⟨rfl, rfl⟩))
    (fun os started H enc _ => lifted os started H enc)

theorem proved : Rows.SeqCountsSaid := over
#print axioms proved
end Go.Proofs.Ytcafpdnbceoekaa.seqCounts

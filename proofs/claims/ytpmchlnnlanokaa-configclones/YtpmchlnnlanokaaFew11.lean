/-
  septumlaw11's Few and FewPart: they answer, and turn nothing. Conditions: none.
-/
import Derived.Test.YtpmchlnnlanokaaCfg11
import Derived.Test.YtpmchlnnlanokaaHide
import Derived.Deep.DeepCutAuto
import Derived.Deep.CutBlock
import Derived.BigQuiet
import Derived.Test.YtpmchlnnlanokaaProg
import Derived.Test.YtpmchlnnlanokaaChecked
namespace Go.Proofs.Ytpmchlnnlanokaa
open Go.RowKit Go.Sept

abbrev ptO (v0 v1 : Value) : Obj := .cells #[v0, v1] 39
abbrev cfO (v0 v1 v2 : Value) : Obj := .cells #[v0, v1, v2] 26

/-- It answers yes or no, and yes says X. -/
def Says (e : Ending) (X : Prop) : Prop := ∃ b : Bool, e = .returned (.bool b) ∧ (b = true → X)
theorem says_no {X : Prop} : Says (.returned (.bool false)) X := ⟨false, rfl, fun h => Bool.noConfusion h⟩
theorem says_yes {X : Prop} (h : X) : Says (.returned (.bool true)) X := ⟨true, rfl, fun _ => h⟩

set_option maxRecDepth 100000 in
set_option maxHeartbeats 1000000 in
theorem fewPart_any {P : Nat → Prop} (w : World) (v0 v1 : Value) (p : Pt) (h : PtIs P w v0 v1 p) :
    Calls Try.prog 18 #[.agg #[v0, v1]] w fun e w' => Says e (p.ths.length ≤ 20 ∧ p.obs.length ≤ 20) ∧ Only (fun _ => False) w w' := by
  obtain ⟨hT, hO⟩ := h
  obtain ⟨ta, tc, rfl, tm⟩ := hT.shape
  obtain ⟨oa, oc, rfl, om⟩ := hO.shape
  have hW : ∃ W z, W = w.alloc (ptO (.slice ta p.ths.length tc) (.slice oa p.obs.length oc)) ∧ z = w.heap.size ∧ Only (fun _ => False) w W ∧ W.heap[z]? = some (ptO (.slice ta p.ths.length tc) (.slice oa p.obs.length oc)) := ⟨_, _, rfl, rfl, (Only.refl _ _).alloc _, heap_new _ _⟩
  obtain ⟨W, z, hWe, hze, hoW, hbz⟩ := hW
  have HT := hid (hT.only (stay_th hoW (fun _ _ h => h)))
  have HO := hid hoW
  have c0 : W.cell? ⟨z, 0, none⟩ = some (.slice ta p.ths.length tc) := cell_of_block hbz 0
  have c1 : W.cell? ⟨z, 1, none⟩ = some (.slice oa p.obs.length oc) := cell_of_block hbz 1
  obtain ⟨n, hn⟩ : ∃ n, p.ths.length = n := ⟨_, rfl⟩
  obtain ⟨m, hm⟩ : ∃ m, p.obs.length = m := ⟨_, rfl⟩
  have HN := hid hn
  clear hT hO hoW hbz
  rw [hn] at hWe c0 tm ⊢
  rw [hm] at hWe c1 om ⊢
  clear hn hm
  simp only [ptO] at hWe
  go_enter Try.func18, Try.ntmps18
  go_upto_region 1 with fail
  rw [← hWe, ← hze]
  clear hWe hze
  by_cases h1 : (20 : Int) < n
  · go_wp2_with fail
    go_ret
    exact ⟨says_no, HO.out⟩
  · by_cases h2 : (20 : Int) < m
    · go_wp2_with fail
      go_ret
      exact ⟨says_no, HO.out⟩
    · go_wp2_with fail
      go_loopw [19] (fun i wx => ∃ j : Nat, i = .int .i64 (j : Int) ∧ j ≤ n ∧ wx = W) (fun i _ => n - (intOf i).toNat)
      case atStart => exact ⟨0, rfl, Nat.zero_le _, rfl⟩
      case round =>
        obtain ⟨j, rfl, hj, rfl⟩ := hrel
        by_cases hlt : (j : Int) < (n : Int)
        · obtain ⟨b, off, rfl, _, x, hx, k1, k2, k3, k4, v, k5, k6⟩ := HT.out.get j (by rw [HN.out]; omega)
          obtain ⟨pa, pc, rfl, pm⟩ := k6.shape
          obtain ⟨l, hl⟩ : ∃ l, x.prog.length = l := ⟨_, rfl⟩
          have HL := hid hl
          have HP := hid k6
          have d3 : wr.cell? ⟨b, off + j * 4 + 3, none⟩ = some (.slice pa x.prog.length pc) := k5
          rw [hl] at d3 pm
          clear k1 k2 k3 k4 k5 k6 hx hl
          by_cases h3 : (60 : Int) < l
          · go_wp2_with fail
            go_ret
            exact ⟨says_no, HO.out⟩
          · go_wp2_with fail
            go_loopw [33] (fun i wx => ∃ q : Nat, i = .int .i64 (q : Int) ∧ q ≤ l ∧ wx = wr) (fun i _ => l - (intOf i).toNat)
            case atStart => exact ⟨0, rfl, Nat.zero_le _, rfl⟩
            case round =>
              obtain ⟨q, rfl, hq, rfl⟩ := hrel
              by_cases hlt2 : (q : Int) < (l : Int)
              · obtain ⟨b2, off2, rfl, _, y, hy, _, _, _, _, ⟨v, k5, k6⟩, _⟩ := HP.out.get q (by rw [HL.out]; omega)
                obtain ⟨wa, wc, rfl, wm⟩ := k6.shape
                obtain ⟨s, hs⟩ : ∃ s, y.words.length = s := ⟨_, rfl⟩
                have d4 : wr.cell? ⟨b2, off2 + q * 6 + 4, none⟩ = some (.slice wa y.words.length wc) := k5
                rw [hs] at d4 wm
                clear k5 k6 hy hs
                by_cases h4 : (20 : Int) < s
                · go_wp2_with fail
                  go_ret
                  exact ⟨says_no, HO.out⟩
                · go_wp2_with fail
                  go_roundw
                  case rel => exact ⟨q + 1, by go_num, by omega, trivial⟩
                  case measure => simp [intOf]; omega
              · go_wp2_with fail
                go_roundw
                case rel => exact ⟨j + 1, by go_num, by omega, trivial⟩
                case measure => simp [intOf]; omega
        · go_wp2_with fail
          go_ret
          exact ⟨says_yes ⟨by omega, by omega⟩, HO.out⟩

/-- How great a configuration may be that is looked at. -/
def Small (c : Cf) : Prop := c.parts.length ≤ 20 ∧ c.wins.length ≤ 100 ∧ c.chans.length ≤ 40 ∧ ∀ p ∈ c.parts, p.ths.length ≤ 20 ∧ p.obs.length ≤ 20

set_option maxRecDepth 100000 in
set_option maxHeartbeats 1000000 in
theorem few_any {P : Nat → Prop} (w : World) (v0 v1 v2 : Value) (c : Cf) (h : CfIs P w v0 v1 v2 c) :
    Calls Try.prog 8 #[.agg #[v0, v1, v2]] w fun e w' => Says e (Small c) ∧ Only (fun _ => False) w w' := by
  obtain ⟨pa, pc, rfl, pm⟩ := h.parts.shape
  obtain ⟨wa, wc, rfl, wm⟩ := h.wins.shape
  obtain ⟨ca, cc, rfl, cm⟩ := h.chans.shape
  have hW : ∃ W z, W = w.alloc (cfO (.slice pa c.parts.length pc) (.slice wa c.wins.length wc) (.slice ca c.chans.length cc)) ∧ z = w.heap.size ∧ Only (fun _ => False) w W ∧ W.heap[z]? = some (cfO (.slice pa c.parts.length pc) (.slice wa c.wins.length wc) (.slice ca c.chans.length cc)) := ⟨_, _, rfl, rfl, (Only.refl _ _).alloc _, heap_new _ _⟩
  obtain ⟨W, z, hWe, hze, hoW, hbz⟩ := hW
  have HP := hid h.parts
  have HO := hid hoW
  have HB := hid hbz
  have c0 : W.cell? ⟨z, 0, none⟩ = some (.slice pa c.parts.length pc) := cell_of_block hbz 0
  have c1 : W.cell? ⟨z, 1, none⟩ = some (.slice wa c.wins.length wc) := cell_of_block hbz 1
  have c2 : W.cell? ⟨z, 2, none⟩ = some (.slice ca c.chans.length cc) := cell_of_block hbz 2
  obtain ⟨n, hn⟩ : ∃ n, c.parts.length = n := ⟨_, rfl⟩
  obtain ⟨m, hm⟩ : ∃ m, c.wins.length = m := ⟨_, rfl⟩
  obtain ⟨k, hk⟩ : ∃ k, c.chans.length = k := ⟨_, rfl⟩
  have HN := hid hn
  have HS : Hid (n ≤ 20 → m ≤ 100 → k ≤ 40 → (∀ p ∈ c.parts, p.ths.length ≤ 20 ∧ p.obs.length ≤ 20) → Small c) := fun a1 a2 a3 a4 => ⟨hn ▸ a1, hm ▸ a2, hk ▸ a3, a4⟩
  clear hoW hbz h
  rw [hn] at hWe c0 pm ⊢
  rw [hm] at hWe c1 wm ⊢
  rw [hk] at hWe c2 cm ⊢
  clear hn hm hk
  simp only [cfO] at hWe
  go_enter Try.func8, Try.ntmps8
  go_upto_region 1 with fail
  rw [← hWe, ← hze]
  clear hWe hze
  by_cases h1 : (20 : Int) < n
  · go_wp2_with fail
    go_ret
    exact ⟨says_no, HO.out⟩
  · by_cases h2 : (100 : Int) < m
    · go_wp2_with fail
      go_ret
      exact ⟨says_no, HO.out⟩
    · by_cases h3 : (40 : Int) < k
      · go_wp2_with fail
        go_ret
        exact ⟨says_no, HO.out⟩
      · go_wp2_with fail
        go_loopw [23] (fun i wx => ∃ j : Nat, i = .int .i64 (j : Int) ∧ j ≤ n ∧ (∀ i p, i < j → c.parts[i]? = some p → p.ths.length ≤ 20 ∧ p.obs.length ≤ 20) ∧ Only (fun _ => False) W wx) (fun i _ => n - (intOf i).toNat)
        case atStart => exact ⟨0, rfl, Nat.zero_le _, (fun i p hi => absurd hi (Nat.not_lt_zero _)), Only.refl _ _⟩
        case round =>
          obtain ⟨j, rfl, hj, hall, hox⟩ := hrel
          have HA := hid hall
          have HX := hid hox
          have hbz := (hox.block z (lt_of_block HB.out) (fun h => h)).trans HB.out
          have d0 : wr.cell? ⟨z, 0, none⟩ = some (.slice pa c.parts.length pc) := cell_of_block hbz 0
          rw [HN.out] at d0
          clear hall hox hbz c0 c1 c2
          by_cases hlt : (j : Int) < (n : Int)
          · have hp := HP.out.only (stay_pt (HO.out.chain HX.out (fun _ _ h => h)) (fun _ _ h => h))
            obtain ⟨b, off, rfl, _, x, hx, ⟨u0, k0, k1⟩, ⟨u1, k2, k3⟩⟩ := hp.get j (by rw [HN.out]; omega)
            have HI : Hid (PtIs P wr u0 u1 x) := ⟨k1, k3⟩
            have HG := hid hx
            have e0 : wr.cell? ⟨b, off + j * 2, none⟩ = some u0 := k0
            have e1 : wr.cell? ⟨b, off + j * 2 + 1, none⟩ = some u1 := k2
            clear hp k0 k1 k2 k3 hx
            go_wp2_with fail
            refine (fewPart_any _ _ _ x HI.out).mono ?_
            rintro e w2 ⟨⟨a, rfl, ha⟩, ho2⟩
            have HO2 := hid (HX.out.chain ho2 (fun _ _ h => h))
            clear ho2 HX
            cases a
            · clear ha
              go_wp2_with fail
              go_ret
              exact ⟨says_no, HO.out.chain HO2.out (fun _ _ h => h)⟩
            · have HF := hid (ha rfl)
              clear ha
              go_wp2_with fail
              go_roundw
              case rel =>
                refine ⟨j + 1, by go_num, by omega, ?_, HO2.out⟩
                intro i p hi hp
                by_cases e : i = j
                · subst e
                  rw [HG.out] at hp
                  injection hp with hp
                  subst hp
                  exact HF.out
                · exact HA.out i p (by omega) hp
              case measure => simp [intOf]; omega
          · go_wp2_with fail
            go_ret
            refine ⟨says_yes (HS.out (by omega) (by omega) (by omega) ?_), HO.out.chain HX.out (fun _ _ h => h)⟩
            intro p hp
            obtain ⟨i, hi, he⟩ := List.getElem_of_mem hp
            exact HA.out i p (by rw [HN.out] at hi; omega) (by rw [List.getElem?_eq_getElem hi, he])
end Go.Proofs.Ytpmchlnnlanokaa

/-
  septumlaw11's Few and FewPart: they answer, and turn nothing; yes says how many calls and words there are, too. Conditions: none.
-/
namespace Go.Sept
def FewT (t : Th) : Prop := t.prog.length ≤ 60 ∧ ∀ c ∈ t.prog, c.words.length ≤ 20
def FewP (p : Pt) : Prop := p.ths.length ≤ 20 ∧ p.obs.length ≤ 20 ∧ ∀ t ∈ p.ths, FewT t
end Go.Sept
namespace Go.Proofs.Ytpmchlnnlanokaa
open Go.RowKit Go.Sept

set_option maxRecDepth 100000 in
set_option maxHeartbeats 1000000 in
theorem fewPart2_any {P : Nat → Prop} (w : World) (v0 v1 : Value) (p : Pt) (h : PtIs P w v0 v1 p) :
    Calls Try.prog 18 #[.agg #[v0, v1]] w fun e w' => Says e (FewP p) ∧ Only (fun _ => False) w w' := by
  obtain ⟨hT, hO⟩ := h
  obtain ⟨ta, tc, rfl, tm⟩ := hT.shape
  obtain ⟨oa, oc, rfl, om⟩ := hO.shape
  have hW : ∃ W z, W = w.alloc (ptO (.slice ta p.ths.length tc) (.slice oa p.obs.length oc)) ∧ z = w.heap.size ∧ Only (fun _ => False) w W ∧ W.heap[z]? = some (ptO (.slice ta p.ths.length tc) (.slice oa p.obs.length oc)) := ⟨_, _, rfl, rfl, (Only.refl _ _).alloc _, heap_new _ _⟩
  obtain ⟨W, z, hWe, hze, hoW, hbz⟩ := hW
  have HT := hid (hT.only (stay_th hoW (fun _ _ h => h)))
  have HO := hid hoW
  have c0 : W.cell? ⟨z, 0, none⟩ = some (.slice ta p.ths.length tc) := cell_of_block hbz 0
  have c1 : W.cell? ⟨z, 1, none⟩ = some (.slice oa p.obs.length oc) := cell_of_block hbz 1
  obtain ⟨n, hn⟩ : ∃ n, p.ths.length = n := ⟨_, rfl⟩
  obtain ⟨m, hm⟩ : ∃ m, p.obs.length = m := ⟨_, rfl⟩
  have HN := hid hn
  have HM := hid hm
  clear hT hO hoW hbz
  rw [hn] at hWe c0 tm ⊢
  rw [hm] at hWe c1 om ⊢
  clear hn hm
  simp only [ptO] at hWe
  go_enter Try.func18, Try.ntmps18
  go_upto_region 1 with fail
  rw [← hWe, ← hze]
  clear hWe hze
  by_cases h1 : (20 : Int) < n
  · go_wp2_with fail
    go_ret
    exact ⟨says_no, HO.out⟩
  · by_cases h2 : (20 : Int) < m
    · go_wp2_with fail
      go_ret
      exact ⟨says_no, HO.out⟩
    · go_wp2_with fail
      go_loopw [19] (fun i wx => ∃ j : Nat, i = .int .i64 (j : Int) ∧ j ≤ n ∧ (∀ i x, i < j → p.ths[i]? = some x → FewT x) ∧ wx = W) (fun i _ => n - (intOf i).toNat)
      case atStart => exact ⟨0, rfl, Nat.zero_le _, (fun i x hi => absurd hi (Nat.not_lt_zero _)), rfl⟩
      case round =>
        obtain ⟨j, rfl, hj, hall, rfl⟩ := hrel
        have HA := hid hall
        clear hall
        by_cases hlt : (j : Int) < (n : Int)
        · obtain ⟨b, off, rfl, _, x, hx, k1, k2, k3, k4, v, k5, k6⟩ := HT.out.get j (by rw [HN.out]; omega)
          obtain ⟨pa, pc, rfl, pm⟩ := k6.shape
          obtain ⟨l, hl⟩ : ∃ l, x.prog.length = l := ⟨_, rfl⟩
          have HL := hid hl
          have HP := hid k6
          have d3 : wr.cell? ⟨b, off + j * 4 + 3, none⟩ = some (.slice pa x.prog.length pc) := k5
          rw [hl] at d3 pm
          have HX := hid hx
          clear k1 k2 k3 k4 k5 k6 hx hl
          by_cases h3 : (60 : Int) < l
          · go_wp2_with fail
            go_ret
            exact ⟨says_no, HO.out⟩
          · go_wp2_with fail
            go_loopw [33] (fun i wx => ∃ q : Nat, i = .int .i64 (q : Int) ∧ q ≤ l ∧ (∀ i y, i < q → x.prog[i]? = some y → y.words.length ≤ 20) ∧ wx = wr) (fun i _ => l - (intOf i).toNat)
            case atStart => exact ⟨0, rfl, Nat.zero_le _, (fun i x hi => absurd hi (Nat.not_lt_zero _)), rfl⟩
            case round =>
              obtain ⟨q, rfl, hq, hall2, rfl⟩ := hrel
              have HA2 := hid hall2
              clear hall2
              by_cases hlt2 : (q : Int) < (l : Int)
              · obtain ⟨b2, off2, rfl, _, y, hy, _, _, _, _, ⟨v, k5, k6⟩, _⟩ := HP.out.get q (by rw [HL.out]; omega)
                obtain ⟨wa, wc, rfl, wm⟩ := k6.shape
                obtain ⟨s, hs⟩ : ∃ s, y.words.length = s := ⟨_, rfl⟩
                have d4 : wr.cell? ⟨b2, off2 + q * 6 + 4, none⟩ = some (.slice wa y.words.length wc) := k5
                rw [hs] at d4 wm
                have HY := hid hy
                have HSS := hid hs
                clear k5 k6 hy hs
                by_cases h4 : (20 : Int) < s
                · go_wp2_with fail
                  go_ret
                  exact ⟨says_no, HO.out⟩
                · go_wp2_with fail
                  go_roundw
                  case rel =>
                    refine ⟨q + 1, by go_num, by omega, ?_, trivial⟩
                    intro i z hi hz
                    by_cases e : i = q
                    · subst e
                      rw [HY.out] at hz
                      injection hz with hz
                      subst hz
                      rw [HSS.out]
                      omega
                    · exact HA2.out i z (by omega) hz
                  case measure => simp [intOf]; omega
              · have HT2 : Hid (FewT x) := ⟨by rw [HL.out]; omega, fun c hc => by
                  obtain ⟨i, hi, he⟩ := List.getElem_of_mem hc
                  exact HA2.out i c (by rw [HL.out] at hi; omega) (by rw [List.getElem?_eq_getElem hi, he])⟩
                go_wp2_with fail
                go_roundw
                case rel =>
                  refine ⟨j + 1, by go_num, by omega, ?_, trivial⟩
                  intro i z hi hz
                  by_cases e : i = j
                  · subst e
                    rw [HX.out] at hz
                    injection hz with hz
                    subst hz
                    exact HT2.out
                  · exact HA.out i z (by omega) hz
                case measure => simp [intOf]; omega
        · have HFIN : Hid (∀ t ∈ p.ths, FewT t) := fun t ht => by
            obtain ⟨i, hi, he⟩ := List.getElem_of_mem ht
            exact HA.out i t (by rw [HN.out] at hi; omega) (by rw [List.getElem?_eq_getElem hi, he])
          go_wp2_with fail
          go_ret
          exact ⟨says_yes ⟨by rw [HN.out]; omega, by rw [HM.out]; omega, HFIN.out⟩, HO.out⟩

/-- How great a configuration may be that is looked at. -/
def Small2 (c : Cf) : Prop := c.parts.length ≤ 20 ∧ c.wins.length ≤ 100 ∧ c.chans.length ≤ 40 ∧ ∀ p ∈ c.parts, FewP p
theorem Small2.small {c : Cf} (h : Small2 c) : Small c := ⟨h.1, h.2.1, h.2.2.1, fun p hp => ⟨(h.2.2.2 p hp).1, (h.2.2.2 p hp).2.1⟩⟩

set_option maxRecDepth 100000 in
set_option maxHeartbeats 1000000 in
theorem few2_any {P : Nat → Prop} (w : World) (v0 v1 v2 : Value) (c : Cf) (h : CfIs P w v0 v1 v2 c) :
    Calls Try.prog 8 #[.agg #[v0, v1, v2]] w fun e w' => Says e (Small2 c) ∧ Only (fun _ => False) w w' := by
  obtain ⟨pa, pc, rfl, pm⟩ := h.parts.shape
  obtain ⟨wa, wc, rfl, wm⟩ := h.wins.shape
  obtain ⟨ca, cc, rfl, cm⟩ := h.chans.shape
  have hW : ∃ W z, W = w.alloc (cfO (.slice pa c.parts.length pc) (.slice wa c.wins.length wc) (.slice ca c.chans.length cc)) ∧ z = w.heap.size ∧ Only (fun _ => False) w W ∧ W.heap[z]? = some (cfO (.slice pa c.parts.length pc) (.slice wa c.wins.length wc) (.slice ca c.chans.length cc)) := ⟨_, _, rfl, rfl, (Only.refl _ _).alloc _, heap_new _ _⟩
  obtain ⟨W, z, hWe, hze, hoW, hbz⟩ := hW
  have HP := hid h.parts
  have HO := hid hoW
  have HB := hid hbz
  have c0 : W.cell? ⟨z, 0, none⟩ = some (.slice pa c.parts.length pc) := cell_of_block hbz 0
  have c1 : W.cell? ⟨z, 1, none⟩ = some (.slice wa c.wins.length wc) := cell_of_block hbz 1
  have c2 : W.cell? ⟨z, 2, none⟩ = some (.slice ca c.chans.length cc) := cell_of_block hbz 2
  obtain ⟨n, hn⟩ : ∃ n, c.parts.length = n := ⟨_, rfl⟩
  obtain ⟨m, hm⟩ : ∃ m, c.wins.length = m := ⟨_, rfl⟩
  obtain ⟨k, hk⟩ : ∃ k, c.chans.length = k := ⟨_, rfl⟩
  have HN := hid hn
  have HS : Hid (n ≤ 20 → m ≤ 100 → k ≤ 40 → (∀ p ∈ c.parts, FewP p) → Small2 c) := fun a1 a2 a3 a4 => ⟨hn ▸ a1, hm ▸ a2, hk ▸ a3, a4⟩
  clear hoW hbz h
  rw [hn] at hWe c0 pm ⊢
  rw [hm] at hWe c1 wm ⊢
  rw [hk] at hWe c2 cm ⊢
  clear hn hm hk
  simp only [cfO] at hWe
  go_enter Try.func8, Try.ntmps8
  go_upto_region 1 with fail
  rw [← hWe, ← hze]
  clear hWe hze
  by_cases h1 : (20 : Int) < n
  · go_wp2_with fail
    go_ret
    exact ⟨says_no, HO.out⟩
  · by_cases h2 : (100 : Int) < m
    · go_wp2_with fail
      go_ret
      exact ⟨says_no, HO.out⟩
    · by_cases h3 : (40 : Int) < k
      · go_wp2_with fail
        go_ret
        exact ⟨says_no, HO.out⟩
      · go_wp2_with fail
        go_loopw [23] (fun i wx => ∃ j : Nat, i = .int .i64 (j : Int) ∧ j ≤ n ∧ (∀ i p, i < j → c.parts[i]? = some p → FewP p) ∧ Only (fun _ => False) W wx) (fun i _ => n - (intOf i).toNat)
        case atStart => exact ⟨0, rfl, Nat.zero_le _, (fun i p hi => absurd hi (Nat.not_lt_zero _)), Only.refl _ _⟩
        case round =>
          obtain ⟨j, rfl, hj, hall, hox⟩ := hrel
          have HA := hid hall
          have HX := hid hox
          have hbz := (hox.block z (lt_of_block HB.out) (fun h => h)).trans HB.out
          have d0 : wr.cell? ⟨z, 0, none⟩ = some (.slice pa c.parts.length pc) := cell_of_block hbz 0
          rw [HN.out] at d0
          clear hall hox hbz c0 c1 c2
          by_cases hlt : (j : Int) < (n : Int)
          · have hp := HP.out.only (stay_pt (HO.out.chain HX.out (fun _ _ h => h)) (fun _ _ h => h))
            obtain ⟨b, off, rfl, _, x, hx, ⟨u0, k0, k1⟩, ⟨u1, k2, k3⟩⟩ := hp.get j (by rw [HN.out]; omega)
            have HI : Hid (PtIs P wr u0 u1 x) := ⟨k1, k3⟩
            have HG := hid hx
            have e0 : wr.cell? ⟨b, off + j * 2, none⟩ = some u0 := k0
            have e1 : wr.cell? ⟨b, off + j * 2 + 1, none⟩ = some u1 := k2
            clear hp k0 k1 k2 k3 hx
            go_wp2_with fail
            refine (fewPart2_any _ _ _ x HI.out).mono ?_
            rintro e w2 ⟨⟨a, rfl, ha⟩, ho2⟩
            have HO2 := hid (HX.out.chain ho2 (fun _ _ h => h))
            clear ho2 HX
            cases a
            · clear ha
              go_wp2_with fail
              go_ret
              exact ⟨says_no, HO.out.chain HO2.out (fun _ _ h => h)⟩
            · have HF := hid (ha rfl)
              clear ha
              go_wp2_with fail
              go_roundw
              case rel =>
                refine ⟨j + 1, by go_num, by omega, ?_, HO2.out⟩
                intro i p hi hp
                by_cases e : i = j
                · subst e
                  rw [HG.out] at hp
                  injection hp with hp
                  subst hp
                  exact HF.out
                · exact HA.out i p (by omega) hp
              case measure => simp [intOf]; omega
          · go_wp2_with fail
            go_ret
            refine ⟨says_yes (HS.out (by omega) (by omega) (by omega) ?_), HO.out.chain HX.out (fun _ _ h => h)⟩
            intro p hp
            obtain ⟨i, hi, he⟩ := List.getElem_of_mem hp
            exact HA.out i p (by rw [HN.out] at hi; omega) (by rw [List.getElem?_eq_getElem hi, he])
end Go.Proofs.Ytpmchlnnlanokaa

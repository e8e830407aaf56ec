/-
  septumlaw11's Few and FewPart: they answer, and turn nothing. Conditions: none.
-/
import Derived.Test.YtmcmjcaigipoaaaGreatCfg11
import Derived.Test.YtmcmjcaigipoaaaGreatHide
import Derived.Deep.DeepCutAuto
import Derived.Deep.CutBlock
import Derived.BigQuiet
import Derived.Test.YtmcmjcaigipoaaaGreatProg
import Derived.Test.YtmcmjcaigipoaaaGreatChecked
namespace Go.Proofs.YtmcmjcaigipoaaaGreat
open Go.RowKit Go.Sept

abbrev ptO (v0 v1 : Value) : Obj := .cells #[v0, v1] 25
abbrev cfO (v0 v1 v2 : Value) : Obj := .cells #[v0, v1, v2] 71

/-- It answers yes or no, and yes says X. -/
def Says (e : Ending) (X : Prop) : Prop := ∃ b : Bool, e = .returned (.bool b) ∧ (b = true → X)
theorem says_no {X : Prop} : Says (.returned (.bool false)) X := ⟨false, rfl, fun h => Bool.noConfusion h⟩
theorem says_yes {X : Prop} (h : X) : Says (.returned (.bool true)) X := ⟨true, rfl, fun _ => h⟩

set_option maxRecDepth 100000 in
set_option maxHeartbeats 1000000 in
theorem fewPart_any {P : Nat → Prop} (w : World) (v0 v1 : Value) (p : Pt) (h : PtIs P w v0 v1 p) :
    Calls Tryz.prog 7 #[.agg #[v0, v1]] w fun e w' => Says e (p.ths.length ≤ 20 ∧ p.obs.length ≤ 20) ∧ Only (fun _ => False) w w' := by
  obtain ⟨hT, hO⟩ := h
  obtain ⟨ta, tc, rfl, tm⟩ := hT.shape
  obtain ⟨oa, oc, rfl, om⟩ := hO.shape
  have hW : ∃ W z, W = w.alloc (ptO (.slice ta p.ths.length tc) (.slice oa p.obs.length oc)) ∧ z = w.heap.size ∧ Only (fun _ => False) w W ∧ W.heap[z]? = some (ptO (.slice ta p.ths.length tc) (.slice oa p.obs.length oc)) := ⟨_, _, rfl, rfl, (Only.refl _ _).alloc _, heap_new _ _⟩
  obtain ⟨W, z, hWe, hze, hoW, hbz⟩ := hW
  have HT := hid (hT.only (stay_th hoW (fun _ _ h => h)))
  have HO := hid hoW
  have c0 : W.cell? ⟨z, 0, none⟩ = some (.slice ta p.ths.length tc) := cell_of_block hbz 0
  have c1 : W.cell? ⟨z, 1, none⟩ = some (.slice oa p.obs.length oc) := cell_of_block hbz 1
  obtain ⟨n, hn⟩ : ∃ n, p.ths.length = n := ⟨_, rfl⟩
  obtain ⟨m, hm⟩ : ∃ m, p.obs.length = m := ⟨_, rfl⟩
  have HN := hid hn
  clear hT hO hoW hbz
  rw [hn] at hWe c0 tm ⊢
  rw [hm] at hWe c1 om ⊢
  clear hn hm
  simp only [ptO] at hWe
  go_enter Tryz.func7, Tryz.ntmps7
  go_upto_region 1 with fail
  rw [← hWe, ← hze]
  clear hWe hze
  by_cases h1 : (20 : Int) < n
  · go_wp2_with fail
    go_ret
    exact ⟨says_no, HO.out⟩
  · by_cases h2 : (20 : Int) < m
    · go_wp2_with fail
      go_ret
      exact ⟨says_no, HO.out⟩
    · go_wp2_with fail
      go_loopw [19] (fun i wx => ∃ j : Nat, i = .int .i64 (j : Int) ∧ j ≤ n ∧ wx = W) (fun i _ => n - (intOf i).toNat)
      case atStart => exact ⟨0, rfl, Nat.zero_le _, rfl⟩
      case round =>
        obtain ⟨j, rfl, hj, rfl⟩ := hrel
        by_cases hlt : (j : Int) < (n : Int)
        · obtain ⟨b, off, rfl, _, x, hx, k1, k2, k3, k4, v, k5, k6⟩ := HT.out.get j (by rw [HN.out]; omega)
          obtain ⟨pa, pc, rfl, pm⟩ := k6.shape
          obtain ⟨l, hl⟩ : ∃ l, x.prog.length = l := ⟨_, rfl⟩
          have HL := hid hl
          have HP := hid k6
          have d3 : wr.cell? ⟨b, off + j * 4 + 3, none⟩ = some (.slice pa x.prog.length pc) := k5
          rw [hl] at d3 pm
          clear k1 k2 k3 k4 k5 k6 hx hl
          by_cases h3 : (60 : Int) < l
          · go_wp2_with fail
            go_ret
            exact ⟨says_no, HO.out⟩
          · go_wp2_with fail
            go_loopw [33] (fun i wx => ∃ q : Nat, i = .int .i64 (q : Int) ∧ q ≤ l ∧ wx = wr) (fun i _ => l - (intOf i).toNat)
            case atStart => exact ⟨0, rfl, Nat.zero_le _, rfl⟩
            case round =>
              obtain ⟨q, rfl, hq, rfl⟩ := hrel
              by_cases hlt2 : (q : Int) < (l : Int)
              · obtain ⟨b2, off2, rfl, _, y, hy, _, _, _, _, ⟨v, k5, k6⟩, _⟩ := HP.out.get q (by rw [HL.out]; omega)
                obtain ⟨wa, wc, rfl, wm⟩ := k6.shape
                obtain ⟨s, hs⟩ : ∃ s, y.words.length = s := ⟨_, rfl⟩
                have d4 : wr.cell? ⟨b2, off2 + q * 6 + 4, none⟩ = some (.slice wa y.words.length wc) := k5
                rw [hs] at d4 wm
                clear k5 k6 hy hs
                by_cases h4 : (20 : Int) < s
                · go_wp2_with fail
                  go_ret
                  exact ⟨says_no, HO.out⟩
                · go_wp2_with fail
                  go_roundw
                  case rel => exact ⟨q + 1, by go_num, by omega, trivial⟩
                  case measure => simp [intOf]; omega
              · go_wp2_with fail
                go_roundw
                case rel => exact ⟨j + 1, by go_num, by omega, trivial⟩
                case measure => simp [intOf]; omega
        · go_wp2_with fail
          go_ret
          exact ⟨says_yes ⟨by omega, by omega⟩, HO.out⟩

/-- How great a configuration may be that is looked at. -/
def Small (c : Cf) : Prop := c.parts.length ≤ 20 ∧ c.wins.length ≤ 100 ∧ c.chans.length ≤ 40 ∧ ∀ p ∈ c.parts, p.ths.length ≤ 20 ∧ p.obs.length ≤ 20

end Go.Proofs.YtmcmjcaigipoaaaGreat

/-
  septumlaw11's Few and FewPart: they answer, and turn nothing; yes says how many calls and words there are, too. Conditions: none.
-/
namespace Go.Sept
def FewT (t : Th) : Prop := t.prog.length ≤ 60 ∧ ∀ c ∈ t.prog, c.words.length ≤ 20
def FewP (p : Pt) : Prop := p.ths.length ≤ 20 ∧ p.obs.length ≤ 20 ∧ ∀ t ∈ p.ths, FewT t
end Go.Sept
namespace Go.Proofs.YtmcmjcaigipoaaaGreat
open Go.RowKit Go.Sept

set_option maxRecDepth 100000 in
set_option maxHeartbeats 1000000 in
theorem fewPart2_any {P : Nat → Prop} (w : World) (v0 v1 : Value) (p : Pt) (h : PtIs P w v0 v1 p) :
    Calls Tryz.prog 7 #[.agg #[v0, v1]] w fun e w' => Says e (FewP p) ∧ Only (fun _ => False) w w' := by
  obtain ⟨hT, hO⟩ := h
  obtain ⟨ta, tc, rfl, tm⟩ := hT.shape
  obtain ⟨oa, oc, rfl, om⟩ := hO.shape
  have hW : ∃ W z, W = w.alloc (ptO (.slice ta p.ths.length tc) (.slice oa p.obs.length oc)) ∧ z = w.heap.size ∧ Only (fun _ => False) w W ∧ W.heap[z]? = some (ptO (.slice ta p.ths.length tc) (.slice oa p.obs.length oc)) := ⟨_, _, rfl, rfl, (Only.refl _ _).alloc _, heap_new _ _⟩
  obtain ⟨W, z, hWe, hze, hoW, hbz⟩ := hW
  have HT := hid (hT.only (stay_th hoW (fun _ _ h => h)))
  have HO := hid hoW
  have c0 : W.cell? ⟨z, 0, none⟩ = some (.slice ta p.ths.length tc) := cell_of_block hbz 0
  have c1 : W.cell? ⟨z, 1, none⟩ = some (.slice oa p.obs.length oc) := cell_of_block hbz 1
  obtain ⟨n, hn⟩ : ∃ n, p.ths.length = n := ⟨_, rfl⟩
  obtain ⟨m, hm⟩ : ∃ m, p.obs.length = m := ⟨_, rfl⟩
  have HN := hid hn
  have HM := hid hm
  clear hT hO hoW hbz
  rw [hn] at hWe c0 tm ⊢
  rw [hm] at hWe c1 om ⊢
  clear hn hm
  simp only [ptO] at hWe
  go_enter Tryz.func7, Tryz.ntmps7
  go_upto_region 1 with fail
  rw [← hWe, ← hze]
  clear hWe hze
  by_cases h1 : (20 : Int) < n
  · go_wp2_with fail
    go_ret
    exact ⟨says_no, HO.out⟩
  · by_cases h2 : (20 : Int) < m
    · go_wp2_with fail
      go_ret
      exact ⟨says_no, HO.out⟩
    · go_wp2_with fail
      go_loopw [19] (fun i wx => ∃ j : Nat, i = .int .i64 (j : Int) ∧ j ≤ n ∧ (∀ i x, i < j → p.ths[i]? = some x → FewT x) ∧ wx = W) (fun i _ => n - (intOf i).toNat)
      case atStart => exact ⟨0, rfl, Nat.zero_le _, (fun i x hi => absurd hi (Nat.not_lt_zero _)), rfl⟩
      case round =>
        obtain ⟨j, rfl, hj, hall, rfl⟩ := hrel
        have HA := hid hall
        clear hall
        by_cases hlt : (j : Int) < (n : Int)
        · obtain ⟨b, off, rfl, _, x, hx, k1, k2, k3, k4, v, k5, k6⟩ := HT.out.get j (by rw [HN.out]; omega)
          obtain ⟨pa, pc, rfl, pm⟩ := k6.shape
          obtain ⟨l, hl⟩ : ∃ l, x.prog.length = l := ⟨_, rfl⟩
          have HL := hid hl
          have HP := hid k6
          have d3 : wr.cell? ⟨b, off + j * 4 + 3, none⟩ = some (.slice pa x.prog.length pc) := k5
          rw [hl] at d3 pm
          have HX := hid hx
          clear k1 k2 k3 k4 k5 k6 hx hl
          by_cases h3 : (60 : Int) < l
          · go_wp2_with fail
            go_ret
            exact ⟨says_no, HO.out⟩
          · go_wp2_with fail
            go_loopw [33] (fun i wx => ∃ q : Nat, i = .int .i64 (q : Int) ∧ q ≤ l ∧ (∀ i y, i < q → x.prog[i]? = some y → y.words.length ≤ 20) ∧ wx = wr) (fun i _ => l - (intOf i).toNat)
            case atStart => exact ⟨0, rfl, Nat.zero_le _, (fun i x hi => absurd hi (Nat.not_lt_zero _)), rfl⟩
            case round =>
              obtain ⟨q, rfl, hq, hall2, rfl⟩ := hrel
              have HA2 := hid hall2
              clear hall2
              by_cases hlt2 : (q : Int) < (l : Int)
              · obtain ⟨b2, off2, rfl, _, y, hy, _, _, _, _, ⟨v, k5, k6⟩, _⟩ := HP.out.get q (by rw [HL.out]; omega)
                obtain ⟨wa, wc, rfl, wm⟩ := k6.shape
                obtain ⟨s, hs⟩ : ∃ s, y.words.length = s := ⟨_, rfl⟩
                have d4 : wr.cell? ⟨b2, off2 + q * 6 + 4, none⟩ = some (.slice wa y.words.length wc) := k5
                rw [hs] at d4 wm
                have HY := hid hy
                have HSS := hid hs
                clear k5 k6 hy hs
                by_cases h4 : (20 : Int) < s
                · go_wp2_with fail
                  go_ret
                  exact ⟨says_no, HO.out⟩
                · go_wp2_with fail
                  go_roundw
                  case rel =>
                    refine ⟨q + 1, by go_num, by omega, ?_, trivial⟩
                    intro i z hi hz
                    by_cases e : i = q
                    · subst e
                      rw [HY.out] at hz
                      injection hz with hz
                      subst hz
                      rw [HSS.out]
                      omega
                    · exact HA2.out i z (by omega) hz
                  case measure => simp [intOf]; omega
              · have HT2 : Hid (FewT x) := ⟨by rw [HL.out]; omega, fun c hc => by
                  obtain ⟨i, hi, he⟩ := List.getElem_of_mem hc
                  exact HA2.out i c (by rw [HL.out] at hi; omega) (by rw [List.getElem?_eq_getElem hi, he])⟩
                go_wp2_with fail
                go_roundw
                case rel =>
                  refine ⟨j + 1, by go_num, by omega, ?_, trivial⟩
                  intro i z hi hz
                  by_cases e : i = j
                  · subst e
                    rw [HX.out] at hz
                    injection hz with hz
                    subst hz
                    exact HT2.out
                  · exact HA.out i z (by omega) hz
                case measure => simp [intOf]; omega
        · have HFIN : Hid (∀ t ∈ p.ths, FewT t) := fun t ht => by
            obtain ⟨i, hi, he⟩ := List.getElem_of_mem ht
            exact HA.out i t (by rw [HN.out] at hi; omega) (by rw [List.getElem?_eq_getElem hi, he])
          go_wp2_with fail
          go_ret
          exact ⟨says_yes ⟨by rw [HN.out]; omega, by rw [HM.out]; omega, HFIN.out⟩, HO.out⟩

/-- How great a configuration may be that is looked at. -/
def Small2 (c : Cf) : Prop := c.parts.length ≤ 20 ∧ c.wins.length ≤ 100 ∧ c.chans.length ≤ 40 ∧ ∀ p ∈ c.parts, FewP p
theorem Small2.small {c : Cf} (h : Small2 c) : Small c := ⟨h.1, h.2.1, h.2.2.1, fun p hp => ⟨(h.2.2.2 p hp).1, (h.2.2.2 p hp).2.1⟩⟩

end Go.Proofs.YtmcmjcaigipoaaaGreat

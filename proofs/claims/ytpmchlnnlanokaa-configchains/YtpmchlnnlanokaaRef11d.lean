/-
  septumref11: Valid, has and Leads. Conditions: none.
-/
import Derived.Test.YtpmchlnnlanokaaRef11
import Derived.Test.YtpmchlnnlanokaaGrow
import Derived.Deep.LoopGhost
namespace Go.Proofs.Ytpmchlnnlanokaa
open Go.RowKit Go.Sept

/-- What Valid answers. -/
def errW (n : Int) : Int := if n = 0 then 0 else 15
def validV (n : Int) : Value := .tuple #[.int .i64 n, .int .i64 (errW n)]

set_option maxRecDepth 100000 in
set_option maxHeartbeats 1000000 in
theorem rValid {P : Nat → Prop} (w : World) (v0 v1 v2 : Value) (c : Cf) (h : CfIs P w v0 v1 v2 c) :
    Calls Try.prog 10 #[.agg #[v0, v1, v2]] w fun e w' => e = .returned (validV (wrongW c)) ∧ Only (fun _ => False) w w' := by
  have hW : ∃ W z, W = w.alloc (cfO v0 v1 v2) ∧ z = w.heap.size ∧ Only (fun _ => False) w W ∧ W.heap[z]? = some (cfO v0 v1 v2) := ⟨_, _, rfl, rfl, (Only.refl _ _).alloc _, heap_new _ _⟩
  obtain ⟨W, z, hWe, hze, hoW, hbz⟩ := hW
  have HC := hid (h.only hoW (fun _ _ h => h))
  have HO := hid hoW
  obtain ⟨c0, c1, c2⟩ := cf_cells hbz (Only.refl _ _)
  obtain ⟨r, hr⟩ : ∃ r, wrongW c = r := ⟨_, rfl⟩
  have HR := hid hr
  rw [hr]
  clear hoW hbz h hr
  simp only [cfO] at hWe
  go_enter Try.func10, Try.ntmps10
  go_upto_region 1 with fail
  rw [← hWe, ← hze]
  clear hWe hze
  go_wp2_with fail
  refine (rWrong _ _ _ _ c HC.out).mono ?_
  rintro e w2 ⟨rfl, ho2⟩
  rw [HR.out]
  have HO2 := hid (HO.out.chain ho2 (fun _ _ h => h))
  clear ho2
  by_cases hz : r = 0
  · subst hz
    go_wp2_with fail
    go_ret2
    exact ⟨rfl, HO2.out⟩
  · have HE : Hid (validV r = .tuple #[.int .i64 r, .int .i64 15]) := by show _ = _; rw [validV, errW, if_neg hz]
    go_wp2_with fail
    go_ret2
    exact ⟨by rw [HE.out]; rfl, HO2.out⟩

/-- A slice of ints that holds xs. -/
def IntsIs (w : World) (ao : Option Addr) (xs : List Int) : Prop := ∃ b off, ∀ i x, xs[i]? = some x → ao = some ⟨b, off, none⟩ ∧ w.cell? ⟨b, off + i, none⟩ = some (.int .i64 x)

set_option maxRecDepth 100000 in
set_option maxHeartbeats 1000000 in
theorem rHas (w : World) (ao : Option Addr) (cap : Nat) (xs : List Int) (x : Int) (h : IntsIs w ao xs) (hm : xs.length ≤ 9223372036854775807) :
    Calls Try.prog 22 #[.slice ao xs.length cap, .int .i64 x] w fun e w' => e = .returned (.bool (xs.contains x)) ∧ w' = w := by
  obtain ⟨n, hn⟩ : ∃ n, xs.length = n := ⟨_, rfl⟩
  have HN := hid hn
  have HI := hid h
  rw [hn] at hm ⊢
  obtain ⟨r, hr⟩ : ∃ r, xs.contains x = r := ⟨_, rfl⟩
  have HR := hid hr
  rw [hr]
  clear h hn hr
  go_enter Try.func22, Try.ntmps22
  go_wp2_with fail
  go_loopw [8] (fun i wx => ∃ j : Nat, i = .int .i64 (j : Int) ∧ j ≤ n ∧ (∀ a y, a < j → xs[a]? = some y → y ≠ x) ∧ wx = w) (fun i _ => n - (intOf i).toNat)
  case atStart => exact ⟨0, rfl, Nat.zero_le _, (fun a y ha => absurd ha (Nat.not_lt_zero _)), rfl⟩
  case round =>
  obtain ⟨j, rfl, hj, hall, rfl⟩ := hrel
  have HA := hid hall
  clear hall
  by_cases hlt : (j : Int) < (n : Int)
  · obtain ⟨b, off, hI⟩ := HI.out
    have hy : xs[j]? = some (xs[j]'(by rw [HN.out]; omega)) := List.getElem?_eq_getElem _
    obtain ⟨y, hye⟩ : ∃ y, xs[j]'(by rw [HN.out]; omega) = y := ⟨_, rfl⟩
    rw [hye] at hy
    obtain ⟨rfl, e0⟩ := hI j y hy
    have HY := hid hy
    clear hI hy hye
    by_cases hxy : y = x
    · have hb : (y == x) = true := beq_iff_eq.2 hxy
      have HE : Hid (r = true) := by
        show _ = _
        rw [← HR.out, List.contains_iff_mem, ← hxy]
        exact List.mem_of_getElem? HY.out
      clear hxy
      go_wp2_with fail
      go_ret
      exact ⟨by rw [HE.out]; rfl, rfl⟩
    · have hb : (y == x) = false := beq_eq_false_iff_ne.2 hxy
      have HNE := hid hxy
      clear hxy
      go_wp2_with fail
      go_roundw
      case rel =>
        refine ⟨j + 1, by go_num, by omega, ?_, trivial⟩
        intro a z ha hz
        by_cases ea : a = j
        · subst ea
          rw [HY.out] at hz
          injection hz with hz
          subst hz
          exact HNE.out
        · exact HA.out a z (by omega) hz
      case measure => simp [intOf]; omega
  · have HE : Hid (r = false) := by
      show _ = _
      rw [← HR.out]
      cases hc : xs.contains x with
      | false => rfl
      | true =>
        rw [List.contains_iff_mem] at hc
        obtain ⟨i, hi, he⟩ := List.getElem_of_mem hc
        exact absurd he (HA.out i _ (by rw [HN.out] at hi; omega) (List.getElem?_eq_getElem hi))
    go_wp2_with fail
    go_ret
    exact ⟨by rw [HE.out]; rfl, rfl⟩
end Go.Proofs.Ytpmchlnnlanokaa

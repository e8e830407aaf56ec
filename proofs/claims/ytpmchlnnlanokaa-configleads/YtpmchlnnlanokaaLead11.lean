/-
  Whether channels lead from one partition to another, as plain mathematics, and septumref11.Leads. Conditions: none.
-/
import Derived.Test.YtpmchlnnlanokaaRef11d
import Derived.Deep.RegionHeld
namespace Go.Sept
/-- Channels lead from a to b: b is in each set that has a, and is shut under the channels. -/
def LeadsTo (l : List Chn) (a b : Int) : Prop := ∀ S : Int → Prop, S a → (∀ x ∈ l, S x.src → S x.dst) → S b
theorem LeadsTo.refl (l : List Chn) (a : Int) : LeadsTo l a a := fun _ h _ => h
theorem LeadsTo.trans {l : List Chn} {a b c : Int} (h : LeadsTo l a b) (k : LeadsTo l b c) : LeadsTo l a c := fun S ha hS => k S (h S ha hS) hS
theorem LeadsTo.step {l : List Chn} {a : Int} {x : Chn} (h : LeadsTo l a x.src) (hx : x ∈ l) : LeadsTo l a x.dst := fun S ha hS => hS x hx (h S ha hS)

/-- What was reached so far, of which the first j are done. -/
structure Lv (l : List Chn) (f t : Int) (j : Nat) (rs : List Int) : Prop where
  first : f ∈ rs
  reach : ∀ x ∈ rs, LeadsTo l f x
  past : ∀ a x, a < j → rs[a]? = some x → x ≠ t
  shut : ∀ a x, a < j → rs[a]? = some x → ∀ ch ∈ l, ch.src = x → ch.dst ∈ rs
  room : rs.length + (l.filter fun ch => !rs.contains ch.dst).length ≤ 1 + l.length
theorem Lv.start (l : List Chn) (f t : Int) : Lv l f t 0 [f] :=
  ⟨by simp, fun x hx => by rw [List.mem_singleton.1 hx]; exact LeadsTo.refl _ _, fun a x ha => absurd ha (Nat.not_lt_zero _), fun a x ha => absurd ha (Nat.not_lt_zero _), by
    have := List.length_filter_le (fun ch : Chn => !([f] : List Int).contains ch.dst) l
    simp only [List.length_singleton]
    omega⟩
theorem filter_less {α : Type} {l : List α} {p q : α → Bool} (h : ∀ x ∈ l, q x = true → p x = true) {x : α} (hx : x ∈ l) (hp : p x = true) (hq : q x = false) : (l.filter q).length < (l.filter p).length := by
  induction l with
  | nil => cases hx
  | cons y r ih =>
    have hle : ∀ r : List α, (∀ x ∈ r, q x = true → p x = true) → (r.filter q).length ≤ (r.filter p).length := by
      intro r hr
      induction r with
      | nil => exact Nat.le_refl _
      | cons z s ihs =>
        have i1 := ihs (fun x hx => hr x (List.mem_cons_of_mem _ hx))
        have i2 := hr z (List.mem_cons_self ..)
        rw [List.filter_cons, List.filter_cons]
        cases hqz : q z
        · cases p z
          · simpa using i1
          · simp only [if_true, List.length_cons]
            simp
            omega
        · rw [i2 hqz]
          simpa using i1
    rw [List.filter_cons, List.filter_cons]
    rcases List.mem_cons.1 hx with rfl | hx
    · have i1 := hle r (fun x hx => h x (List.mem_cons_of_mem _ hx))
      rw [hp, hq]
      simp
      omega
    · have i1 := ih (fun x hx => h x (List.mem_cons_of_mem _ hx)) hx
      have i2 := h y (List.mem_cons_self ..)
      cases hqz : q y
      · cases p y
        · simpa using i1
        · simp
          omega
      · rw [i2 hqz]
        simpa using i1
theorem Lv.more {l : List Chn} {f t : Int} {j : Nat} {rs : List Int} (h : Lv l f t j rs) (hj : j ≤ rs.length) {ch : Chn} (hc : ch ∈ l) (hs : ch.src ∈ rs) (hn : rs.contains ch.dst = false) : Lv l f t j (rs ++ [ch.dst]) := by
  have hold : ∀ a x, a < j → (rs ++ [ch.dst])[a]? = some x → rs[a]? = some x := fun a x ha hx => by
    rw [List.getElem?_append_left (by omega)] at hx
    exact hx
  refine ⟨List.mem_append_left _ h.first, fun x hx => ?_, fun a x ha hx => h.past a x ha (hold a x ha hx), fun a x ha hx c hc he => List.mem_append_left _ (h.shut a x ha (hold a x ha hx) c hc he), ?_⟩
  · rcases List.mem_append.1 hx with hx | hx
    · exact h.reach x hx
    · rw [List.mem_singleton.1 hx]
      exact (h.reach _ hs).step hc
  · have h1 := h.room
    have h2 : (l.filter fun c => !(rs ++ [ch.dst]).contains c.dst).length < (l.filter fun c => !rs.contains c.dst).length := by
      refine filter_less (fun x _ hx => ?_) hc (by rw [hn]; rfl) (by simp)
      cases hr : rs.contains x.dst with
      | false => rfl
      | true =>
        rw [List.contains_iff_mem] at hr
        have h3 : (rs ++ [ch.dst]).contains x.dst = true := by
          rw [List.contains_iff_mem]
          exact List.mem_append_left _ hr
        rw [h3] at hx
        cases hx
    rw [List.length_append, List.length_singleton]
    omega
theorem Lv.next {l : List Chn} {f t : Int} {j : Nat} {rs : List Int} (h : Lv l f t j rs) {x : Int} (hx : rs[j]? = some x) (ht : x ≠ t) (hs : ∀ ch ∈ l, ch.src = x → ch.dst ∈ rs) : Lv l f t (j + 1) rs := by
  refine ⟨h.first, h.reach, fun a y ha hy => ?_, fun a y ha hy => ?_, h.room⟩
  · by_cases e : a = j
    · subst e
      rw [hx] at hy
      injection hy with hy
      subst hy
      exact ht
    · exact h.past a y (by omega) hy
  · by_cases e : a = j
    · subst e
      rw [hx] at hy
      injection hy with hy
      subst hy
      exact hs
    · exact h.shut a y (by omega) hy
theorem Lv.no {l : List Chn} {f t : Int} {j : Nat} {rs : List Int} (h : Lv l f t j rs) (hj : rs.length ≤ j) : ¬ LeadsTo l f t := by
  intro hr
  have ht : t ∈ rs := hr (fun x => x ∈ rs) h.first (fun ch hc hs => by
    obtain ⟨i, hi, he⟩ := List.getElem_of_mem hs
    exact h.shut i _ (by omega) (List.getElem?_eq_getElem hi) ch hc he.symm)
  obtain ⟨i, hi, he⟩ := List.getElem_of_mem ht
  exact h.past i t (by omega) (by rw [List.getElem?_eq_getElem hi, he]) rfl
end Go.Sept

namespace Go.Proofs.Ytpmchlnnlanokaa
open Go.RowKit Go.Sept

/-- It answers whether X. -/
def Tells (e : Ending) (X : Prop) : Prop := ∃ b : Bool, e = .returned (.bool b) ∧ (b = true ↔ X)
theorem tells_yes {X : Prop} (h : X) : Tells (.returned (.bool true)) X := ⟨true, rfl, fun _ => h, fun _ => rfl⟩
theorem tells_no {X : Prop} (h : ¬ X) : Tells (.returned (.bool false)) X := ⟨false, rfl, (fun e => Bool.noConfusion e), fun e => absurd e h⟩

theorem infoInt11 : (Try.prog.info? 3).map (fun i => (i.zero, i.size, i.bytes)) = some (some (.int .i64 0), 1, 8) := by kernel_rfl
theorem one_int11 (x : Int) : ∀ u ∈ [Value.int .i64 x], u.oneCell' = true := by
  intro u hu
  rw [List.mem_singleton] at hu
  subst hu
  rfl
/-- A slice of ints of its own. -/
def Own3 (w : World) (v : Value) (b : Nat) (xs : List Int) : Prop := Grow 3 1 w v b xs.length (xs.map (Value.int .i64))
theorem Own3.ints {w : World} {v : Value} {b : Nat} {xs : List Int} (h : Own3 w v b xs) : ∃ ao cap, v = .slice ao xs.length cap ∧ IntsIs w ao xs ∧ xs.length ≤ 9223372036854775807 := by
  by_cases h0 : 0 < xs.length
  · obtain ⟨cap, h1, h2, h3, h4⟩ := Grow.cells h h0
    unfold maxLen at h3
    refine ⟨_, cap, h1, ⟨b, 0, fun i x hx => ⟨rfl, ?_⟩⟩, by omega⟩
    rw [Nat.zero_add]
    exact h4 i _ (by rw [List.getElem?_map, hx]; rfl)
  · obtain ⟨ao, cap, h1, _⟩ := Grow.shape h
    exact ⟨ao, cap, h1, ⟨0, 0, fun i x hx => by rw [show xs = [] from List.length_eq_zero_iff.1 (by omega)] at hx; simp at hx⟩, by omega⟩

set_option maxRecDepth 100000 in
set_option maxHeartbeats 2000000 in
theorem rLeads {P : Nat → Prop} (w : World) (v0 v1 v2 : Value) (c : Cf) (h : CfIs P w v0 v1 v2 c) (hsm : c.chans.length ≤ 40) (f t : Int) :
    Calls Try.prog 14 #[.agg #[v0, v1, v2], .int .i64 f, .int .i64 t] w fun e w' => Tells e (LeadsTo c.chans f t) ∧ Only (fun _ => False) w w' := by
  obtain ⟨ca, cc, rfl, cm⟩ := h.chans.shape
  obtain ⟨k, hk⟩ : ∃ k, c.chans.length = k := ⟨_, rfl⟩
  have HK := hid hk
  rw [hk] at h cm hsm ⊢
  clear hk
  have hW : ∃ W z, W = w.alloc (cfO v0 v1 (.slice ca k cc)) ∧ z = w.heap.size ∧ Only (fun _ => False) w W ∧ W.heap[z]? = some (cfO v0 v1 (.slice ca k cc)) := ⟨_, _, rfl, rfl, (Only.refl _ _).alloc _, heap_new _ _⟩
  obtain ⟨W, z, hWe, hze, hoW, hbz⟩ := hW
  have HC := hid (h.only hoW (fun _ _ h => h)).chans
  have HO := hid hoW
  have HB := hid hbz
  have HR0 : Hid (Own3 (W.alloc (.cells #[.int .i64 f] 3)) (.slice (some ⟨W.heap.size, 0, none⟩) 1 1) W.heap.size [f]) := Grow.made W 1 [.int .i64 f] (by unfold maxLen; decide) rfl
  clear hoW hbz h
  simp only [cfO] at hWe
  go_enter Try.func14, Try.ntmps14
  go_upto_region 1 with fail
  rw [← hWe, ← hze]
  clear hWe hze
  go_wp2_with fail
  go_loopw [7, 8] (fun v i wx => ∃ (j b : Nat) (rs : List Int), i = .int .i64 (j : Int) ∧ j ≤ rs.length ∧ Lv c.chans f t j rs ∧ Own3 wx v b rs ∧ W.heap.size ≤ b ∧ Only (fun _ => False) W wx) (fun _ i _ => 1 + k - (intOf i).toNat)
  case atStart => exact ⟨0, _, [f], rfl, Nat.zero_le _, Lv.start _ _ _, HR0.out, Nat.le_refl _, (Only.refl _ _).alloc _⟩
  case round =>
  clear HR0
  obtain ⟨j, b, rs, rfl, hj, hlv, hown, hbW, hox⟩ := hrel
  have HL := hid hlv
  have HW := hid hown
  have HX := hid hox
  obtain ⟨ao, cap, rfl, hints, hmax⟩ := hown.ints
  have HI := hid hints
  obtain ⟨_, _, d2⟩ := cf_cells HB.out hox
  obtain ⟨n, hn⟩ : ∃ n, rs.length = n := ⟨_, rfl⟩
  have HN := hid hn
  have hroom : n ≤ 1 + k := by have := hlv.room; rw [HK.out, hn] at this; omega
  rw [hn] at hj hmax ⊢
  clear hlv hown hox hints hn
  by_cases hlt : (j : Int) < (n : Int)
  · obtain ⟨rb, ro, hI⟩ := HI.out
    obtain ⟨x, hx⟩ : ∃ x, rs[j]? = some x := ⟨_, List.getElem?_eq_getElem (show j < rs.length by rw [HN.out]; omega)⟩
    obtain ⟨rfl, e0⟩ := hI j x hx
    have HXJ := hid hx
    clear hI hx
    by_cases hxt : x = t
    · have hb : (x == t) = true := beq_iff_eq.2 hxt
      have HE : Hid (LeadsTo c.chans f t) := by rw [← hxt]; exact HL.out.reach x (List.mem_of_getElem? HXJ.out)
      clear hxt
      go_wp2_with fail
      go_ret
      exact ⟨tells_yes HE.out, HO.out.chain HX.out (fun _ _ h => h)⟩
    have hb : (x == t) = false := beq_eq_false_iff_ne.2 hxt
    have HXT := hid hxt
    clear hxt
    go_wp2_with fail
    clear hb
    go_loopw [7, 28] (fun v i wx => ∃ (q b : Nat) (rs' : List Int), i = .int .i64 (q : Int) ∧ q ≤ k ∧ Lv c.chans f t j rs' ∧ rs'[j]? = some x ∧ (∀ a y, a < q → c.chans[a]? = some y → y.src = x → y.dst ∈ rs') ∧ Own3 wx v b rs' ∧ W.heap.size ≤ b ∧ Only (fun _ => False) W wx) (fun _ i _ => k - (intOf i).toNat)
    case atStart => exact ⟨0, _, rs, rfl, Nat.zero_le _, HL.out, HXJ.out, (fun a y ha => absurd ha (Nat.not_lt_zero _)), by have := HW.out; rw [HN.out] at this; exact this, hbW, HX.out⟩
    case round =>
    clear HL HW HX HI HXJ e0 d2 hbW hmax
    obtain ⟨q, b, rs', rfl, hq, hlv, hxj, hdone, hown, hbW, hox⟩ := hrel
    have HL := hid hlv
    have HW := hid hown
    have HX := hid hox
    have HXJ := hid hxj
    have HD := hid hdone
    obtain ⟨ao, cap, rfl, hints, hmax⟩ := hown.ints
    have HI := hid hints
    obtain ⟨_, _, d2⟩ := cf_cells HB.out hox
    obtain ⟨n', hn'⟩ : ∃ n, rs'.length = n := ⟨_, rfl⟩
    have HN' := hid hn'
    have hjn : j < n' := by rw [← hn']; exact (List.getElem?_eq_some_iff.1 hxj).1
    have hroom' : n' ≤ 1 + k := by have := hlv.room; rw [HK.out, hn'] at this; omega
    rw [hn'] at hmax ⊢
    clear hlv hown hox hints hn' hxj hdone
    by_cases hlt2 : (q : Int) < (k : Int)
    · obtain ⟨cb, co, rfl, _, y, hy, k1, k2, k3, k4⟩ := (HC.out.only (stay_chn HX.out (fun _ _ h => h))).get q (by rw [HK.out]; omega)
      obtain ⟨yf, hyf⟩ : ∃ u, y.src = u := ⟨_, rfl⟩
      obtain ⟨yt, hyt⟩ : ∃ u, y.dst = u := ⟨_, rfl⟩
      have e0 : wr.cell? ⟨cb, co + q * 4, none⟩ = some (.int .i64 y.src) := k1.1
      have e1 : wr.cell? ⟨cb, co + q * 4 + 1, none⟩ = some (.int .i64 y.out) := k2.1
      have e2 : wr.cell? ⟨cb, co + q * 4 + 2, none⟩ = some (.int .i64 y.dst) := k3.1
      have e3 : wr.cell? ⟨cb, co + q * 4 + 3, none⟩ = some (.int .i64 y.inn) := k4.1
      have HY := hid hy
      have HYF := hid hyf
      have HYT := hid hyt
      rw [hyf] at e0
      rw [hyt] at e2
      have hV : ∃ V u, V = wr.alloc (.cells #[.int .i64 yf, .int .i64 y.out, .int .i64 yt, .int .i64 y.inn] 54) ∧ u = wr.heap.size ∧ Only (fun _ => False) wr V ∧ V.cell? ⟨u, 0, none⟩ = some (.int .i64 yf) ∧ V.cell? ⟨u, 2, none⟩ = some (.int .i64 yt) :=
        ⟨_, _, rfl, rfl, (Only.refl _ _).alloc _, cell_of_block (heap_new _ _) 0, cell_of_block (heap_new _ _) 2⟩
      obtain ⟨V, u, hVe, hue, hoV, f0, f2⟩ := hV
      have HV := hid (HX.out.chain hoV (fun _ _ h => h))
      have HWV : Hid (Own3 V (.slice ao n' cap) b rs') := by have := HW.out; rw [HN'.out] at this; exact Grow.only this hoV (fun h => h)
      obtain ⟨ao', cap', heq, hints, _⟩ := Own3.ints HWV.out
      injection heq with h8 h9 h10
      subst h8
      clear h9 h10
      have HI' := hid hints
      obtain ⟨rb, ro, hI⟩ := hints
      obtain ⟨rfl, g0⟩ := hI j x HXJ.out
      clear hI hoV k1 k2 k3 k4 hy hyf hyt HW HI
      go_upto_region 11 with fail
      rw [← hVe, ← hue]
      clear hVe hue e0 e1 e2 e3 d2
      by_cases hfx : yf = x
      · have hb : (yf == x) = true := beq_iff_eq.2 hfx
        have HFX := hid hfx
        clear hfx
        obtain ⟨r, hr⟩ : ∃ r, rs'.contains yt = r := ⟨_, rfl⟩
        have HR := hid hr
        have HH : Hid (∀ (dn cp : Nat), Calls Try.prog 22 #[.slice (some ⟨rb, ro, none⟩) n' cp, .int .i64 yt] (V.drewN dn) fun e w' => e = .returned (.bool r) ∧ w' = V.drewN dn) := fun dn cp => by
          have h9 := rHas (V.drewN dn) (some ⟨rb, ro, none⟩) cp rs' yt HI'.out (by rw [HN'.out]; exact hmax)
          rw [hr, HN'.out] at h9
          exact h9
        clear hr
        cases r
        · go_quiet (first | (go_at_call 22; exact Calls.quiet_of_same (HH.out _ _)))
          have hO : Only (fun _ => False) V ((V.drewN nq).alloc (.cells #[.int .i64 yt] 3)) := (only_drewN (Only.refl _ _) nq).alloc _
          have hg0 : Grow 3 1 ((V.drewN nq).alloc (.cells #[.int .i64 yt] 3)) (.slice (some ⟨rb, ro, none⟩) n' cap) b rs'.length (rs'.map (Value.int .i64)) := Grow.only HWV.out hO (fun h => h)
          rw [HN'.out] at hg0
          have HG0 := hid hg0
          have HOV := hid (HV.out.chain hO (fun _ _ h => h))
          clear hO hg0
          go_wp2_with (at_builtin; refine wpList_append_grown _ rfl (.tmp 50) (.tmp 53) 55 rfl 3 _ 1 8 Try.underlying55 infoInt11 rfl (by decide) (.slice (some ⟨rb, ro, none⟩) n' cap) b n' (rs'.map (Value.int .i64)) rfl HG0.out ⟨(V.drewN nq).heap.size, 0, none⟩ 1 1 [.int .i64 yt] rfl (by decide) rfl (news_of_block (heap_new (V.drewN nq) (.cells #[.int .i64 yt] 3))) (one_int11 _) (by unfold maxLen; omega) (by omega) ?_)
          intro b' cap' w' h1 h2 h3
          have HOW : Hid (Own3 w' (.slice (some ⟨b', 0, none⟩) (n' + 1 : Nat) cap') b' (rs' ++ [yt])) := by
            show Grow 3 1 _ _ _ _ _
            rw [List.length_append, List.length_singleton, HN'.out, List.map_append]
            exact h1
          have HBW : Hid (W.heap.size ≤ b') := by
            show _ ≤ _
            have z1 := HV.out.size
            rcases h3 with h3 | h3
            · omega
            · omega
          have HOX : Hid (Only (fun _ => False) W w') := HOV.out.chain h2 (fun i hi e => by
            have := HG0.out.spot i e
            omega)
          have HLN : Hid (Lv c.chans f t j (rs' ++ [yt])) := by
            have h4 := HL.out.more (by rw [HN'.out]; omega) (List.mem_of_getElem? HY.out) (by rw [HYF.out, HFX.out]; exact List.mem_of_getElem? HXJ.out) (by rw [HYT.out]; exact HR.out)
            rw [HYT.out] at h4
            exact h4
          clear h1 h2 h3 HG0 HOV f0 f2 g0
          go_wp2_with fail
          go_roundw
          case rel =>
            refine ⟨q + 1, b', rs' ++ [yt], by go_num, by omega, HLN.out, by rw [List.getElem?_append_left (by rw [HN'.out]; omega)]; exact HXJ.out, ?_, HOW.out, HBW.out, HOX.out⟩
            intro a z ha hz hs
            by_cases ea : a = q
            · subst ea
              rw [HY.out] at hz
              injection hz with hz
              subst hz
              rw [HYT.out]
              simp
            · exact List.mem_append_left _ (HD.out a z (by omega) hz hs)
          case measure => simp [intOf]; omega
        · go_quiet (first | (go_at_call 22; exact Calls.quiet_of_same (HH.out _ _)))
          go_wp2_with fail
          go_roundw
          case rel =>
            have hO : Only (fun _ => False) V (V.drewN nq) := only_drewN (Only.refl _ _) nq
            refine ⟨q + 1, b, rs', by go_num, by omega, HL.out, HXJ.out, ?_, Grow.only HWV.out hO (fun h => h), hbW, HV.out.chain hO (fun _ _ h => h)⟩
            intro a z ha hz hs
            by_cases ea : a = q
            · subst ea
              rw [HY.out] at hz
              injection hz with hz
              subst hz
              rw [HYT.out]
              exact List.contains_iff_mem.1 HR.out
            · exact HD.out a z (by omega) hz hs
          case measure => simp [intOf]; omega
      · have hb : (yf == x) = false := beq_eq_false_iff_ne.2 hfx
        have HFX := hid hfx
        clear hfx
        go_quiet (fail)
        go_wp2_with fail
        go_roundw
        case rel =>
          have hO : Only (fun _ => False) V (V.drewN nq) := only_drewN (Only.refl _ _) nq
          refine ⟨q + 1, b, rs', by go_num, by omega, HL.out, HXJ.out, ?_, Grow.only HWV.out hO (fun h => h), hbW, HV.out.chain hO (fun _ _ h => h)⟩
          intro a z ha hz hs
          by_cases ea : a = q
          · subst ea
            rw [HY.out] at hz
            injection hz with hz
            subst hz
            exact absurd (HYF.out.symm.trans hs) HFX.out
          · exact HD.out a z (by omega) hz hs
        case measure => simp [intOf]; omega
    · go_wp2_with fail
      go_roundw
      case rel =>
        refine ⟨j + 1, b, rs', by go_num, by rw [HN'.out]; omega, HL.out.next HXJ.out HXT.out (fun ch hc hs => ?_), by have := HW.out; rw [HN'.out] at this; exact this, hbW, HX.out⟩
        obtain ⟨i, hi, he⟩ := List.getElem_of_mem hc
        exact HD.out i ch (by rw [HK.out] at hi; omega) (by rw [List.getElem?_eq_getElem hi, he]) hs
      case measure => simp [intOf]; omega
  · have HE : Hid (¬ LeadsTo c.chans f t) := HL.out.no (by rw [HN.out]; omega)
    go_wp2_with fail
    go_ret
    exact ⟨tells_no HE.out, HO.out.chain HX.out (fun _ _ h => h)⟩
end Go.Proofs.Ytpmchlnnlanokaa

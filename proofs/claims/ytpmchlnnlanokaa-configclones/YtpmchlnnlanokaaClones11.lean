/-
  ConfigClones: a clone is as it was, whatever is done to the first one. Conditions: none.
-/
import Derived.Test.YtpmchlnnlanokaaAwake11
import Derived.Test.YtpmchlnnlanokaaOpenCf11
import Derived.Deep.RegionHeld
import Derived.Test.YtpmchlnnlanokaaCopied11
import Derived.Test.YtpmchlnnlanokaaSame11
import Derived.Test.YtpmchlnnlanokaaFew11
import Derived.Test.YtpmchlnnlanokaaCop11
import Derived.Test.YtpmchlnnlanokaaConf11i
namespace Go.Proofs.Ytpmchlnnlanokaa.configClones
open Go.Sept Go.RowKit Go.ChangeShapes Go.WideShapes Go.ChangeAt Go.Joins Go.Deep

theorem own : ownKnob Try.prog.godebug = none := by kernel_rfl
theorem laidOut : laidOutB Try.prog = true := by kernel_rfl

abbrev tags : Tags := tags11
theorem apart : tags.tp ≠ tags.tt ∧ tags.tp ≠ tags.tc ∧ tags.tp ≠ tags.tw ∧ tags.tt ≠ tags.tc ∧ tags.tt ≠ tags.tw := ⟨by decide, by decide, by decide, by decide, by decide⟩


section
variable {N : Tags} {G : Nat → TypeId → Prop} {w : World}
theorem sh_part {pa : Option Addr} {n pc : Nat} {v1 : Value} {c : Cf} (h : ShX N G w (.slice pa n pc) v1 c) {j : Nat} {x : Pt} (hx : c.parts[j]? = some x) : ∃ b ta tc, pa = some ⟨b, 0, none⟩ ∧ w.cell? ⟨b, j * 2, none⟩ = some (.slice ta x.ths.length tc) ∧ TSl G N.tt 4 (thS N G) w (.slice ta x.ths.length tc) x.ths ∧ x.ths.length ≤ 9223372036854775807 := by
  obtain ⟨b, h1, _, _, y, hy, v, k1, k2⟩ := h.parts.get j (List.getElem?_eq_some_iff.1 hx).1
  rw [hx] at hy
  injection hy with hy
  subst hy
  obtain ⟨ta, tc, rfl, hm⟩ := k2.shape
  exact ⟨b, ta, tc, h1, k1, k2, hm⟩
theorem sh_thread {ta : Option Addr} {n tc : Nat} {l : List Th} (h : TSl G N.tt 4 (thS N G) w (.slice ta n tc) l) {q : Nat} {y : Th} (hy : l[q]? = some y) : ∃ b ra rc, ta = some ⟨b, 0, none⟩ ∧ G b N.tt ∧ (∃ cs, w.heap[b]? = some (.cells cs N.tt)) ∧ (∃ k, w.cell? ⟨b, q * 4, none⟩ = some (.int .i64 k)) ∧ w.cell? ⟨b, q * 4 + 3, none⟩ = some (.slice ra y.prog.length rc) ∧ TSl G N.tc 6 clS w (.slice ra y.prog.length rc) y.prog ∧ y.prog.length ≤ 9223372036854775807 := by
  obtain ⟨b, h1, h2, h3, z, hz, k1, v, k2, k3⟩ := h.get q (List.getElem?_eq_some_iff.1 hy).1
  rw [hy] at hz
  injection hz with hz
  subst hz
  obtain ⟨ra, rc, rfl, hm⟩ := k3.shape
  exact ⟨b, ra, rc, h1, h2, h3, k1, k2, k3, hm⟩
theorem sh_call {ra : Option Addr} {n rc : Nat} {l : List Cl} (h : TSl G N.tc 6 clS w (.slice ra n rc) l) {s : Nat} (hs : s < l.length) : ∃ b, ra = some ⟨b, 0, none⟩ ∧ G b N.tc ∧ (∃ cs, w.heap[b]? = some (.cells cs N.tc)) ∧ ∃ k, w.cell? ⟨b, s * 6, none⟩ = some (.int .i64 k) := by
  obtain ⟨b, h1, h2, h3, z, hz, k1⟩ := h.get s hs
  exact ⟨b, h1, h2, h3, k1⟩
theorem sh_win {wa : Option Addr} {n wc : Nat} {v0 : Value} {c : Cf} (h : ShX N G w v0 (.slice wa n wc) c) {s : Nat} (hs : s < c.wins.length) : ∃ b, wa = some ⟨b, 0, none⟩ ∧ G b N.tw ∧ (∃ cs, w.heap[b]? = some (.cells cs N.tw)) ∧ ∃ k, w.cell? ⟨b, s * 2 + 1, none⟩ = some (.int .i64 k) := by
  obtain ⟨b, h1, h2, h3, z, hz, k1⟩ := h.wins.get s hs
  exact ⟨b, h1, h2, h3, k1⟩
end
/-- What copied does. -/
def Copies : Prop := ∀ (P : Nat → Prop) (w : World) (v0 v1 v2 : Value) (c : Cf), CfIs P w v0 v1 v2 c → (∀ k, P k → k < w.heap.size) → Small2 c → Calls Try.prog 15 #[.agg #[v0, v1, v2]] w fun e w' => ∃ o0 o1 o2, e = .returned (.agg #[o0, o1, o2]) ∧ OwX tags (Btw w.heap.size w'.heap.size) (fun k => k < w.heap.size) w' o0 o1 o2 c ∧ Only (fun _ => False) w w'
/-- What Clone does. -/
def Clones : Prop := ∀ (P : Nat → Prop) (w : World) (v0 v1 v2 : Value) (c : Cf), CfIs P w v0 v1 v2 c → Small2 c → Calls Try.prog 16 #[.agg #[v0, v1, v2]] w fun e w' => ∃ o0 o1 o2, e = .returned (.agg #[o0, o1, o2]) ∧ CfIs (fun k => w.heap.size ≤ k) w' o0 o1 o2 c ∧ Only (fun _ => False) w w'

set_option maxRecDepth 100000 in
set_option maxHeartbeats 2000000 in
theorem walk {P : Nat → Prop} (w : World) (v0 v1 v2 : Value) (c : Cf) (h : CfIs P w v0 v1 v2 c) (hlow : ∀ k, P k → k < w.heap.size) (hcop : Copies) (hclo : Clones) :
    Calls Try.prog 6 #[.agg #[v0, v1, v2]] w fun e w' => e = .returned (.bool true) ∧ Below w.heap.size w w' := by
  have hW : ∃ W z, W = w.alloc (cfO v0 v1 v2) ∧ z = w.heap.size ∧ Only (fun _ => False) w W ∧ W.heap[z]? = some (cfO v0 v1 v2) := ⟨_, _, rfl, rfl, (Only.refl _ _).alloc _, heap_new _ _⟩
  obtain ⟨W, z, hWe, hze, hoW, hbz⟩ := hW
  have HC := hid (h.only hoW (fun _ _ h => h))
  have HO := hid hoW
  have HB := hid hbz
  clear hoW hbz h
  simp only [cfO] at hWe
  go_enter Try.func6, Try.ntmps6
  go_upto_region 1 with fail
  rw [← hWe, ← hze]
  clear hWe hze
  go_wp2_with fail
  refine (awake11_any _).mono ?_
  rintro e w1 ⟨rfl, ho1⟩
  obtain ⟨c0, c1, c2⟩ := cf_cells HB.out ho1
  have HO1 := hid ho1
  clear ho1
  go_wp2_with fail
  refine (few2_any _ _ _ _ c (HC.out.only HO1.out (fun _ _ h => h))).mono ?_
  rintro e w2 ⟨⟨b, rfl, hb⟩, ho2⟩
  have HO2 := hid (HO1.out.chain ho2 (fun _ _ h => h))
  clear ho2 c0 c1 c2
  cases b
  · clear hb
    go_wp2_with fail
    refine (awake11_any _).mono ?_
    rintro e w3 ⟨rfl, ho3⟩
    have HO3 := hid (HO.out.chain (HO2.out.chain ho3 (fun _ _ h => h)) (fun _ _ h => h))
    clear ho3
    go_wp2_with fail
    go_ret
    exact ⟨rfl, HO3.out.below (Nat.le_refl _) (fun _ _ h => h)⟩
  have HS := hid (hb rfl)
  have HC2 := hid (HC.out.only HO2.out (fun _ _ h => h))
  obtain ⟨c0, c1, c2⟩ := cf_cells HB.out HO2.out
  clear hb HO1
  have HLOW := hid hlow
  have HCOP : Hid Copies := hcop
  have HCLO : Hid Clones := hclo
  clear hlow hcop hclo
  have lw := HO.out.size
  have lw2 := HO2.out.size
  have lz : z < W.heap.size := lt_of_block HB.out
  go_wp2_with fail
  refine (HCOP.out _ w2 v0 v1 v2 c HC2.out (fun k hk => by have := HLOW.out k hk; omega) HS.out).mono ?_
  rintro e w3 ⟨o0, o1, o2, rfl, hown, ho3⟩
  obtain ⟨pa, pc, rfl, pm⟩ := hown.parts.shape
  obtain ⟨wa, wc, rfl, wm⟩ := hown.wins.shape
  obtain ⟨ca, cc, rfl, _⟩ := hown.chans.shape
  obtain ⟨n, hn⟩ : ∃ n, c.parts.length = n := ⟨_, rfl⟩
  obtain ⟨m, hm⟩ : ∃ m, c.wins.length = m := ⟨_, rfl⟩
  obtain ⟨k, hk⟩ : ∃ k, c.chans.length = k := ⟨_, rfl⟩
  have HN := hid hn
  have HM := hid hm
  have HK := hid hk
  rw [hn] at hown pm
  rw [hm] at hown wm
  rw [hk] at hown
  rw [hn, hm, hk]
  clear hn hm hk
  have hV : ∃ V z3, V = w3.alloc (cfO (.slice pa n pc) (.slice wa m wc) (.slice ca k cc)) ∧ z3 = w3.heap.size ∧ Only (fun _ => False) w3 V ∧ V.heap[z3]? = some (cfO (.slice pa n pc) (.slice wa m wc) (.slice ca k cc)) ∧ V.heap.size = z3 + 1 := ⟨_, _, rfl, rfl, (Only.refl _ _).alloc _, heap_new _ _, by simp⟩
  obtain ⟨V, z3, hVe, hz3, hoV, hb3, hVs⟩ := hV
  have hlo := ho3.size
  rw [← hz3] at hlo
  have HOWN : Hid (OwX tags (Btw w2.heap.size z3) (fun k => k < w2.heap.size) V (.slice pa n pc) (.slice wa m wc) (.slice ca k cc) c) := by
    rw [hz3]
    exact (Calm.of hoV (fun _ _ _ _ _ h => h) (fun _ _ h => h) (fun _ _ h => h)).cf hown
  have HO3 := hid (HO2.out.chain (ho3.chain hoV (fun _ _ h => h)) (fun _ _ h => h))
  have HB3 := hid hb3
  obtain ⟨p0, p1, p2⟩ := cf_cells hb3 (Only.refl _ _)
  simp only [cfO] at hVe
  clear hown ho3 hoV hb3 c0 c1 c2 HC2 HCOP
  go_upto_region 4 with fail
  rw [← hVe, ← hz3]
  clear hVe hz3
  go_wp2_with fail
  refine (HCLO.out _ V (.slice pa n pc) (.slice wa m wc) (.slice ca k cc) c HOWN.out.cf HS.out).mono ?_
  rintro e w5 ⟨d0, d1, d2, rfl, hd, ho5⟩
  obtain ⟨da, dc, hd0, _⟩ := hd.parts.shape
  obtain ⟨ea, ec, hd1, _⟩ := hd.wins.shape
  obtain ⟨fa, fc, hd2, _⟩ := hd.chans.shape
  rw [HN.out] at hd0
  rw [HM.out] at hd1
  rw [HK.out] at hd2
  subst hd0 hd1 hd2
  have hV : ∃ U z4, U = w5.alloc (cfO (.slice da n dc) (.slice ea m ec) (.slice fa k fc)) ∧ z4 = w5.heap.size ∧ Only (fun _ => False) w5 U ∧ U.heap[z4]? = some (cfO (.slice da n dc) (.slice ea m ec) (.slice fa k fc)) := ⟨_, _, rfl, rfl, (Only.refl _ _).alloc _, heap_new _ _⟩
  obtain ⟨U, z4, hUe, hz4, hoU, hb4⟩ := hV
  have h54 := ho5.size
  rw [← hz4] at h54
  have hVU := ho5.chain hoU (fun _ _ h => h)
  have HD : Hid (CfIs (fun k => z3 + 1 ≤ k) U (.slice da n dc) (.slice ea m ec) (.slice fa k fc) c) := by
    have h9 := hd.only hoU (fun _ _ h => h)
    rw [hVs] at h9
    exact h9
  have HSH := hid (((Calm.of hVU (fun _ _ _ _ _ h => h) (fun _ _ h => h) (fun _ _ h => h)).cf HOWN.out).sh)
  have HB3U := hid ((hVU.block z3 (lt_of_block HB3.out) (fun h => h)).trans HB3.out)
  have HOU := hid (HO3.out.chain hVU (fun _ _ h => h))
  have HB4 := hid hb4
  obtain ⟨q0, q1, q2⟩ := cf_cells hb4 (Only.refl _ _)
  simp only [cfO] at hUe
  clear hd ho5 hoU hb4 hVU HOWN HB3 HO3 p0 p1 p2 HCLO
  go_upto_region 5 with fail
  rw [← hUe, ← hz4]
  clear hUe hz4
  obtain ⟨r, hr⟩ : ∃ r, wrongW c = r := ⟨_, rfl⟩
  obtain ⟨er, her⟩ : ∃ e, errW r = e := ⟨_, rfl⟩
  have HV : Hid (validV (wrongW c) = .tuple #[.int .i64 r, .int .i64 er]) := by show _ = _; rw [hr, validV, her]
  clear hr her
  go_wp2_with fail
  refine (cValid _ _ _ _ c HD.out).mono ?_
  rintro e w8 ⟨rfl, ho8⟩
  rw [HV.out]
  have HD8 := hid (HD.out.only ho8 (fun _ _ h => h))
  have HSH8 : Hid (ShX tags (Btw w2.heap.size z3) w8 (.slice pa n pc) (.slice wa m wc) c) := ⟨HSH.out.parts.go (fun _ h => h) (fun b cs _ hb => ⟨cs, (ho8.block b (lt_of_block hb) (fun h => h)).trans hb⟩) (fun b i x cs _ _ hb hx => by
      obtain ⟨v, k1, k2⟩ := hx
      refine ⟨v, k1.only ho8 (fun h => h), k2.go (fun _ h => h) (fun b cs _ hb => ⟨cs, (ho8.block b (lt_of_block hb) (fun h => h)).trans hb⟩) (fun b i x cs _ _ hb hx => ?_)⟩
      obtain ⟨⟨y, j1⟩, u, j2, j3⟩ := hx
      exact ⟨⟨y, j1.only ho8 (fun h => h)⟩, u, j2.only ho8 (fun h => h), j3.go (fun _ h => h) (fun b cs _ hb => ⟨cs, (ho8.block b (lt_of_block hb) (fun h => h)).trans hb⟩) (fun b i x cs _ _ hb hx => by obtain ⟨y, j1⟩ := hx; exact ⟨y, j1.only ho8 (fun h => h)⟩)⟩),
    HSH.out.wins.go (fun _ h => h) (fun b cs _ hb => ⟨cs, (ho8.block b (lt_of_block hb) (fun h => h)).trans hb⟩) (fun b i x cs _ _ hb hx => by obtain ⟨y, j1⟩ := hx; exact ⟨y, j1.only ho8 (fun h => h)⟩)⟩
  have HB38 := hid ((ho8.block z3 (lt_of_block HB3U.out) (fun h => h)).trans HB3U.out)
  have HB48 := hid ((ho8.block z4 (lt_of_block HB4.out) (fun h => h)).trans HB4.out)
  have HO8 := hid (HOU.out.chain ho8 (fun _ _ h => h))
  obtain ⟨e0, e1, e2⟩ := cf_cells HB38.out (Only.refl _ _)
  clear ho8 q0 q1 q2 HD HSH HB3U HB4 HOU
  have HZ3 : Hid (¬ (w2.heap.size ≤ z3 ∧ z3 < z3)) := by show ¬ _; omega
  have HS3 : Hid (∀ wx, Only (fun b => w2.heap.size ≤ b ∧ b < z3) w8 wx → wx.cell? ⟨z3, 0, none⟩ = some (.slice pa n pc) ∧ wx.cell? ⟨z3, 1, none⟩ = some (.slice wa m wc)) := fun wx hox => by
    have hb := (hox.block z3 (lt_of_block HB38.out) (by omega)).trans HB38.out
    exact ⟨Sept.cell_of_block hb 0, Sept.cell_of_block hb 1⟩
  have HST : Hid (∀ (w9 : World) (B o : Nat) (y : Int) (T : TypeId), Only (fun b => w2.heap.size ≤ b ∧ b < z3) w8 w9 → ShX tags (Btw w2.heap.size z3) w9 (.slice pa n pc) (.slice wa m wc) c → Btw w2.heap.size z3 B T → (∃ cs, w9.heap[B]? = some (.cells cs T)) → (T = tags.tt ∧ o % 4 = 0 ∨ T = tags.tc ∨ T = tags.tw) → (∃ k, w9.cell? ⟨B, o, none⟩ = some (.int .i64 k)) →
      ShX tags (Btw w2.heap.size z3) (w9.setCell ⟨B, o, none⟩ (.int .i64 y)) (.slice pa n pc) (.slice wa m wc) c ∧ Only (fun b => w2.heap.size ≤ b ∧ b < z3) w8 (w9.setCell ⟨B, o, none⟩ (.int .i64 y))) := fun w9 B o y T ho hsh hG hcs hT hk => by
    obtain ⟨cs, hcs⟩ := hcs
    exact ⟨hsh.wrote (wrote_set tags w9 hcs hT hk y) apart, ho.setCell (p := ⟨B, o, none⟩) (.inr hG) _⟩
  go_wp2_with fail
  clear e0 e1 e2
  go_loopw [33] (fun i wx => ∃ j : Nat, i = .int .i64 (j : Int) ∧ j ≤ n ∧ ShX tags (Btw w2.heap.size z3) wx (.slice pa n pc) (.slice wa m wc) c ∧ Only (fun b => w2.heap.size ≤ b ∧ b < z3) w8 wx) (fun i _ => n - (intOf i).toNat)
  case atStart => exact ⟨0, rfl, Nat.zero_le _, HSH8.out, Only.refl _ _⟩
  case round =>
  obtain ⟨j, rfl, hj, hsh, hox⟩ := hrel
  have HSH := hid hsh
  have HX := hid hox
  obtain ⟨e0, e1⟩ := HS3.out _ hox
  clear hsh hox
  by_cases hlt : (j : Int) < (n : Int)
  · obtain ⟨x, hx⟩ : ∃ x, c.parts[j]? = some x := ⟨_, List.getElem?_eq_getElem (show j < c.parts.length by rw [HN.out]; omega)⟩
    have HXJ := hid hx
    obtain ⟨l, hl⟩ : ∃ l, x.ths.length = l := ⟨_, rfl⟩
    have HL := hid hl
    obtain ⟨b, ta, tc, hpa, f0, _, lm⟩ := sh_part HSH.out hx
    rw [hl] at f0 lm
    rw [hpa] at e0
    clear hx hl hpa
    go_wp2_with fail
    clear e0 e1 f0
    go_loopw [43] (fun i wx => ∃ q : Nat, i = .int .i64 (q : Int) ∧ q ≤ l ∧ ShX tags (Btw w2.heap.size z3) wx (.slice pa n pc) (.slice wa m wc) c ∧ Only (fun b => w2.heap.size ≤ b ∧ b < z3) w8 wx) (fun i _ => l - (intOf i).toNat)
    case atStart => exact ⟨0, rfl, Nat.zero_le _, HSH.out, HX.out⟩
    case round =>
    clear HSH HX
    obtain ⟨q, rfl, hq, hsh, hox⟩ := hrel
    have HSH := hid hsh
    have HX := hid hox
    obtain ⟨e0, e1⟩ := HS3.out _ hox
    clear hsh hox
    by_cases hlt2 : (q : Int) < (l : Int)
    · obtain ⟨y, hy⟩ : ∃ y, x.ths[q]? = some y := ⟨_, List.getElem?_eq_getElem (show q < x.ths.length by rw [HL.out]; omega)⟩
      have HYQ := hid hy
      obtain ⟨p, hp⟩ : ∃ p, y.prog.length = p := ⟨_, rfl⟩
      have HP := hid hp
      obtain ⟨b, ta, tc, hpa, f0, hths, _⟩ := sh_part HSH.out HXJ.out
      obtain ⟨bT, ra, rc, hta, hG, hcs, ⟨k0, f1⟩, _, _, pmx⟩ := sh_thread hths hy
      have hfz : wr.frozen? ⟨bT, q * 4, none⟩ = false := by obtain ⟨cs, hcs⟩ := hcs; exact Sept.frozen_of_block hcs (q * 4)
      obtain ⟨hsh2, hox2⟩ := HST.out _ bT (q * 4) (-1) _ HX.out HSH.out hG hcs (.inl ⟨rfl, by omega⟩) ⟨k0, f1⟩
      rw [HL.out, hta] at f0
      rw [hpa] at e0
      rw [hp] at pmx
      have hV : ∃ V9, V9 = wr.setCell ⟨bT, q * 4, none⟩ (.int .i64 (-1)) ∧ ShX tags (Btw w2.heap.size z3) V9 (.slice pa n pc) (.slice wa m wc) c ∧ Only (fun b => w2.heap.size ≤ b ∧ b < z3) w8 V9 := ⟨_, rfl, hsh2, hox2⟩
      obtain ⟨V9, hVe, hsh9, hox9⟩ := hV
      have HSH9 := hid hsh9
      have HX9 := hid hox9
      clear hy hp hths hta hpa hG hcs hsh2 hox2 hsh9 hox9
      go_upto_region 13 with fail
      rw [← hVe]
      clear hVe e0 e1 f0 f1 hfz
      obtain ⟨e0, e1⟩ := HS3.out _ HX9.out
      obtain ⟨b, ta, tc, hpa, f0, hths, _⟩ := sh_part HSH9.out HXJ.out
      obtain ⟨bT, ra, rc, hta, _, _, _, f3, _, _⟩ := sh_thread hths HYQ.out
      rw [HL.out, hta] at f0
      rw [hpa] at e0
      rw [HP.out] at f3
      clear hpa hta hths
      go_wp2_with fail
      clear e0 e1 f0 f3 HSH HX
      go_loopw [66] (fun i wx => ∃ s : Nat, i = .int .i64 (s : Int) ∧ s ≤ p ∧ ShX tags (Btw w2.heap.size z3) wx (.slice pa n pc) (.slice wa m wc) c ∧ Only (fun b => w2.heap.size ≤ b ∧ b < z3) w8 wx) (fun i _ => p - (intOf i).toNat)
      case atStart => exact ⟨0, rfl, Nat.zero_le _, HSH9.out, HX9.out⟩
      case round =>
      clear HSH9 HX9
      obtain ⟨s, rfl, hs, hsh, hox⟩ := hrel
      have HSH := hid hsh
      have HX := hid hox
      obtain ⟨e0, e1⟩ := HS3.out _ hox
      clear hsh hox
      by_cases hlt3 : (s : Int) < (p : Int)
      · obtain ⟨b, ta, tc, hpa, f0, hths, _⟩ := sh_part HSH.out HXJ.out
        obtain ⟨bT, ra, rc, hta, _, _, _, f3, hcls, _⟩ := sh_thread hths HYQ.out
        obtain ⟨bC, hra, hG, hcs, k0, f4⟩ := sh_call hcls (s := s) (by rw [HP.out]; omega)
        have hfz : wr.frozen? ⟨bC, s * 6, none⟩ = false := by obtain ⟨cs, hcs⟩ := hcs; exact Sept.frozen_of_block hcs (s * 6)
        have HN2 := hid (HST.out _ bC (s * 6) 99 _ HX.out HSH.out hG hcs (.inr (.inl rfl)) ⟨k0, f4⟩)
        rw [HL.out, hta] at f0
        rw [HP.out, hra] at f3
        rw [hpa] at e0
        clear hpa hta hths hra hcls hG hcs
        go_wp2_with fail
        go_roundw
        case rel => exact ⟨s + 1, by go_num, by omega, HN2.out.1, HN2.out.2⟩
        case measure => simp [intOf]; omega
      · go_wp2_with fail
        go_roundw
        case rel => exact ⟨q + 1, by go_num, by omega, HSH.out, HX.out⟩
        case measure => simp [intOf]; omega
    · go_wp2_with fail
      go_roundw
      case rel => exact ⟨j + 1, by go_num, by omega, HSH.out, HX.out⟩
      case measure => simp [intOf]; omega
  go_wp2_with fail
  clear hlt e0 e1
  go_loopw [88] (fun i wx => ∃ s : Nat, i = .int .i64 (s : Int) ∧ s ≤ m ∧ ShX tags (Btw w2.heap.size z3) wx (.slice pa n pc) (.slice wa m wc) c ∧ Only (fun b => w2.heap.size ≤ b ∧ b < z3) w8 wx) (fun i _ => m - (intOf i).toNat)
  case atStart => exact ⟨0, rfl, Nat.zero_le _, HSH.out, HX.out⟩
  case round =>
  clear HSH HX
  obtain ⟨s, rfl, hs, hsh, hox⟩ := hrel
  have HSH := hid hsh
  have HX := hid hox
  obtain ⟨e0, e1⟩ := HS3.out _ hox
  clear hsh hox
  by_cases hlt : (s : Int) < (m : Int)
  · obtain ⟨b, hwa, hG, hcs, k0, f4⟩ := sh_win HSH.out (s := s) (by rw [HM.out]; omega)
    have hfz : wr.frozen? ⟨b, s * 2 + 1, none⟩ = false := by obtain ⟨cs, hcs⟩ := hcs; exact Sept.frozen_of_block hcs (s * 2 + 1)
    have HN2 := hid (HST.out _ b (s * 2 + 1) (-1) _ HX.out HSH.out hG hcs (.inr (.inr rfl)) ⟨k0, f4⟩)
    rw [hwa] at e1
    clear hwa hG hcs
    go_wp2_with fail
    go_roundw
    case rel => exact ⟨s + 1, by go_num, by omega, HN2.out.1, HN2.out.2⟩
    case measure => simp [intOf]; omega
  have hb4 := (HX.out.block z4 (lt_of_block HB48.out) (by omega)).trans HB48.out
  have HD9 := hid (HD8.out.only HX.out (fun b hb e => by omega))
  have HC8 := hid (HC.out.only HO8.out (fun _ _ h => h))
  have HC9 := hid (HC8.out.only HX.out (fun b hb e => by have := HLOW.out b hb; omega))
  have hbz := (HX.out.block z (lt_of_block ((HO8.out.block z (lt_of_block HB.out) (fun h => h)).trans HB.out)) (by omega)).trans ((HO8.out.block z (lt_of_block HB.out) (fun h => h)).trans HB.out)
  have HBZ := hid hbz
  have HB49 := hid hb4
  obtain ⟨q0, q1, q2⟩ := cf_cells hb4 (Only.refl _ _)
  have HWW : Hid (Only (fun _ => False) w wr) := (HO.out.chain HO8.out (fun _ _ h => h)).chain HX.out (fun i hi e => by omega)
  have s1 : (r == r) = true := by simp
  have s2 : (er == er) = true := by simp
  clear e0 e1 hb4 hbz HC8
  go_wp2_with fail
  refine (cValid _ _ _ _ c HD9.out).mono ?_
  rintro e w10 ⟨rfl, ho10⟩
  rw [HV.out]
  have HC10 := hid (HC9.out.only ho10 (fun _ _ h => h))
  have HD10 := hid (HD9.out.only ho10 (fun _ _ h => h))
  have HW10 := hid (HWW.out.chain ho10 (fun _ _ h => h))
  obtain ⟨c0, c1, c2⟩ := cf_cells HBZ.out ho10
  obtain ⟨g0, g1, g2⟩ := cf_cells HB49.out ho10
  clear ho10 q0 q1 q2
  go_wp2_with fail
  refine (same_yes _ c _ _ _ _ _ _ HC10.out HD10.out).mono ?_
  rintro e w11 ⟨rfl, ho11⟩
  have HW11 := hid (HW10.out.chain ho11 (fun _ _ h => h))
  clear ho11
  go_wp2_with fail
  go_ret
  exact ⟨rfl, HW11.out.below (Nat.le_refl _) (fun _ _ h => h)⟩
set_option maxRecDepth 100000 in
theorem lifted (os : Os) (started : os.Started) (H : Type) (enc : TypeId × Value → H) :
    ReturnsInHanded {} Try.checked os 6 .any (Rows.configClonesSpec.pre6 enc Try.prog Try.f6 Rows.configClonesRow.domain false) (Rows.configClonesSpec.post enc Try.prog Try.f6 false true false false) := by
  refine returnsInHanded_of_change (C := Try.checked) own started (by kernel_rfl) Try.func6
    (ChangeSpec.witness6 (enc := enc) (C := Try.checked) false ⟨#[], #[.agg #[.slice none 0 0, .slice none 0 0, .slice none 0 0]], []⟩ 8 (by kernel_rfl) (by kernel_rfl) (by kernel_rfl) (by kernel_rfl)) ?_
  intro W base args ds gs before hval0 hW hcnd _
  have hval : ∀ (j : Nat) t v, Try.f6.params[j]? = some t → args[j]? = some v → Value.okWide Try.prog W .any base t v := hval0
  have hW' := hW
  obtain ⟨p, q, hA0, hV, rfl, hfz, hnd⟩ := hW
  have hA : DataW.TrodAll enc Try.prog W 0 (fun _ => true) true Try.f6.params.toList args.toList ds p := hA0
  rw [Try.params6] at hA hval
  obtain ⟨v0, vs0, d0, ds0, p0, q0, hargs, rfl, rfl, h0, r0⟩ := trodAll_cons hA
  obtain ⟨rfl, rfl, rfl⟩ := trodAll_nil r0
  obtain rfl : args = #[v0] := by cases args; simp_all
  obtain ⟨x0, x1, x2, c, rfl, hc⟩ := open_cf (hval 0 26 v0 rfl rfl) h0
  refine (walk W x0 x1 x2 c hc (fun _ h => h) (fun P w v0 v1 v2 c h hl hs => copied_rel w v0 v1 v2 c h hl hs) cClone_any).mono fun e W' ⟨he, hg⟩ => ?_
  subst he
  exact ⟨_, rfl, post_law 1 4 laidOut (by kernel_rfl) rfl rfl rfl Try.underlying4 (fun l hl => by match l, hl with | [_], _ => rfl) hW' hg⟩

theorem over : Rows.configClonesRow.holds Try.pinned (OpenSpec.ofChange Rows.configClonesSpec) :=
  OpenClaim.holds_of_wide 6 Try.f6 rfl rfl rfl rfl rfl rfl rfl ⟨rfl, rfl, rfl, rfl, rfl⟩ rfl rfl rfl rfl rfl (by kernel_rfl) Try.func6 (by kernel_rfl)
    (of_decide_eq_true (by kernel_rfl)) (by unfold Func.isWrapper; first | (rw [if_pos (by decide +kernel)]; kernel_rfl) | (rw [if_neg (by decide +kernel)]; exact ⟨rfl, rfl⟩))
    (fun os started H enc _ => lifted os started H enc)

theorem proved : Rows.ConfigClonesSaid := over
#print axioms proved
end Go.Proofs.Ytpmchlnnlanokaa.configClones

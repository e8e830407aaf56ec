/-
  Package config: fresh, of each type. Conditions: the slice is of at most 100 elements.
-/
import Derived.Test.YtmcmjcaigipoaaaGreatFresh11
import Derived.Test.YtmcmjcaigipoaaaGreatCopied11
import Derived.Lib.SliceRun
import Derived.Test.YtmcmjcaigipoaaaGreatFew11
namespace Go.Proofs.YtmcmjcaigipoaaaGreat
open Go.RowKit Go.Sept

theorem infoI64 : (Tryz.prog.info? 2).map (fun i => (i.zero, i.size, i.bytes)) = some (some (.int .i64 0), 1, 8) := by kernel_rfl
theorem none_news {news : List Value} {n size : Nat} {w : World} (hl : news.length = n * size) (hsz : 0 < size) (hnews : ∀ j u, news[j]? = some u → ∃ a, (none : Option Addr) = some a ∧ w.cell? (a.add j) = some u) : n = 0 := by
  cases news with
  | nil =>
    rcases Nat.mul_eq_zero.1 hl.symm with h | h
    · exact h
    · omega
  | cons u r =>
    obtain ⟨a, ha, _⟩ := hnews 0 u rfl
    cases ha

theorem sizeInt : (Tryz.prog.info? 2).map (·.size) = some 1 := by kernel_rfl
set_option maxRecDepth 100000 in
set_option maxHeartbeats 1000000 in
theorem freshInt (w : World) (ao : Option Addr) (n cap : Nat) (news : List Value) (hl : news.length = n * 1) (hnews : ∀ j u, news[j]? = some u → ∃ a, ao = some a ∧ w.cell? (a.add j) = some u) (h1 : ∀ u ∈ news, u.oneCell' = true) (hb : n ≤ 100) :
    Calls Tryz.prog 125 #[.slice ao n cap] w fun e w' => FreshIs 2 w w' e n news := by
  cases ao with
  | none =>
    have hn0 := none_news hl (by decide) hnews
    subst hn0
    have heq := Lib.run_eql_slice_nil (P := Tryz.prog) w 62 2 none 0 cap 0 0 Tryz.underlying62
    clear hnews hl h1
    go_enter Tryz.func125, Tryz.ntmps125
    go_wp2_with fail
    go_ret
    exact .inl ⟨rfl, rfl, rfl⟩
  | some a =>
    obtain ⟨Z, hZ, hmk⟩ := run_make_some 62 2 _ 1 8 Tryz.underlying62 infoI64 n (by omega) (by omega) w
    have hcp := run_copy_all w 62 3 2 1 n Tryz.underlying62 sizeInt Z hZ (some a) cap news hl hnews h1
    have heq := Lib.run_eql_slice_nil (P := Tryz.prog) w 62 2 (some a) n cap 0 0 Tryz.underlying62
    clear hnews hl h1 hZ
    go_enter Tryz.func125, Tryz.ntmps125
    go_wp2_with fail
    go_ret
    exact .inr ⟨rfl, rfl⟩

theorem sizeCl : (Tryz.prog.info? 64).map (·.size) = some 6 := by kernel_rfl
set_option maxRecDepth 100000 in
set_option maxHeartbeats 1000000 in
theorem freshCl (w : World) (ao : Option Addr) (n cap : Nat) (news : List Value) (hl : news.length = n * 6) (hnews : ∀ j u, news[j]? = some u → ∃ a, ao = some a ∧ w.cell? (a.add j) = some u) (h1 : ∀ u ∈ news, u.oneCell' = true) (hb : n ≤ 100) :
    Calls Tryz.prog 124 #[.slice ao n cap] w fun e w' => FreshIs 64 w w' e n news := by
  cases ao with
  | none =>
    have hn0 := none_news hl (by decide) hnews
    subst hn0
    have heq := Lib.run_eql_slice_nil (P := Tryz.prog) w 59 64 none 0 cap 0 0 Tryz.underlying59
    clear hnews hl h1
    go_enter Tryz.func124, Tryz.ntmps124
    go_wp2_with fail
    go_ret
    exact .inl ⟨rfl, rfl, rfl⟩
  | some a =>
    obtain ⟨Z, hZ, hmk⟩ := run_make_some 59 64 _ 6 64 Tryz.underlying59 infoCl n (by omega) (by omega) w
    have hcp := run_copy_all w 59 3 64 6 n Tryz.underlying59 sizeCl Z hZ (some a) cap news hl hnews h1
    have heq := Lib.run_eql_slice_nil (P := Tryz.prog) w 59 64 (some a) n cap 0 0 Tryz.underlying59
    clear hnews hl h1 hZ
    go_enter Tryz.func124, Tryz.ntmps124
    go_wp2_with fail
    go_ret
    exact .inr ⟨rfl, rfl⟩

theorem sizeTh : (Tryz.prog.info? 61).map (·.size) = some 4 := by kernel_rfl
set_option maxRecDepth 100000 in
set_option maxHeartbeats 1000000 in
theorem freshTh (w : World) (ao : Option Addr) (n cap : Nat) (news : List Value) (hl : news.length = n * 4) (hnews : ∀ j u, news[j]? = some u → ∃ a, ao = some a ∧ w.cell? (a.add j) = some u) (h1 : ∀ u ∈ news, u.oneCell' = true) (hb : n ≤ 100) :
    Calls Tryz.prog 93 #[.slice ao n cap] w fun e w' => FreshIs 61 w w' e n news := by
  cases ao with
  | none =>
    have hn0 := none_news hl (by decide) hnews
    subst hn0
    have heq := Lib.run_eql_slice_nil (P := Tryz.prog) w 22 61 none 0 cap 0 0 Tryz.underlying22
    clear hnews hl h1
    go_enter Tryz.func93, Tryz.ntmps93
    go_wp2_with fail
    go_ret
    exact .inl ⟨rfl, rfl, rfl⟩
  | some a =>
    obtain ⟨Z, hZ, hmk⟩ := run_make_some 22 61 _ 4 40 Tryz.underlying22 infoTh n (by omega) (by omega) w
    have hcp := run_copy_all w 22 3 61 4 n Tryz.underlying22 sizeTh Z hZ (some a) cap news hl hnews h1
    have heq := Lib.run_eql_slice_nil (P := Tryz.prog) w 22 61 (some a) n cap 0 0 Tryz.underlying22
    clear hnews hl h1 hZ
    go_enter Tryz.func93, Tryz.ntmps93
    go_wp2_with fail
    go_ret
    exact .inr ⟨rfl, rfl⟩

theorem sizeOb : (Tryz.prog.info? 96).map (·.size) = some 3 := by kernel_rfl
set_option maxRecDepth 100000 in
set_option maxHeartbeats 1000000 in
theorem freshOb (w : World) (ao : Option Addr) (n cap : Nat) (news : List Value) (hl : news.length = n * 3) (hnews : ∀ j u, news[j]? = some u → ∃ a, ao = some a ∧ w.cell? (a.add j) = some u) (h1 : ∀ u ∈ news, u.oneCell' = true) (hb : n ≤ 100) :
    Calls Tryz.prog 95 #[.slice ao n cap] w fun e w' => FreshIs 96 w w' e n news := by
  cases ao with
  | none =>
    have hn0 := none_news hl (by decide) hnews
    subst hn0
    have heq := Lib.run_eql_slice_nil (P := Tryz.prog) w 23 96 none 0 cap 0 0 Tryz.underlying23
    clear hnews hl h1
    go_enter Tryz.func95, Tryz.ntmps95
    go_wp2_with fail
    go_ret
    exact .inl ⟨rfl, rfl, rfl⟩
  | some a =>
    obtain ⟨Z, hZ, hmk⟩ := run_make_some 23 96 _ 3 24 Tryz.underlying23 infoOb n (by omega) (by omega) w
    have hcp := run_copy_all w 23 3 96 3 n Tryz.underlying23 sizeOb Z hZ (some a) cap news hl hnews h1
    have heq := Lib.run_eql_slice_nil (P := Tryz.prog) w 23 96 (some a) n cap 0 0 Tryz.underlying23
    clear hnews hl h1 hZ
    go_enter Tryz.func95, Tryz.ntmps95
    go_wp2_with fail
    go_ret
    exact .inr ⟨rfl, rfl⟩

theorem sizeWin : (Tryz.prog.info? 67).map (·.size) = some 2 := by kernel_rfl
set_option maxRecDepth 100000 in
set_option maxHeartbeats 1000000 in
theorem freshWin (w : World) (ao : Option Addr) (n cap : Nat) (news : List Value) (hl : news.length = n * 2) (hnews : ∀ j u, news[j]? = some u → ∃ a, ao = some a ∧ w.cell? (a.add j) = some u) (h1 : ∀ u ∈ news, u.oneCell' = true) (hb : n ≤ 100) :
    Calls Tryz.prog 59 #[.slice ao n cap] w fun e w' => FreshIs 67 w w' e n news := by
  cases ao with
  | none =>
    have hn0 := none_news hl (by decide) hnews
    subst hn0
    have heq := Lib.run_eql_slice_nil (P := Tryz.prog) w 68 67 none 0 cap 0 0 Tryz.underlying68
    clear hnews hl h1
    go_enter Tryz.func59, Tryz.ntmps59
    go_wp2_with fail
    go_ret
    exact .inl ⟨rfl, rfl, rfl⟩
  | some a =>
    obtain ⟨Z, hZ, hmk⟩ := run_make_some 68 67 _ 2 16 Tryz.underlying68 infoWin n (by omega) (by omega) w
    have hcp := run_copy_all w 68 3 67 2 n Tryz.underlying68 sizeWin Z hZ (some a) cap news hl hnews h1
    have heq := Lib.run_eql_slice_nil (P := Tryz.prog) w 68 67 (some a) n cap 0 0 Tryz.underlying68
    clear hnews hl h1 hZ
    go_enter Tryz.func59, Tryz.ntmps59
    go_wp2_with fail
    go_ret
    exact .inr ⟨rfl, rfl⟩

theorem sizeChn : (Tryz.prog.info? 128).map (·.size) = some 4 := by kernel_rfl
set_option maxRecDepth 100000 in
set_option maxHeartbeats 1000000 in
theorem freshChn (w : World) (ao : Option Addr) (n cap : Nat) (news : List Value) (hl : news.length = n * 4) (hnews : ∀ j u, news[j]? = some u → ∃ a, ao = some a ∧ w.cell? (a.add j) = some u) (h1 : ∀ u ∈ news, u.oneCell' = true) (hb : n ≤ 100) :
    Calls Tryz.prog 60 #[.slice ao n cap] w fun e w' => FreshIs 128 w w' e n news := by
  cases ao with
  | none =>
    have hn0 := none_news hl (by decide) hnews
    subst hn0
    have heq := Lib.run_eql_slice_nil (P := Tryz.prog) w 69 128 none 0 cap 0 0 Tryz.underlying69
    clear hnews hl h1
    go_enter Tryz.func60, Tryz.ntmps60
    go_wp2_with fail
    go_ret
    exact .inl ⟨rfl, rfl, rfl⟩
  | some a =>
    obtain ⟨Z, hZ, hmk⟩ := run_make_some 69 128 _ 4 32 Tryz.underlying69 infoChn n (by omega) (by omega) w
    have hcp := run_copy_all w 69 3 128 4 n Tryz.underlying69 sizeChn Z hZ (some a) cap news hl hnews h1
    have heq := Lib.run_eql_slice_nil (P := Tryz.prog) w 69 128 (some a) n cap 0 0 Tryz.underlying69
    clear hnews hl h1 hZ
    go_enter Tryz.func60, Tryz.ntmps60
    go_wp2_with fail
    go_ret
    exact .inr ⟨rfl, rfl⟩

theorem sizePt : (Tryz.prog.info? 25).map (·.size) = some 2 := by kernel_rfl
set_option maxRecDepth 100000 in
set_option maxHeartbeats 1000000 in
theorem freshPt (w : World) (ao : Option Addr) (n cap : Nat) (news : List Value) (hl : news.length = n * 2) (hnews : ∀ j u, news[j]? = some u → ∃ a, ao = some a ∧ w.cell? (a.add j) = some u) (h1 : ∀ u ∈ news, u.oneCell' = true) (hb : n ≤ 100) :
    Calls Tryz.prog 57 #[.slice ao n cap] w fun e w' => FreshIs 25 w w' e n news := by
  cases ao with
  | none =>
    have hn0 := none_news hl (by decide) hnews
    subst hn0
    have heq := Lib.run_eql_slice_nil (P := Tryz.prog) w 65 25 none 0 cap 0 0 Tryz.underlying65
    clear hnews hl h1
    go_enter Tryz.func57, Tryz.ntmps57
    go_wp2_with fail
    go_ret
    exact .inl ⟨rfl, rfl, rfl⟩
  | some a =>
    obtain ⟨Z, hZ, hmk⟩ := run_make_some 65 25 _ 2 48 Tryz.underlying65 infoPt n (by omega) (by omega) w
    have hcp := run_copy_all w 65 3 25 2 n Tryz.underlying65 sizePt Z hZ (some a) cap news hl hnews h1
    have heq := Lib.run_eql_slice_nil (P := Tryz.prog) w 65 25 (some a) n cap 0 0 Tryz.underlying65
    clear hnews hl h1 hZ
    go_enter Tryz.func57, Tryz.ntmps57
    go_wp2_with fail
    go_ret
    exact .inr ⟨rfl, rfl⟩
end Go.Proofs.YtmcmjcaigipoaaaGreat

/-
  Package config: cloneProgram, clonePart. Conditions: of a size that is looked at.
-/
namespace Go.Proofs.YtmcmjcaigipoaaaGreat
open Go.RowKit Go.Sept

/-- From w on. -/
abbrev Hi (w : World) (k : Nat) : Prop := w.heap.size ≤ k

set_option maxRecDepth 100000 in
set_option maxHeartbeats 1000000 in
theorem cProgram {P : Nat → Prop} (w : World) (v : Value) (xs : List Cl) (h : SlOf P 6 (clE P) w v xs) (hP : ∀ k, P k → k < w.heap.size) (hsm : xs.length ≤ 60 ∧ ∀ c ∈ xs, c.words.length ≤ 20) :
    Calls Tryz.prog 94 #[v] w fun e w' => ∃ v', e = .returned v' ∧ SlOf (Hi w) 6 (clE (Hi w)) w' v' xs ∧ Only (fun _ => False) w w' := by
  obtain ⟨ao, cap, rfl, hm⟩ := h.shape
  obtain ⟨n, hn⟩ : ∃ n, xs.length = n := ⟨_, rfl⟩
  have HN := hid hn
  have HS := hid hsm.2
  have HP := hid hP
  rw [hn] at h hm hsm ⊢
  have hn60 := hsm.1
  obtain ⟨news, n1, n2, n3, n4⟩ := news_of h (whole_cl P P w)
  rw [hn] at n1
  have HN4 := hid n4
  have HH := hid h
  have HF : Hid (Calls Tryz.prog 124 #[.slice ao n cap] w fun e w' => FreshIs 64 w w' e n news) := freshCl w ao n cap news n1 n2 n3 (by omega)
  clear n1 n2 n3 n4 h hsm hn hP
  go_enter Tryz.func94, Tryz.ntmps94
  go_wp2_with fail
  refine HF.out.mono ?_
  rintro e w1 hf
  obtain ⟨co, C, rfl, hC, hCw, ho1⟩ := hf.one
  have HC := hid (fun h0 => (hC h0).1)
  have HCW := hid hCw
  have HO1 := hid ho1
  have HCB : Hid (0 < n → ∃ cs, w1.heap[C]? = some (.cells cs 64)) := fun h0 => ⟨_, (hC h0).2⟩
  have HM : Hid (Mid 6 (clE P) (clE fun k => w.heap.size ≤ k ∧ k ≠ C) w1 C 0 xs) := Mid.start fun i x hx => by
    have h0 : 0 < n := by have := (List.getElem?_eq_some_iff.1 hx).1; rw [HN.out] at this; omega
    exact HN4.out w1 C (fun v l hl => hl.only (stay_int ho1 (fun _ _ h => h))) (news_cells (hC h0).2) i x hx
  clear hf hC hCw ho1
  go_wp2_with fail
  go_loopw [9] (fun i wx => ∃ j : Nat, i = .int .i64 (j : Int) ∧ j ≤ n ∧ Only (fun _ => False) w wx ∧ (0 < n → ∃ cs, wx.heap[C]? = some (.cells cs 64)) ∧ Mid 6 (clE P) (clE fun k => w.heap.size ≤ k ∧ k ≠ C) wx C j xs) (fun i _ => n - (intOf i).toNat)
  case atStart => exact ⟨0, rfl, Nat.zero_le _, HO1.out, HCB.out, HM.out⟩
  case round =>
  clear HM HO1 HCB
  obtain ⟨j, rfl, hj, hox, hcb, hmid⟩ := hrel
  have HX := hid hox
  have HM := hid hmid
  have HCB := hid hcb
  clear hox hmid hcb
  by_cases hlt : (j : Int) < (n : Int)
  · obtain ⟨x, hx⟩ : ∃ x, xs[j]? = some x := ⟨_, List.getElem?_eq_getElem (show j < xs.length by rw [HN.out]; omega)⟩
    have HXJ := hid hx
    obtain ⟨k1, k2, k3, k4, ⟨wv, k5, k6⟩, k7⟩ := HM.out.at hx
    obtain ⟨wa, wc, rfl, wm⟩ := k6.shape
    have hco := HC.out (by omega)
    subst hco
    have e4 : wr.cell? ⟨C, j * 6 + 4, none⟩ = some (.slice wa x.words.length wc) := k5
    have hw20 := HS.out x (List.mem_of_getElem? hx)
    obtain ⟨news2, m1, m2, m3, m4⟩ := news_of k6 (whole_int wr)
    obtain ⟨l, hl⟩ : ∃ l, x.words.length = l := ⟨_, rfl⟩
    have HL := hid hl
    rw [hl] at e4 wm hw20 m1 k6
    obtain ⟨cs, hcs⟩ := HCB.out (by omega)
    have HCS := hid hcs
    have HF2 : Hid (Calls Tryz.prog 125 #[.slice wa l wc] wr fun e w' => FreshIs 2 wr w' e l news2) := freshInt wr wa l wc news2 m1 m2 m3 (by omega)
    have HM4 := hid m4
    have HPRE : Hid (clE P wr C (j * 6) x) := HM.out.at hx
    clear k1 k2 k3 k4 k5 k6 k7 hx hl m1 m2 m3 m4 hcs
    go_wp2_with fail
    refine HF2.out.mono ?_
    rintro e w2 hf2
    obtain ⟨v2, rfl, ho2, hsl⟩ := hf2.sl (xs := x.words) (sz := 1) (E' := intE) HL.out wm (fun b' hc => HM4.out w2 b' trivial hc)
    obtain ⟨a2, c2, rfl, _⟩ := hsl.shape
    have hp : Poke C (fun o => o = j * 6 + 4) wr w2 := Poke.new ho2 (lt_of_block HCS.out) _
    have hblk := hp.only
    have f4 : w2.cell? ⟨C, j * 6 + 4, none⟩ = some (.slice wa l wc) := (World.cell?_of_block (ho2.block C (lt_of_block HCS.out) (fun h => h))).trans e4
    have hcs2 : w2.heap[C]? = some (.cells cs 64) := (ho2.block C (lt_of_block HCS.out) (fun h => h)).trans HCS.out
    have fz : w2.frozen? ⟨C, j * 6 + 4, none⟩ = false := frozen_of_block hcs2 _
    have hsl2 := hsl
    have HV2 : Hid (Only (fun _ => False) w (w2.setCell ⟨C, j * 6 + 4, none⟩ (.slice a2 x.words.length c2)) ∧ (∃ cs, (w2.setCell ⟨C, j * 6 + 4, none⟩ (.slice a2 x.words.length c2)).heap[C]? = some (.cells cs 64)) ∧ Mid 6 (clE P) (clE fun k => w.heap.size ≤ k ∧ k ≠ C) (w2.setCell ⟨C, j * 6 + 4, none⟩ (.slice a2 x.words.length c2)) C (j + 1) xs) := by
      refine ⟨(HX.out.chain ho2 (fun _ _ h => h)).setCell (.inl HCW.out) _, ⟨_, block_set11 hcs2 _ _⟩, ?_⟩
      have hp2 := hp.set (i := j * 6 + 4) rfl (.slice a2 x.words.length c2)
      have hCw := HCW.out
      have hwx := HX.out.size
      refine HM.out.step (fun i y hi hy => hp2.cl (fun k hk => by have := HP.out k hk; omega) (fun q hq => by omega) hy) (fun i y hi hy => hp2.cl (fun k hk => hk.2) (fun q hq => by omega) hy) HXJ.out ?_
      obtain ⟨k1, k2, k3, k4, _, k7⟩ := HPRE.out
      refine ⟨hp2.i64 (by omega) k1, hp2.i64 (by omega) k2, hp2.i64 (by omega) k3, hp2.i64 (by omega) k4, ⟨_, ?_, hsl.mono (fun k hk => ⟨by omega, by have := lt_of_block HCS.out; omega⟩) (fun _ _ _ h => h) |>.only (stay_int ((Only.refl (fun k => k = C) w2).setCell (.inr rfl) _) (fun k hk => hk.2))⟩, hp2.i64 (by omega) k7⟩
      exact cell_set_self hcs2 f4 _
    clear hsl hsl2 hf2 hp hblk hcs2 ho2
    go_wp2_with fail
    go_roundw
    case rel => exact ⟨j + 1, by go_num, by omega, HV2.out.1, fun _ => HV2.out.2.1, HV2.out.2.2⟩
    case measure => simp [intOf]; omega
  · have HE : Hid (SlOf (Hi w) 6 (clE (Hi w)) wr (.slice co n n) xs) := by
      have h9 := HM.out
      rw [show j = n by omega] at h9
      exact h9.done HN.out hm HC.out HCW.out (fun _ _ _ h => mono_cl (fun _ h => h.1) _ h)
    go_wp2_with fail
    go_ret
    exact ⟨_, rfl, HE.out, HX.out⟩

set_option maxRecDepth 100000 in
set_option maxHeartbeats 1000000 in
theorem cClonePart {P : Nat → Prop} (w : World) (v0 v1 : Value) (p : Pt) (h : PtIs P w v0 v1 p) (hP : ∀ k, P k → k < w.heap.size) (hsm : FewP p) :
    Calls Tryz.prog 58 #[.agg #[v0, v1]] w fun e w' => ∃ u0 u1, e = .returned (.agg #[u0, u1]) ∧ PtIs (Hi w) w' u0 u1 p ∧ Only (fun _ => False) w w' := by
  obtain ⟨hT, hO⟩ := h
  obtain ⟨ta, tc, rfl, tm⟩ := hT.shape
  obtain ⟨oa, oc, rfl, om⟩ := hO.shape
  obtain ⟨n, hn⟩ : ∃ n, p.ths.length = n := ⟨_, rfl⟩
  obtain ⟨m, hm⟩ : ∃ m, p.obs.length = m := ⟨_, rfl⟩
  have HN := hid hn
  have HMM := hid hm
  have hn20 : n ≤ 20 := hn ▸ hsm.1
  have hm20 : m ≤ 20 := hm ▸ hsm.2.1
  have HS := hid hsm.2.2
  have HP := hid hP
  rw [hn] at hT tm ⊢
  rw [hm] at hO om ⊢
  have hW : ∃ W z, W = (w.alloc (ptO (.slice ta n tc) (.slice oa m oc))).alloc (ptO (.slice none 0 0) (.slice none 0 0)) ∧ z = w.heap.size ∧ Only (fun _ => False) w W ∧ W.heap[z]? = some (ptO (.slice ta n tc) (.slice oa m oc)) ∧ W.heap[z + 1]? = some (ptO (.slice none 0 0) (.slice none 0 0)) ∧ W.heap.size = z + 1 + 1 :=
    ⟨_, _, rfl, rfl, ((Only.refl _ _).alloc _).alloc _, (Below.heap_alloc _ _ _ (by simp)).trans (heap_new _ _), (by have := heap_new (w.alloc (ptO (.slice ta n tc) (.slice oa m oc))) (ptO (.slice none 0 0) (.slice none 0 0)); rw [World.size_alloc] at this; exact this), by simp⟩
  obtain ⟨W, z, hWe, hze, hoW, hbz, hbz1, hWs⟩ := hW
  have HZ : Hid (w.heap.size = z ∧ W.heap.size = z + 1 + 1) := ⟨hze.symm, hWs⟩
  have c0 : W.cell? ⟨z, 0, none⟩ = some (.slice ta n tc) := cell_of_block hbz 0
  have hTW := hT.only (stay_th hoW (fun _ _ h => h))
  have HOB := hid (hO.only (stay_ob hoW (fun _ _ h => h)))
  have HO := hid hoW
  have HB := hid hbz
  have HB1 := hid hbz1
  obtain ⟨news, n1, n2, n3, n4⟩ := news_of hTW (whole_th P P W)
  rw [hn] at n1
  have HN4 := hid n4
  have HF : Hid (Calls Tryz.prog 93 #[.slice ta n tc] W fun e w' => FreshIs 61 W w' e n news) := freshTh W ta n tc news n1 n2 n3 (by omega)
  clear n1 n2 n3 n4 hT hO hTW hoW hbz hbz1 hWs hsm hn hm hP
  simp only [ptO] at hWe
  go_enter Tryz.func58, Tryz.ntmps58
  go_upto_region 1 with fail
  rw [← hWe, ← hze]
  clear hWe hze
  go_wp2_with fail
  refine HF.out.mono ?_
  rintro e w1 hf
  obtain ⟨co, C, rfl, hC, hCw, ho1⟩ := hf.one
  have HC := hid (fun h0 => (hC h0).1)
  have HCW := hid hCw
  have HO1 := hid ho1
  have HCB : Hid (0 < n → ∃ cs, w1.heap[C]? = some (.cells cs 61)) := fun h0 => ⟨_, (hC h0).2⟩
  have HM : Hid (Mid 4 (thE P) (thE fun k => W.heap.size ≤ k ∧ k ≠ C) w1 C 0 p.ths) := Mid.start fun i x hx => by
    have h0 : 0 < n := by have := (List.getElem?_eq_some_iff.1 hx).1; rw [HN.out] at this; omega
    exact HN4.out w1 C (fun v l hl => hl.only (stay_cl ho1 (fun _ _ h => h))) (news_cells (hC h0).2) i x hx
  clear hf hC hCw ho1 c0
  go_wp2_with fail
  go_loopw [10] (fun i wx => ∃ j : Nat, i = .int .i64 (j : Int) ∧ j ≤ n ∧ Only (fun _ => False) W wx ∧ (0 < n → ∃ cs, wx.heap[C]? = some (.cells cs 61)) ∧ Mid 4 (thE P) (thE fun k => W.heap.size ≤ k ∧ k ≠ C) wx C j p.ths) (fun i _ => n - (intOf i).toNat)
  case atStart => exact ⟨0, rfl, Nat.zero_le _, HO1.out, HCB.out, HM.out⟩
  case round =>
  clear HM HO1 HCB
  obtain ⟨j, rfl, hj, hox, hcb, hmid⟩ := hrel
  have HX := hid hox
  have HM := hid hmid
  have HCB := hid hcb
  clear hox hmid hcb
  by_cases hlt : (j : Int) < (n : Int)
  · obtain ⟨x, hx⟩ : ∃ x, p.ths[j]? = some x := ⟨_, List.getElem?_eq_getElem (show j < p.ths.length by rw [HN.out]; omega)⟩
    have HXJ := hid hx
    obtain ⟨k1, k2, k3, k4, v, k5, k6⟩ := HM.out.at hx
    obtain ⟨pa, pc, rfl, pm⟩ := k6.shape
    have hco := HC.out (by omega)
    subst hco
    have e3 : wr.cell? ⟨C, j * 4 + 3, none⟩ = some (.slice pa x.prog.length pc) := k5
    obtain ⟨cs, hcs⟩ := HCB.out (by omega)
    have HCS := hid hcs
    have HF2 : Hid (Calls Tryz.prog 94 #[.slice pa x.prog.length pc] wr fun e w' => ∃ v', e = .returned v' ∧ SlOf (Hi wr) 6 (clE (Hi wr)) w' v' x.prog ∧ Only (fun _ => False) wr w') :=
      cProgram wr _ x.prog k6 (fun k hk => by have := HP.out k hk; have := HO.out.size; have := HX.out.size; omega) (HS.out x (List.mem_of_getElem? hx))
    have HPRE : Hid (thE P wr C (j * 4) x) := HM.out.at hx
    clear k1 k2 k3 k4 k5 k6 hx hcs
    go_wp2_with fail
    refine HF2.out.mono ?_
    rintro e w2 ⟨v2, rfl, hsl, ho2⟩
    obtain ⟨a2, c2, rfl, _⟩ := hsl.shape
    have f3 : w2.cell? ⟨C, j * 4 + 3, none⟩ = some (.slice pa x.prog.length pc) := (World.cell?_of_block (ho2.block C (lt_of_block HCS.out) (fun h => h))).trans e3
    have hcs2 : w2.heap[C]? = some (.cells cs 61) := (ho2.block C (lt_of_block HCS.out) (fun h => h)).trans HCS.out
    have fz : w2.frozen? ⟨C, j * 4 + 3, none⟩ = false := frozen_of_block hcs2 _
    have HV2 : Hid (Only (fun _ => False) W (w2.setCell ⟨C, j * 4 + 3, none⟩ (.slice a2 x.prog.length c2)) ∧ (∃ cs, (w2.setCell ⟨C, j * 4 + 3, none⟩ (.slice a2 x.prog.length c2)).heap[C]? = some (.cells cs 61)) ∧ Mid 4 (thE P) (thE fun k => W.heap.size ≤ k ∧ k ≠ C) (w2.setCell ⟨C, j * 4 + 3, none⟩ (.slice a2 x.prog.length c2)) C (j + 1) p.ths) := by
      refine ⟨(HX.out.chain ho2 (fun _ _ h => h)).setCell (.inl HCW.out) _, ⟨_, block_set11 hcs2 _ _⟩, ?_⟩
      have hp : Poke C (fun o => o = j * 4 + 3) wr w2 := Poke.new ho2 (lt_of_block HCS.out) _
      have hp2 := hp.set (i := j * 4 + 3) rfl (.slice a2 x.prog.length c2)
      have hCw := HCW.out
      have hwx := HX.out.size
      have hz := HZ.out
      have hCl := lt_of_block HCS.out
      refine HM.out.step (fun i y hi hy => hp2.th (fun k hk => by have := HP.out k hk; omega) (fun q hq => by omega) hy) (fun i y hi hy => hp2.th (fun k hk => hk.2) (fun q hq => by omega) hy) HXJ.out ?_
      obtain ⟨k1, k2, k3, k4, _⟩ := HPRE.out
      refine ⟨hp2.i64 (by omega) k1, hp2.cel (by omega) k2, k3, hp2.cel (by omega) k4, _, cell_set_self hcs2 f3 _, ?_⟩
      have hsl3 : SlOf (fun k => W.heap.size ≤ k ∧ k ≠ C) 6 (clE fun k => W.heap.size ≤ k ∧ k ≠ C) w2 (.slice a2 x.prog.length c2) x.prog := hsl.mono (fun k hk => ⟨by omega, by omega⟩) (fun _ _ _ h => mono_cl (fun k hk => ⟨by omega, by omega⟩) _ h)
      exact hsl3.only (stay_cl ((Only.refl (fun k => k = C) w2).setCell (.inr rfl) _) (fun k hk => hk.2))
    clear hsl hcs2 ho2
    go_wp2_with fail
    go_roundw
    case rel => exact ⟨j + 1, by go_num, by omega, HV2.out.1, fun _ => HV2.out.2.1, HV2.out.2.2⟩
    case measure => simp [intOf]; omega
  · have HE : Hid (SlOf (Hi W) 4 (thE (Hi W)) wr (.slice co n n) p.ths) := by
      have h9 := HM.out
      rw [show j = n by omega] at h9
      exact h9.done HN.out tm HC.out HCW.out (fun _ _ _ h => mono_th (fun _ h => h.1) _ h)
    have hbz := (HX.out.block z (lt_of_block HB.out) (fun h => h)).trans HB.out
    have d1 : wr.cell? ⟨z, 1, none⟩ = some (.slice oa m oc) := cell_of_block hbz 1
    have HB2 := hid ((HX.out.block (z + 1) (lt_of_block HB1.out) (fun h => h)).trans HB1.out)
    obtain ⟨news2, m1, m2, m3, m4⟩ := news_of (HOB.out.only (stay_ob HX.out (fun _ _ h => h))) (whole_ob wr)
    rw [HMM.out] at m1
    have HM4 := hid m4
    have HF2 : Hid (Calls Tryz.prog 95 #[.slice oa m oc] wr fun e w' => FreshIs 96 wr w' e m news2) := freshOb wr oa m oc news2 m1 m2 m3 (by omega)
    clear m1 m2 m3 m4 hbz
    go_wp2_with fail
    refine HF2.out.mono ?_
    rintro e w2 hf2
    obtain ⟨v2, rfl, ho2, hsl⟩ := hf2.sl (xs := p.obs) (sz := 3) (E' := obE) HMM.out om (fun b' hc => HM4.out w2 b' trivial hc)
    obtain ⟨a2, c2, rfl, _⟩ := hsl.shape
    have hb2 := (ho2.block (z + 1) (lt_of_block HB2.out) (fun h => h)).trans HB2.out
    have g0 : w2.cell? ⟨z + 1, 0, none⟩ = some (.slice none 0 0) := cell_of_block hb2 0
    have g1 : w2.cell? ⟨z + 1, 1, none⟩ = some (.slice none 0 0) := cell_of_block hb2 1
    have fz0 : w2.frozen? ⟨z + 1, 0, none⟩ = false := frozen_of_block hb2 0
    have fz1 : w2.frozen? ⟨z + 1, 1, none⟩ = false := frozen_of_block hb2 1
    have HW2 := hid (HX.out.chain ho2 (fun _ _ h => h))
    rw [HMM.out] at hsl
    have HSL := hid hsl
    have HO2 := hid ho2
    have HB3 := hid hb2
    clear hsl hf2 ho2 hb2 d1
    rw [HMM.out]
    go_wp2_with fail
    have hfin := block_set11 (block_set11 HB3.out 0 (.slice co n n)) 1 (.slice a2 m c2)
    have hz := HZ.out
    have hwx := HX.out.size
    have hall : Only (fun k => k = z + 1) w2 ((w2.setCell ⟨z + 1, 0, none⟩ (.slice co n n)).setCell ⟨z + 1, 1, none⟩ (.slice a2 m c2)) := ((Only.refl (fun k => k = z + 1) w2).setCell (p := ⟨z + 1, 0, none⟩) (.inr rfl) _).setCell (p := ⟨z + 1, 1, none⟩) (.inr rfl) _
    refine bodyPost_ret (results_cell_row rfl _ _ (z + 1) 25 #[.slice co n n, .slice a2 m c2] (0, 0) _ rfl hfin Tryz.underlying25 rfl (by kernel_rfl)) rfl ⟨_, _, rfl, ⟨?_, ?_⟩, ?_⟩
    · exact (((HE.out.only (stay_th HO2.out (fun _ _ h => h))).only (stay_th hall (fun k hk e => by have : W.heap.size ≤ k := hk; omega)))).mono (fun k hk => (show w.heap.size ≤ k from by have : W.heap.size ≤ k := hk; omega)) (fun _ _ _ h => mono_th (fun k hk => (show w.heap.size ≤ k from by have : W.heap.size ≤ k := hk; omega)) _ h)
    · exact (HSL.out.only (stay_ob hall (fun k hk e => by have : wr.heap.size ≤ k := hk; omega))).mono (fun k hk => (show w.heap.size ≤ k from by have : wr.heap.size ≤ k := hk; omega)) (fun _ _ _ h => h)
    · exact (HO.out.chain HW2.out (fun _ _ h => h)).chain hall (fun i hi e => by omega)
end Go.Proofs.YtmcmjcaigipoaaaGreat

/-
  A configuration as an argument of a law, opened. Conditions: it can be read.
-/
import Derived.Test.YtmcmjcaigipoaaaGreatCfg11
import Derived.Test.YtmcmjcaigipoaaaGreatRows
namespace Go.Proofs.YtmcmjcaigipoaaaGreat
open Go.Sept Go.RowKit Go.ChangeShapes Go.WideShapes Go.ChangeAt Go.Joins Go.Deep

section
variable {H : Type} {enc : TypeId × Value → H} {W : World} {held : Bool}
theorem c2 : Tryz.prog.cellsOf 2 = 1 := by kernel_rfl
theorem c3 : Tryz.prog.cellsOf 3 = 1 := by kernel_rfl
theorem c4 : Tryz.prog.cellsOf 4 = 1 := by kernel_rfl
theorem cu32 : Tryz.prog.cellsOf 58 = 1 := by kernel_rfl
theorem csI : Tryz.prog.cellsOf 62 = 1 := by kernel_rfl
theorem csC : Tryz.prog.cellsOf 59 = 1 := by kernel_rfl
theorem csT : Tryz.prog.cellsOf 22 = 1 := by kernel_rfl
theorem csO : Tryz.prog.cellsOf 23 = 1 := by kernel_rfl
theorem csP : Tryz.prog.cellsOf 65 = 1 := by kernel_rfl
theorem csW : Tryz.prog.cellsOf 68 = 1 := by kernel_rfl
theorem csH : Tryz.prog.cellsOf 69 = 1 := by kernel_rfl

theorem el_i64 (fuel : Nat) (cs : List Value) (x : DataW H × List MemPlace) (h : DataW.trod enc Tryz.prog W 0 (fun _ => true) held fuel 2 cs = some x) : ∃ y : Int, ∀ b o, (∀ j, j < 1 → W.cell? ⟨b, o + j, none⟩ = cs[j]?) → intE W b o y := by
  obtain ⟨n, rfl, _, wf⟩ := DataW.trod_int Tryz.underlying2 h
  exact ⟨n, fun b o hc => ⟨hc 0 (by omega), bounds_i64 wf⟩⟩
set_option maxRecDepth 100000 in
theorem el_win (fuel : Nat) (cs : List Value) (x : DataW H × List MemPlace) (h : DataW.trod enc Tryz.prog W 0 (fun _ => true) held fuel 67 cs = some x) : ∃ y : Win, ∀ b o, (∀ j, j < 2 → W.cell? ⟨b, o + j, none⟩ = cs[j]?) → winE W b o y := by
  obtain ⟨xs, n, _, _, hl, hlen, hf⟩ := DataW.trod_struct Tryz.underlying67 h
  rw [show Tryz.prog.cellsOf 67 = 2 by kernel_rfl] at hl
  match cs, hl, xs, hlen with
  | [e0, e1], _, [y0, y1], _ =>
    have t0 : _ = some y0 := hf 0 _ rfl
    have t1 : _ = some y1 := hf 1 _ rfl
    obtain ⟨a0, u0, _, wf0⟩ := DataW.trod_int Tryz.underlying3 t0
    obtain ⟨a1, u1, _, wf1⟩ := DataW.trod_int Tryz.underlying3 t1
    simp [c3] at u0 u1
    subst u0 u1
    exact ⟨⟨a0, a1⟩, fun b o hc => ⟨⟨hc 0 (by omega), bounds_i64 wf0⟩, ⟨hc 1 (by omega), bounds_i64 wf1⟩⟩⟩
set_option maxRecDepth 100000 in
theorem el_chn (fuel : Nat) (cs : List Value) (x : DataW H × List MemPlace) (h : DataW.trod enc Tryz.prog W 0 (fun _ => true) held fuel 128 cs = some x) : ∃ y : Chn, ∀ b o, (∀ j, j < 4 → W.cell? ⟨b, o + j, none⟩ = cs[j]?) → chnE W b o y := by
  obtain ⟨xs, n, _, _, hl, hlen, hf⟩ := DataW.trod_struct Tryz.underlying128 h
  rw [show Tryz.prog.cellsOf 128 = 4 by kernel_rfl] at hl
  match cs, hl, xs, hlen with
  | [e0, e1, e2, e3], _, [y0, y1, y2, y3], _ =>
    have t0 : _ = some y0 := hf 0 _ rfl
    have t1 : _ = some y1 := hf 1 _ rfl
    have t2 : _ = some y2 := hf 2 _ rfl
    have t3 : _ = some y3 := hf 3 _ rfl
    obtain ⟨a0, u0, _, wf0⟩ := DataW.trod_int Tryz.underlying3 t0
    obtain ⟨a1, u1, _, wf1⟩ := DataW.trod_int Tryz.underlying3 t1
    obtain ⟨a2, u2, _, wf2⟩ := DataW.trod_int Tryz.underlying3 t2
    obtain ⟨a3, u3, _, wf3⟩ := DataW.trod_int Tryz.underlying3 t3
    simp [c3] at u0 u1 u2 u3
    subst u0 u1 u2 u3
    exact ⟨⟨a0, a1, a2, a3⟩, fun b o hc => ⟨⟨hc 0 (by omega), bounds_i64 wf0⟩, ⟨hc 1 (by omega), bounds_i64 wf1⟩, ⟨hc 2 (by omega), bounds_i64 wf2⟩, ⟨hc 3 (by omega), bounds_i64 wf3⟩⟩⟩
set_option maxRecDepth 100000 in
theorem el_ob (fuel : Nat) (cs : List Value) (x : DataW H × List MemPlace) (h : DataW.trod enc Tryz.prog W 0 (fun _ => true) held fuel 96 cs = some x) : ∃ y : Ob, ∀ b o, (∀ j, j < 3 → W.cell? ⟨b, o + j, none⟩ = cs[j]?) → obE W b o y := by
  obtain ⟨xs, n, _, _, hl, hlen, hf⟩ := DataW.trod_struct Tryz.underlying96 h
  rw [show Tryz.prog.cellsOf 96 = 3 by kernel_rfl] at hl
  match cs, hl, xs, hlen with
  | [e0, e1, e2], _, [y0, y1, y2], _ =>
    have t0 : _ = some y0 := hf 0 _ rfl
    have t1 : _ = some y1 := hf 1 _ rfl
    have t2 : _ = some y2 := hf 2 _ rfl
    obtain ⟨a0, u0, _, wf0⟩ := DataW.trod_int Tryz.underlying3 t0
    obtain ⟨a1, u1, _, wf1⟩ := DataW.trod_int Tryz.underlying3 t1
    obtain ⟨a2, u2, _⟩ := DataW.trod_bool Tryz.underlying4 t2
    simp [c3, c4] at u0 u1 u2
    subst u0 u1 u2
    exact ⟨⟨a0, a1, a2⟩, fun b o hc => ⟨⟨hc 0 (by omega), bounds_i64 wf0⟩, ⟨hc 1 (by omega), bounds_i64 wf1⟩, hc 2 (by omega)⟩⟩
set_option maxRecDepth 100000 in
theorem el_cl (fuel : Nat) (cs : List Value) (x : DataW H × List MemPlace) (h : DataW.trod enc Tryz.prog W 0 (fun _ => true) held fuel 64 cs = some x) : ∃ y : Cl, ∀ b o, (∀ j, j < 6 → W.cell? ⟨b, o + j, none⟩ = cs[j]?) → clE (fun k => k < W.heap.size) W b o y := by
  obtain ⟨xs, n, _, _, hl, hlen, hf⟩ := DataW.trod_struct Tryz.underlying64 h
  rw [show Tryz.prog.cellsOf 64 = 6 by kernel_rfl] at hl
  match cs, hl, xs, hlen with
  | [e0, e1, e2, e3, e4, e5], _, [y0, y1, y2, y3, y4, y5], _ =>
    have t0 : _ = some y0 := hf 0 _ rfl
    have t1 : _ = some y1 := hf 1 _ rfl
    have t2 : _ = some y2 := hf 2 _ rfl
    have t3 : _ = some y3 := hf 3 _ rfl
    have t4 : _ = some y4 := hf 4 _ rfl
    have t5 : _ = some y5 := hf 5 _ rfl
    obtain ⟨a0, u0, _, wf0⟩ := DataW.trod_int Tryz.underlying3 t0
    obtain ⟨a1, u1, _, wf1⟩ := DataW.trod_int Tryz.underlying3 t1
    obtain ⟨a2, u2, _, wf2⟩ := DataW.trod_int Tryz.underlying2 t2
    obtain ⟨a3, u3, _, wf3⟩ := DataW.trod_int Tryz.underlying2 t3
    obtain ⟨v4, ws, u4, hw⟩ := open_sl Tryz.underlying62 c2 (by decide) el_i64 t4
    obtain ⟨a5, u5, _, wf5⟩ := DataW.trod_int Tryz.underlying3 t5
    simp [c2, c3, csI] at u0 u1 u2 u3 u4 u5
    subst u0 u1 u2 u3 u4 u5
    exact ⟨⟨a0, a1, a2, a3, ws, a5⟩, fun b o hc => ⟨⟨hc 0 (by omega), bounds_i64 wf0⟩, ⟨hc 1 (by omega), bounds_i64 wf1⟩, ⟨hc 2 (by omega), bounds_i64 wf2⟩, ⟨hc 3 (by omega), bounds_i64 wf3⟩, ⟨_, hc 4 (by omega), hw⟩, ⟨hc 5 (by omega), bounds_i64 wf5⟩⟩⟩
set_option maxRecDepth 100000 in
theorem el_th (fuel : Nat) (cs : List Value) (x : DataW H × List MemPlace) (h : DataW.trod enc Tryz.prog W 0 (fun _ => true) held fuel 61 cs = some x) : ∃ y : Th, ∀ b o, (∀ j, j < 4 → W.cell? ⟨b, o + j, none⟩ = cs[j]?) → thE (fun k => k < W.heap.size) W b o y := by
  obtain ⟨xs, n, _, _, hl, hlen, hf⟩ := DataW.trod_struct Tryz.underlying61 h
  rw [show Tryz.prog.cellsOf 61 = 4 by kernel_rfl] at hl
  match cs, hl, xs, hlen with
  | [e0, e1, e2, e3], _, [y0, y1, y2, y3], _ =>
    have t0 : _ = some y0 := hf 0 _ rfl
    have t1 : _ = some y1 := hf 1 _ rfl
    have t2 : _ = some y2 := hf 2 _ rfl
    have t3 : _ = some y3 := hf 3 _ rfl
    obtain ⟨a0, u0, _, wf0⟩ := DataW.trod_int Tryz.underlying3 t0
    obtain ⟨a1, u1, _, wf1⟩ := DataW.trod_int Tryz.underlying58 t1
    obtain ⟨a2, u2, _⟩ := DataW.trod_bool Tryz.underlying4 t2
    obtain ⟨v3, ws, u3, hw⟩ := open_sl Tryz.underlying59 (show Tryz.prog.cellsOf 64 = 6 by kernel_rfl) (by decide) el_cl t3
    simp [c3, c4, cu32, csC] at u0 u1 u2 u3
    subst u0 u1 u2 u3
    exact ⟨⟨a0, a1, a2, ws⟩, fun b o hc => ⟨⟨hc 0 (by omega), bounds_i64 wf0⟩, hc 1 (by omega), bounds_u32 wf1, hc 2 (by omega), ⟨_, hc 3 (by omega), hw⟩⟩⟩
set_option maxRecDepth 100000 in
theorem el_pt (fuel : Nat) (cs : List Value) (x : DataW H × List MemPlace) (h : DataW.trod enc Tryz.prog W 0 (fun _ => true) held fuel 25 cs = some x) : ∃ y : Pt, ∀ b o, (∀ j, j < 2 → W.cell? ⟨b, o + j, none⟩ = cs[j]?) → ptE (fun k => k < W.heap.size) W b o y := by
  obtain ⟨xs, n, _, _, hl, hlen, hf⟩ := DataW.trod_struct Tryz.underlying25 h
  rw [show Tryz.prog.cellsOf 25 = 2 by kernel_rfl] at hl
  match cs, hl, xs, hlen with
  | [e0, e1], _, [y0, y1], _ =>
    have t0 : _ = some y0 := hf 0 _ rfl
    have t1 : _ = some y1 := hf 1 _ rfl
    obtain ⟨v0, ths, u0, h0⟩ := open_sl Tryz.underlying22 (show Tryz.prog.cellsOf 61 = 4 by kernel_rfl) (by decide) el_th t0
    obtain ⟨v1, obs, u1, h1⟩ := open_sl Tryz.underlying23 (show Tryz.prog.cellsOf 96 = 3 by kernel_rfl) (by decide) el_ob t1
    simp [csT, csO] at u0 u1
    subst u0 u1
    exact ⟨⟨ths, obs⟩, fun b o hc => ⟨⟨_, hc 0 (by omega), h0⟩, ⟨_, hc 1 (by omega), h1⟩⟩⟩

set_option maxRecDepth 100000 in
/-- A configuration by value. -/
theorem open_cf {r : Reach} {b0 : Nat} {v : Value} {d : DataW H} {p : List MemPlace} (hv : Value.okWide Tryz.prog W r b0 71 v) (h : DataW.Trod enc Tryz.prog W 0 (fun _ => true) held 71 v d p) : ∃ v0 v1 v2 c, v = .agg #[v0, v1, v2] ∧ CfIs (fun k => k < W.heap.size) W v0 v1 v2 c := by
  obtain ⟨cs, rfl, hsz⟩ := okWide_struct Tryz.underlying71 hv
  obtain ⟨fuel, hf0⟩ := h
  obtain ⟨xs, n, _, _, hl, hlen, hf⟩ := DataW.trod_struct Tryz.underlying71 hf0
  rw [show Tryz.prog.cellsOf 71 = 3 by kernel_rfl] at hl
  obtain ⟨l⟩ := cs
  simp [Value.cells] at hl hf
  match l, hl, xs, hlen with
  | [e0, e1, e2], _, [y0, y1, y2], _ =>
    have t0 : _ = some y0 := hf 0 _ rfl
    have t1 : _ = some y1 := hf 1 _ rfl
    have t2 : _ = some y2 := hf 2 _ rfl
    obtain ⟨v0, ps, u0, h0⟩ := open_sl Tryz.underlying65 (show Tryz.prog.cellsOf 25 = 2 by kernel_rfl) (by decide) el_pt t0
    obtain ⟨v1, ws, u1, h1⟩ := open_sl Tryz.underlying68 (show Tryz.prog.cellsOf 67 = 2 by kernel_rfl) (by decide) el_win t1
    obtain ⟨v2, hs, u2, h2⟩ := open_sl Tryz.underlying69 (show Tryz.prog.cellsOf 128 = 4 by kernel_rfl) (by decide) el_chn t2
    simp [csP, csW, csH] at u0 u1 u2
    subst u0 u1 u2
    exact ⟨_, _, _, ⟨ps, ws, hs⟩, rfl, ⟨h0, h1, h2⟩⟩

set_option maxRecDepth 100000 in
/-- A partition by value. -/
theorem open_pt {r : Reach} {b0 : Nat} {v : Value} {d : DataW H} {p : List MemPlace} (hv : Value.okWide Tryz.prog W r b0 25 v) (h : DataW.Trod enc Tryz.prog W 0 (fun _ => true) held 25 v d p) : ∃ v0 v1 c, v = .agg #[v0, v1] ∧ PtIs (fun k => k < W.heap.size) W v0 v1 c := by
  obtain ⟨cs, rfl, hsz⟩ := okWide_struct Tryz.underlying25 hv
  obtain ⟨fuel, hf0⟩ := h
  obtain ⟨xs, n, _, _, hl, hlen, hf⟩ := DataW.trod_struct Tryz.underlying25 hf0
  rw [show Tryz.prog.cellsOf 25 = 2 by kernel_rfl] at hl
  obtain ⟨l⟩ := cs
  simp [Value.cells] at hl hf
  match l, hl, xs, hlen with
  | [e0, e1], _, [y0, y1], _ =>
    have t0 : _ = some y0 := hf 0 _ rfl
    have t1 : _ = some y1 := hf 1 _ rfl
    obtain ⟨v0, ths, u0, h0⟩ := open_sl Tryz.underlying22 (show Tryz.prog.cellsOf 61 = 4 by kernel_rfl) (by decide) el_th t0
    obtain ⟨v1, obs, u1, h1⟩ := open_sl Tryz.underlying23 (show Tryz.prog.cellsOf 96 = 3 by kernel_rfl) (by decide) el_ob t1
    simp [csT, csO] at u0 u1
    subst u0 u1
    exact ⟨_, _, ⟨ths, obs⟩, rfl, ⟨h0, h1⟩⟩
end
end Go.Proofs.YtmcmjcaigipoaaaGreat

/-
  FrameTwo: for every three lists of accesses and every list of turns the law answers true: frames whose steps are taken in turns, in any order, do their accesses in that order, and each body sees what its own accesses answer. Conditions: none.
-/
import Derived.Test.YtfdfjibhbfdloaaTwo1
import Derived.Deep.RegionHeld
import Derived.Deep.DeepCutAuto
import Derived.Deep.CutBlock
import Derived.Laws.NewBlocks
namespace Go.Proofs.Ytfdfjibhbfdloaa.frameTwo
open Go.Sept Go.RowKit Go.ChangeShapes Go.WideShapes Go.ChangeAt Go.Joins Go.Deep

/-- A list of bytes that was handed in. -/
def Bytes (w : World) (a : Option Addr) (n : Nat) (T : Nat → Nat) : Prop := ∃ b off, ∀ i, i < n → a = some ⟨b, off, none⟩ ∧ w.cell? ⟨b, off + i, none⟩ = some (.int .u8 (T i : Int))
theorem Bytes.only {w w' : World} {a : Option Addr} {n : Nat} {T : Nat → Nat} (h : Bytes w a n T) (ho : Only (fun _ => False) w w') : Bytes w' a n T := by
  obtain ⟨b, off, hh⟩ := h
  refine ⟨b, off, fun i hi => ⟨(hh i hi).1, ?_⟩⟩
  have h1 := (hh i hi).2
  exact (World.cell?_of_block (ho.block b (World.block_lt_of_cell? _ _ h1) (fun h => h))).trans h1

def zeros : List Int := List.replicate 8 0
abbrev sl (lo : Nat → Option Addr) (lc : Nat → Nat) (ins : Nat → List Ins) (i : Nat) : Value := .slice (lo i) (ins i).length (lc i)

/-- Three by number. -/
def three {α : Type} (a b c : α) : Nat → α
  | 0 => a
  | 1 => b
  | _ => c

theorem list3 {α : Type} {l : List α} (h : l.length = 3) : ∃ a b c, l = [a, b, c] := by
  match l, h with
  | [a, b, c], _ => exact ⟨a, b, c, rfl⟩

theorem open_elem {H : Type} {enc : TypeId × Value → H} {W : World} {m : Nat} {c : Value} {y : DataW H × List MemPlace} (h : DataW.trod enc Try.prog W 0 (fun _ => true) true m 22 [c] = some y) :
    ∃ (lo : Option Addr) (lc LB : Nat) (ins : List Ins), c = .slice lo ins.length lc ∧ InsIs W lo LB ins ∧ ins.length ≤ 9223372036854775807 := by
  have hc : ∃ lo len cap, c = .slice lo len cap := by
    rcases open_slice Try.underlying22 h with ⟨hcs, _⟩ | ⟨x, l, cc, mm, nn, D, Pl, hcs, _⟩
    · injection hcs with hcs _
      exact ⟨_, _, _, hcs⟩
    · injection hcs with hcs _
      exact ⟨_, _, _, hcs⟩
  obtain ⟨lo, len, cap, rfl⟩ := hc
  have ht : DataW.Trod enc Try.prog W 0 (fun _ => true) true 22 (.slice lo len cap) y.1 y.2 := ⟨m, by simpa [Value.cells] using h⟩
  obtain ⟨LB, ins, hI, hlen, hm⟩ := open_insList ht
  exact ⟨lo, cap, LB, ins, by rw [hlen], hI, by omega⟩

theorem open_three {H : Type} {enc : TypeId × Value → H} {W : World} {r : Reach} {b0 : Nat} {v : Value} {d : DataW H} {p : List MemPlace} (hv : Value.okWide Try.prog W r b0 48 v) (h : DataW.Trod enc Try.prog W 0 (fun _ => true) true 48 v d p) :
    ∃ (lo : Nat → Option Addr) (lc LB : Nat → Nat) (ins : Nat → List Ins), v = .agg #[sl lo lc ins 0, sl lo lc ins 1, sl lo lc ins 2] ∧ (∀ i, i < 3 → InsIs W (lo i) (LB i) (ins i)) ∧ ∀ i, i < 3 → (ins i).length ≤ 9223372036854775807 := by
  have hC : Try.prog.cellsOf 48 = 3 := by kernel_rfl
  have hE : Try.prog.cellsOf 22 = 1 := by kernel_rfl
  simp only [Value.okWide, Try.underlying48] at hv
  obtain ⟨cs, rfl, hsz, _⟩ := hv
  rw [hC] at hsz
  obtain ⟨c0, c1, c2, hcs⟩ := list3 (l := cs.toList) (by simpa using hsz)
  obtain rfl : cs = #[c0, c1, c2] := by cases cs; simp_all
  obtain ⟨fuel, hf⟩ := h
  have hf' : DataW.trod enc Try.prog W 0 (fun _ => true) true fuel 48 [c0, c1, c2] = some (d, p) := by simpa [Value.cells] using hf
  obtain ⟨xs, m, _, _, _, hxl, hel⟩ := DataW.trod_array Try.underlying48 hf'
  obtain ⟨y0, y1, y2, rfl⟩ := list3 hxl
  rw [hE] at hel
  have e0 : DataW.trod enc Try.prog W 0 (fun _ => true) true m 22 [c0] = some y0 := hel 0 (by omega)
  have e1 : DataW.trod enc Try.prog W 0 (fun _ => true) true m 22 [c1] = some y1 := hel 1 (by omega)
  have e2 : DataW.trod enc Try.prog W 0 (fun _ => true) true m 22 [c2] = some y2 := hel 2 (by omega)
  obtain ⟨lo0, lc0, LB0, ins0, rfl, i0, m0⟩ := open_elem e0
  obtain ⟨lo1, lc1, LB1, ins1, rfl, i1, m1⟩ := open_elem e1
  obtain ⟨lo2, lc2, LB2, ins2, rfl, i2, m2⟩ := open_elem e2
  refine ⟨three lo0 lo1 lo2, three lc0 lc1 lc2, three LB0 LB1 LB2, three ins0 ins1 ins2, rfl, fun i hi => ?_, fun i hi => ?_⟩
  · match i, hi with
    | 0, _ => exact i0
    | 1, _ => exact i1
    | 2, _ => exact i2
  · match i, hi with
    | 0, _ => exact m0
    | 1, _ => exact m1
    | 2, _ => exact m2

set_option maxRecDepth 100000 in
set_option maxHeartbeats 2000000 in
theorem walk_out (v : Value) (x0 x1 x2 : Value) (hv : v = .agg #[x0, x1, x2]) (ta : Option Addr) (L tc : Nat) (w : World) (hL : 120 < L) (hm : L ≤ 9223372036854775807) :
    Calls Try.prog 4 #[v, .slice ta L tc] w fun e w' => e = .returned (.bool true) ∧ Below w.heap.size w w' := by
  subst hv
  have hL' : (120 : Int) < L := by omega
  go_enter Try.func4, Try.ntmps4
  go_wp2_with fail
  refine (awake_any _).mono ?_
  rintro e w1 ⟨rfl, hb1⟩
  go_wp2_with fail
  refine (awake_any _).mono ?_
  rintro e w2 ⟨rfl, hb2⟩
  have hF : Hid (Below w.heap.size w w2) := ((((Only.refl (fun _ => False) w).alloc _).chain (Only.of_below hb1 (fun _ => False)) (fun _ _ h => h)).chain (Only.of_below hb2 (fun _ => False)) (fun _ _ h => h)).below (Nat.le_refl _) (fun _ _ h => h)
  clear hb1 hb2
  go_wp2_with fail
  go_ret
  exact ⟨rfl, hF.out⟩

/-- What is built, so far. -/
structure Built (B : Nat) (w : World) (fa pa qa k p q rp rq lx : Nat) (lo : Nat → Option Addr) (lc LB : Nat → Nat) (ins : Nat → List Ins) (ds : Nat → D) : Prop where
  team : Team B w k p q rp rq ds zeros zeros
  lists : Lists B w fa pa qa k p q rp rq ds
  mem : MemIs 74 w p q zeros
  doc : MemIs 43 w rp rq zeros
  each : ∀ i, i < k → (ds i).ins = ins i ∧ (ds i).s = fresh (some ⟨p, 0, none⟩) ∧ (ds i).log = [] ∧ (ins i).length ≤ 30
  box : w.heap[lx]? = some (.cells #[sl lo lc ins 0, sl lo lc ins 1, sl lo lc ins 2] 48)
  off : lx ≠ fa ∧ lx ≠ pa ∧ lx ≠ qa
  given : ∀ i, i < 3 → InsIs w (lo i) (LB i) (ins i) ∧ (0 < (ins i).length → LB i < B)

theorem Built.next {B : Nat} {w w' : World} {fa pa qa k p q rp rq lx F P Q : Nat} {lo : Nat → Option Addr} {lc LB : Nat → Nat} {ins : Nat → List Ins} {ds : Nat → D} {af ap aq : Array Value} (h : Built B w fa pa qa k p q rp rq lx lo lc LB ins ds) (hk : k < 3) (hn : (ins k).length ≤ 30)
    (ha : w.heap[fa]? = some (.cells af 50)) (hb : w.heap[pa]? = some (.cells ap 51)) (hc : w.heap[qa]? = some (.cells aq 52))
    (ht : Trip w w' fa pa qa k af ap aq p (lo k) (ins k).length (lc k) (some F) (some P) (some Q) (some F) (some P) (some Q)) : ∃ ds', Built B w' fa pa qa (k + 1) p q rp rq lx lo lc LB ins ds' ∧ Only (fun x => x = fa ∨ x = pa ∨ x = qa) w w' := by
  obtain ⟨ds', h1, h2, h3, h4, h5, h6, h7, h8, h9⟩ := trip_done h.team h.lists hk h.mem h.doc (h.given k hk).1 (h.given k hk).2 ha hb hc ht
  have hb := h.lists.base
  refine ⟨ds', ⟨h1, h2, h7, h8, fun i hi => ?_, ?_, h.off, fun i hi => ⟨(h.given i hi).1.only h9 (fun h0 e => ?_), (h.given i hi).2⟩⟩, h9⟩
  · by_cases e : i = k
    · subst e
      exact ⟨h4, h5, h6, hn⟩
    · rw [h3 i (by omega)]
      exact h.each i (by omega)
  · obtain ⟨o1, o2, o3⟩ := h.off
    exact (h9.block lx (lt_of_block h.box) (by rintro (e | e | e) <;> contradiction)).trans h.box
  · have := (h.given i hi).2 h0
    omega

theorem sl_at (lo : Nat → Option Addr) (lc : Nat → Nat) (ins : Nat → List Ins) (k : Nat) (hk : k < 3) : (#[sl lo lc ins 0, sl lo lc ins 1, sl lo lc ins 2] : Array Value)[k]? = some (sl lo lc ins k) := by
  match k, hk with
  | 0, _ => rfl
  | 1, _ => rfl
  | 2, _ => rfl

set_option maxRecDepth 100000 in
set_option maxHeartbeats 4000000 in
theorem walk_in (ta : Option Addr) (L tc : Nat) (T : Nat → Nat) (lo : Nat → Option Addr) (lc LB : Nat → Nat) (ins : Nat → List Ins) (w : World) (hI : ∀ i, i < 3 → InsIs w (lo i) (LB i) (ins i)) (hmx : ∀ i, i < 3 → (ins i).length ≤ 9223372036854775807) (hL : L ≤ 120) (hT : Bytes w ta L T) (hTb : ∀ i, i < L → T i ≤ 255) :
    Calls Try.prog 4 #[.agg #[sl lo lc ins 0, sl lo lc ins 1, sl lo lc ins 2], .slice ta L tc] w fun e w' => e = .returned (.bool true) ∧ Below w.heap.size w w' := by
  have hmf : ∀ (fn : Fn) (first cap : Array Value) (w : World), (Instr.makeFunc fn first cap).run Try.prog w = .ok (.func fn first cap) w := fun _ _ _ _ => rfl
  have hL' : ¬ (120 : Int) < L := by omega
  have HI := hid hI
  have HMX := hid hmx
  have HT := hid hT
  have HTB := hid hTb
  clear hI hmx hT hTb
  go_enter Try.func4, Try.ntmps4
  go_wp2_with fail
  refine (awake_any _).mono ?_
  rintro e w1 ⟨rfl, hb1⟩
  have HB1 := hid hb1
  clear hb1
  go_wp2_with fail
  refine (new_rel _ _).mono ?_
  rintro e w2 ⟨p, q, rfl, hm2, hp, hq, ho2⟩
  have HM2 : Hid (MemIs 74 w2 p q zeros) := hm2
  have HO2 := hid ho2
  clear hm2 ho2
  go_wp2_with fail
  refine (ref_new_rel _ _).mono ?_
  rintro e w3 ⟨rp, rq, rfl, hm3, hrp, hrq, ho3⟩
  have HW : Hid (∃ W fa, W = ((w3.alloc (.cells #[.pointer none, .pointer none, .pointer none] 50)).alloc (.cells #[.pointer none, .pointer none, .pointer none] 51)).alloc (.cells #[.pointer none, .pointer none, .pointer none] 52) ∧ fa = w3.heap.size ∧
      Built w.heap.size W fa (fa + 1) (fa + 1 + 1) 0 p q rp rq w.heap.size lo lc LB ins (fun _ => ⟨0, 0, 0, 0, 0, 0, 0, none, 0, [], fresh none, 0, [], []⟩) ∧ Only (fun _ => False) w W ∧ w.heap.size < fa) := by
    refine ⟨_, _, rfl, rfl, ?_⟩
    have hoA : Only (fun _ => False) w (w.alloc (.cells #[sl lo lc ins 0, sl lo lc ins 1, sl lo lc ins 2] 48)) := (Only.refl _ _).alloc _
    have ho1 := Only.of_below HB1.out (fun _ => False)
    have s1 : (w.alloc (.cells #[sl lo lc ins 0, sl lo lc ins 1, sl lo lc ins 2] 48)).heap.size = w.heap.size + 1 := by simp
    have z1 := ho1.size
    have z2 := HO2.out.size
    have z3 := ho3.size
    have l1 : p < w2.heap.size := lt_of_block HM2.out.head
    have l2 : q < w2.heap.size := HM2.out.row.lt
    have l3 : rp < w3.heap.size := lt_of_block hm3.head
    have l4 : rq < w3.heap.size := hm3.row.lt
    have hB1 := heap_new w (.cells #[sl lo lc ins 0, sl lo lc ins 1, sl lo lc ins 2] 48)
    have ho123 := (ho1.chain HO2.out (fun _ _ h => h)).chain ho3 (fun _ _ h => h)
    have hO3 := hoA.chain ho123 (fun _ _ h => h)
    have ho4 : Only (fun _ => False) w3 (((w3.alloc (.cells #[.pointer none, .pointer none, .pointer none] 50)).alloc (.cells #[.pointer none, .pointer none, .pointer none] 51)).alloc (.cells #[.pointer none, .pointer none, .pointer none] 52)) := (((Only.refl _ _).alloc _).alloc _).alloc _
    have hO4 := hO3.chain ho4 (fun _ _ h => h)
    have hm4 := (HM2.out.only ho3 (fun h => h) (fun h => h)).only ho4 (fun h => h) (fun h => h)
    have hr4 : MemIs 43 _ rp rq zeros := MemIs.only (S := fun _ => False) hm3 ho4 (fun h => h) (fun h => h)
    have a1 : ∀ i, 0 ≤ i → i < 3 → (#[Value.pointer none, .pointer none, .pointer none] : Array Value)[i]? = some (.pointer none) := by
      intro i _ hi
      match i, hi with
      | 0, _ => rfl
      | 1, _ => rfl
      | 2, _ => rfl
    have n1 : (((w3.alloc (.cells #[.pointer none, .pointer none, .pointer none] 50)).alloc (.cells #[.pointer none, .pointer none, .pointer none] 51)).alloc (.cells #[.pointer none, .pointer none, .pointer none] 52)).heap[w3.heap.size]? = some (.cells #[.pointer none, .pointer none, .pointer none] 50) := by
      rw [Below.heap_alloc _ _ _ (by simp; omega), Below.heap_alloc _ _ _ (by simp)]
      exact heap_new _ _
    have n2 : (((w3.alloc (.cells #[.pointer none, .pointer none, .pointer none] 50)).alloc (.cells #[.pointer none, .pointer none, .pointer none] 51)).alloc (.cells #[.pointer none, .pointer none, .pointer none] 52)).heap[w3.heap.size + 1]? = some (.cells #[.pointer none, .pointer none, .pointer none] 51) := by
      rw [Below.heap_alloc _ _ _ (by simp)]
      have h9 := heap_new (w3.alloc (.cells #[.pointer none, .pointer none, .pointer none] 50)) (.cells #[.pointer none, .pointer none, .pointer none] 51)
      rwa [World.size_alloc] at h9
    have n3 : (((w3.alloc (.cells #[.pointer none, .pointer none, .pointer none] 50)).alloc (.cells #[.pointer none, .pointer none, .pointer none] 51)).alloc (.cells #[.pointer none, .pointer none, .pointer none] 52)).heap[w3.heap.size + 1 + 1]? = some (.cells #[.pointer none, .pointer none, .pointer none] 52) := by
      have h9 := heap_new ((w3.alloc (.cells #[.pointer none, .pointer none, .pointer none] 50)).alloc (.cells #[.pointer none, .pointer none, .pointer none] 51)) (.cells #[.pointer none, .pointer none, .pointer none] 52)
      rwa [World.size_alloc, World.size_alloc] at h9
    refine ⟨⟨Team.empty ⟨by omega, by omega, by omega⟩ ⟨by omega, by omega⟩ hm4 hr4 hO4.size _, ⟨⟨_, n1, rfl, fun i hi => by omega, a1⟩, ⟨_, n2, rfl, fun i hi => by omega, a1⟩, ⟨_, n3, rfl, fun i hi => by omega, a1⟩, ⟨by omega, by omega, by omega⟩, ⟨by omega, by omega, by omega⟩, fun x hx => ⟨⟨by omega, by omega, by omega, by omega⟩, fun i c hi => by omega⟩⟩, hm4, hr4, fun i hi => by omega, ?_, ⟨by omega, by omega, by omega⟩, fun i hi => ⟨(HI.out i hi).only hO4 (fun _ h => h), fun h0 => (HI.out i hi).lt h0⟩⟩, hO4, by omega⟩
    rw [ho4.block _ (by omega) (fun h => h), ho123.block _ (by omega) (fun h => h)]
    exact hB1
  obtain ⟨W, fa, hWe, hfe, hB0, hO0, hfl⟩ := HW.out
  have HB0 := hid hB0
  have HO0 := hid hO0
  clear HW hB0 hO0 HM2 HO2 HB1 hm3 ho3 hp hq hrp hrq
  go_wp2_with fail
  rw [← hfe, ← hWe]
  clear hWe hfe
  obtain ⟨lx, hlx⟩ : ∃ lx, lx = w.heap.size := ⟨_, rfl⟩
  have HB1 : Hid (Built w.heap.size W fa (fa + 1) (fa + 1 + 1) 0 p q rp rq lx lo lc LB ins (fun _ => ⟨0, 0, 0, 0, 0, 0, 0, none, 0, [], fresh none, 0, [], []⟩)) := by rw [hlx]; exact HB0.out
  clear HB0
  have HB0 := HB1
  clear HB1
  rw [← hlx]
  have HLX := hid hlx
  clear hlx
  obtain ⟨pa, hpa⟩ : ∃ pa, pa = fa + 1 := ⟨_, rfl⟩
  obtain ⟨qa, hqa⟩ : ∃ qa, qa = fa + 1 + 1 := ⟨_, rfl⟩
  rw [← hqa, ← hpa] at HB0
  rw [← hqa, ← hpa]
  clear hpa hqa hfl
  go_loopw [24] (fun i wx => ∃ (j : Nat) (ds : Nat → D), i = .int .i64 (j : Int) ∧ j ≤ 3 ∧ Built w.heap.size wx fa pa qa j p q rp rq lx lo lc LB ins ds ∧ Only (fun _ => False) w wx) (fun i _ => 3 - (intOf i).toNat)
  case atStart => exact ⟨0, _, rfl, by omega, HB0.out, HO0.out⟩
  case round =>
    obtain ⟨j, ds, rfl, hj, hB, hO⟩ := hrel
    have HB := hid hB
    have HO := hid hO
    clear HB0 HO0 hB hO
    by_cases hlt : (j : Int) < 3
    · have hj3 : j < 3 := by omega
      have xl : wr.cell? ⟨lx, j, none⟩ = some (.slice (lo j) (ins j).length (lc j)) := (Sept.cell_of_block HB.out.box j).trans (sl_at lo lc ins j hj3)
      by_cases hn : 30 < (ins j).length
      · have hn' : (30 : Int) < (ins j).length := by omega
        have hmxj := HMX.out j hj3
        clear HB
        go_wp2_with fail
        go_ret
        exact ⟨rfl, HO.out.below (Nat.le_refl _) (fun _ _ h => h)⟩
      · have hn' : ¬ (30 : Int) < (ins j).length := by omega
        have hn30 : (ins j).length ≤ 30 := by omega
        obtain ⟨af, q1, q2, _, q4⟩ := HB.out.lists.f
        obtain ⟨ap, r1, r2, _, r4⟩ := HB.out.lists.b
        obtain ⟨aq, s1, s2, _, s4⟩ := HB.out.lists.c
        have xf : wr.cell? ⟨fa, j, none⟩ = some (.pointer none) := (Sept.cell_of_block q1 j).trans (q4 j (Nat.le_refl _) hj3)
        have xp : wr.cell? ⟨pa, j, none⟩ = some (.pointer none) := (Sept.cell_of_block r1 j).trans (r4 j (Nat.le_refl _) hj3)
        have xq : wr.cell? ⟨qa, j, none⟩ = some (.pointer none) := (Sept.cell_of_block s1 j).trans (s4 j (Nat.le_refl _) hj3)
        have yf := frozen_of_block q1 j
        have yp := frozen_of_block r1 j
        have yq := frozen_of_block s1 j
        obtain ⟨m1, m2, m3⟩ := HB.out.off
        obtain ⟨o1, o2, o3⟩ := HB.out.lists.ne
        have m1' := m1.symm
        have m2' := m2.symm
        have m3' := m3.symm
        have o1' := o1.symm
        have o2' := o2.symm
        have o3' := o3.symm
        have T0 : Hid (Trip wr wr.drew fa pa qa j af ap aq p (lo j) (ins j).length (lc j) none none none none none none) := Trip.start q1 r1 s1 ⟨o1, o2, o3⟩
        have HQ := hid (And.intro q1 (And.intro r1 s1))
        have HKEY : Hid (∀ (W' : World), (∃ F P Q, Trip wr W' fa pa qa j af ap aq p (lo j) (ins j).length (lc j) (some F) (some P) (some Q) (some F) (some P) (some Q)) → ∃ (j1 : Nat) (ds : Nat → D), Value.int .i64 ((j : Int) + 1) = .int .i64 (j1 : Int) ∧ j1 ≤ 3 ∧ Built w.heap.size W' fa pa qa j1 p q rp rq lx lo lc LB ins ds ∧ Only (fun _ => False) w W') := by
          rintro W' ⟨F, P, Q, ht⟩
          obtain ⟨ds', g1, g2⟩ := HB.out.next hj3 hn30 HQ.out.1 HQ.out.2.1 HQ.out.2.2 ht
          have hb := HB.out.lists.base
          exact ⟨j + 1, ds', by push_cast; rfl, hj3, g1, HO.out.chain g2 (fun i hi e => by omega)⟩
        have lf := lt_of_block q1
        have lp := lt_of_block r1
        have lq := lt_of_block s1
        have ll := lt_of_block HB.out.box
        have vf1 : fa < wr.heap.size := lf
        have vf2 : fa < wr.heap.size + 1 := Nat.lt_succ_of_lt lf
        have vp1 : pa < wr.heap.size := lp
        have vp2 : pa < wr.heap.size + 1 := Nat.lt_succ_of_lt lp
        have vq1 : qa < wr.heap.size := lq
        have vq2 : qa < wr.heap.size + 1 := Nat.lt_succ_of_lt lq
        have vl1 : lx < wr.heap.size := ll
        have vl2 : lx < wr.heap.size + 1 := Nat.lt_succ_of_lt ll
        clear HB HO q1 q2 q4 r1 r2 r4 s1 s2 s4 hn
        go_wp2_with fail
        first
          | go_region_held (fun w' => w'.cell? ⟨lx, j, none⟩ = some (.slice (lo j) (ins j).length (lc j))) (first | go_keep | (simp [*, World.cell?_alloc_past, World.cell?_setCell_far, World.cell?_alloc_some]; done))
            (first | (go_at_call 12; refine (fnew_rel _ _).mono ?_; rintro e w4 ⟨F, rfl, hf4, hF4, ho4⟩; have hO4 : Only (fun _ => False) wr w4 := Only.chain (by repeat (first | exact Only.refl _ _ | apply Only.drew | apply Only.alloc)) ho4 (fun _ _ h => h); have HN := hid (And.intro hf4 (And.intro hF4 ho4)); have kl := (World.cell?_of_block (hO4.block lx ll (fun h => h))).trans xl; have kf := (World.cell?_of_block (hO4.block fa lf (fun h => h))).trans xf; have kp := (World.cell?_of_block (hO4.block pa lp (fun h => h))).trans xp; have kq := (World.cell?_of_block (hO4.block qa lq (fun h => h))).trans xq; have ff := frozen_of_block ((hO4.block fa lf (fun h => h)).trans HQ.out.1) j; have fp := frozen_of_block ((hO4.block pa lp (fun h => h)).trans HQ.out.2.1) j; have fq := frozen_of_block ((hO4.block qa lq (fun h => h)).trans HQ.out.2.2) j; have uf1 : fa < w4.heap.size := Nat.lt_of_lt_of_le lf hO4.size; have uf2 : fa < w4.heap.size + 1 := Nat.lt_succ_of_lt (Nat.lt_of_lt_of_le lf hO4.size); have up1 : pa < w4.heap.size := Nat.lt_of_lt_of_le lp hO4.size; have up2 : pa < w4.heap.size + 1 := Nat.lt_succ_of_lt (Nat.lt_of_lt_of_le lp hO4.size); have uq1 : qa < w4.heap.size := Nat.lt_of_lt_of_le lq hO4.size; have uq2 : qa < w4.heap.size + 1 := Nat.lt_succ_of_lt (Nat.lt_of_lt_of_le lq hO4.size); have ul1 : lx < w4.heap.size := Nat.lt_of_lt_of_le ll hO4.size; have ul2 : lx < w4.heap.size + 1 := Nat.lt_succ_of_lt (Nat.lt_of_lt_of_le ll hO4.size); clear hf4 hF4 ho4 hO4))
          | fail
        all_goals
          go_wp2_with fail
          go_roundw
          case rel =>
            first
              | exact HKEY.out _ ⟨_, _, _, (((((T0.out).frame HN.out.1 HN.out.2.1 HN.out.2.2).putF.putB.putC)).prog (by simp)).plain (by simp)⟩
              | exact HKEY.out _ ⟨_, _, _, (((((T0.out).frame HN.out.1 HN.out.2.1 HN.out.2.2).putF.putB.putC)).plain (by simp)).prog (by simp)⟩
              | exact HKEY.out _ ⟨_, _, _, (((((T0.out).prog (by simp)).frame HN.out.1 HN.out.2.1 HN.out.2.2).putF.putB.putC)).plain (by simp)⟩
              | exact HKEY.out _ ⟨_, _, _, (((((T0.out).prog (by simp)).plain (by simp)).frame HN.out.1 HN.out.2.1 HN.out.2.2).putF.putB.putC)⟩
              | exact HKEY.out _ ⟨_, _, _, (((((T0.out).plain (by simp)).frame HN.out.1 HN.out.2.1 HN.out.2.2).putF.putB.putC)).prog (by simp)⟩
              | exact HKEY.out _ ⟨_, _, _, (((((T0.out).plain (by simp)).prog (by simp)).frame HN.out.1 HN.out.2.1 HN.out.2.2).putF.putB.putC)⟩
          case measure => simp [intOf]; omega
    · obtain rfl : j = 3 := by omega
      have HC : Hid (Calm w.heap.size wr fa pa qa p q rp rq ins ds zeros) := ⟨HB.out.team, HB.out.lists, rfl, fun i hi => by
        obtain ⟨c1, c2, c3, c4⟩ := HB.out.each i hi
        rw [c1, c2, c3]
        exact ⟨rfl, c4, Live.nil _, rfl, rfl, fun h9 => absurd h9 Bool.false_ne_true⟩⟩
      clear HB hj hlt
      go_wp2_with fail
      go_loopw [53] (fun i wx => ∃ (now : Nat) (ds : Nat → D) (xs : List Int), i = .int .i64 (now : Int) ∧ now ≤ L ∧ Calm w.heap.size wx fa pa qa p q rp rq ins ds xs ∧ Only (fun _ => False) w wx) (fun i _ => L - (intOf i).toNat)
      case atStart => exact ⟨0, ds, zeros, rfl, Nat.zero_le _, HC.out, HO.out⟩
      case round =>
        clear HC HO
        obtain ⟨now, ds, xs, rfl, hnow, hC, hO⟩ := hrel
        have HC := hid hC
        have HO := hid hO
        clear hC hO
        by_cases hlt : now < L
        · have hlt' : (now : Int) < L := by omega
          obtain ⟨tb, off, hh⟩ := HT.out.only HO.out
          obtain ⟨rfl, hc⟩ := hh now hlt
          have hT255 : T now ≤ 255 := HTB.out now hlt
          obtain ⟨g, hg⟩ : ∃ g, g = T now % 3 := ⟨_, rfl⟩
          have hg1 : (T now : Int) % 3 = (g : Int) := by omega
          have hg3 : g < 3 := by omega
          have hg3' : (g : Int) < 3 := by omega
          obtain ⟨cf, cp, cq⟩ := HC.out.lists.cells hg3
          have cf' : wr.cell? ⟨fa, g, none⟩ = some (.pointer (some ⟨(ds g).F, 0, none⟩)) := cf
          have cp' : wr.cell? ⟨pa, g, none⟩ = some (.pointer (some ⟨(ds g).P, 0, none⟩)) := cp
          have HF := hid (HC.out.team.real g hg3).fm.frame
          have HCd := hid (HC.out.still (Only.refl (fun _ => False) wr).drew)
          have HOd := hid HO.out.drew
          clear hh hg cf cp cq HC HO
          go_wp2_with fail
          refine (done_rel _ _ _ _ HF.out).mono ?_
          rintro e w5 ⟨rfl, rfl⟩
          obtain ⟨b0, hb0⟩ : ∃ b0, (ds g).s.done = b0 := ⟨_, rfl⟩
          rw [hb0]
          have HB0 := hid hb0
          clear HF hb0
          go_wp2_with fail
          go_region_held (fun w' => w'.cell? ⟨fa, g, none⟩ = some (.pointer (some ⟨(ds g).F, 0, none⟩)) ∧ w'.cell? ⟨pa, g, none⟩ = some (.pointer (some ⟨(ds g).P, 0, none⟩))) (go_keep)
            (first | (go_at_call 13; refine (calm_step HCd.out g hg3 (now : Int)).mono ?_; rintro e w6 ⟨b6, ds6, xs6, rfl, hM6, ⟨e1, e2, e3⟩, ho6⟩; have HM6 := hid hM6; have HO6 := hid (HOd.out.chain ho6 (fun i hi e => by omega)); have k1 : w6.cell? ⟨fa, g, none⟩ = some (.pointer (some ⟨(ds g).F, 0, none⟩)) := (by rw [← e1]; exact (hM6.lists.cells hg3).1); have k2 : w6.cell? ⟨pa, g, none⟩ = some (.pointer (some ⟨(ds g).P, 0, none⟩)) := (by rw [← e2]; exact (hM6.lists.cells hg3).2.1); clear hM6 ho6 e1 e2 e3))
          rw [HB0.out] at HM6
          clear HCd HOd cf' cp' k1 k2 hc HB0
          go_upto_if 76 with fail
          go_cut [] (fun wc => ∃ (ds : Nat → D) (xs : List Int), Calm w.heap.size wc fa pa qa p q rp rq ins ds xs ∧ Only (fun _ => False) w wc)
          case first =>
            cases b0
            · have c3 : w6.cell? ⟨qa, g, none⟩ = some (.pointer (some ⟨(ds6 g).Q, 0, none⟩)) := (HM6.out.lists.cells hg3).2.2
              go_wp2_with fail
              refine (midst_plain HM6.out hg3).mono ?_
              rintro e w7 ⟨b7, ds7, xs7, rfl, hC7, ho7⟩
              have HC7 := hid hC7
              have HO7 := hid (HO6.out.chain ho7 (fun i hi e => by omega))
              clear hC7 ho7 HM6 HO6 c3
              go_wp2_with fail
              go_meet
              case rel => exact ⟨ds7, xs7, HC7.out, HO7.out⟩
            · go_wp2_with fail
              go_meet
              case rel => exact ⟨ds6, xs, HM6.out.over, HO6.out⟩
          case rest =>
            clear HM6 HO6
            obtain ⟨ds8, xs8, hC8, hO8⟩ := hcut
            obtain ⟨gv, hv, rv, hS⟩ := hC8.team.sight (g := g) hg3 rfl rfl rfl rfl rfl
            obtain ⟨x1, x2, x3⟩ := hC8.lists.cells hg3
            obtain ⟨y1, y2, y3, y4, y5, y6⟩ := hC8.each g hg3
            obtain ⟨F, hF⟩ : ∃ F, (ds8 g).F = F := ⟨_, rfl⟩
            obtain ⟨P, hP⟩ : ∃ P, (ds8 g).P = P := ⟨_, rfl⟩
            obtain ⟨Q, hQ⟩ : ∃ Q, (ds8 g).Q = Q := ⟨_, rfl⟩
            rw [hF] at x1
            rw [hP] at x2
            rw [hQ] at x3
            rw [hF, hP, hQ] at hS
            have HX : Hid (∀ w', Only (fun _ => False) wc w' → w'.cell? ⟨fa, g, none⟩ = some (.pointer (some ⟨F, 0, none⟩)) ∧ w'.cell? ⟨pa, g, none⟩ = some (.pointer (some ⟨P, 0, none⟩)) ∧ w'.cell? ⟨qa, g, none⟩ = some (.pointer (some ⟨Q, 0, none⟩))) := by
              intro w' ho
              have key : ∀ (b j : Nat) (v : Value), wc.cell? ⟨b, j, none⟩ = some v → w'.cell? ⟨b, j, none⟩ = some v := fun b j v hc => (World.cell?_of_block (ho.block b (World.block_lt_of_cell? _ _ hc) (fun h => h))).trans hc
              exact ⟨key _ _ _ x1, key _ _ _ x2, key _ _ _ x3⟩
            have HXL : Hid (xs8.length ≤ 4000) := by have := hC8.words; show xs8.length ≤ 4000; omega
            have HSL : Hid ((ds8 g).s.log.length = (ds8 g).log.length) := by show (ds8 g).s.log.length = (ds8 g).log.length; rw [y4]
            have HGL : Hid ((ctlOf (ds8 g).ins (ds8 g).log).got.length ≤ 4000) := by
              have h9 : (ctlOf (ds8 g).ins (ds8 g).log).got.length = Ctl.zero.got.length + (ds8 g).log.length := got_len (ds8 g).ins (ds8 g).log Ctl.zero
              have h8 := y3.length_le
              have h7 : Ctl.zero.got.length = 0 := rfl
              show (ctlOf (ds8 g).ins (ds8 g).log).got.length ≤ 4000
              omega
            have HY : Hid ((ds8 g).s.done = true → (ds8 g).got = (ctlOf (ds8 g).ins (ds8 g).log).got) := by rw [y1]; exact y6
            have HC8 := hid (hC8.still (Only.refl (fun _ => False) wc).drew)
            have HO8 := hid hO8.drew
            have HS8 := hid (hS.still (Only.refl (fun _ => False) wc).drew)
            have HW8 : Hid (Only (fun _ => False) wc wc.drew) := (Only.refl _ _).drew
            have z1 : wc.cell? ⟨fa, g, none⟩ = some (.pointer (some ⟨F, 0, none⟩)) := x1
            have z3 : wc.cell? ⟨qa, g, none⟩ = some (.pointer (some ⟨Q, 0, none⟩)) := x3
            have z4 : wc.cell? ⟨Q, 4, none⟩ = some (.int .i64 ((ds8 g).log.length : Int)) := hS.n
            have zr : wc.cell? ⟨rp, 0, none⟩ = some rv := hS.r
            obtain ⟨nl, hnl⟩ : ∃ nl, (ds8 g).log.length = nl := ⟨_, rfl⟩
            rw [hnl] at z4 HSL
            have HN4 : Hid (∀ w', Sight w' F (ds8 g).lb P Q p q rp (ds8 g).s (ctlOf (ds8 g).ins (ds8 g).log) (ds8 g).log.length (ds8 g).got xs8 gv hv rv → w'.cell? ⟨Q, 4, none⟩ = some (.int .i64 (nl : Int))) := fun w' h9 => by rw [← hnl]; exact h9.n
            clear hS x1 x2 x3 y1 y2 y3 y4 y5 y6 hF hP hQ hC8 hO8 hnl
            go_wp2_with fail
            first
              | go_region_held (fun w' => w'.cell? ⟨fa, g, none⟩ = some (.pointer (some ⟨F, 0, none⟩)) ∧ w'.cell? ⟨qa, g, none⟩ = some (.pointer (some ⟨Q, 0, none⟩)) ∧ w'.cell? ⟨Q, 4, none⟩ = some (.int .i64 (nl : Int)) ∧ w'.cell? ⟨rp, 0, none⟩ = some rv) (go_keep)
                (first
                  | (go_at_call 17; refine (words_vec _ p q xs8 ?_ ?_).mono ?_; exact HS8.out.e; exact HXL.out; rintro e w9 ⟨v9, rfl, hv9, ho9⟩; have HS9 := hid (HS8.out.still ho9); have HC9 := hid (HC8.out.still ho9); have HV9 := hid hv9; have HO9 := hid (HO8.out.chain ho9 (fun _ _ h => h)); have HW9 := hid (HW8.out.chain ho9 (fun _ _ h => h)); have a1 := (HX.out _ HW9.out).1; have a3 := (HX.out _ HW9.out).2.2; have a4 := HN4.out _ HS9.out; have ar := HS9.out.r; clear hv9 ho9)
                  | (go_at_call 16; refine (ref_words_vec _ _ _ xs8 ?_ ?_ ?_).mono ?_; exact HV9.out; exact HS9.out.rv; exact HXL.out; rintro e w10 ⟨rfl, ho10⟩; have HS10 := hid (HS9.out.still ho10); have HC10 := hid (HC9.out.still ho10); have HO10 := hid (HO9.out.chain ho10 (fun _ _ h => h)); have HW10 := hid (HW9.out.chain ho10 (fun _ _ h => h)); have b1 := (HX.out _ HW10.out).1; have b3 := (HX.out _ HW10.out).2.2; have b4 := HN4.out _ HS10.out; have br := HS10.out.r; clear ho10)
                  | (go_at_call 18; refine (steps_rel _ _ _ _ HS10.out.f).mono ?_; rintro e w11 ⟨rfl, rfl⟩; rw [HSL.out]))
              | fail
            clear z1 z3 z4 zr a1 a3 a4 ar b1 b3 b4 br HS8 HS9 HC8 HC9 HV9 HO8 HO9 HW8 HW9 HN4 HSL
            have HS12 := hid (HS10.out.still (Only.refl (fun _ => False) _).drew)
            have HC12 := hid (HC10.out.still (Only.refl (fun _ => False) _).drew)
            have HO12 := hid HO10.out.drew
            have HW12 := hid HW10.out.drew
            obtain ⟨f1, f2, f3⟩ := HX.out _ HW10.out
            have f4 := HS10.out.g
            have f5 := HS10.out.k
            cases hd : (ds8 g).s.done
            · have HD := hid hd
              clear hd HY HS10 HC10 HO10 HW10
              go_wp2_with fail
              refine wp_region_held_drew (S := fun w' => w'.cell? ⟨fa, g, none⟩ = some (.pointer (some ⟨F, 0, none⟩)) ∧ w'.cell? ⟨pa, g, none⟩ = some (.pointer (some ⟨P, 0, none⟩)) ∧ w'.cell? ⟨qa, g, none⟩ = some (.pointer (some ⟨Q, 0, none⟩)) ∧ w'.cell? ⟨P, 1, none⟩ = some gv ∧ w'.cell? ⟨Q, 3, none⟩ = some hv) (by kernel_rfl) ?_ (fun hHeld => ?_)
              · (try dsimp only); go_keep
              refine wpAnyH_take (i := 0) (oi := { dst := some 104, op := Go.Op.move (Go.Operand.tmp 12), type := 3, pos := _, after := #[], guard := none }) (v := ?_) rfl (by kernel_rfl) (by kernel_rfl) (by kernel_rfl) (fun _ _ _ h => h) (Or.inl ⟨by rfl, ?_⟩) (by assumption) ?_
              rotate_left 1
              · intro w' hSw
                try dsimp only at hSw
                go_simp
                try with_reducible rfl
              try simp only [Act.put, List.setIfInBounds_toArray, List.set_cons_zero, List.set_cons_succ]
              refine wpAnyH_take (i := 1) (oi := { dst := some 105, op := Go.Op.indexAddr 50 (Go.Operand.tmp 7) (Go.Operand.tmp 104), type := 0, pos := _, after := #[{ on := 0, ground := Go.Ground.data }], guard := none }) (v := ?_) rfl (by kernel_rfl) (by kernel_rfl) (by kernel_rfl) (fun _ _ _ h => h) (Or.inl ⟨by rfl, ?_⟩) (by assumption) ?_
              rotate_left 1
              · intro w' hSw
                try dsimp only at hSw
                go_simp
                try with_reducible rfl
              try simp only [Act.put, List.setIfInBounds_toArray, List.set_cons_zero, List.set_cons_succ]
              refine wpAnyH_take (i := 2) (oi := { dst := some 106, op := Go.Op.load 28 (Go.Operand.tmp 105), type := 28, pos := _, after := #[{ on := 1, ground := Go.Ground.data }], guard := none }) (v := ?_) rfl (by kernel_rfl) (by kernel_rfl) (by kernel_rfl) (fun _ _ _ h => h) (Or.inl ⟨by rfl, ?_⟩) (by assumption) ?_
              rotate_left 1
              · intro w' hSw
                try dsimp only at hSw
                go_simp
                try with_reducible rfl
              try simp only [Act.put, List.setIfInBounds_toArray, List.set_cons_zero, List.set_cons_succ]
              refine wpAnyH_ready (rs := [3]) (by kernel_rfl) (by simp) ?_
              refine AllReadyH.cons rfl (fun K hK => ?_) AllReadyH.nil
              go_simp
              go_wp2_with (go_at_call 19; refine (done_rel _ _ _ _ HS12.out.f).mono ?_; rintro e w13 ⟨rfl, rfl⟩; rw [HD.out])
              refine hK.out _ _ ?_ (fun hHeld => ?_)
              · (try dsimp only); go_keep
              clear hK K
              refine wpAnyH_take (i := 4) (oi := { dst := some 108, op := Go.Op.move (Go.Operand.tmp 107), type := 4, pos := _, after := #[{ on := 3, ground := Go.Ground.data }, { on := 3, ground := Go.Ground.chain }], guard := none }) (v := ?_) rfl (by kernel_rfl) (by kernel_rfl) (by kernel_rfl) (fun _ _ _ h => h) (Or.inl ⟨by rfl, ?_⟩) (by assumption) ?_
              rotate_left 1
              · intro w' hSw
                try dsimp only at hSw
                go_simp
                try with_reducible rfl
              try simp only [Act.put, List.setIfInBounds_toArray, List.set_cons_zero, List.set_cons_succ]
              refine wpAnyH_take (i := 5) (oi := { dst := some 109, op := Go.Op.move (Go.Operand.tmp 12), type := 3, pos := _, after := #[{ on := 4, ground := Go.Ground.guard }], guard := some (4, true) }) (v := undef) rfl (by kernel_rfl) (by kernel_rfl) (by kernel_rfl) (fun _ _ _ h => h) (Or.inr ⟨by rfl, rfl⟩) (by assumption) ?_
              try simp only [Act.put, List.setIfInBounds_toArray, List.set_cons_zero, List.set_cons_succ]
              refine wpAnyH_take (i := 6) (oi := { dst := some 110, op := Go.Op.indexAddr 51 (Go.Operand.tmp 8) (Go.Operand.tmp 109), type := 0, pos := _, after := #[{ on := 5, ground := Go.Ground.data }, { on := 4, ground := Go.Ground.guard }], guard := some (4, true) }) (v := undef) rfl (by kernel_rfl) (by kernel_rfl) (by kernel_rfl) (fun _ _ _ h => h) (Or.inr ⟨by rfl, rfl⟩) (by assumption) ?_
              try simp only [Act.put, List.setIfInBounds_toArray, List.set_cons_zero, List.set_cons_succ]
              refine wpAnyH_take (i := 7) (oi := { dst := some 111, op := Go.Op.load 30 (Go.Operand.tmp 110), type := 30, pos := _, after := #[{ on := 6, ground := Go.Ground.data }, { on := 4, ground := Go.Ground.guard }], guard := some (4, true) }) (v := undef) rfl (by kernel_rfl) (by kernel_rfl) (by kernel_rfl) (fun _ _ _ h => h) (Or.inr ⟨by rfl, rfl⟩) (by assumption) ?_
              try simp only [Act.put, List.setIfInBounds_toArray, List.set_cons_zero, List.set_cons_succ]
              refine wpAnyH_take (i := 8) (oi := { dst := some 112, op := Go.Op.nilCheck (Go.Operand.tmp 111), type := 0, pos := _, after := #[{ on := 7, ground := Go.Ground.data }, { on := 4, ground := Go.Ground.guard }], guard := some (4, true) }) (v := undef) rfl (by kernel_rfl) (by kernel_rfl) (by kernel_rfl) (fun _ _ _ h => h) (Or.inr ⟨by rfl, rfl⟩) (by assumption) ?_
              try simp only [Act.put, List.setIfInBounds_toArray, List.set_cons_zero, List.set_cons_succ]
              refine wpAnyH_take (i := 9) (oi := { dst := some 113, op := Go.Op.fieldAddr 33 (Go.Operand.tmp 112) 1, type := 0, pos := _, after := #[{ on := 8, ground := Go.Ground.data }, { on := 4, ground := Go.Ground.guard }], guard := some (4, true) }) (v := undef) rfl (by kernel_rfl) (by kernel_rfl) (by kernel_rfl) (fun _ _ _ h => h) (Or.inr ⟨by rfl, rfl⟩) (by assumption) ?_
              try simp only [Act.put, List.setIfInBounds_toArray, List.set_cons_zero, List.set_cons_succ]
              refine wpAnyH_take (i := 10) (oi := { dst := some 114, op := Go.Op.load 31 (Go.Operand.tmp 113), type := 31, pos := _, after := #[{ on := 9, ground := Go.Ground.data }, { on := 4, ground := Go.Ground.guard }], guard := some (4, true) }) (v := undef) rfl (by kernel_rfl) (by kernel_rfl) (by kernel_rfl) (fun _ _ _ h => h) (Or.inr ⟨by rfl, rfl⟩) (by assumption) ?_
              try simp only [Act.put, List.setIfInBounds_toArray, List.set_cons_zero, List.set_cons_succ]
              refine wpAnyH_take (i := 11) (oi := { dst := some 115, op := Go.Op.move (Go.Operand.tmp 12), type := 3, pos := _, after := #[{ on := 4, ground := Go.Ground.guard }], guard := some (4, true) }) (v := undef) rfl (by kernel_rfl) (by kernel_rfl) (by kernel_rfl) (fun _ _ _ h => h) (Or.inr ⟨by rfl, rfl⟩) (by assumption) ?_
              try simp only [Act.put, List.setIfInBounds_toArray, List.set_cons_zero, List.set_cons_succ]
              refine wpAnyH_take (i := 12) (oi := { dst := some 116, op := Go.Op.indexAddr 52 (Go.Operand.tmp 9) (Go.Operand.tmp 115), type := 0, pos := _, after := #[{ on := 11, ground := Go.Ground.data }, { on := 4, ground := Go.Ground.guard }], guard := some (4, true) }) (v := undef) rfl (by kernel_rfl) (by kernel_rfl) (by kernel_rfl) (fun _ _ _ h => h) (Or.inr ⟨by rfl, rfl⟩) (by assumption) ?_
              try simp only [Act.put, List.setIfInBounds_toArray, List.set_cons_zero, List.set_cons_succ]
              refine wpAnyH_take (i := 13) (oi := { dst := some 117, op := Go.Op.load 34 (Go.Operand.tmp 116), type := 34, pos := _, after := #[{ on := 12, ground := Go.Ground.data }, { on := 4, ground := Go.Ground.guard }], guard := some (4, true) }) (v := undef) rfl (by kernel_rfl) (by kernel_rfl) (by kernel_rfl) (fun _ _ _ h => h) (Or.inr ⟨by rfl, rfl⟩) (by assumption) ?_
              try simp only [Act.put, List.setIfInBounds_toArray, List.set_cons_zero, List.set_cons_succ]
              refine wpAnyH_take (i := 14) (oi := { dst := some 118, op := Go.Op.nilCheck (Go.Operand.tmp 117), type := 0, pos := _, after := #[{ on := 13, ground := Go.Ground.data }, { on := 4, ground := Go.Ground.guard }], guard := some (4, true) }) (v := undef) rfl (by kernel_rfl) (by kernel_rfl) (by kernel_rfl) (fun _ _ _ h => h) (Or.inr ⟨by rfl, rfl⟩) (by assumption) ?_
              try simp only [Act.put, List.setIfInBounds_toArray, List.set_cons_zero, List.set_cons_succ]
              refine wpAnyH_take (i := 15) (oi := { dst := some 119, op := Go.Op.fieldAddr 36 (Go.Operand.tmp 118) 3, type := 0, pos := _, after := #[{ on := 14, ground := Go.Ground.data }, { on := 4, ground := Go.Ground.guard }], guard := some (4, true) }) (v := undef) rfl (by kernel_rfl) (by kernel_rfl) (by kernel_rfl) (fun _ _ _ h => h) (Or.inr ⟨by rfl, rfl⟩) (by assumption) ?_
              try simp only [Act.put, List.setIfInBounds_toArray, List.set_cons_zero, List.set_cons_succ]
              refine wpAnyH_take (i := 16) (oi := { dst := some 120, op := Go.Op.load 31 (Go.Operand.tmp 119), type := 31, pos := _, after := #[{ on := 15, ground := Go.Ground.data }, { on := 4, ground := Go.Ground.guard }], guard := some (4, true) }) (v := undef) rfl (by kernel_rfl) (by kernel_rfl) (by kernel_rfl) (fun _ _ _ h => h) (Or.inr ⟨by rfl, rfl⟩) (by assumption) ?_
              try simp only [Act.put, List.setIfInBounds_toArray, List.set_cons_zero, List.set_cons_succ]
              refine wpAnyH_take (i := 17) (oi := { dst := some 121, op := Go.Op.call { callee := Go.Callee.value (Go.Operand.func 16), args := #[Go.Operand.tmp 114, Go.Operand.tmp 120], argTypes := #[31, 31] }, type := 4, pos := _, after := #[{ on := 10, ground := Go.Ground.data }, { on := 16, ground := Go.Ground.data }, { on := 4, ground := Go.Ground.chain }, { on := 4, ground := Go.Ground.guard }], guard := some (4, true) }) (v := undef) rfl (by kernel_rfl) (by kernel_rfl) (by kernel_rfl) (fun _ _ _ h => h) (Or.inr ⟨by rfl, rfl⟩) (by assumption) ?_
              try simp only [Act.put, List.setIfInBounds_toArray, List.set_cons_zero, List.set_cons_succ]
              refine wpAnyH_take (i := 18) (oi := { dst := some 122, op := Go.Op.unOp Go.UnOp.not 4 (Go.Operand.tmp 121), type := 4, pos := _, after := #[{ on := 17, ground := Go.Ground.data }, { on := 4, ground := Go.Ground.guard }], guard := some (4, true) }) (v := undef) rfl (by kernel_rfl) (by kernel_rfl) (by kernel_rfl) (fun _ _ _ h => h) (Or.inr ⟨by rfl, rfl⟩) (by assumption) ?_
              try simp only [Act.put, List.setIfInBounds_toArray, List.set_cons_zero, List.set_cons_succ]
              refine wpAnyH_take (i := 19) (oi := { dst := some 123, op := Go.Op.pick (Go.Operand.tmp 108) (Go.Operand.tmp 122) (Go.Operand.const (Go.Value.bool false)), type := 4, pos := _, after := #[{ on := 4, ground := Go.Ground.data }, { on := 18, ground := Go.Ground.data }], guard := none }) (v := ?_) rfl (by kernel_rfl) (by kernel_rfl) (by kernel_rfl) (fun _ _ _ h => h) (Or.inl ⟨by rfl, ?_⟩) (by assumption) ?_
              rotate_left 1
              · intro w' hSw
                try dsimp only at hSw
                go_simp
                try with_reducible rfl
              try simp only [Act.put, List.setIfInBounds_toArray, List.set_cons_zero, List.set_cons_succ]
              refine wpAnyH_done (by kernel_rfl) ?_ _
              go_wp2_with fail
              go_roundw
              case rel =>
                refine ⟨_, _, _, _, _, _, _, _, _, _, _, _, _, _, _, _, _, _, _, _, _, _, _, _, _, _, _, _, _, _, _, _, _, _, _, _, _, _, _, _, _, _, _, _, _, _, _, _, _, _, _, _, _, _, _, _, _, _, _, _, _, _, _, _, _, _, _, _, _, _, _, _, _, _, _, _, ⟨now + 1, ds8, xs8, ?_, by omega, HC12.out, HO12.out⟩, rfl⟩
                go_num
              case measure => simp [intOf]; omega
            · have HD := hid hd
              have HGOT := hid (HY.out hd)
              clear hd HY HS10 HC10 HO10 HW10
              go_wp2_with fail
              first
                | go_region_held (fun w' => w'.cell? ⟨fa, g, none⟩ = some (.pointer (some ⟨F, 0, none⟩)) ∧ w'.cell? ⟨pa, g, none⟩ = some (.pointer (some ⟨P, 0, none⟩)) ∧ w'.cell? ⟨qa, g, none⟩ = some (.pointer (some ⟨Q, 0, none⟩)) ∧ w'.cell? ⟨P, 1, none⟩ = some gv ∧ w'.cell? ⟨Q, 3, none⟩ = some hv) (go_keep)
                  (first
                    | (go_at_call 19; refine (done_rel _ _ _ _ HS12.out.f).mono ?_; rintro e w13 ⟨rfl, rfl⟩; rw [HD.out])
                    | (go_at_call 16; refine (ref_words_vec _ _ _ (ctlOf (ds8 g).ins (ds8 g).log).got ?_ ?_ ?_).mono ?_; (rw [← HGOT.out]; exact HS12.out.gv); exact HS12.out.hv; exact HGL.out; rintro e w14 ⟨rfl, ho14⟩; have HS14 := hid (HS12.out.still ho14); have HC14 := hid (HC12.out.still ho14); have HO14 := hid (HO12.out.chain ho14 (fun _ _ h => h)); have HW14 := hid (HW12.out.chain ho14 (fun _ _ h => h)); have c1 := (HX.out _ HW14.out).1; have c2 := (HX.out _ HW14.out).2.1; have c3 := (HX.out _ HW14.out).2.2; have c4 := HS14.out.g; have c5 := HS14.out.k; clear ho14))
                | fail
              go_wp2_with fail
              go_roundw
              case rel =>
                refine ⟨_, _, _, _, _, _, _, _, _, _, _, _, _, _, _, _, _, _, _, _, _, _, _, _, _, _, _, _, _, _, _, _, _, _, _, _, _, _, _, _, _, _, _, _, _, _, _, _, _, _, _, _, _, _, _, _, _, _, _, _, _, _, _, _, _, _, _, _, _, _, _, _, _, _, _, _, ⟨now + 1, ds8, xs8, ?_, by omega, HC14.out, HO14.out⟩, rfl⟩
                go_num
              case measure => simp [intOf]; omega
        · clear HC
          go_wp2_with fail
          go_ret
          exact ⟨rfl, HO.out.below (Nat.le_refl _) (fun _ _ h => h)⟩

theorem walk (ta : Option Addr) (L tc : Nat) (T : Nat → Nat) (lo : Nat → Option Addr) (lc LB : Nat → Nat) (ins : Nat → List Ins) (w : World) (hI : ∀ i, i < 3 → InsIs w (lo i) (LB i) (ins i)) (hmx : ∀ i, i < 3 → (ins i).length ≤ 9223372036854775807) (hL : L ≤ 9223372036854775807) (hT : Bytes w ta L T) (hTb : ∀ i, i < L → T i ≤ 255) :
    Calls Try.prog 4 #[.agg #[sl lo lc ins 0, sl lo lc ins 1, sl lo lc ins 2], .slice ta L tc] w fun e w' => e = .returned (.bool true) ∧ Below w.heap.size w w' := by
  by_cases h : 120 < L
  · exact walk_out _ _ _ _ rfl ta L tc w h hL
  · exact walk_in ta L tc T lo lc LB ins w hI hmx (by omega) hT hTb

set_option maxRecDepth 100000 in
theorem lifted (os : Os) (started : os.Started) (H : Type) (enc : TypeId × Value → H) :
    ReturnsInHanded {} Try.checked os 4 .any (Rows.frameTwoSpec.pre6 enc Try.prog Try.f4 Rows.frameTwoRow.domain false) (Rows.frameTwoSpec.post enc Try.prog Try.f4 false true false false) := by
  refine returnsInHanded_of_change (C := Try.checked) own started (by kernel_rfl) Try.func4
    (ChangeSpec.witness6 (enc := enc) (C := Try.checked) false ⟨#[], #[.agg #[.slice none 0 0, .slice none 0 0, .slice none 0 0], .slice none 0 0], []⟩ 8 (by kernel_rfl) (by kernel_rfl) (by kernel_rfl) (by kernel_rfl)) ?_
  intro W base args ds gs before hval0 hW hcnd _
  have hval : ∀ (j : Nat) t v, Try.f4.params[j]? = some t → args[j]? = some v → Value.okWide Try.prog W .any base t v := hval0
  have hW' := hW
  obtain ⟨p, q, hA0, hV, rfl, hfz, hnd⟩ := hW
  have hA : DataW.TrodAll enc Try.prog W 0 (fun _ => true) true Try.f4.params.toList args.toList ds p := hA0
  rw [Try.params4] at hA hval
  obtain ⟨v0, vs0, d0, ds0, p0, q0, hargs, rfl, rfl, h0, r0⟩ := trodAll_cons hA
  obtain ⟨v1, vs1, d1, ds1, p1, q1, rfl, rfl, rfl, h1, r1⟩ := trodAll_cons r0
  obtain ⟨rfl, rfl, rfl⟩ := trodAll_nil r1
  obtain rfl : args = #[v0, v1] := by cases args; simp_all
  obtain ⟨lo, lc, LB, ins, rfl, hI, hmx⟩ := open_three (hval 0 48 v0 rfl rfl) h0
  obtain ⟨ta, L, tc, rfl⟩ := okWide_slice Try.underlying49 (hval 1 49 v1 rfl rfl)
  obtain ⟨T, hT, hTb, hL⟩ : ∃ T, Bytes W ta L T ∧ (∀ i, i < L → T i ≤ 255) ∧ L ≤ 9223372036854775807 := by
    obtain ⟨fuel, hf⟩ := h1
    rcases open_ints Try.underlying49 Try.underlying5 (by kernel_rfl) hf with ⟨hcs, _⟩ | ⟨x, l, c, zs, hcs, _, hl, hm, hz, _, hcell, hwf⟩
    · simp [Value.cells] at hcs
      obtain ⟨rfl, rfl, rfl⟩ := hcs
      exact ⟨fun _ => 0, ⟨0, 0, fun i hi => by omega⟩, fun i hi => by omega, by omega⟩
    · simp [Value.cells] at hcs
      obtain ⟨rfl, rfl, rfl⟩ := hcs
      unfold maxLen at hm
      have hz' : zs.length = tc := by simpa using hz
      obtain ⟨b, off, spot⟩ := x
      have hbd : ∀ i, i < L → 0 ≤ zs.getD i 0 ∧ zs.getD i 0 ≤ 255 := fun i hi => by
        have h9 : zs.getD i 0 ∈ zs := by
          rw [List.getD_eq_getElem?_getD, List.getElem?_eq_getElem (by omega)]
          exact List.getElem_mem _
        exact bounds_u8 (hwf _ h9)
      refine ⟨fun i => (zs.getD i 0).toNat, ⟨b, off, fun i hi => ?_⟩, fun i hi => by have := hbd i hi; show (zs.getD i 0).toNat ≤ 255; omega, by omega⟩
      have hci := hcell i (by omega)
      have hspot : spot = none := by
        have hc0 := hcell 0 (by omega)
        simpa [Addr.add] using World.cell?_spot hc0
      subst hspot
      have e9 : Addr.add ⟨b, off, none⟩ i = ⟨b, off + i, none⟩ := by simp only [Addr.add]; split <;> simp_all
      rw [e9] at hci
      have e8 : (((zs.getD i 0).toNat : Nat) : Int) = zs.getD i 0 := by have := hbd i hi; omega
      rw [e8]
      exact ⟨rfl, hci⟩
  refine (walk ta L tc T lo lc LB ins W hI hmx hL hT hTb).mono fun e W' ⟨he, hg⟩ => ?_
  subst he
  exact ⟨_, rfl, post_law 2 4 laidOut (by kernel_rfl) rfl rfl rfl Try.underlying4 (fun l hl => by match l, hl with | [_, _], _ => rfl) hW' hg⟩

theorem over : Rows.frameTwoRow.holds Try.pinned (OpenSpec.ofChange Rows.frameTwoSpec) :=
  OpenClaim.holds_of_wide 4 Try.f4 rfl rfl rfl rfl rfl rfl rfl ⟨rfl, rfl, rfl, rfl, rfl⟩ rfl rfl rfl rfl rfl (by kernel_rfl) Try.func4 (by kernel_rfl)
    (of_decide_eq_true (by kernel_rfl)) (by unfold Func.isWrapper; first | (rw [if_pos (by decide +kernel)]; kernel_rfl) | (rw [if_neg (by decide +kernel)]; exact ⟨rfl, rfl⟩))
    (fun os started H enc _ => lifted os started H enc)

theorem proved : Rows.FrameTwoSaid := over
#print axioms proved
end Go.Proofs.Ytfdfjibhbfdloaa.frameTwo

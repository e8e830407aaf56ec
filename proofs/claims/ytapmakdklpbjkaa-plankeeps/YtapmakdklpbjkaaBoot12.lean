/-
  Package plan: Boot. Conditions: the plan is one that Of makes, of a partition with which nothing is wrong.
-/
import Derived.Test.YtapmakdklpbjkaaBoot12c
namespace Go.Sept
open Go.RowKit
/-- The words behind the objects', and the threads', bodies. -/
def objX (p : Pt) (n m : Nat) : Nat → List Int → List Int
  | 0, xs => xs
  | j + 1, xs => match p.obs[j]? with
    | some o => ((objT (43 + (m : Int) + (n : Int) * 24 + (j : Int) * 24) o.kind o.size.toNat).alone (objX p n m j xs)).2.1
    | none => objX p n m j xs
def thrX (p : Pt) (m : Nat) : Nat → List Int → List Int
  | 0, xs => xs
  | j + 1, xs => match p.ths[j]? with
    | some t => ((thrT (43 + (m : Int) + (j : Int) * 24) t.prio).alone (thrX p m j xs)).2.1
    | none => thrX p m j xs
def startX (k n m : Nat) : List Int := ((joinT 41 41).alone ((qInitT 8 k).alone (List.replicate (43 + m + n * 24 + m * 24) 0)).2.1).2.1
/-- The words of a partition's memory at the beginning. -/
def bootX (k : Nat) (cs : List Int) (p : Pt) (n m : Nat) : List Int := ((coresT (thAts n m) cs).alone (thrX p m n (objX p n m m (startX k n m)))).2.1
theorem length_objX (p : Pt) (n m j : Nat) (xs : List Int) : (objX p n m j xs).length = xs.length := by
  induction j with
  | zero => rfl
  | succ j ih =>
    rw [objX]
    split
    · rw [Tree.alone_length]; exact ih
    · exact ih
theorem length_thrX (p : Pt) (m j : Nat) (xs : List Int) : (thrX p m j xs).length = xs.length := by
  induction j with
  | zero => rfl
  | succ j ih =>
    rw [thrX]
    split
    · rw [Tree.alone_length]; exact ih
    · exact ih
theorem length_startX (k n m : Nat) : (startX k n m).length = 43 + m + n * 24 + m * 24 := by
  rw [startX, Tree.alone_length, Tree.alone_length, List.length_replicate]
theorem length_bootX (k : Nat) (cs : List Int) (p : Pt) (n m : Nat) : (bootX k cs p n m).length = 43 + m + n * 24 + m * 24 := by
  rw [bootX, Tree.alone_length, length_thrX, length_objX, length_startX]
theorem part_parts {p : Pt} (h : partW p = 0) : (1 ≤ p.ths.length ∧ p.ths.length ≤ 6) ∧ p.obs.length ≤ 8 ∧ p.ths.all (thOk p.obs.length) = true ∧ p.obs.all obOk = true := by
  unfold partW at h
  by_cases h1 : p.ths.length < 1 ∨ 6 < p.ths.length
  · rw [if_pos h1] at h; omega
  · rw [if_neg h1] at h
    by_cases h2 : 8 < p.obs.length
    · rw [if_pos h2] at h; omega
    · rw [if_neg h2] at h
      by_cases h3 : p.ths.all (thOk p.obs.length) = false
      · rw [if_pos h3] at h; omega
      · rw [if_neg h3] at h
        by_cases h4 : p.obs.all obOk = false
        · rw [if_pos h4] at h; omega
        · exact ⟨⟨by omega, by omega⟩, by omega, by simpa using h3, by simpa using h4⟩
end Go.Sept
namespace Go.Proofs.Ytapmakdklpbjkaa
open Go.RowKit Go.Sept

theorem PlIs.low12 {P : Nat → Prop} {w : World} {cs : Array Value} {p : Pt} (h : PlIs P w cs p) : PlIs (fun k => k < w.heap.size) w cs p := by
  obtain ⟨ta, oa, u0, u1, h1, ⟨h2, h3⟩, h4, h5⟩ := h
  exact ⟨ta, oa, u0, u1, h1, ⟨h2.low (fun _ _ _ h => low_th _ h), h3.low (fun _ _ _ h => ⟨Cel.lt h.1.1, h⟩)⟩, h4.low (fun _ _ _ h => ⟨Cel.lt h.1, h⟩), h5.low (fun _ _ _ h => ⟨Cel.lt h.1, h⟩)⟩

section
variable {Q : Nat → Prop} {z y : Nat} (n m : Nat) (ta oa za zb : Option Addr) (zc zd : Nat) (pt : Pt) (hn : pt.ths.length = n) (hm : pt.obs.length = m) (hn20 : n ≤ 20) (hm20 : m ≤ 20)
theorem cl1 : BodyCl (qInitT 8 16) 22 #[ptrV z] (bagK (bootBag z (planCs n m ta oa (.slice za n zc) (.slice zb m zd)) pt Q)) 6000 :=
  clos_of (fun f => #[f, ptrV z]) (fun _ => rfl) (enters_of Try.func22 (by kernel_rfl) rfl) (by decide) fun _ _ _ _ _ _ h => boot1 h (cell_of_block h.bag.2 6)
theorem cl2 : BodyCl (joinT 41 41) 24 #[ptrV z] (bagK (bootBag z (planCs n m ta oa (.slice za n zc) (.slice zb m zd)) pt Q)) 6000 :=
  clos_of (fun f => #[f, ptrV z]) (fun _ => rfl) (enters_of Try.func24 (by kernel_rfl) rfl) (by decide) fun _ _ _ _ _ _ h => boot2 h (cell_of_block h.bag.2 7)
include hn hm hn20 hm20
theorem cl3 (o : Nat) (x : Ob) (hx : pt.obs[o]? = some x) (hok : obOk x = true) (hs : x.size.toNat ≤ 40) : BodyCl (objT (43 + (m : Int) + (n : Int) * 24 + (o : Int) * 24) x.kind x.size.toNat) 26 #[ptrV z, ptrV y] (bagK (bootBag2 z y o (planCs n m ta oa (.slice za n zc) (.slice zb m zd)) pt Q)) 6000 :=
  clos_of (fun f => #[f, ptrV z, ptrV y]) (fun _ => rfl) (enters_of Try.func26 (by kernel_rfl) rfl) (by omega) fun _ _ _ _ _ _ h => boot3 n m ta oa za zb zc zd pt hn hm hn20 hm20 o x hx hok h
theorem cl4 (o : Nat) (x : Th) (hx : pt.ths[o]? = some x) : BodyCl (thrT (43 + (m : Int) + (o : Int) * 24) x.prio) 28 #[ptrV z, ptrV y] (bagK (bootBag2 z y o (planCs n m ta oa (.slice za n zc) (.slice zb m zd)) pt Q)) 6000 :=
  clos_of (fun f => #[f, ptrV z, ptrV y]) (fun _ => rfl) (enters_of Try.func28 (by kernel_rfl) rfl) (by decide) fun _ _ _ _ _ _ h => boot4 n m ta oa za zb zc zd pt hn hm hn20 hm20 o x hx h
omit hm20 in
theorem cl5 : BodyCl (coresT (thAts n m) [3, 5]) 30 #[ptrV z] (bagK (bootBag z (planCs n m ta oa (.slice za n zc) (.slice zb m zd)) pt Q)) 6000 :=
  clos_of (fun f => #[f, ptrV z]) (fun _ => rfl) (enters_of Try.func30 (by kernel_rfl) rfl) (by decide) fun _ _ _ _ _ _ h => boot5 n m ta oa za zb zc zd pt hn hm hn20 h
end

theorem min8 (k : Nat) (h : k ≤ 8) : ∀ w, (Builtin.min_ #[3, 3, 3] 3 #[.int .i64 (k : Int), .int .i64 (k : Int), .int .i64 8]).run Try.prog w = .ok (.int .i64 (k : Int)) w := by
  match k, h with
  | 0, _ => exact fun _ => by kernel_rfl
  | 1, _ => exact fun _ => by kernel_rfl
  | 2, _ => exact fun _ => by kernel_rfl
  | 3, _ => exact fun _ => by kernel_rfl
  | 4, _ => exact fun _ => by kernel_rfl
  | 5, _ => exact fun _ => by kernel_rfl
  | 6, _ => exact fun _ => by kernel_rfl
  | 7, _ => exact fun _ => by kernel_rfl
  | 8, _ => exact fun _ => by kernel_rfl
theorem min6 (k : Nat) (h : k ≤ 6) : ∀ w, (Builtin.min_ #[3, 3, 3] 3 #[.int .i64 (k : Int), .int .i64 (k : Int), .int .i64 6]).run Try.prog w = .ok (.int .i64 (k : Int)) w := by
  match k, h with
  | 0, _ => exact fun _ => by kernel_rfl
  | 1, _ => exact fun _ => by kernel_rfl
  | 2, _ => exact fun _ => by kernel_rfl
  | 3, _ => exact fun _ => by kernel_rfl
  | 4, _ => exact fun _ => by kernel_rfl
  | 5, _ => exact fun _ => by kernel_rfl
  | 6, _ => exact fun _ => by kernel_rfl

/-- What stands between the bodies: the memory, and all that was there. -/
structure BootSt (W wx : World) (z : Nat) (xs : List Int) : Prop where
  mem : MemIs 77 wx (z + 2) (z + 1) xs
  keep : Only (fun k => k = z + 1) W wx

set_option maxRecDepth 100000 in
set_option maxHeartbeats 2000000 in
theorem boot_rel {P : Nat → Prop} (w : World) (cs : Array Value) (pt : Pt) (h : PlIs P w cs pt) (hok : partW pt = 0) :
    Calls Try.prog 11 #[.agg cs] w fun e w' => ∃ p q, e = .returned (.pointer (some ⟨p, 0, none⟩)) ∧ MemIs 77 w' p q (bootX 16 [3, 5] pt pt.ths.length pt.obs.length) ∧ (w.heap.size ≤ p ∧ w.heap.size ≤ q) ∧ Only (fun _ => False) w w' := by
  obtain ⟨⟨hn1, hn6⟩, hm8, hths, hobs⟩ := part_parts hok
  obtain ⟨ta, oa, za, zc, zb, zd, rfl⟩ := h.shape
  have hpl := h.low12
  obtain ⟨n, hn⟩ : ∃ n, pt.ths.length = n := ⟨_, rfl⟩
  obtain ⟨m, hm⟩ : ∃ m, pt.obs.length = m := ⟨_, rfl⟩
  rw [hn] at hn1 hn6
  rw [hm] at hm8
  rw [hn, hm] at hpl ⊢
  have HN := hid hn
  have HM := hid hm
  have HOB : Hid (∀ (o : Nat) x, pt.obs[o]? = some x → obOk x = true ∧ (x.kind = 4 → x.size ≤ 16) ∧ x.size.toNat ≤ 16) := fun o x hx => by
    have h9 := List.all_eq_true.1 hobs x (List.mem_of_getElem? hx)
    have h8 := of_decide_eq_true h9
    exact ⟨h9, by omega, by omega⟩
  have hW : ∃ W z, W = newWorld (w.alloc (plO (planCs n m ta oa (.slice za n zc) (.slice zb m zd)))) 77 (43 + m + n * 24 + m * 24) ∧ z = w.heap.size ∧ Only (fun _ => False) w W ∧ W.heap[z]? = some (plO (planCs n m ta oa (.slice za n zc) (.slice zb m zd))) ∧ MemIs 77 W (z + 2) (z + 1) (List.replicate (43 + m + n * 24 + m * 24) 0) := by
    refine ⟨_, _, rfl, rfl, ((Only.refl _ _).alloc _).trans (newWorld_only _ _ _ _), ((newWorld_only (fun _ => False) _ _ _).block _ (by simp) (fun h => h)).trans (heap_new _ _), ?_⟩
    have h9 := newWorld_mem (w.alloc (plO (planCs n m ta oa (.slice za n zc) (.slice zb m zd)))) 77 (43 + m + n * 24 + m * 24)
    rw [World.size_alloc] at h9
    exact h9
  obtain ⟨W, z, hWe, hze, hoW, hbz, hmW⟩ := hW
  have HZ := hid hze
  have HO := hid hoW
  have HB := hid hbz
  -- the bag stays
  have HBAG : Hid (∀ wx, Only (fun k => k = z + 1) W wx → (bootBag z (planCs n m ta oa (.slice za n zc) (.slice zb m zd)) pt (fun k => k < w.heap.size)).P wx) := fun wx ho => by
    refine ⟨⟨(hpl.only hoW (fun _ _ h => h)).only ho (fun k hk e => by omega), fun k hk => Nat.lt_of_lt_of_le hk (Nat.le_trans hoW.size ho.size)⟩, (ho.block z (lt_of_block hbz) (by omega)).trans hbz⟩
  have HV : Hid (∀ k, (bootBag z (planCs n m ta oa (.slice za n zc) (.slice zb m zd)) pt (fun k => k < w.heap.size)).V k → k ≠ z + 2 ∧ k ≠ z + 1) := fun k hk => by
    rcases hk with hk | hk
    · have hk : k < w.heap.size := hk
      exact ⟨by omega, by omega⟩
    · have hk : k = z := hk
      exact ⟨by omega, by omega⟩
  -- a play over what stands there
  have HPLAY : Hid (∀ {d : Nat} (T : Tree Unit d) (fn : Nat), d ≤ 60 → BodyCl T fn #[ptrV z] (bagK (bootBag z (planCs n m ta oa (.slice za n zc) (.slice zb m zd)) pt (fun k => k < w.heap.size))) 6000 → ∀ wx xs, BootSt W wx z xs → 0 < xs.length →
      Calls Try.prog 21 #[.pointer (some ⟨z + 2, 0, none⟩), closV fn #[ptrV z]] wx fun e w' => e = .returned (.tuple #[]) ∧ BootSt W w' z (T.alone xs).2.1) := fun T fn hd hB wx xs hst hx => by
    refine (play12 hB wx (z + 2) (z + 1) xs hst.mem (HBAG.out wx hst.keep) HV.out hd hx).mono ?_
    rintro e w' ⟨rfl, h1, h2⟩
    exact ⟨rfl, h1, hst.keep.chain h2 (fun _ _ e => e)⟩
  have HPLAY2 : Hid (∀ {d : Nat} (T : Tree Unit d) (fn : Nat) (j : Nat), d ≤ 60 → (∀ y, BodyCl T fn #[ptrV z, ptrV y] (bagK (bootBag2 z y j (planCs n m ta oa (.slice za n zc) (.slice zb m zd)) pt (fun k => k < w.heap.size))) 6000) → ∀ wx xs, BootSt W wx z xs → 0 < xs.length →
      Calls Try.prog 21 #[.pointer (some ⟨z + 2, 0, none⟩), closV fn #[ptrV z, ptrV wx.heap.size]] (wx.alloc (intO j)) fun e w' => e = .returned (.tuple #[]) ∧ BootSt W w' z (T.alone xs).2.1) := fun T fn j hd hB wx xs hst hx => by
    have ho : Only (fun _ => False) wx (wx.alloc (intO j)) := (Only.refl _ _).alloc _
    have hb := HBAG.out _ (hst.keep.chain ho (fun _ _ e => e.elim))
    have h1 := lt_of_block hst.mem.head
    have h2 := hst.mem.row.lt
    refine (play12 (hB wx.heap.size) (wx.alloc (intO j)) (z + 2) (z + 1) xs (hst.mem.alloc _) ⟨hb.1, hb.2, heap_new _ _⟩ (fun k hk => ?_) hd hx).mono ?_
    · rcases hk with hk | hk | hk
      · exact HV.out k (.inl hk)
      · exact HV.out k (.inr hk)
      · have hk : k = wx.heap.size := hk
        exact ⟨by omega, by omega⟩
    · rintro e w' ⟨rfl, h3, h4⟩
      exact ⟨rfl, h3, (hst.keep.chain ho (fun _ _ e => e.elim)).chain h4 (fun _ _ e => e)⟩
  have HST : Hid (BootSt W W z (List.replicate (43 + m + n * 24 + m * 24) 0)) := ⟨hmW, Only.refl _ _⟩
  have hcl : clampN ((43 + m + n * 24 + m * 24 : Nat) : Int) = 43 + m + n * 24 + m * 24 := by unfold clampN; omega
  have HNEW : Hid (Calls Try.prog 20 #[.int .i64 (43 + (m : Int) + (n : Int) * 24 + (m : Int) * 24)] (w.alloc (plO (planCs n m ta oa (.slice za n zc) (.slice zb m zd)))) fun e w' => e = .returned (.pointer (some ⟨z + 2, 0, none⟩)) ∧ w' = W) := by
    have h9 := new_any (w.alloc (plO (planCs n m ta oa (.slice za n zc) (.slice zb m zd)))) ((43 + m + n * 24 + m * 24 : Nat) : Int)
    rw [hcl, World.size_alloc, ← hWe, ← hze] at h9
    push_cast at h9
    exact h9
  clear hWe hoW hbz hmW hpl h hok hths hobs hn hm hcl
  have hmin8 := min8 m hm8
  have hmin6 := min6 n hn6
  go_enter Try.func11, Try.ntmps11
  go_wp2_with fail
  refine HNEW.out.mono ?_
  rintro e w1 ⟨rfl, hw1⟩
  obtain rfl : W = w1 := hw1.symm
  rw [← hze]
  clear hze hw1 HNEW
  have HZC : Hid (∀ wx xs, BootSt W wx z xs → wx.cell? ⟨z, 9, none⟩ = some (.slice ta n n) ∧ wx.cell? ⟨z, 10, none⟩ = some (.slice oa m m) ∧ wx.cell? ⟨z, 12, none⟩ = some (.slice za n zc) ∧ wx.cell? ⟨z, 13, none⟩ = some (.slice zb m zd)) := fun wx xs h => by
    have h9 := (HBAG.out wx h.keep).2
    exact ⟨cell_of_block h9 9, cell_of_block h9 10, cell_of_block h9 12, cell_of_block h9 13⟩
  go_wp2_with fail
  refine (HPLAY.out (qInitT 8 16) _ (by decide) (cl1 n m ta oa za zb zc zd pt) W _ HST.out (by rw [List.length_replicate]; omega)).mono ?_
  rintro e w2 ⟨rfl, h2⟩
  have H2 := hid h2
  clear HST h2
  go_wp2_with fail
  refine (HPLAY.out (joinT 41 41) _ (by decide) (cl2 n m ta oa za zb zc zd pt) w2 _ H2.out (by rw [Tree.alone_length, List.length_replicate]; omega)).mono ?_
  rintro e w3 ⟨rfl, h3⟩
  have H3 : Hid (BootSt W w3 z (startX 16 n m)) := h3
  obtain ⟨e9, e10, e12, e13⟩ := HZC.out w3 _ h3
  clear H2 h3
  go_wp2_with fail
  go_loopw [23] (fun i wx => ∃ j : Nat, i = .int .i64 (j : Int) ∧ j ≤ m ∧ BootSt W wx z (objX pt n m j (startX 16 n m))) (fun i _ => m - (intOf i).toNat)
  case atStart => exact ⟨0, rfl, Nat.zero_le _, H3.out⟩
  case round =>
  clear H3
  obtain ⟨j, rfl, hj, hst⟩ := hrel
  have HST := hid hst
  clear hst e9 e10 e12 e13
  by_cases hlt : (j : Int) < (m : Int)
  · obtain ⟨x, hx⟩ : ∃ x, pt.obs[j]? = some x := ⟨_, List.getElem?_eq_getElem (show j < pt.obs.length by rw [HM.out]; omega)⟩
    obtain ⟨hok, _, hsz⟩ := HOB.out j x hx
    have HCALL := hid (HPLAY2.out (objT (43 + (m : Int) + (n : Int) * 24 + (j : Int) * 24) x.kind x.size.toNat) 26 j (by omega) (fun y => cl3 n m ta oa za zb zc zd pt HN.out HM.out (by omega) (by omega) j x hx hok (by omega)) wr _ HST.out (by rw [length_objX, length_startX]; omega))
    have HNX : Hid (objX pt n m (j + 1) (startX 16 n m) = ((objT (43 + (m : Int) + (n : Int) * 24 + (j : Int) * 24) x.kind x.size.toNat).alone (objX pt n m j (startX 16 n m))).2.1) := by show _ = _; rw [objX, hx]
    clear hx hok hsz
    go_wp2_with fail
    refine HCALL.out.mono ?_
    rintro e w4 ⟨rfl, h4⟩
    rw [← HNX.out] at h4
    have H4 := hid h4
    clear HCALL h4
    go_wp2_with fail
    go_roundw
    case rel => exact ⟨j + 1, by go_num, by omega, H4.out⟩
    case measure => simp [intOf]; omega
  · obtain rfl : j = m := by omega
    obtain ⟨e9, e10, e12, e13⟩ := HZC.out wr _ HST.out
    clear hlt hj
    go_wp2_with fail
    go_loopw [38] (fun i wx => ∃ q : Nat, i = .int .i64 (q : Int) ∧ q ≤ n ∧ BootSt W wx z (thrX pt j q (objX pt n j j (startX 16 n j)))) (fun i _ => n - (intOf i).toNat)
    case atStart => exact ⟨0, rfl, Nat.zero_le _, HST.out⟩
    case round =>
    clear HST
    obtain ⟨q, rfl, hq, hst⟩ := hrel
    have HST := hid hst
    clear hst e9 e10 e12 e13
    by_cases hlt : (q : Int) < (n : Int)
    · obtain ⟨x, hx⟩ : ∃ x, pt.ths[q]? = some x := ⟨_, List.getElem?_eq_getElem (show q < pt.ths.length by rw [HN.out]; omega)⟩
      have HCALL := hid (HPLAY2.out (thrT (43 + (j : Int) + (q : Int) * 24) x.prio) 28 q (by decide) (fun y => cl4 n j ta oa za zb zc zd pt HN.out HM.out (by omega) (by omega) q x hx) wr _ HST.out (by rw [length_thrX, length_objX, length_startX]; omega))
      have HNX : Hid (thrX pt j (q + 1) (objX pt n j j (startX 16 n j)) = ((thrT (43 + (j : Int) + (q : Int) * 24) x.prio).alone (thrX pt j q (objX pt n j j (startX 16 n j)))).2.1) := by show _ = _; rw [thrX, hx]
      clear hx
      go_wp2_with fail
      refine HCALL.out.mono ?_
      rintro e w4 ⟨rfl, h4⟩
      rw [← HNX.out] at h4
      have H4 := hid h4
      clear HCALL h4
      go_wp2_with fail
      go_roundw
      case rel => exact ⟨q + 1, by go_num, by omega, H4.out⟩
      case measure => simp [intOf]; omega
    · obtain rfl : q = n := by omega
      go_wp2_with fail
      refine (HPLAY.out (coresT (thAts q j) [3, 5]) _ (by decide) (cl5 q j ta oa za zb zc zd pt HN.out HM.out (by omega)) wr _ HST.out (by rw [length_thrX, length_objX, length_startX]; omega)).mono ?_
      rintro e w5 ⟨rfl, h5⟩
      have H5 : Hid (BootSt W w5 z (bootX 16 [3, 5] pt q j)) := h5
      clear h5
      go_wp2_with fail
      go_ret
      refine ⟨z + 2, z + 1, rfl, H5.out.mem, ⟨by have := HZ.out; omega, by have := HZ.out; omega⟩, HO.out.chain H5.out.keep (fun i hi e => by have := HZ.out; omega)⟩
end Go.Proofs.Ytapmakdklpbjkaa

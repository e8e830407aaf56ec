/-
  Package config: Leads, by a map of the channels' ways. Conditions: from is an int.
-/
import Derived.Test.YtpmchlnnlanokaaConf11e
import Derived.Test.YtpmchlnnlanokaaLead11
import Derived.Test.YtpmchlnnlanokaaMap11
import Derived.Maps.OwnOps
import Derived.Deep.RegionHeldLaw
import Derived.Deep.LoopGhost
namespace Go.Sept
/-- Where channels from k lead. -/
def waysOf (l : List Chn) (k : Int) : List Int := (l.filter fun c => decide (c.src = k)).map Chn.dst
/-- Those that are left. -/
def left11 (l : List Chn) (D : List Int) (k : Int) : List Int := if D.contains k then [] else waysOf l k
def count11 (l : List Chn) (D : List Int) : Nat := (l.filter fun c => !D.contains c.src).length
theorem waysOf_step {l : List Chn} {q : Nat} {x : Chn} (h : l[q]? = some x) : waysOf (l.take (q + 1)) = fun k => if k = x.src then waysOf (l.take q) x.src ++ [x.dst] else waysOf (l.take q) k := by
  funext k
  rw [take_of h]
  unfold waysOf
  rw [List.filter_append, List.map_append]
  by_cases e : k = x.src
  · rw [if_pos e, e]
    simp
  · rw [if_neg e]
    simp [List.filter_cons]
    exact fun e2 => e e2.symm
theorem waysOf_len (l : List Chn) (k : Int) : (waysOf l k).length ≤ l.length := by
  unfold waysOf
  rw [List.length_map]
  exact List.length_filter_le _ _
theorem mem_waysOf {l : List Chn} {k y : Int} : y ∈ waysOf l k ↔ ∃ c ∈ l, c.src = k ∧ c.dst = y := by
  unfold waysOf
  simp [List.mem_map, List.mem_filter, and_assoc]
theorem left11_nil (l : List Chn) : left11 l [] = waysOf l := by
  funext k
  simp [left11]
theorem left11_cons (l : List Chn) (D : List Int) (a : Int) : left11 l (a :: D) = fun k => if k = a then [] else left11 l D k := by
  funext k
  unfold left11
  by_cases e : k = a
  · simp [e]
  · simp [e]
theorem count11_nil (l : List Chn) : count11 l [] = l.length := by
  unfold count11
  rw [List.filter_eq_self.2 (fun c _ => by simp)]
theorem count11_cons (l : List Chn) (D : List Int) (a : Int) : (left11 l D a).length + count11 l (a :: D) ≤ count11 l D := by
  unfold left11
  by_cases ha : D.contains a = true
  · rw [if_pos ha, List.length_nil, Nat.zero_add]
    unfold count11
    induction l with
    | nil => exact Nat.le_refl _
    | cons c l ih =>
      rw [List.filter_cons, List.filter_cons]
      by_cases h1 : D.contains c.src = true
      · rw [if_neg (by rw [List.contains_cons, h1, Bool.or_true]; decide), if_neg (by rw [h1]; decide)]
        exact ih
      · have h2 : D.contains c.src = false := by simpa using h1
        rw [if_pos (c := (!D.contains c.src) = true) (by rw [h2]; rfl)]
        split
        · simp only [List.length_cons]
          omega
        · simp only [List.length_cons]
          omega
  · rw [if_neg ha]
    have ha2 : D.contains a = false := by simpa using ha
    unfold count11 waysOf
    rw [List.length_map]
    induction l with
    | nil => exact Nat.le_refl _
    | cons c l ih =>
      rw [List.filter_cons, List.filter_cons, List.filter_cons]
      by_cases h1 : c.src = a
      · rw [if_pos (decide_eq_true h1), if_neg (by rw [h1]; simp), if_pos (by rw [h1, ha2]; rfl)]
        simp only [List.length_cons]
        omega
      · rw [if_neg (by rw [decide_eq_false h1]; decide)]
        by_cases h2 : D.contains c.src = true
        · rw [if_neg (by rw [List.contains_cons, h2, Bool.or_true]; decide), if_neg (by rw [h2]; decide)]
          exact ih
        · have h3 : D.contains c.src = false := by simpa using h2
          rw [if_pos (by rw [List.contains_cons, h3, Bool.or_false]; simpa using h1), if_pos (by rw [h3]; rfl)]
          simp only [List.length_cons]
          omega

/-- What was gone (D), and what is open (xs). -/
structure Ld (l : List Chn) (s t : Int) (D xs : List Int) : Prop where
  start : s ∈ D ∨ s ∈ xs
  reach : ∀ x ∈ xs, LeadsTo l s x
  far : t ∉ D ∧ t ∉ xs
  shut : ∀ c ∈ l, c.src ∈ D → c.dst ∈ D ∨ c.dst ∈ xs
  fit : ∀ x ∈ xs, -9223372036854775808 ≤ x ∧ x ≤ 9223372036854775807
theorem Ld.first {l : List Chn} {s t : Int} (h : s ≠ t) (hs : -9223372036854775808 ≤ s ∧ s ≤ 9223372036854775807) : Ld l s t [] [s] :=
  ⟨.inr (by simp), fun x hx => by rw [List.mem_singleton.1 hx]; exact LeadsTo.refl _ _, ⟨by simp, by simpa using fun e => h e.symm⟩, fun c _ hc => by simp at hc, fun x hx => by rw [List.mem_singleton.1 hx]; exact hs⟩
theorem Ld.no {l : List Chn} {s t : Int} {D : List Int} (h : Ld l s t D []) : ¬ LeadsTo l s t := by
  intro hr
  refine h.far.1 (hr (fun x => x ∈ D) ?_ (fun c hc hs => ?_))
  · rcases h.start with h | h
    · exact h
    · simp at h
  · rcases h.shut c hc hs with h | h
    · exact h
    · simp at h
theorem Ld.yes {l : List Chn} {s t : Int} {D xs : List Int} {a : Int} (h : Ld l s t D xs) (ha : a ∈ xs) (ht : t ∈ left11 l D a) : LeadsTo l s t := by
  unfold left11 at ht
  split at ht
  · simp at ht
  · obtain ⟨c, hc, h1, h2⟩ := mem_waysOf.1 ht
    rw [← h2]
    exact LeadsTo.step (by rw [h1]; exact h.reach a ha) hc
theorem Ld.next {l : List Chn} {s t : Int} {D ys : List Int} {a : Int} (h : Ld l s t D (ys ++ [a])) (ht : t ∉ left11 l D a) (hl : ∀ c ∈ l, -9223372036854775808 ≤ c.dst ∧ c.dst ≤ 9223372036854775807) : Ld l s t (a :: D) (ys ++ left11 l D a) := by
  have hin : ∀ x ∈ left11 l D a, ∃ c ∈ l, c.src = a ∧ c.dst = x := fun x hx => by
    unfold left11 at hx
    split at hx
    · simp at hx
    · exact mem_waysOf.1 hx
  have hmem : a ∈ ys ++ [a] := by simp
  refine ⟨?_, fun x hx => ?_, ⟨?_, ?_⟩, fun c hc hs => ?_, fun x hx => ?_⟩
  · rcases h.start with h1 | h1
    · exact .inl (List.mem_cons_of_mem _ h1)
    · rcases List.mem_append.1 h1 with h1 | h1
      · exact .inr (List.mem_append_left _ h1)
      · rw [List.mem_singleton.1 h1]
        exact .inl (List.mem_cons_self ..)
  · rcases List.mem_append.1 hx with hx | hx
    · exact h.reach x (List.mem_append_left _ hx)
    · obtain ⟨c, hc, h1, h2⟩ := hin x hx
      rw [← h2]
      exact LeadsTo.step (by rw [h1]; exact h.reach a hmem) hc
  · intro e
    rcases List.mem_cons.1 e with e | e
    · exact h.far.2 (by rw [e]; exact hmem)
    · exact h.far.1 e
  · intro e
    rcases List.mem_append.1 e with e | e
    · exact h.far.2 (List.mem_append_left _ e)
    · exact ht e
  · by_cases hd : c.src ∈ D
    · rcases h.shut c hc hd with h1 | h1
      · exact .inl (List.mem_cons_of_mem _ h1)
      · rcases List.mem_append.1 h1 with h1 | h1
        · exact .inr (List.mem_append_left _ h1)
        · rw [List.mem_singleton.1 h1]
          exact .inl (List.mem_cons_self ..)
    · rcases List.mem_cons.1 hs with hs | hs
      · refine .inr (List.mem_append_right _ ?_)
        unfold left11
        rw [if_neg (by rw [List.contains_iff_mem, ← hs]; exact hd)]
        exact mem_waysOf.2 ⟨c, hc, hs, rfl⟩
      · exact absurd hs hd
  · rcases List.mem_append.1 hx with hx | hx
    · exact h.fit x (List.mem_append_left _ hx)
    · obtain ⟨c, hc, _, h2⟩ := hin x hx
      rw [← h2]
      exact hl c hc
end Go.Sept

namespace Go.Proofs.Ytpmchlnnlanokaa
open Go.RowKit Go.Sept

theorem uMap11 : Try.prog.underlying 52 = some (.map 3 55) := by kernel_rfl
theorem zInts11 (w : World) : (zeroValue 55).run Try.prog w = .ok (.slice none 0 0) w := by kernel_rfl

theorem Row_ints {w : World} {v : Value} {b : Nat} {xs : List Int} (h : Grow 3 1 w v b xs.length (intsV xs)) : ∃ ao cap, v = .slice ao xs.length cap ∧ IntsIs w ao xs ∧ xs.length ≤ 9223372036854775807 := Own3.ints h
theorem Row_cell {w : World} {v : Value} {b : Nat} {xs : List Int} (h : Grow 3 1 w v b xs.length (intsV xs)) (h0 : 0 < xs.length) : ∃ cap, v = .slice (some ⟨b, 0, none⟩) xs.length cap ∧ xs.length ≤ cap ∧ cap ≤ 9223372036854775807 ∧ ∀ i x, xs[i]? = some x → w.cell? ⟨b, i, none⟩ = some (.int .i64 x) := by
  obtain ⟨cap, h1, h2, h3, h4⟩ := Grow.cells h h0
  refine ⟨cap, h1, h2, by simpa [maxLen] using h3, fun i x hx => h4 i _ (by unfold intsV; rw [List.getElem?_map, hx]; rfl)⟩

theorem uInt11 : Try.prog.underlying 3 = some (.int .i64) := Try.underlying3
/-- A way more. -/
theorem ways_round {W U : World} {B q : Nat} {g : Int → Value} {f : Int → List Int} {y : Nat} {xf xo xt xi : Int} {b' cap' : Nat} {w' : World} (h : LdSt Try.prog W U B q g f (.slice none 0 0) B []) (hf : fits xf) (hq : q < maxLen) (hy : U.heap[y]? = some (chO xf xo xt xi))
    (h1 : Grow 3 1 w' (.slice (some ⟨b', 0, none⟩) ((f xf).length + 1 : Nat) cap') b' ((f xf).length + 1) (intsV (f xf) ++ [.int .i64 xt])) (h2 : Only (fun k => (g xf).ownBlock = some k) U w') (h3 : b' = (g xf).ownBlock.getD B ∨ U.heap.size ≤ b') :
    w'.heap[y]? = some (chO xf xo xt xi) ∧ ∃ w2 g', (Instr.mapUpdate 52 (.map (some B)) (.int .i64 xf) (.slice (some ⟨b', 0, none⟩) ((f xf).length + 1 : Nat) cap')).run Try.prog w' = .ok () w2 ∧ w2.heap[y]? = some (chO xf xo xt xi) ∧
      LdSt Try.prog W w2 B (q + 1) g' (fun i => if i = xf then f xf ++ [xt] else f i) (.slice none 0 0) B [] := by
  have hy' : w'.heap[y]? = some (chO xf xo xt xi) := (h2.block y (lt_of_block hy) (fun e => by
    obtain ⟨_, cs, hc⟩ := (h.row xf).own_in e
    rw [hy] at hc
    injection hc with hc
    injection hc with _ hc
    cases hc)).trans hy
  have hyB : y ≠ B := fun e => by
    obtain ⟨es, clock, hb⟩ := h.map.block
    rw [← e, hy] at hb
    cases hb
  obtain ⟨w2, hrun, hm2, ho2⟩ := (h.map.only h2 (h.notB (h.row xf))).store uInt11 uMap11 hq hf (.slice (some ⟨b', 0, none⟩) ((f xf).length + 1 : Nat) cap')
  exact ⟨hy', w2, _, hrun, (ho2.block y (lt_of_block hy') (fun e => hyB e)).trans hy', h.store h1 h2 h3 hm2 ho2⟩
theorem Ld_cell {P : Program} {w0 wx : World} {B n : Nat} {g : Int → Value} {f : Int → List Int} {v : Value} {b : Nat} {xs : List Int} (h : LdSt P w0 wx B n g f v b xs) {a y : Int} {ga : Option Addr} {nw gc q : Nat} (hga : g a = .slice ga nw gc) (hy : (f a)[q]? = some y) : ∃ rb, ga = some ⟨rb, 0, none⟩ ∧ wx.cell? ⟨rb, q, none⟩ = some (.int .i64 y) := by
  obtain ⟨cap, h1, _, _, h4⟩ := Row_cell (h.row a) (Nat.lt_of_le_of_lt (Nat.zero_le _) (List.getElem?_eq_some_iff.1 hy).1)
  rw [hga] at h1
  injection h1 with h1 _ _
  refine ⟨_, h1, ?_⟩
  have h5 := h4 q y hy
  rw [hga] at h5
  exact h5

set_option maxRecDepth 100000 in
set_option maxHeartbeats 2000000 in
theorem cLeads {P : Nat → Prop} (w : World) (v0 v1 v2 : Value) (c : Cf) (h : CfIs P w v0 v1 v2 c) (hsm : c.chans.length ≤ 40) (s t : Int) (hs : -9223372036854775808 ≤ s ∧ s ≤ 9223372036854775807) :
    Calls Try.prog 13 #[.agg #[v0, v1, v2], .int .i64 s, .int .i64 t] w fun e w' => Tells e (LeadsTo c.chans s t) ∧ Only (fun _ => False) w w' := by
  obtain ⟨ca, cc, rfl, cm⟩ := h.chans.shape
  obtain ⟨k, hk⟩ : ∃ k, c.chans.length = k := ⟨_, rfl⟩
  have HK := hid hk
  rw [hk] at h cm hsm ⊢
  clear hk
  have hW : ∃ W z, W = w.alloc (cfO v0 v1 (.slice ca k cc)) ∧ z = w.heap.size ∧ Only (fun _ => False) w W ∧ W.heap[z]? = some (cfO v0 v1 (.slice ca k cc)) := ⟨_, _, rfl, rfl, (Only.refl _ _).alloc _, heap_new _ _⟩
  obtain ⟨W, z, hWe, hze, hoW, hbz⟩ := hW
  have HC := hid (h.only hoW (fun _ _ h => h)).chans
  have HO := hid hoW
  have HB := hid hbz
  obtain ⟨_, _, c2⟩ := cf_cells hbz (Only.refl _ _)
  clear hoW hbz h
  simp only [cfO] at hWe
  go_enter Try.func13, Try.ntmps13
  go_upto_region 1 with fail
  rw [← hWe, ← hze]
  clear hWe hze
  by_cases hst : s = t
  · have hb : (s == t) = true := beq_iff_eq.2 hst
    have HE : Hid (LeadsTo c.chans s t) := by rw [← hst]; exact LeadsTo.refl _ _
    clear hst
    go_wp2_with fail
    go_ret
    exact ⟨tells_yes HE.out, HO.out⟩
  have hb : (s == t) = false := beq_eq_false_iff_ne.2 hst
  have HST := hid hst
  have HS := hid hs
  clear hst hs
  have hmm := @run_makeMap Try.prog
  have hV : ∃ V B, V = W.alloc (.map #[] 0) ∧ B = W.heap.size ∧ LdSt Try.prog W V B 0 (fun _ => .slice none 0 0) (fun _ => []) (.slice none 0 0) B [] ∧ V.cell? ⟨z, 2, none⟩ = some (.slice ca k cc) :=
    ⟨_, _, rfl, rfl, LdSt.made _ _, (World.cell?_of_block (Below.heap_alloc _ _ _ (World.block_lt_of_cell? _ _ c2))).trans c2⟩
  obtain ⟨V, B, hVe, hBe, hld, d2⟩ := hV
  have HL0 := hid hld
  clear hld
  go_upto_region 4 with fail
  rw [← hVe, ← hBe]
  clear hVe hBe hmm c2
  go_wp2_with fail
  go_loopw [22] (fun i wx => ∃ (q : Nat) (g : Int → Value), i = .int .i64 (q : Int) ∧ q ≤ k ∧ LdSt Try.prog W wx B q g (waysOf (c.chans.take q)) (.slice none 0 0) B []) (fun i _ => k - (intOf i).toNat)
  case atStart => exact ⟨0, _, rfl, Nat.zero_le _, HL0.out⟩
  case round =>
  clear HL0 d2
  obtain ⟨q, g, rfl, hq, hld⟩ := hrel
  have HL := hid hld
  clear hld
  by_cases hlt : (q : Int) < (k : Int)
  · obtain ⟨b, off, rfl, _, x, hx, k1, k2, k3, k4⟩ := (HC.out.only (stay_chn HL.out.only (fun _ _ h => h))).get q (by rw [HK.out]; omega)
    obtain ⟨xf, xo, xt, xi⟩ := x
    have e0 : wr.cell? ⟨b, off + q * 4, none⟩ = some (.int .i64 xf) := k1.1
    have e1 : wr.cell? ⟨b, off + q * 4 + 1, none⟩ = some (.int .i64 xo) := k2.1
    have e2 : wr.cell? ⟨b, off + q * 4 + 2, none⟩ = some (.int .i64 xt) := k3.1
    have e3 : wr.cell? ⟨b, off + q * 4 + 3, none⟩ = some (.int .i64 xi) := k4.1
    have HF : Hid (fits xf) := k1.2
    have HG := hid (waysOf_step hx)
    have hU : ∃ U y, U = wr.alloc (chO xf xo xt xi) ∧ y = wr.heap.size ∧ Only (fun _ => False) wr U ∧ U.heap[y]? = some (chO xf xo xt xi) :=
      ⟨_, _, rfl, rfl, (Only.refl _ _).alloc _, heap_new _ _⟩
    obtain ⟨U, y, hUe, hye, hoU, hby⟩ := hU
    obtain ⟨f0, f1, f2, f3⟩ := ch_cells hby (Only.refl _ _)
    have HLU := hid (HL.out.new hoU)
    have HY := hid hby
    clear hoU hby k1 k2 k3 k4 hx HL
    simp only [chO] at hUe
    go_upto_region 7 with fail
    rw [← hUe, ← hye]
    clear hUe hye e0 e1 e2 e3
    obtain ⟨fw, hfw⟩ : ∃ fw, waysOf (c.chans.take q) = fw := ⟨_, rfl⟩
    rw [hfw] at HLU HG
    have HFW := hid hfw
    clear hfw
    obtain ⟨gv, hgv⟩ : ∃ gv, g xf = gv := ⟨_, rfl⟩
    obtain ⟨n0, hn0⟩ : ∃ n, (fw xf).length = n := ⟨_, rfl⟩
    have HN0 : n0 ≤ 40 := by
      rw [← hn0, ← HFW.out]
      have := waysOf_len (c.chans.take q) xf
      rw [List.length_take] at this
      omega
    have hX : ∃ X, X = (U.alloc (.cells #[.int .i64 xt] 3)).drew ∧ Only (fun _ => False) U X ∧ X.heap[U.heap.size]? = some (.cells #[.int .i64 xt] 3) := ⟨_, rfl, ((Only.refl _ _).alloc _).drew, heap_new _ _⟩
    obtain ⟨X, hXe, hoX, hbX⟩ := hX
    have HX : Hid (LdSt Try.prog W X B q g fw (.slice none 0 0) B []) := HLU.out.new hoX
    have HG0 : Hid (Grow 3 1 X gv ((g xf).ownBlock.getD B) n0 (intsV (fw xf))) := by
      have h9 := HX.out.row xf
      rw [hn0] at h9
      rw [← hgv]
      exact h9
    have hl1 : (Instr.lookup 52 (.map (some B)) (.int .i64 xf) false).run Try.prog U.drew = .ok gv U.drew := by
      rw [← hgv]
      exact MapIs.look uInt11 uMap11 (HLU.out.map.only (Only.refl (fun _ => False) _).drew (fun h => h)) (zInts11 _) HF.out
    have hl2 : (Instr.lookup 52 (.map (some B)) (.int .i64 xf) false).run Try.prog X = .ok gv X := by
      rw [← hgv]
      exact MapIs.look uInt11 uMap11 HX.out.map (zInts11 _) HF.out
    rw [hXe] at hl2
    have HYX : Hid (X.heap[y]? = some (chO xf xo xt xi)) := (hoX.block y (lt_of_block HY.out) (fun h => h)).trans HY.out
    have HBX := hid hbX
    have HXE := hid hXe
    have HGV := hid hgv
    have HNN := hid hn0
    clear hoX hbX hXe hgv hn0
    go_region_held_law (fun w' => w'.cell? ⟨y, 0, none⟩ = some (.int .i64 xf) ∧ w'.cell? ⟨y, 2, none⟩ = some (.int .i64 xt)) (go_keep)
      (first
      | (refine step_append_grown _ rfl (.tmp 32) (.tmp 35) 55 rfl 3 _ 1 8 Try.underlying55 infoInt11 rfl (by decide) gv ((g xf).ownBlock.getD B) n0 (intsV (fw xf)) rfl (by rw [← HXE.out]; exact HG0.out) ⟨U.heap.size, 0, none⟩ 1 1 [.int .i64 xt] rfl (by decide) rfl (by rw [← HXE.out]; exact news_of_block HBX.out) (one_int11 _) (by unfold maxLen; omega) (by omega) ?_
         intro b' cap' w' h1 h2 h3
         rw [← HNN.out] at h1
         rw [← HGV.out] at h2
         rw [← HXE.out] at h2 h3
         obtain ⟨hy', w2, g', hrun, hy2, hld2⟩ := ways_round HX.out HF.out (by unfold maxLen; omega) HYX.out h1 h2 h3
         rw [HNN.out] at hrun
         have i0 : w'.cell? ⟨y, 0, none⟩ = some (.int .i64 xf) := cell_of_block hy' 0
         have i2 : w'.cell? ⟨y, 2, none⟩ = some (.int .i64 xt) := cell_of_block hy' 2
         have j0 : w2.cell? ⟨y, 0, none⟩ = some (.int .i64 xf) := cell_of_block hy2 0
         have j2 : w2.cell? ⟨y, 2, none⟩ = some (.int .i64 xt) := cell_of_block hy2 2
         have HL2 := hid hld2
         clear h1 h2 h3 hy' hy2 hld2))
    all_goals go_wp2_with fail
    all_goals go_roundw
    all_goals first
      | (case rel => exact ⟨q + 1, g', by go_num, by omega, by rw [HG.out]; exact HL2.out⟩)
      | skip
    all_goals first
      | (case measure => simp [intOf]; omega)
      | skip
  have HQK : Hid (q = k) := by show _ = _; omega
  have HLK : Hid (LdSt Try.prog W wr B k g (left11 c.chans []) (.slice none 0 0) B []) := by
    have h9 := HL.out
    rw [HQK.out, List.take_of_length_le (by rw [HK.out]; exact Nat.le_refl _), ← left11_nil] at h9
    exact h9
  have HB0 : Hid (B < wr.heap.size) := HLK.out.lt
  have HOP := hid (HLK.out.open s)
  have HST0 : Hid (Ld c.chans s t [] [s]) := Ld.first HST.out HS.out
  have HC0 : Hid (1 + k = [s].length + count11 c.chans []) := by show _ = _; rw [count11_nil, HK.out]; rfl
  have HDST : Hid (∀ ch ∈ c.chans, -9223372036854775808 ≤ ch.dst ∧ ch.dst ≤ 9223372036854775807) := fun ch hc => by
    obtain ⟨i, hi, he⟩ := List.getElem_of_mem hc
    obtain ⟨_, _, _, _, x, hx, _, _, k3, _⟩ := HC.out.get i (by rw [HK.out] at hi; rw [HK.out]; exact hi)
    rw [List.getElem?_eq_getElem hi, he] at hx
    injection hx with hx
    subst hx
    exact k3.2
  go_wp2_with fail
  clear hlt HL HQK
  go_loopg [10] (1 + k) (fun m v wx => ∃ (g : Int → Value) (b : Nat) (D xs : List Int), m = xs.length + count11 c.chans D ∧ m ≤ 1 + k ∧ Ld c.chans s t D xs ∧ LdSt Try.prog W wx B k g (left11 c.chans D) v b xs ∧ b ≠ B)
  case atStart => exact ⟨g, _, [], [s], HC0.out, Nat.le_refl _, HST0.out, HOP.out, fun e => by have := HB0.out; omega⟩
  case round =>
  clear HB0 HOP HST0 HC0 HLK
  obtain ⟨g2, b, D, xs, hm, hle, hLd, hld, hbB⟩ := hrel
  have HM := hid hm
  have HLD := hid hLd
  have HL := hid hld
  have HBB := hid hbB
  have HLE := hid hle
  clear hm hLd hbB
  rcases List.eq_nil_or_concat xs with rfl | ⟨ys, a, rfl⟩
  · obtain ⟨ao, cap, rfl, _⟩ := Row_ints hld.own
    have HE : Hid (¬ LeadsTo c.chans s t) := HLD.out.no
    clear hld
    go_wp2_with fail
    go_ret
    exact ⟨tells_no HE.out, HO.out.chain HL.out.only (fun _ _ h => h)⟩
  · obtain ⟨cap, rfl, hc1, hc2, hc3⟩ := Row_cell hld.own (by simp)
    obtain ⟨m0, hm0⟩ : ∃ m, ys.length = m := ⟨_, rfl⟩
    have HM0 := hid hm0
    have hlen : (ys.concat a).length = m0 + 1 := by simp [hm0]
    have e0 : wr.cell? ⟨b, m0, none⟩ = some (.int .i64 a) := hc3 m0 a (by rw [List.concat_eq_append, List.getElem?_append_right (by omega), hm0, Nat.sub_self]; rfl)
    have HPOP : Hid (LdSt Try.prog W wr B k g2 (left11 c.chans D) (.slice (some ⟨b, 0, none⟩) m0 cap) b ys) := by
      have h9 := HL.out.pop (m := m0) (by omega)
      rw [List.concat_eq_append, List.take_append_of_le_length (by omega), List.take_of_length_le (by omega)] at h9
      exact h9
    have HFA : Hid (fits a) := HLD.out.fit a (by simp)
    obtain ⟨ws, hws⟩ : ∃ ws, left11 c.chans D a = ws := ⟨_, rfl⟩
    have HWS := hid hws
    obtain ⟨ga, gc, hga, _, _⟩ := Row_ints (hld.row a)
    rw [hws] at hga
    obtain ⟨nw, hnw⟩ : ∃ n, ws.length = n := ⟨_, rfl⟩
    have HNW := hid hnw
    rw [hnw] at hga
    have HGA := hid hga
    have hl1 : (Instr.lookup 52 (.map (some B)) (.int .i64 a) false).run Try.prog wr = .ok (.slice ga nw gc) wr := by
      rw [← hga]
      exact MapIs.look uInt11 uMap11 HL.out.map (zInts11 _) HFA.out
    have HSUM : Hid (m0 + nw + count11 c.chans (a :: D) < gk ∧ m0 + nw + 1 ≤ 1 + k) := by
      have h9 := count11_cons c.chans D a
      rw [hws, hnw] at h9
      have h8 := HM.out
      rw [hlen] at h8
      have h7 := HLE.out
      constructor <;> omega
    rw [hlen] at hc1
    rw [hlen]
    clear hld hc3 hm0 hlen hws hnw hga
    go_wp2_with fail
    clear hl1 e0 hc1 hc2
    have hnw40 : nw ≤ 40 := by have := HSUM.out.2; omega
    have HP0 : Hid (LdSt Try.prog W wr B k g2 (left11 c.chans D) (.slice (some ⟨b, 0, none⟩) m0 cap) b (ys ++ ws.take 0)) := by
      show LdSt _ _ _ _ _ _ _ _ _ _
      rw [List.take_zero, List.append_nil]
      exact HPOP.out
    go_loopw [10, 57] (fun v i wx => ∃ (r b' : Nat), i = .int .i64 (r : Int) ∧ r ≤ nw ∧ (∀ a y, a < r → ws[a]? = some y → y ≠ t) ∧ LdSt Try.prog W wx B k g2 (left11 c.chans D) v b' (ys ++ ws.take r) ∧ b' ≠ B) (fun _ i _ => nw - (intOf i).toNat)
    case atStart => exact ⟨0, b, rfl, Nat.zero_le _, (fun a y ha => absurd ha (Nat.not_lt_zero _)), HP0.out, HBB.out⟩
    case round =>
    clear HP0 HPOP HL HBB
    obtain ⟨r, b', rfl, hr, hno, hld, hbB⟩ := hrel
    have HNO := hid hno
    have HL := hid hld
    have HBB := hid hbB
    obtain ⟨ao, cp, rfl, _⟩ := Row_ints hld.own
    obtain ⟨n9, hn9⟩ : ∃ n, (ys ++ ws.take r).length = n := ⟨_, rfl⟩
    have HN9 := hid hn9
    have HN9E : Hid (n9 = m0 + r) := by show _ = _; rw [← hn9, List.length_append, HM0.out, List.length_take, HNW.out, Nat.min_eq_left hr]
    rw [hn9]
    have HOW : Hid (Grow 3 1 wr (.slice ao n9 cp) b' n9 (intsV (ys ++ ws.take r))) := by
      have h9 := HL.out.own
      rw [hn9] at h9
      exact h9
    have HLS : Hid (LdSt Try.prog W wr B k g2 (left11 c.chans D) (.slice ao n9 cp) b' (ys ++ ws.take r)) := by
      have h9 := HL.out
      rw [hn9] at h9
      exact h9
    clear hno hld hbB hn9 HL
    by_cases hlt : (r : Int) < (nw : Int)
    · obtain ⟨y, hy⟩ : ∃ y, ws[r]? = some y := ⟨_, List.getElem?_eq_getElem (show r < ws.length by rw [HNW.out]; omega)⟩
      have HY := hid hy
      obtain ⟨rb, rfl, e0⟩ := Ld_cell HLS.out (y := y) (q := r) HGA.out (by rw [HWS.out]; exact hy)
      clear hy
      by_cases hyt : y = t
      · have hb2 : (y == t) = true := beq_iff_eq.2 hyt
        have HE : Hid (LeadsTo c.chans s t) := HLD.out.yes (a := a) (by simp) (by rw [HWS.out, ← hyt]; exact List.mem_of_getElem? HY.out)
        clear hyt
        go_wp2_with fail
        go_ret
        exact ⟨tells_yes HE.out, HO.out.chain HLS.out.only (fun _ _ h => h)⟩
      · have hb2 : (y == t) = false := beq_eq_false_iff_ne.2 hyt
        have HYT := hid hyt
        have hb9 : n9 ≤ 40 := by have := HSUM.out.2; have := HN9E.out; omega
        have hO : Only (fun _ => False) wr (wr.alloc (.cells #[.int .i64 y] 3)) := (Only.refl _ _).alloc _
        have HG0 : Hid (Grow 3 1 (wr.alloc (.cells #[.int .i64 y] 3)) (.slice ao n9 cp) b' n9 (intsV (ys ++ ws.take r))) := HOW.out.only hO (fun h => h)
        have HLX := hid (HLS.out.new hO)
        clear hyt hO
        go_wp2_with (at_builtin; refine wpList_append_grown _ rfl (.tmp 64) (.tmp 66) 55 rfl 3 _ 1 8 Try.underlying55 infoInt11 rfl (by decide) (.slice ao n9 cp) b' n9 (intsV (ys ++ ws.take r)) rfl HG0.out ⟨wr.heap.size, 0, none⟩ 1 1 [.int .i64 y] rfl (by decide) rfl (news_of_block (heap_new wr (.cells #[.int .i64 y] 3))) (one_int11 _) (by unfold maxLen; omega) (by omega) ?_)
        intro b2 cap2 w' h1 h2 h3
        have HLN : Hid (LdSt Try.prog W w' B k g2 (left11 c.chans D) (.slice (some ⟨b2, 0, none⟩) (n9 + 1 : Nat) cap2) b2 (ys ++ ws.take (r + 1))) := by
          have h9 := HLX.out.push (x := y) (by rw [HN9.out]; exact h1) h2 (by rw [World.size_alloc]; exact h3)
          rw [List.append_assoc, ← take_of HY.out] at h9
          exact h9
        have HB2 : Hid (b2 ≠ B) := fun e => HLN.out.notB HLN.out.own (by rw [e]; rfl)
        clear h1 h2 h3 HG0 HLX e0
        go_wp2_with fail
        go_roundw
        case rel =>
          refine ⟨r + 1, b2, by go_num, by omega, ?_, HLN.out, HB2.out⟩
          intro a' z ha hz
          by_cases ea : a' = r
          · subst ea
            rw [HY.out] at hz
            injection hz with hz
            subst hz
            exact HYT.out
          · exact HNO.out a' z (by omega) hz
        case measure => simp [intOf]; omega
    · have HFULL : Hid (LdSt Try.prog W wr B k g2 (left11 c.chans D) (.slice ao n9 cp) b' (ys ++ ws)) := by
        have h9 := HLS.out
        rw [List.take_of_length_le (by rw [HNW.out]; omega)] at h9
        exact h9
      have HNX : Hid (Ld c.chans s t (a :: D) (ys ++ ws)) := by
        have h9 := HLD.out
        rw [List.concat_eq_append] at h9
        have h8 := h9.next (by
          rw [HWS.out]
          intro hin
          obtain ⟨i, hi, he⟩ := List.getElem_of_mem hin
          exact HNO.out i t (by rw [HNW.out] at hi; omega) (by rw [List.getElem?_eq_getElem hi, he]) rfl) HDST.out
        rw [HWS.out] at h8
        exact h8
      have HCNT : Hid ((ys ++ ws).length + count11 c.chans (a :: D) < gk ∧ (ys ++ ws).length + count11 c.chans (a :: D) ≤ 1 + k) := by
        have h9 := HSUM.out
        have h8 := HM.out
        have h7 := HLE.out
        rw [List.length_append, HM0.out, HNW.out]
        constructor <;> omega
      have HEQ : Hid (left11 c.chans (a :: D) = fun i => if i = a then [] else left11 c.chans D i) := left11_cons _ _ _
      clear HLS HOW HNO
      go_wp2_with (at_delete; refine wpList_drop uInt11 uMap11 rfl (.tmp 69) (.tmp 70) rfl HFULL.out.map HFA.out rfl rfl ?_)
      intro w' hm' ho'
      have HDR := hid (HFULL.out.drop hm' ho' HBB.out)
      clear hm' ho' HFULL
      go_wp2_with fail
      go_roundg ((ys ++ ws).length + count11 c.chans (a :: D))
      case measure => exact HCNT.out.1
      case rel =>
        refine ⟨fun i => if i = a then .slice none 0 0 else g2 i, b', a :: D, ys ++ ws, rfl, HCNT.out.2, HNX.out, ?_, HBB.out⟩
        rw [HEQ.out]
        exact HDR.out
end Go.Proofs.Ytpmchlnnlanokaa

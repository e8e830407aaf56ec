/-
  One that puts and one that gets, and a slice of what was got: what a step of either leaves, and a new frame for either. Conditions: all of it lies in blocks that are not the same.
-/
import Derived.Test.YtdoihlnipajniaaDuo8
namespace Go.Proofs.Ytdoihlnipajniaa
open Go.RowKit Go.Sept

abbrev nilV : Value := .slice none 0 0
/-- What was got, beside blocks A, since the world w. -/
structure Rest (w wx : World) (p q : Nat) (A : List Nat) (gv : Value) (b : Nat) (G : List Int) : Prop where
  got : CutIs wx gv b G
  gsep : gv ≠ nilV → (∀ x ∈ A, b ≠ x) ∧ b ≠ p ∧ b ≠ q ∧ w.heap.size ≤ b
  low : From w.heap.size A
  lp : w.heap.size ≤ p
  lq : w.heap.size ≤ q
  only : Only (fun _ => False) w wx

theorem Rest.next {w wx w' : World} {p q b : Nat} {A A1 A' : List Nat} {gv : Value} {G : List Int} (h : Rest w wx p q A gv b G) (ho : Only (fun k => k ∈ A1 ∨ k = q) wx w') (h1 : ∀ x ∈ A1, x ∈ A) (hA : ∀ x ∈ A', x ∈ A ∨ wx.heap.size ≤ x) : Rest w w' p q A' gv b G := by
  refine ⟨h.got.keep ho (fun hv e => ?_), fun hv => ⟨fun x hx e => ?_, (h.gsep hv).2⟩, h.low.next hA h.only.size, h.lp, h.lq, h.only.chain ho (fun i hi e => ?_)⟩
  · rcases e with e | e
    · exact (h.gsep hv).1 b (h1 b e) rfl
    · exact (h.gsep hv).2.2.1 e
  · rcases hA x hx with h2 | h2
    · exact (h.gsep hv).1 x h2 e
    · have := h.got.low hv
      omega
  · rcases e with e | e
    · have := h.low i (h1 i e)
      omega
    · have := h.lq
      omega

section
variable {w wx w' : World} {c np ng p q F1 L1 U1 F2 L2 U2 b : Nat} {W : List Int} {gv : Value}
/-- Both, and what was got. -/
def Duo (w wx : World) (c : Nat) (W : List Int) (p q F1 L1 U1 F2 L2 U2 b : Nat) (gv : Value) (np ng : Nat) : Prop :=
  ∃ xs l1 l2, MemR c np ng W xs ∧ PutS c np ng W xs l1 ∧ GetS np ng W l2 ∧ PutAt wx c p q F1 L1 U1 xs l1 ∧ GetAt wx c p q F2 L2 U2 xs l2 ∧ Sep [F1, L1, U1] [F2, L2, U2] ∧ Rest w wx p q ([F1, L1, U1] ++ [F2, L2, U2]) gv b (W.take ng)
/-- The one that gets alone. -/
def HalfG (w wx : World) (c : Nat) (W : List Int) (p q F2 L2 U2 b : Nat) (gv : Value) (np ng : Nat) : Prop :=
  ∃ xs l2, MemR c np ng W xs ∧ GetS np ng W l2 ∧ GetAt wx c p q F2 L2 U2 xs l2 ∧ Rest w wx p q [F2, L2, U2] gv b (W.take ng)
/-- The one that puts alone. -/
def HalfP (w wx : World) (c : Nat) (W : List Int) (p q F1 L1 U1 b : Nat) (gv : Value) (G : List Int) (np ng : Nat) : Prop :=
  ∃ xs l1, MemR c np ng W xs ∧ PutS c np ng W xs l1 ∧ PutAt wx c p q F1 L1 U1 xs l1 ∧ Rest w wx p q [F1, L1, U1] gv b G

theorem Duo.facts (h : Duo w wx c W p q F1 L1 U1 F2 L2 U2 b gv np ng) : ng ≤ np ∧ np ≤ ng + c ∧ Only (fun _ => False) w wx ∧ CutIs wx gv b (W.take ng) ∧ (∃ v o, wx.heap[U1]? = some (act8O 0 c v 0 o 0)) := by
  obtain ⟨xs, l1, l2, h1, h2, h3, h4, h5, h6, h7⟩ := h
  obtain ⟨s, v, h8, _⟩ := h4
  obtain ⟨o, h9⟩ := h8.pre
  exact ⟨h1.le, h1.room, h7.only, h7.got, v, o, h9⟩

theorem duo_put (h : Duo w wx c W p q F1 L1 U1 F2 L2 U2 b gv np ng) (now : Int) (hc1 : 1 ≤ c) (hc : c ≤ 16) (hn : np ≤ 1000) :
    Calls Try.prog 13 #[.pointer (some ⟨F1, 0, none⟩), .int .i64 now, body8V U1] (wx.setCell ⟨U1, 2, none⟩ (.int .i64 (W.getD np 0))) fun e w' =>
      (∃ L', e = .returned (.bool false) ∧ Duo w w' c W p q F1 L' U1 F2 L2 U2 b gv np ng) ∨
      (e = .returned (.bool true) ∧ w'.cell? ⟨U1, 4, none⟩ = some (.bool false) ∧ HalfG w w' c W p q F2 L2 U2 b gv np ng) ∨
      (e = .returned (.bool true) ∧ w'.cell? ⟨U1, 4, none⟩ = some (.bool true) ∧ HalfG w w' c W p q F2 L2 U2 b gv (np + 1) ng) := by
  obtain ⟨xs, l1, l2, h1, h2, h3, h4, h5, h6, h7⟩ := h
  obtain ⟨A, hA, hst⟩ := put_step h1 h2 hc1 hc hn h3
  have hx : 0 < xs.length := by rw [h1.len]; decide
  refine (put_go h4 (W.getD np 0) now hc1 hc hx h2.short hA).mono ?_
  rintro e w' ⟨L', T', k1, rfl, k2, k3, k4, k5, k6⟩
  have hG : GetAt w' c p q F2 L2 U2 (aftA A.k A.a A.v A.u xs) l2 := h5.mem k3 k5 (fun k hk e => by
    rcases e with e | e
    · exact h6 k e k hk rfl
    · exact (h5.off k hk).1 e)
  have hR : Rest w w' p q [F2, L2, U2] gv b (W.take ng) := h7.next (A1 := [F1, L1, U1]) k3 (fun x hx => List.mem_append_left _ hx) (fun x hx => .inl (List.mem_append_right _ hx))
  rcases hst with ⟨B, m1, m2, m3⟩ | ⟨m1, m2⟩ | ⟨m1, m2, m3⟩
  · obtain rfl : T' = Sum.inr B := Option.some.inj (k1.symm.trans m1)
    refine .inl ⟨L', rfl, _, _, l2, m2, m3, h3, k6 rfl, hG, h6.next (three_next k2) h5.lt, h7.next (A1 := [F1, L1, U1]) k3 (fun x hx => List.mem_append_left _ hx) (fun x hx => ?_)⟩
    rcases List.mem_append.1 hx with hx | hx
    · exact (three_next k2 x hx).imp (List.mem_append_left _) (fun h => h)
    · exact .inl (List.mem_append_right _ hx)
  · obtain rfl : T' = Sum.inl false := Option.some.inj (k1.symm.trans m1)
    exact .inr (.inl ⟨rfl, cell_of_block k4 4, _, l2, m2, h3, hG, hR⟩)
  · obtain rfl : T' = Sum.inl true := Option.some.inj (k1.symm.trans m1)
    exact .inr (.inr ⟨rfl, cell_of_block k4 4, _, l2, m2, m3, hG, hR⟩)

theorem duo_get (h : Duo w wx c W p q F1 L1 U1 F2 L2 U2 b gv np ng) (now : Int) (hc1 : 1 ≤ c) (hc : c ≤ 16) (hn : np ≤ 1000) :
    Calls Try.prog 13 #[.pointer (some ⟨F2, 0, none⟩), .int .i64 now, body8V U2] wx fun e w' =>
      (∃ L', e = .returned (.bool false) ∧ Duo w w' c W p q F1 L1 U1 F2 L' U2 b gv np ng) ∨
      (e = .returned (.bool true) ∧ w'.cell? ⟨U2, 4, none⟩ = some (.bool false) ∧ HalfP w w' c W p q F1 L1 U1 b gv (W.take ng) np ng) ∨
      (e = .returned (.bool true) ∧ w'.cell? ⟨U2, 4, none⟩ = some (.bool true) ∧ w'.cell? ⟨U2, 3, none⟩ = some (.int .i64 (W.getD ng 0)) ∧ ng < np ∧ HalfP w w' c W p q F1 L1 U1 b gv (W.take ng) np (ng + 1)) := by
  obtain ⟨xs, l1, l2, h1, h2, h3, h4, h5, h6, h7⟩ := h
  obtain ⟨A, hA, hst⟩ := get_step h1 h3 hc1 hc hn h2
  have hx : 0 < xs.length := by rw [h1.len]; decide
  refine (get_go h5 now hc1 hc hx h3.short hA).mono ?_
  rintro e w' ⟨L', T', k1, rfl, k2, k3, k4, k5, k6⟩
  have hP : PutAt w' c p q F1 L1 U1 (aftA A.k A.a A.v A.u xs) l1 := h4.mem k3 k5 (fun k hk e => by
    rcases e with e | e
    · exact h6 k hk k e rfl
    · exact (h4.off k hk).1 e)
  have hR : Rest w w' p q [F1, L1, U1] gv b (W.take ng) := h7.next (A1 := [F2, L2, U2]) k3 (fun x hx => List.mem_append_right _ hx) (fun x hx => .inl (List.mem_append_left _ hx))
  rcases hst with ⟨B, m1, m2, m3⟩ | ⟨m1, m2⟩ | ⟨m1, m4, m2, m3⟩
  · obtain rfl : T' = Sum.inr B := Option.some.inj (k1.symm.trans m1)
    rw [m2] at hP k6
    refine .inl ⟨L', rfl, xs, l1, _, h1, h2, m3, hP, k6 rfl, (h6.symm.next (three_next k2) h4.lt).symm, h7.next (A1 := [F2, L2, U2]) k3 (fun x hx => List.mem_append_right _ hx) (fun x hx => ?_)⟩
    rcases List.mem_append.1 hx with hx | hx
    · exact .inl (List.mem_append_left _ hx)
    · exact (three_next k2 x hx).imp (List.mem_append_right _) (fun h => h)
  · obtain rfl : T' = Sum.inl (0, false) := Option.some.inj (k1.symm.trans m1)
    rw [m2] at hP
    exact .inr (.inl ⟨rfl, cell_of_block k4 4, xs, l1, h1, h2, hP, hR⟩)
  · obtain rfl : T' = Sum.inl (W.getD ng 0, true) := Option.some.inj (k1.symm.trans m1)
    exact .inr (.inr ⟨rfl, cell_of_block k4 4, cell_of_block k4 3, m4, _, l1, m2, m3, hP, hR⟩)

theorem mem_low {p q : Nat} {xs : List Int} (h : MemIs 49 wx p q xs) : p < wx.heap.size ∧ q < wx.heap.size := ⟨lt_of_block h.head, h.row.lt⟩

/-- A new frame for the one that puts. -/
theorem HalfG.fresh {w2 : World} {F : Nat} (h : HalfG w wx c W p q F2 L2 U2 b gv np ng) (hf : FrameIs w2 F F (fresh (some ⟨p, 0, none⟩))) (hF : wx.heap.size ≤ F) (ho : Only (fun _ => False) wx w2) : Duo w (w2.alloc (act8O 0 c 0 0 false 0)) c W p q F F w2.heap.size F2 L2 U2 b gv np ng := by
  obtain ⟨xs, l2, h1, h3, h5, h7⟩ := h
  have hx : 0 < xs.length := by rw [h1.len]; decide
  have hm := h5.holds hx
  have ho3 : Only (fun _ => False) wx (w2.alloc (act8O 0 c 0 0 false 0)) := ho.alloc _
  have hoE : Only (fun k => k ∈ ([] : List Nat) ∨ k = q) wx (w2.alloc (act8O 0 c 0 0 false 0)) := ho3.mono (fun _ _ h => h.elim)
  have hm3 := hm.only ho3 (fun h => h) (fun h => h)
  have z := ho.size
  have lF := hf.lt
  have hml := mem_low hm
  have hnew : ∀ x ∈ [F, F, w2.heap.size], x ∈ ([] : List Nat) ∨ wx.heap.size ≤ x := three_new hF hF z
  refine ⟨xs, [], l2, h1, .inl rfl, h3, PutAt.new hm3 (hf.only ((Only.refl (fun _ => False) w2).alloc _) (fun h => h) (fun h => h)) (heap_new _ _) (by omega) (by omega) (by omega) (by omega) (by omega), h5.mem ho3 hm3 (fun _ _ h => h), ?_, h7.next hoE (fun x hx => (List.not_mem_nil hx).elim) (fun x hx => ?_)⟩
  · exact Sep.next (A := []) (fun x hx => (List.not_mem_nil hx).elim) hnew h5.lt
  · rcases List.mem_append.1 hx with hx | hx
    · exact .inr ((hnew x hx).resolve_left List.not_mem_nil)
    · exact .inl hx
/-- A new frame for the one that gets. -/
theorem HalfP.fresh {w2 : World} {F : Nat} (h : HalfP w wx c W p q F1 L1 U1 b gv (W.take ng) np ng) (hf : FrameIs w2 F F (fresh (some ⟨p, 0, none⟩))) (hF : wx.heap.size ≤ F) (ho : Only (fun _ => False) wx w2) : Duo w (w2.alloc (act8O 1 c 0 0 false 0)) c W p q F1 L1 U1 F F w2.heap.size b gv np ng := by
  obtain ⟨xs, l1, h1, h2, h4, h7⟩ := h
  have hx : 0 < xs.length := by rw [h1.len]; decide
  have hm := h4.holds hx
  have ho3 : Only (fun _ => False) wx (w2.alloc (act8O 1 c 0 0 false 0)) := ho.alloc _
  have hoE : Only (fun k => k ∈ ([] : List Nat) ∨ k = q) wx (w2.alloc (act8O 1 c 0 0 false 0)) := ho3.mono (fun _ _ h => h.elim)
  have hm3 := hm.only ho3 (fun h => h) (fun h => h)
  have z := ho.size
  have lF := hf.lt
  have hml := mem_low hm
  have hnew : ∀ x ∈ [F, F, w2.heap.size], x ∈ ([] : List Nat) ∨ wx.heap.size ≤ x := three_new hF hF z
  refine ⟨xs, l1, [], h1, h2, .inl rfl, h4.mem ho3 hm3 (fun _ _ h => h), GetAt.new hm3 (hf.only ((Only.refl (fun _ => False) w2).alloc _) (fun h => h) (fun h => h)) (heap_new _ _) (by omega) (by omega) (by omega) (by omega) (by omega), ?_, h7.next hoE (fun x hx => (List.not_mem_nil hx).elim) (fun x hx => ?_)⟩
  · exact (Sep.next (A := []) (fun x hx => (List.not_mem_nil hx).elim) hnew h4.lt).symm
  · rcases List.mem_append.1 hx with hx | hx
    · exact .inl hx
    · exact .inr ((hnew x hx).resolve_left List.not_mem_nil)
/-- What is got is appended. -/
theorem HalfP.app {G : List Int} (h : HalfP w wx c W p q F1 L1 U1 b gv G np ng) (o : Obj) (x : Int) : ∃ b1, CutIs (wx.alloc o) gv b1 G ∧ ∀ b' v' w', CutIs w' v' b' (G ++ [x]) → Only (fun k => k = b1) (wx.alloc o) w' → (b' = b1 ∨ (wx.alloc o).heap.size ≤ b') → HalfP w w' c W p q F1 L1 U1 b' v' (G ++ [x]) np ng := by
  obtain ⟨xs, l1, h1, h2, h4, h7⟩ := h
  have hx : 0 < xs.length := by rw [h1.len]; decide
  have hoA : Only (fun _ => False) wx (wx.alloc o) := (Only.refl _ _).alloc _
  have hzA := hoA.size
  have hm := (h4.holds hx).only hoA (fun h => h) (fun h => h)
  have h4A := h4.mem hoA hm (fun _ _ h => h)
  obtain ⟨b1, hc1, hb1⟩ := (h7.got.keep hoA (fun _ h => h)).spot
  have hb2 : (∀ y ∈ [F1, L1, U1], b1 ≠ y) ∧ b1 ≠ p ∧ b1 ≠ q ∧ w.heap.size ≤ b1 := by
    have hml := mem_low hm
    have hsz := h7.only.size
    rcases hb1 with ⟨rfl, hv⟩ | rfl
    · exact h7.gsep hv
    · exact ⟨fun y hy e => by have := h4A.lt y hy; omega, by omega, by omega, by omega⟩
  refine ⟨b1, hc1, fun b' v' w' k1 k2 k3 => ?_⟩
  have hm' := hm.only k2 (fun e => hb2.2.1 e.symm) (fun e => hb2.2.2.1 e.symm)
  refine ⟨xs, l1, h1, h2, h4A.mem k2 hm' (fun y hy e => hb2.1 y hy e.symm), k1, fun _ => ?_, h7.low, h7.lp, h7.lq, (h7.only.chain hoA (fun _ _ h => h)).chain k2 (fun i hi e => by have := hb2.2.2.2; omega)⟩
  rcases k3 with rfl | k3
  · exact hb2
  · have hml := mem_low hm
    have hsz := h7.only.size
    exact ⟨fun y hy e => by have := h4A.lt y hy; omega, by omega, by omega, by omega⟩
/-- Ahead of all. -/
theorem half_start {w1 w2 : World} {F : Nat} (h0 : Only (fun _ => False) w w1) (hm : MemIs 49 w1 p q (List.replicate 30 0)) (lp : w.heap.size ≤ p) (lq : w.heap.size ≤ q) (hf : FrameIs w2 F F (fresh (some ⟨p, 0, none⟩))) (hF : w1.heap.size ≤ F) (ho : Only (fun _ => False) w1 w2) : HalfP w (w2.alloc (act8O 0 c 0 0 false 0)) c W p q F F w2.heap.size 0 nilV [] 0 0 := by
  have ho3 : Only (fun _ => False) w1 (w2.alloc (act8O 0 c 0 0 false 0)) := ho.alloc _
  have hm3 := hm.only ho3 (fun h => h) (fun h => h)
  have z := ho.size
  have z0 := h0.size
  have lF := hf.lt
  have hml := mem_low hm
  refine ⟨_, [], memR_new, .inl rfl, PutAt.new hm3 (hf.only ((Only.refl (fun _ => False) w2).alloc _) (fun h => h) (fun h => h)) (heap_new _ _) (by omega) (by omega) (by omega) (by omega) (by omega), CutIs.nil _ _, fun h => absurd rfl h, fun x hx => ?_, lp, lq, h0.chain ho3 (fun _ _ h => h)⟩
  have := (three_new (A := []) hF hF z x hx).resolve_left List.not_mem_nil
  omega
end
end Go.Proofs.Ytdoihlnipajniaa

/-
  The lists of frames and of users that septumlaw03.TicketTurns makes. Conditions: all of it lies in blocks that are not the same.
-/
import Derived.Test.YtfdfjibhbfdloaaTurns1
namespace Go.Sept
open Go.RowKit
theorem Grow.own_lt {e : TypeId} {size : Nat} {w : World} {v : Value} {b n c : Nat} {xs : List Value} (h : Grow e size w v b n xs) (hv : v.ownBlock = some c) : c < w.heap.size := by
  rcases h.own.2 with ⟨rfl, _⟩ | ⟨g, cap, cur, rfl, _, hg, _⟩
  · cases hv
  · simp [Value.ownBlock] at hv
    subst hv
    exact lt_of_block hg
/-- Where what has turned is not the slice's own block. -/
theorem Grow.keep {e : TypeId} {size : Nat} {w w' : World} {v : Value} {b n : Nat} {xs : List Value} {S : Nat → Prop} (h : Grow e size w v b n xs) (ho : Only S w w') (hb : ∀ c, v.ownBlock = some c → ¬ S c) : Grow e size w' v b n xs := by
  refine ⟨⟨h.own.1, ?_⟩, h.spot⟩
  rcases h.own.2 with hn | ⟨g, cap, cur, rfl, hb0, hg, rest⟩
  · exact .inl hn
  · exact .inr ⟨g, cap, cur, rfl, hb0, (ho.block g (lt_of_block hg) (hb g rfl)).trans hg, rest⟩
end Go.Sept

namespace Go.Proofs.Ytfdfjibhbfdloaa
open Go.RowKit Go.Sept Go.Sept.Turns

theorem Try.infoPF : (Try.prog.info? 28).map (fun i => (i.zero, i.size, i.bytes)) = some (some (.pointer none), 1, 8) := by kernel_rfl
theorem Try.infoPU : (Try.prog.info? 60).map (fun i => (i.zero, i.size, i.bytes)) = some (some (.pointer none), 1, 8) := by kernel_rfl

structure Arr (B : Nat) (w : World) (j p q : Nat) (Fs Us Ls : Nat → Nat) (ss : Nat → FrSt) (xs : List Int) (fv uv : Value) : Prop where
  users : Users B w j p q Fs Us Ls ss xs (fun _ => .A)
  f : ∃ fb, Grow 28 1 w fv fb j (ptrs Fs j)
  u : ∃ ub, Grow 60 1 w uv ub j (ptrs Us j)
  fo : ∀ b, fv.ownBlock = some b → B ≤ b ∧ b ≠ p ∧ b ≠ q ∧ ∀ i, i < j → ¬ Mine Fs Us Ls i b
  uo : ∀ b, uv.ownBlock = some b → B ≤ b ∧ b ≠ p ∧ b ≠ q ∧ ∀ i, i < j → ¬ Mine Fs Us Ls i b
  fu : ∀ b, fv.ownBlock = some b → uv.ownBlock = some b → False
  mem : MemIs 74 w p q xs
  short : ∀ i, i < j → (ss i).log = []
  low : B ≤ w.heap.size

section
variable {B : Nat} {wr w1 w2 w3 : World} {j p q F U fb0 ub0 b2 c2 b3 c3 : Nat} {Fs Us Ls : Nat → Nat} {ss : Nat → FrSt} {xs : List Int} {fv uv : Value}

/-- Ahead of the first append. -/
theorem arr_f (h : Arr B wr j p q Fs Us Ls ss xs fv uv) (ho1 : Only (fun _ => False) wr w1) (o : Obj) : ∃ fb0, Grow 28 1 (w1.alloc o) fv fb0 j (ptrs Fs j) ∧ (fv.ownBlock = some fb0 ∨ (w1.alloc o).heap.size ≤ fb0) := by
  obtain ⟨fb, hf⟩ := h.f
  exact ((hf.keep ho1 (fun _ _ h => h)).keep ((Only.refl (fun _ => False) w1).alloc o) (fun _ _ h => h)).respot
/-- Ahead of the second one. -/
theorem arr_u (h : Arr B wr j p q Fs Us Ls ss xs fv uv) (ho1 : Only (fun _ => False) wr w1) (o : Obj) (ho2 : Only (fun k => fv.ownBlock = some k) (w1.alloc o) w2) (o1 o2 : Obj) :
    ∃ ub0, Grow 60 1 ((w2.alloc o1).alloc o2) uv ub0 j (ptrs Us j) ∧ (uv.ownBlock = some ub0 ∨ ((w2.alloc o1).alloc o2).heap.size ≤ ub0) := by
  obtain ⟨ub, hu⟩ := h.u
  have h1 := (hu.keep ho1 (fun _ _ h => h)).keep ((Only.refl (fun _ => False) w1).alloc o) (fun _ _ h => h)
  have h2 := h1.keep ho2 (fun c hc e => h.fu c e hc)
  exact ((h2.keep ((Only.refl (fun _ => False) w2).alloc o1) (fun _ _ h => h)).keep ((Only.refl (fun _ => False) (w2.alloc o1)).alloc o2) (fun _ _ h => h)).respot

theorem arr_step (h : Arr B wr j p q Fs Us Ls ss xs fv uv) (hf : FrameIs w1 F F (fresh (some ⟨p, 0, none⟩))) (hF : F = wr.heap.size) (ho1 : Only (fun _ => False) wr w1) (o : Obj)
    (hfb : fv.ownBlock = some fb0 ∨ (w1.alloc o).heap.size ≤ fb0) (hg2 : Grow 28 1 w2 (.slice (some ⟨b2, 0, none⟩) (j + 1 : Nat) c2) b2 (j + 1) (ptrs Fs j ++ [ptr F])) (ho2 : Only (fun k => fv.ownBlock = some k) (w1.alloc o) w2) (hb2 : b2 = fb0 ∨ (w1.alloc o).heap.size ≤ b2)
    (hU : U = w2.heap.size) (o2 : Obj) (hub : uv.ownBlock = some ub0 ∨ ((w2.alloc (.cells (userCells 0 (0, 0, false)) 62)).alloc o2).heap.size ≤ ub0)
    (hg3 : Grow 60 1 w3 (.slice (some ⟨b3, 0, none⟩) (j + 1 : Nat) c3) b3 (j + 1) (ptrs Us j ++ [ptr U])) (ho3 : Only (fun k => uv.ownBlock = some k) ((w2.alloc (.cells (userCells 0 (0, 0, false)) 62)).alloc o2) w3) (hb3 : b3 = ub0 ∨ ((w2.alloc (.cells (userCells 0 (0, 0, false)) 62)).alloc o2).heap.size ≤ b3) :
    Arr B w3 (j + 1) p q (ext Fs j F) (ext Us j U) (ext Ls j F) (ext ss j (fresh (some ⟨p, 0, none⟩))) xs (.slice (some ⟨b2, 0, none⟩) (j + 1 : Nat) c2) (.slice (some ⟨b3, 0, none⟩) (j + 1 : Nat) c3) ∧
      Only (fun b => fv.ownBlock = some b ∨ uv.ownBlock = some b) wr w3 := by
  have zr := h.low
  have fl : ∀ b, fv.ownBlock = some b → b < wr.heap.size := fun b hb => h.f.choose_spec.own_lt hb
  have ul : ∀ b, uv.ownBlock = some b → b < wr.heap.size := fun b hb => h.u.choose_spec.own_lt hb
  have z1 := ho1.size
  have za : (w1.alloc o).heap.size = w1.heap.size + 1 := by simp
  have z2 := ho2.size
  have zu : ((w2.alloc (.cells (userCells 0 (0, 0, false)) 62)).alloc o2).heap.size = w2.heap.size + 2 := by simp
  have z3 := ho3.size
  have hFl := hf.lt
  have hob : Only (fun _ => False) w1 (w1.alloc o) := (Only.refl _ _).alloc o
  have hou : Only (fun _ => False) w2 ((w2.alloc (.cells (userCells 0 (0, 0, false)) 62)).alloc o2) := ((Only.refl _ _).alloc _).alloc _
  have hlow2 : Only (fun b => fv.ownBlock = some b) wr w2 := ((ho1.mono (T := fun b => fv.ownBlock = some b) (fun _ _ h => h.elim)).chain hob (fun _ _ h => h.elim)).chain ho2 (fun _ _ h => h)
  have hall : Only (fun b => fv.ownBlock = some b ∨ uv.ownBlock = some b) wr w3 := ((hlow2.mono (T := fun b => fv.ownBlock = some b ∨ uv.ownBlock = some b) (fun _ _ h => .inl h)).chain hou (fun _ _ h => h.elim)).chain ho3 (fun _ _ h => .inr h)
  have hS : ∀ b, (fv.ownBlock = some b ∨ uv.ownBlock = some b) → B ≤ b ∧ b ≠ p ∧ b ≠ q ∧ ∀ i, i < j → ¬ Mine Fs Us Ls i b := by
    rintro b (hb | hb)
    · exact h.fo b hb
    · exact h.uo b hb
  have hl : ∀ b, (fv.ownBlock = some b ∨ uv.ownBlock = some b) → b < wr.heap.size := by
    rintro b (hb | hb)
    · exact fl b hb
    · exact ul b hb
  have hm3 : MemIs 74 w3 p q xs := h.mem.only hall (fun e => (hS p e).2.1 rfl) (fun e => (hS q e).2.2.1 rfl)
  have hus := h.users.only hall (fun b hb => ⟨(hS b hb).2.1, (hS b hb).2.2.1, (hS b hb).2.2.2⟩)
  have hf3 : FrameIs w3 F F (fresh (some ⟨p, 0, none⟩)) := by
    have a1 := hf.only hob (fun h => h) (fun h => h)
    have a2 := a1.only ho2 (fun e => by have := fl F e; omega) (fun e => by have := fl F e; omega)
    have a3 := a2.only hou (fun h => h) (fun h => h)
    exact a3.only ho3 (fun e => by have := ul F e; omega) (fun e => by have := ul F e; omega)
  have hu3 : w3.heap[U]? = some (.cells (userCells 0 (0, 0, false)) 62) := by
    rw [ho3.block U (by omega) (fun e => by have := ul U e; omega), Below.heap_alloc _ _ _ (by simp; omega), hU]
    exact heap_new _ _
  have pl : p < wr.heap.size := lt_of_block h.mem.head
  have ql : q < wr.heap.size := h.mem.row.lt
  have hnew : UserAt w3 F F p q U (fresh (some ⟨p, 0, none⟩)) xs .A :=
    ⟨⟨⟨hf3, .inl ⟨rfl, hm3⟩, by omega, by omega, by omega, by omega, by omega, by omega, by omega⟩, hu3, by omega, by omega, by omega, by omega⟩, userT_after, rfl, rfl, rfl⟩
  have hML : ∀ i b, i < j → Mine Fs Us Ls i b → b < wr.heap.size := fun i b hi hb => h.users.lt hi hb
  have hadd := hus.add hnew (by omega) (by omega) (fun i hi hb => by have := hML i F hi hb; omega) (fun i hi hb => by have := hML i U hi hb; omega)
  have hfun : (ext (fun _ => Ph.A) j Ph.A : Nat → Ph) = fun _ => .A := by
    funext i
    unfold ext
    split <;> rfl
  rw [hfun] at hadd
  have hmine : ∀ i b, i < j + 1 → Mine (ext Fs j F) (ext Us j U) (ext Ls j F) i b → (i < j ∧ Mine Fs Us Ls i b) ∨ b = F ∨ b = U := by
    intro i b hi hb
    by_cases e : i = j
    · subst e
      unfold Mine at hb
      rw [ext_self, ext_self, ext_self] at hb
      rcases hb with h | h | h
      · exact .inr (.inl h)
      · exact .inr (.inr h)
      · exact .inr (.inl h)
    · unfold Mine at *
      rw [ext_ne _ _ e, ext_ne _ _ e, ext_ne _ _ e] at hb
      exact .inl ⟨by omega, hb⟩
  have l2 : b2 < w2.heap.size := hg2.lt (by omega)
  have l3 : b3 < w3.heap.size := hg3.lt (by omega)
  -- the new blocks: a list's own, or past all
  have n2 : fv.ownBlock = some b2 ∨ w1.heap.size + 1 ≤ b2 := by
    rcases hb2 with e | e
    · rcases hfb with e2 | e2
      · exact .inl (e ▸ e2)
      · exact .inr (by omega)
    · exact .inr (by omega)
  have n3 : uv.ownBlock = some b3 ∨ w2.heap.size + 2 ≤ b3 := by
    rcases hb3 with e | e
    · rcases hub with e2 | e2
      · exact .inl (e ▸ e2)
      · exact .inr (by omega)
    · exact .inr (by omega)
  refine ⟨⟨hadd, ⟨b2, ?_⟩, ⟨b3, ?_⟩, ?_, ?_, ?_, hm3, ?_, by omega⟩, hall⟩
  · rw [ptrs_succ]
    have a1 := hg2.keep hou (fun _ _ h => h)
    refine a1.keep ho3 (fun c hc e => ?_)
    simp [Value.ownBlock] at hc
    subst hc
    rcases n2 with n2 | n2
    · exact h.fu _ n2 e
    · have := ul _ e
      omega
  · rw [ptrs_succ]
    exact hg3
  · intro b hb
    simp [Value.ownBlock] at hb
    subst hb
    rcases n2 with n2 | n2
    · have a1 := h.fo _ n2
      have a2 := fl _ n2
      refine ⟨a1.1, a1.2.1, a1.2.2.1, fun i hi hb => ?_⟩
      rcases hmine i _ hi hb with ⟨e1, e2⟩ | e | e
      · exact a1.2.2.2 i e1 e2
      · omega
      · omega
    · refine ⟨by omega, by omega, by omega, fun i hi hb => ?_⟩
      rcases hmine i _ hi hb with ⟨e1, e2⟩ | e | e
      · have := hML i _ e1 e2
        omega
      · omega
      · omega
  · intro b hb
    simp [Value.ownBlock] at hb
    subst hb
    rcases n3 with n3 | n3
    · have a1 := h.uo _ n3
      have a2 := ul _ n3
      refine ⟨a1.1, a1.2.1, a1.2.2.1, fun i hi hb => ?_⟩
      rcases hmine i _ hi hb with ⟨e1, e2⟩ | e | e
      · exact a1.2.2.2 i e1 e2
      · omega
      · omega
    · refine ⟨by omega, by omega, by omega, fun i hi hb => ?_⟩
      rcases hmine i _ hi hb with ⟨e1, e2⟩ | e | e
      · have := hML i _ e1 e2
        omega
      · omega
      · omega
  · intro b hb hc
    simp [Value.ownBlock] at hb hc
    subst hb
    rcases n3 with n3 | n3
    · rcases n2 with n2 | n2
      · rw [hc] at n3
        exact h.fu _ n2 n3
      · rw [hc] at n3
        have := ul _ n3
        omega
    · omega
  · intro i hi
    by_cases e : i = j
    · subst e
      rw [ext_self]
      rfl
    · rw [ext_ne _ _ e]
      exact h.short i (by omega)
end
end Go.Proofs.Ytfdfjibhbfdloaa

/-
  septumlaw12.PlanKeeps: the region that makes a partition of one's own. Conditions: the partition is of a size that is looked at.
-/
import Derived.Test.YtapmakdklpbjkaaThings12
import Derived.Test.YtapmakdklpbjkaaCfg11
import Derived.Test.YtapmakdklpbjkaaFresh11
import Derived.Test.YtapmakdklpbjkaaCopied11
import Derived.Deep.RegionHeldLaw
import Derived.BigRegion
namespace Go.Sept
open Go.RowKit
section
variable {w w' : World} {o x : Obj} {b g : Nat}
theorem al_new12 (h : b = w.heap.size) : (w.alloc o).heap[b]? = some o := by rw [h]; exact heap_new w o
theorem dr_keep12 (h : w.heap[b]? = some x) : w.drew.heap[b]? = some x := h
theorem Only.carry12 {S : Nat → Prop} (ho : Only S w w') (h : w.heap[b]? = some x) (hne : ¬ S b) : w'.heap[b]? = some x := (ho.block b (lt_of_block h) hne).trans h
theorem Only.cellN12 (ho : Only (fun _ => False) w w') {a : Addr} {v : Value} (hc : w.cell? a = some v) : w'.cell? a = some v := (World.cell?_of_block (ho.block a.block (World.block_lt_of_cell? _ _ hc) (fun h => h))).trans hc
variable {G : Nat → TypeId → Prop} {A B : TypeId} {v : Value}
theorem TSl.ob_far {l : List Ob} (h : TSl G A 3 obE w v l) {S : Nat → Prop} (ho : Only S w w') (hS : ∀ k cs, w.heap[k]? = some (.cells cs A) → ¬ S k) : TSl G A 3 obE w' v l :=
  h.go (fun _ h => h) (fun b cs _ hb => ⟨cs, ho.carry12 hb (hS b cs hb)⟩) (fun b _ _ cs _ _ hb he => ⟨he.1.at (ho.block b (lt_of_block hb) (hS b cs hb)), he.2.1.at (ho.block b (lt_of_block hb) (hS b cs hb)), he.2.2.at (ho.block b (lt_of_block hb) (hS b cs hb))⟩)
theorem TSl.th_far {P : Nat → Prop} {l : List Th} (h : TSl G A 4 (thE P) w v l) {S : Nat → Prop} (ho : Only S w w') (hS : ∀ k cs, w.heap[k]? = some (.cells cs A) → ¬ S k) (hP : ∀ k, P k → ¬ S k) : TSl G A 4 (thE P) w' v l :=
  h.go (fun _ h => h) (fun b cs _ hb => ⟨cs, ho.carry12 hb (hS b cs hb)⟩) (fun b _ _ cs _ _ hb he => by
    obtain ⟨h1, h2, h3, h4, v, h5, h6⟩ := he
    have e := ho.block b (lt_of_block hb) (hS b cs hb)
    exact ⟨h1.at e, h2.at e, h3, h4.at e, v, h5.at e, h6.only (stay_cl ho hP)⟩)
theorem far_of12 {c : Array Value} (hg : w.heap[g]? = some (.cells c B)) (hne : B ≠ A) : ∀ k cs, w.heap[k]? = some (.cells cs A) → ¬ k = g := fun k cs hk e => by
  subst e
  rw [hg] at hk
  injection hk with hk
  injection hk with _ hk
  exact hne hk
end
/-- Threads: their programs stay where they are. -/
theorem whole_th12 {P : Nat → Prop} (w : World) : Whole 4 (thE P) w (thE P) (fun w' => Only (fun _ => False) w w') := fun b o x h => by
  obtain ⟨h1, h2, h3, h4, v, h5, h6⟩ := h
  obtain ⟨ao, cap, hv, _⟩ := h6.shape
  refine ⟨[.int .i64 x.prio, .int .u32 x.caps, .bool x.ctl, v], rfl, ?_, by intro u hu; simp at hu; rcases hu with rfl | rfl | rfl | rfl <;> first | rfl | (rw [hv]; rfl), fun w' b' o' hQ hc => ⟨⟨hc 0 _ rfl, h1.2⟩, hc 1 _ rfl, h3, hc 2 _ rfl, v, hc 3 _ rfl, h6.only (stay_cl hQ (fun _ _ h => h))⟩⟩
  intro j u hj
  match j, hj with
  | 0, hj => injection hj with hj; subst hj; exact h1.1
  | 1, hj => injection hj with hj; subst hj; exact h2
  | 2, hj => injection hj with hj; subst hj; exact h4
  | 3, hj => injection hj with hj; subst hj; exact h5
end Go.Sept
namespace Go.Proofs.Ytapmakdklpbjkaa
open Go.RowKit Go.Sept

/-- A variable that holds a partition of one's own. -/
structure Start12 (P : Nat → Prop) (s : Nat) (W wc : World) (V : Nat) (p : Pt) : Prop where
  ex : ∃ v5 v6, wc.heap[V]? = some (ptO v5 v6) ∧ TSl (fun k _ => s ≤ k) 50 4 (thE P) wc v5 p.ths ∧ TSl (fun k _ => s ≤ k) 68 3 obE wc v6 p.obs
  low : W.heap.size ≤ V
  only : Only (fun _ => False) W wc
theorem start_new12 {P : Nat → Prop} {s : Nat} {W wl : World} {p : Pt} {v5 v6 : Value} (h5 : TSl (fun k _ => s ≤ k) 50 4 (thE P) wl v5 p.ths) (h6 : TSl (fun k _ => s ≤ k) 68 3 obE wl v6 p.obs) (ho : Only (fun _ => False) W wl) : Start12 P s W (wl.alloc (.cells #[v5, v6] 25)) wl.heap.size p :=
  ⟨⟨v5, v6, heap_new _ _, h5.th_far ((Only.refl (fun _ => False) _).alloc _) (fun _ _ _ h => h) (fun _ _ h => h), h6.ob_far ((Only.refl (fun _ => False) _).alloc _) (fun _ _ _ h => h)⟩, ho.size, ho.alloc _⟩
theorem start_set12 {P : Nat → Prop} {s : Nat} {W wl : World} {p : Pt} {v5 v6 : Value} {V : Nat} (hP : ∀ k, P k → k < W.heap.size) (h5 : TSl (fun k _ => s ≤ k) 50 4 (thE P) wl v5 p.ths) (h6 : TSl (fun k _ => s ≤ k) 68 3 obE wl v6 p.obs) (ho : Only (fun _ => False) W wl) (hV : wl.heap[V]? = some (ptO nilS nilS)) (hl : W.heap.size ≤ V) :
    Start12 P s W ((wl.setCell ⟨V, 0, none⟩ v5).setCell ⟨V, 1, none⟩ v6) V p := by
  have hall : Only (fun k => k = V) wl ((wl.setCell ⟨V, 0, none⟩ v5).setCell ⟨V, 1, none⟩ v6) := ((Only.refl (fun k => k = V) wl).setCell (p := ⟨V, 0, none⟩) (.inr rfl) _).setCell (p := ⟨V, 1, none⟩) (.inr rfl) _
  refine ⟨⟨v5, v6, block_set11 (block_set11 hV 0 _) 1 _, h5.th_far hall (far_of12 hV (by decide)) (fun k hk e => by have := hP k hk; omega), h6.ob_far hall (far_of12 hV (by decide))⟩, hl, ho.chain hall (fun i hi e => by omega)⟩
end Go.Proofs.Ytapmakdklpbjkaa

/-
  How one that writes versions and two that read begin. Conditions: all of it lies in blocks that are not the same.
-/
import Derived.Test.YtcafpdnbceoekaaPlay5
namespace Go.Proofs.Ytcafpdnbceoekaa
open Go.RowKit Go.Sept

theorem Play.congr {D E : Nat → Prop} {B : Nat} {w : World} {k v n now p q FA RA LA tc WV : Nat} {ta : Option Addr} {Fs Ls Us : Nat → Nat} {ss : Nat → FrSt} {sts : Nat → Nat × Int × List Int} {least : Nat → Nat}
    (h : Play D B w k v n now p q FA RA LA Fs Ls Us ta tc WV ss sts least) (hE : ∀ x, D x ↔ E x) : Play E B w k v n now p q FA RA LA Fs Ls Us ta tc WV ss sts least := by
  have e : D = E := funext fun x => propext (hE x)
  rw [← e]
  exact h

/-- The tables, when all that they hold is not yet there. -/
theorem play_init {B : Nat} {w : World} {k p q F VB tc : Nat} {ta : Option Addr} (hk : 0 < k ∧ k ≤ 6) (hm : MemIs 52 w p q (memAt k 0 0)) (hf : FrameIs w F F (fresh (some ⟨p, 0, none⟩))) (hS : Sees w ta (vals 1 k) VB) (bq : B ≤ q) (pF : p < F) (qF : q < F) (FV : F < VB) (bF : B ≤ F) {o : Obj} (ho : o = writerO 0 ta tc (vals 1 k)) :
    Play (fun x => 0 ≤ x ∧ x < 2) B ((((w.alloc o).alloc (.cells #[.pointer none, .pointer none] 44)).alloc (.cells #[.pointer none, .pointer none] 45)).alloc (.cells #[.int .i64 0, .int .i64 0] 46)) k 0 0 0 p q (w.heap.size + 1) (w.heap.size + 1 + 1) (w.heap.size + 1 + 1 + 1) (fun _ => F) (fun _ => F) (fun _ => w.heap.size) ta tc VB (fun _ => fresh (some ⟨p, 0, none⟩)) (fun _ => (0, 0, [])) (fun _ => 0) := by
  subst ho
  have hne : vals 1 k ≠ [] := by
    intro e
    have := vals_length 1 k
    rw [e] at this
    have h9 : (0 : Nat) = k := this
    omega
  have hV := hS.lt hne
  have lF := hf.lt
  have hO : Only (fun _ => False) w ((((w.alloc (writerO 0 ta tc (vals 1 k))).alloc (.cells #[.pointer none, .pointer none] 44)).alloc (.cells #[.pointer none, .pointer none] 45)).alloc (.cells #[.int .i64 0, .int .i64 0] 46)) := ((((Only.refl _ w).alloc _).alloc _).alloc _).alloc _
  have hz : ((((w.alloc (writerO 0 ta tc (vals 1 k))).alloc (.cells #[.pointer none, .pointer none] 44)).alloc (.cells #[.pointer none, .pointer none] 45)).alloc (.cells #[.int .i64 0, .int .i64 0] 46)).heap.size = w.heap.size + 4 := by simp
  have b0 : ((((w.alloc (writerO 0 ta tc (vals 1 k))).alloc (.cells #[.pointer none, .pointer none] 44)).alloc (.cells #[.pointer none, .pointer none] 45)).alloc (.cells #[.int .i64 0, .int .i64 0] 46)).heap[w.heap.size]? = some (writerO 0 ta tc (vals 1 k)) := by
    rw [Below.heap_alloc _ _ _ (by simp <;> omega), Below.heap_alloc _ _ _ (by simp <;> omega), Below.heap_alloc _ _ _ (by simp)]
    exact heap_new _ _
  have b1 : ((((w.alloc (writerO 0 ta tc (vals 1 k))).alloc (.cells #[.pointer none, .pointer none] 44)).alloc (.cells #[.pointer none, .pointer none] 45)).alloc (.cells #[.int .i64 0, .int .i64 0] 46)).heap[w.heap.size + 1]? = some (.cells #[.pointer none, .pointer none] 44) := by
    rw [Below.heap_alloc _ _ _ (by simp <;> omega), Below.heap_alloc _ _ _ (by simp)]
    exact heap_new_at _ _ _ (by simp)
  have b2 : ((((w.alloc (writerO 0 ta tc (vals 1 k))).alloc (.cells #[.pointer none, .pointer none] 44)).alloc (.cells #[.pointer none, .pointer none] 45)).alloc (.cells #[.int .i64 0, .int .i64 0] 46)).heap[w.heap.size + 1 + 1]? = some (.cells #[.pointer none, .pointer none] 45) := by
    rw [Below.heap_alloc _ _ _ (by simp)]
    exact heap_new_at _ _ _ (by simp)
  have b3 : ((((w.alloc (writerO 0 ta tc (vals 1 k))).alloc (.cells #[.pointer none, .pointer none] 44)).alloc (.cells #[.pointer none, .pointer none] 45)).alloc (.cells #[.int .i64 0, .int .i64 0] 46)).heap[w.heap.size + 1 + 1 + 1]? = some (.cells #[.int .i64 0, .int .i64 0] 46) := heap_new_at _ _ _ (by simp)
  generalize (((w.alloc (writerO 0 ta tc (vals 1 k))).alloc (.cells #[.pointer none, .pointer none] 44)).alloc (.cells #[.pointer none, .pointer none] 45)).alloc (.cells #[.int .i64 0, .int .i64 0] 46) = W at *
  have hm' := hm.only hO (fun h => h) (fun h => h)
  refine ⟨⟨fun a b x ha hb da db hab _ _ => by omega, fun a x ha da hx => ?_, by omega, by omega, by omega⟩, .inl ⟨rfl, hm'⟩, fun _ => ⟨1000, by omega, ?_⟩, fun i hi hd => absurd ⟨Nat.zero_le _, hi⟩ hd, fun i hi hd => absurd ⟨Nat.zero_le _, hi⟩ hd, fun _ _ _ => Nat.zero_le _, ?_, ?_, ?_, by omega, by omega, Nat.le_refl _, hk⟩
  · have hx' : x = F ∨ x = F ∨ x = w.heap.size ∨ (a = 2 ∧ x = VB) := hx
    omega
  · refine Walks.start ⟨⟨hf.only hO (fun h => h) (fun h => h), .inl ⟨rfl, hm'⟩, by omega, by omega, by omega, by omega, by omega, by omega, by omega⟩, ⟨b0, hS.only hO (fun _ h => h)⟩, ?_⟩ (sim_write (by rw [vals_length]; omega) (by rw [vals_length]; omega) 1001)
    rintro x (rfl | ⟨_, rfl⟩)
    · exact ⟨by omega, by omega, by omega, by omega⟩
    · exact ⟨by omega, by omega, by omega, by omega⟩
  · refine ⟨_, _, b1, rfl, fun i hi => ⟨.pointer none, ?_, ⟨_, rfl⟩, fun hd => absurd ⟨Nat.zero_le _, hi⟩ hd⟩⟩
    match i, hi with
    | 0, _ => rfl
    | 1, _ => rfl
  · refine ⟨_, _, b2, rfl, fun i hi => ⟨.pointer none, ?_, ⟨_, rfl⟩, fun hd => absurd ⟨Nat.zero_le _, hi⟩ hd⟩⟩
    match i, hi with
    | 0, _ => rfl
    | 1, _ => rfl
  · refine ⟨_, _, b3, rfl, fun i hi => ⟨.int .i64 0, ?_, rfl⟩⟩
    match i, hi with
    | 0, _ => rfl
    | 1, _ => rfl
end Go.Proofs.Ytcafpdnbceoekaa

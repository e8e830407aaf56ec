/-
  What New and Words do: a new memory of zeros; a copy of all words. Conditions: the memory is there (or is nil).
-/
import Derived.Test.YtmcmjcaigipoaaaGreatLeaf
import Derived.Laws.CopyOwn
namespace Go.Proofs.YtmcmjcaigipoaaaGreat
open Go.RowKit Go.Sept

theorem Tryz.info2 : (Tryz.prog.info? 2).map (fun i => (i.zero, i.size, i.bytes)) = some (some (.int .i64 0), 1, 8) := by kernel_rfl

/-- How many words a memory has of which n are asked for. -/
def clampN (n : Int) : Nat := (min (max n 0) 4000).toNat
theorem clamp_le (n : Int) : clampN n ≤ 4000 := by unfold clampN; omega

theorem make_words (k : Nat) (hk : k ≤ 4000) (w : World) :
    (Instr.makeSlice 62 (.int .i64 (k : Int)) (.int .i64 (k : Int))).run Tryz.prog w = .ok (.slice (some ⟨w.heap.size, 0, none⟩) k k) (w.alloc (.cells (madeCells #[.int .i64 0] k) 2)) :=
  run_make_row' (P := Tryz.prog) 62 2 (.int .i64 0) 8 Tryz.underlying62 Tryz.info2 rfl .i64 .i64 k (by omega) (by omega) w

set_option maxHeartbeats 400000 in
theorem new_any (w : World) (n : Int) :
    Calls Tryz.prog 21 #[.int .i64 n] w fun e w' => e = .returned (.pointer (some ⟨w.heap.size + 1, 0, none⟩)) ∧ w' = newWorld w 130 (clampN n) := by
  by_cases h0 : n < 0
  · have hk : clampN n = 0 := by unfold clampN; omega
    rw [hk]
    clear hk
    have hmk : ∀ w : World, (Instr.makeSlice 62 (.int .i64 0) (.int .i64 0)).run Tryz.prog w = _ := make_words 0 (by omega)
    go_enter Tryz.func21, Tryz.ntmps21
    go_wp2
    go_ret
    exact ⟨rfl, rfl⟩
  · by_cases h1 : n ≤ 4000
    · obtain ⟨m, rfl⟩ := Int.eq_ofNat_of_zero_le (Int.not_lt.1 h0)
      have hk : clampN (m : Int) = m := by unfold clampN; omega
      rw [hk]
      clear hk
      have hmk := make_words m (by omega)
      go_enter Tryz.func21, Tryz.ntmps21
      go_wp2
      go_ret
      exact ⟨rfl, rfl⟩
    · have hk : clampN n = 4000 := by unfold clampN; omega
      rw [hk]
      clear hk
      have hmk : ∀ w : World, (Instr.makeSlice 62 (.int .i64 4000) (.int .i64 4000)).run Tryz.prog w = _ := make_words 4000 (by omega)
      go_enter Tryz.func21, Tryz.ntmps21
      go_wp2
      go_ret
      exact ⟨rfl, rfl⟩

theorem Tryz.size2 : (Tryz.prog.info? 2).map (·.size) = some 1 := by kernel_rfl

theorem setRow_alloc (w : World) (c d : Array Value) (t : TypeId) : (w.alloc (.cells c t)).setRow w.heap.size d = w.alloc (.cells d t) := by
  unfold World.setRow World.alloc
  congr 1
  apply Array.ext_getElem?
  intro i
  rw [Array.getElem?_modify]
  by_cases h : i = w.heap.size
  · subst h; simp
  · rw [if_neg (fun e => h e.symm)]
    simp only [Array.getElem?_push]
    rw [if_neg h, if_neg h]

theorem copy_words (w : World) (q : Nat) (xs : List Int) (h : RowIs w q xs) :
    (Builtin.copy_ #[62, 62] 3 #[.slice (some ⟨w.heap.size, 0, none⟩) xs.length xs.length, .slice (some ⟨q, 0, none⟩) xs.length xs.length]).run Tryz.prog
      (w.alloc (.cells (madeCells #[.int .i64 0] xs.length) 2)) = .ok (.int .i64 xs.length) (copied w xs) := by
  have e := run_copy_row (P := Tryz.prog) (w.alloc (.cells (madeCells #[.int .i64 0] xs.length) 2)) 62 62 3 2 w.heap.size 0 xs.length xs.length ⟨q, 0, none⟩ xs.length xs.length
    (madeCells #[.int .i64 0] xs.length) 2 (xs.map (Value.int .i64)) Tryz.underlying62 Tryz.size2 (MapKept.heap_alloc _ _).1 (by simp)
    (fun j v hj => by
      have hr : RowIs (w.alloc (.cells (madeCells #[.int .i64 0] xs.length) 2)) q xs := h.of_block (Below.heap_alloc _ _ _ h.lt)
      have hj' : j < xs.length := by
        have := (List.getElem?_eq_some_iff.1 hj).1
        simpa using this
      rw [show (Addr.add ⟨q, 0, none⟩ j) = ⟨q, j, none⟩ by simp only [Addr.add]; split <;> simp_all, hr.cell j hj']
      simp [hj'] at hj
      simp [hj', hj])
    (by simp [size_madeCells]) (by intro v hv; simp at hv; obtain ⟨a, _, rfl⟩ := hv; rfl)
  rw [e]
  simp only [List.length_map, List.take_zero, List.nil_append, Nat.zero_add]
  rw [show (madeCells #[Value.int .i64 0] xs.length).toList.drop xs.length = [] by apply List.drop_eq_nil_of_le; simp [size_madeCells], List.append_nil, setRow_alloc]
  rfl

end Go.Proofs.YtmcmjcaigipoaaaGreat

/-
  The same contracts, the world behind each call a variable of which it is told what it holds. Conditions: the memory is there (or is nil).
-/
namespace Go.Proofs.YtmcmjcaigipoaaaGreat
open Go.RowKit Go.Sept

theorem new_rel (w : World) (n : Int) :
    Calls Tryz.prog 21 #[.int .i64 n] w fun e w' => ∃ p q, e = .returned (.pointer (some ⟨p, 0, none⟩)) ∧ MemIs 130 w' p q (List.replicate (clampN n) 0) ∧ w.heap.size ≤ p ∧ w.heap.size ≤ q ∧ Only (fun _ => False) w w' := by
  refine (new_any w n).mono ?_
  rintro e w' ⟨rfl, rfl⟩
  exact ⟨_, _, rfl, newWorld_mem _ _ _, Nat.le_succ _, Nat.le_refl _, newWorld_only _ _ _ _⟩

theorem store_rel (w : World) (p q : Nat) (xs : List Int) (h : MemIs 130 w p q xs) (a : Nat) (h1 : a < xs.length) (x : Int) :
    Calls Tryz.prog 97 #[.pointer (some ⟨p, 0, none⟩), .int .i64 a, .int .i64 x] w fun e w' => e = .returned (.int .i64 0) ∧ MemIs 130 w' p q (xs.set a x) ∧ Only (· = q) w w' := by
  refine (store_yes w p q xs h a h1 x).mono ?_
  rintro e w' ⟨rfl, rfl⟩
  exact ⟨rfl, h.set _ _, (Only.refl (· = q) w).setCell (p := ⟨q, a, none⟩) (.inr rfl) _⟩

/-- A slice value that holds just the numbers xs, in the row b. -/
structure SliceIs (w : World) (v : Value) (b : Nat) (xs : List Int) : Prop where
  shape : (xs = [] ∧ v = .slice none 0 0) ∨ (v = .slice (some ⟨b, 0, none⟩) xs.length xs.length)
  row : xs = [] ∨ RowIs w b xs

theorem SliceIs.only {w w' : World} {v : Value} {b : Nat} {xs : List Int} {S : Nat → Prop} (h : SliceIs w v b xs) (ho : Only S w w') (hb : ¬ S b) : SliceIs w' v b xs :=
  ⟨h.shape, by
    rcases h.row with h | h
    · exact .inl h
    · exact .inr (h.only ho hb)⟩

theorem clamp_nat (k : Nat) (h : k ≤ 4000) : clampN (k : Int) = k := by unfold clampN; omega

end Go.Proofs.YtmcmjcaigipoaaaGreat

/-
  Load, Store, Add, Swap of the program's memory, told of every pointer and every address. Conditions: the pointer leads to a memory, or is nil.
-/
namespace Go.Proofs.YtmcmjcaigipoaaaGreat
open Go.RowKit Go.Sept

/-- Where an address is of a memory's words, the memory is there. -/
theorem holds_pos {tm : TypeId} {w : World} {v : Value} {p q : Nat} {xs : List Int} {n : Nat} (h : Holds tm w v p q xs) (hn : n < xs.length) : v = .pointer (some ⟨p, 0, none⟩) ∧ MemIs tm w p q xs := by
  rcases h with h | ⟨rfl, _⟩ | ⟨rfl, _⟩
  · exact h
  · simp at hn
  · simp at hn

theorem load_rel (w : World) (v : Value) (p q : Nat) (xs : List Int) (h : Holds 130 w v p q xs) (a : Int) :
    Calls Tryz.prog 118 #[v, .int .i64 a] w fun e w' => e = .returned (.tuple #[.int .i64 (valA xs a), .int .i64 (errA xs a)]) ∧ w' = w := by
  rcases okA_cases xs a with ⟨ho, hr⟩ | ⟨ho, n, rfl, hn⟩
  · simp only [valA, errA, ho]
    exact load_no w v _ ⟨p, q, xs, h, rfl⟩ a hr
  · obtain ⟨rfl, hm⟩ := holds_pos h hn
    simp only [valA, errA, ho, Int.toNat_natCast]
    exact load_yes w p q xs hm n hn

theorem sto_rel (w : World) (v : Value) (p q : Nat) (xs : List Int) (h : Holds 130 w v p q xs) (a x : Int) :
    Calls Tryz.prog 97 #[v, .int .i64 a, .int .i64 x] w fun e w' => e = .returned (.int .i64 (errA xs a)) ∧ Holds 130 w' v p q (setA xs a x) ∧ Only (· = q) w w' := by
  rcases okA_cases xs a with ⟨ho, hr⟩ | ⟨ho, n, rfl, hn⟩
  · refine (store_no w v _ ⟨p, q, xs, h, rfl⟩ a x hr).mono ?_
    rintro e w' ⟨rfl, rfl⟩
    simp only [setA, errA, ho]
    exact ⟨rfl, h, Only.refl _ _⟩
  · obtain ⟨rfl, hm⟩ := holds_pos h hn
    refine (store_rel w p q xs hm n hn x).mono ?_
    rintro e w' ⟨rfl, hm', ho'⟩
    simp only [setA, errA, ho, Int.toNat_natCast]
    exact ⟨rfl, .inl ⟨rfl, hm'⟩, ho'⟩

end Go.Proofs.YtmcmjcaigipoaaaGreat

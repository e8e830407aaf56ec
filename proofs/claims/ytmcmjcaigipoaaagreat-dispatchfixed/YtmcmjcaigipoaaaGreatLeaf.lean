/-
  What each access of the program's memory does: Len, has, Load, Store, Add, Swap. Conditions: the memory is there (or is nil).
-/
import Derived.Test.YtmcmjcaigipoaaaGreatRows
import Derived.Test.YtmcmjcaigipoaaaGreatMem
import Derived.ProofKit
import Derived.OpenShut
namespace Go.Proofs.YtmcmjcaigipoaaaGreat
open Go.RowKit Go.Sept

set_option maxHeartbeats 400000 in
theorem len_at (w : World) (p q : Nat) (xs : List Int) (h : MemIs 130 w p q xs) :
    Calls Tryz.prog 138 #[.pointer (some ⟨p, 0, none⟩)] w fun e w' => e = .returned (.int .i64 xs.length) ∧ w' = w := by
  have hc := h.cell
  go_enter Tryz.func138, Tryz.ntmps138
  go_wp2
  go_ret
  exact ⟨rfl, rfl⟩

set_option maxHeartbeats 400000 in
theorem len_nil (w : World) :
    Calls Tryz.prog 138 #[.pointer none] w fun e w' => e = .returned (.int .i64 0) ∧ w' = w := by
  go_enter Tryz.func138, Tryz.ntmps138
  go_wp2
  go_ret
  exact ⟨rfl, rfl⟩

set_option maxHeartbeats 400000 in
theorem len_bare (w : World) (p : Nat) (h : w.heap[p]? = some (.cells #[.slice none 0 0] 130)) :
    Calls Tryz.prog 138 #[.pointer (some ⟨p, 0, none⟩)] w fun e w' => e = .returned (.int .i64 0) ∧ w' = w := by
  have hc : w.cell? ⟨p, 0, none⟩ = some (.slice none 0 0) := cell_of_block h 0
  go_enter Tryz.func138, Tryz.ntmps138
  go_wp2
  go_ret
  exact ⟨rfl, rfl⟩

/-- What Len answers of a pointer. -/
def LenIs (tm : TypeId) (w : World) (v : Value) (n : Nat) : Prop := ∃ p q xs, Holds tm w v p q xs ∧ n = xs.length

theorem len_any (w : World) (v : Value) (n : Nat) (h : LenIs 130 w v n) :
    Calls Tryz.prog 138 #[v] w fun e w' => e = .returned (.int .i64 n) ∧ w' = w := by
  obtain ⟨p, q, xs, ⟨rfl, hm⟩ | ⟨rfl, rfl⟩ | ⟨rfl, rfl, hb⟩, rfl⟩ := h
  · exact len_at w p q xs hm
  · exact len_nil w
  · exact len_bare w p hb

theorem lenIs_of_mem {tm : TypeId} {w : World} {p q : Nat} {xs : List Int} (h : MemIs tm w p q xs) : LenIs tm w (.pointer (some ⟨p, 0, none⟩)) xs.length := ⟨p, q, xs, .inl ⟨rfl, h⟩, rfl⟩

set_option maxHeartbeats 400000 in
theorem has_yes (w : World) (v : Value) (n : Nat) (h : LenIs 130 w v n) (a : Int) (h0 : 0 ≤ a) (h1 : a < n) :
    Calls Tryz.prog 127 #[v, .int .i64 a] w fun e w' => e = .returned (.bool true) ∧ w' = w := by
  go_enter Tryz.func127, Tryz.ntmps127
  go_wp2_with (go_at_call 138; refine (len_any _ _ _ h).mono ?_; rintro e w' ⟨rfl, rfl⟩)
  go_ret
  exact ⟨rfl, rfl⟩

set_option maxHeartbeats 400000 in
theorem has_no (w : World) (v : Value) (n : Nat) (h : LenIs 130 w v n) (a : Int) (h0 : a < 0 ∨ n ≤ a) :
    Calls Tryz.prog 127 #[v, .int .i64 a] w fun e w' => e = .returned (.bool false) ∧ w' = w := by
  by_cases hn : 0 ≤ a
  · have h1 : ¬ a < n := by omega
    go_enter Tryz.func127, Tryz.ntmps127
    go_wp2_with (go_at_call 138; refine (len_any _ _ _ h).mono ?_; rintro e w' ⟨rfl, rfl⟩)
    go_ret
    exact ⟨by simp [h1], rfl⟩
  · go_enter Tryz.func127, Tryz.ntmps127
    go_wp2_with (go_at_call 138; refine (len_any _ _ _ h).mono ?_; rintro e w' ⟨rfl, rfl⟩)
    go_ret
    exact ⟨rfl, rfl⟩

set_option maxHeartbeats 400000 in
theorem load_no (w : World) (v : Value) (n : Nat) (h : LenIs 130 w v n) (a : Int) (h0 : a < 0 ∨ n ≤ a) :
    Calls Tryz.prog 118 #[v, .int .i64 a] w fun e w' => e = .returned (.tuple #[.int .i64 0, .int .i64 2]) ∧ w' = w := by
  go_enter Tryz.func118, Tryz.ntmps118
  go_wp2_with (go_at_call 127; refine (has_no _ _ _ h _ h0).mono ?_; rintro e w' ⟨rfl, rfl⟩)
  go_ret2
  exact ⟨rfl, rfl⟩

set_option maxHeartbeats 400000 in
theorem load_yes (w : World) (p q : Nat) (xs : List Int) (h : MemIs 130 w p q xs) (a : Nat) (h1 : a < xs.length) :
    Calls Tryz.prog 118 #[.pointer (some ⟨p, 0, none⟩), .int .i64 a] w fun e w' => e = .returned (.tuple #[.int .i64 (xs.getD a 0), .int .i64 0]) ∧ w' = w := by
  have hl : LenIs 130 w (.pointer (some ⟨p, 0, none⟩)) xs.length := lenIs_of_mem h
  have hc := h.cell
  have hw := h.row.cell a h1
  have h2 : (a : Int) < xs.length := by omega
  go_enter Tryz.func118, Tryz.ntmps118
  go_wp2_with (go_at_call 127; refine (has_yes _ _ _ hl _ (by omega) (by omega)).mono ?_; rintro e w' ⟨rfl, rfl⟩)
  go_ret2
  exact ⟨by simp [h1], rfl⟩

set_option maxHeartbeats 400000 in
theorem store_no (w : World) (v : Value) (n : Nat) (h : LenIs 130 w v n) (a x : Int) (h0 : a < 0 ∨ n ≤ a) :
    Calls Tryz.prog 97 #[v, .int .i64 a, .int .i64 x] w fun e w' => e = .returned (.int .i64 2) ∧ w' = w := by
  go_enter Tryz.func97, Tryz.ntmps97
  go_wp2_with (go_at_call 127; refine (has_no _ _ _ h _ h0).mono ?_; rintro e w' ⟨rfl, rfl⟩)
  go_ret
  exact ⟨rfl, rfl⟩

set_option maxHeartbeats 400000 in
theorem store_yes (w : World) (p q : Nat) (xs : List Int) (h : MemIs 130 w p q xs) (a : Nat) (h1 : a < xs.length) (x : Int) :
    Calls Tryz.prog 97 #[.pointer (some ⟨p, 0, none⟩), .int .i64 a, .int .i64 x] w fun e w' => e = .returned (.int .i64 0) ∧ w' = w.setCell ⟨q, a, none⟩ (.int .i64 x) := by
  have hl : LenIs 130 w (.pointer (some ⟨p, 0, none⟩)) xs.length := lenIs_of_mem h
  have hc := h.cell
  have hw := h.row.cell a h1
  have hf := h.row.frozen a
  have h2 : (a : Int) < xs.length := by omega
  go_enter Tryz.func97, Tryz.ntmps97
  go_wp2_with (go_at_call 127; refine (has_yes _ _ _ hl _ (by omega) (by omega)).mono ?_; rintro e w' ⟨rfl, rfl⟩)
  go_ret
  exact ⟨rfl, rfl⟩

end Go.Proofs.YtmcmjcaigipoaaaGreat

/-
  The plain mathematics of a value in words: what Write and Read do when they go on alone. Conditions: none; no program is named here.
-/
import Derived.Test.YtcafpdnbceoekaaSeq2
namespace Go.Sept
open Go.RowKit

/-- A memory: words ahead, the count, the value's words, words behind. -/
def valM (pre : List Int) (c : Int) (ws post : List Int) : List Int := pre ++ c :: (ws ++ post)
section
variable {pre ws post : List Int} {c : Int}
theorem valM_length : (valM pre c ws post).length = pre.length + 1 + ws.length + post.length := by simp [valM]; omega
theorem wrap64_nat {n : Nat} (h : n ≤ 9223372036854775807) : wrap64 (n : Int) = n := by unfold wrap64; omega
theorem wordA_nat {k j : Nat} (h : k + 1 + j ≤ 9223372036854775807) : wordA (k : Int) j = ((k + 1 + j : Nat) : Int) := by
  unfold wordA wrap64
  omega
theorem valA_nat {xs : List Int} {k : Nat} (h : k < xs.length) : valA xs (k : Int) = xs.getD k 0 := by
  rw [valA, okA, if_pos (by simp; omega)]
  simp
theorem setA_nat {xs : List Int} {k : Nat} (h : k < xs.length) (v : Int) : setA xs (k : Int) v = xs.set k v := by
  rw [setA, okA, if_pos (by simp; omega)]
  simp
theorem val_count : valA (valM pre c ws post) (pre.length : Int) = c := by
  rw [valA_nat (by rw [valM_length]; omega)]
  simp [valM]
theorem set_count (v : Int) : setA (valM pre c ws post) (pre.length : Int) v = valM pre v ws post := by
  rw [setA_nat (by rw [valM_length]; omega)]
  simp [valM]
theorem val_word {j : Nat} (hj : j < ws.length) (hs : pre.length + 1 + j ≤ 9223372036854775807) : valA (valM pre c ws post) (wordA (pre.length : Int) j) = ws.getD j 0 := by
  rw [wordA_nat hs, valA_nat (by rw [valM_length]; omega), valM, List.getD_eq_getElem?_getD, List.getElem?_append_right (by omega), show pre.length + 1 + j - pre.length = j + 1 by omega, List.getElem?_cons_succ, List.getElem?_append_left hj, List.getD_eq_getElem?_getD]
theorem set_word {j : Nat} (v : Int) (hj : j < ws.length) (hs : pre.length + 1 + j ≤ 9223372036854775807) : setA (valM pre c ws post) (wordA (pre.length : Int) j) v = valM pre c (ws.set j v) post := by
  rw [wordA_nat hs, setA_nat (by rw [valM_length]; omega), valM, List.set_append_right _ _ (by omega), show pre.length + 1 + j - pre.length = j + 1 by omega, List.set_cons_succ, List.set_append_left _ _ hj, valM]
end

theorem load_ans (a u : Int) (xs : List Int) : ansA 0 a u xs = valA xs a := rfl
theorem load_aft (a v u : Int) (xs : List Int) : aftA 0 a v u xs = xs := rfl
theorem store_ans (a u : Int) (xs : List Int) : ansA 1 a u xs = 0 := rfl
theorem store_aft (a v u : Int) (xs : List Int) : aftA 1 a v u xs = setA xs a v := rfl
/-- Part of a value is new. -/
def mixed (l old : List Int) (j : Nat) : List Int := l.take j ++ old.drop j
theorem mixed_length {l old : List Int} {j : Nat} (h : l.length = old.length) : (mixed l old j).length = old.length := by
  simp [mixed]; omega
theorem mixed_zero (l old : List Int) : mixed l old 0 = old := by simp [mixed]
theorem mixed_all {l old : List Int} (h : l.length = old.length) : mixed l old l.length = l := by
  unfold mixed
  rw [List.take_length, h, List.drop_length, List.append_nil]
theorem mixed_set {l old : List Int} {j : Nat} (h : l.length = old.length) (hj : j < l.length) : (mixed l old j).set j (l.getD j 0) = mixed l old (j + 1) := by
  unfold mixed
  have h1 : (l.take j).length = j := by simp; omega
  rw [List.set_append_right _ _ (by omega), h1, Nat.sub_self, List.drop_eq_getElem_cons (by omega), List.set_cons_zero, List.take_add_one, List.append_assoc, List.getElem?_eq_getElem hj, List.getD_eq_getElem?_getD, List.getElem?_eq_getElem hj]
  rfl

theorem stores_cons {α : Type} {d : Nat} (a : Int) (t : Tree α d) (v : Int) (r : List Int) (j : Nat) (xs : List Int) :
    (storesT a t (v :: r) j).alone xs = (((storesT a t r (j + 1)).alone (aftA 1 (wordA a j) v 0 xs)).1, ((storesT a t r (j + 1)).alone (aftA 1 (wordA a j) v 0 xs)).2.1, ((storesT a t r (j + 1)).alone (aftA 1 (wordA a j) v 0 xs)).2.2 + 1) := rfl
theorem loads_succ {α : Type} {d : Nat} (a : Int) (f : List Int → Tree α d) (m : Nat) (l xs : List Int) :
    (loadsT a f (m + 1) l).alone xs = (((loadsT a f m (l ++ [ansA 0 (wordA a l.length) 0 xs])).alone (aftA 0 (wordA a l.length) 0 0 xs)).1, ((loadsT a f m (l ++ [ansA 0 (wordA a l.length) 0 xs])).alone (aftA 0 (wordA a l.length) 0 0 xs)).2.1, ((loadsT a f m (l ++ [ansA 0 (wordA a l.length) 0 xs])).alone (aftA 0 (wordA a l.length) 0 0 xs)).2.2 + 1) := rfl
theorem alone_stores {α : Type} {d : Nat} (t : Tree α d) (pre post l old : List Int) (c : Int) (h : l.length = old.length) (hs : pre.length + 1 + l.length ≤ 9223372036854775807) (j : Nat) (hj : j ≤ l.length) :
    (storesT (pre.length : Int) t (l.drop j) j).alone (valM pre c (mixed l old j) post) = ((t.alone (valM pre c l post)).1, (t.alone (valM pre c l post)).2.1, (t.alone (valM pre c l post)).2.2 + (l.length - j)) := by
  obtain ⟨k, hk⟩ : ∃ k, k = l.length - j := ⟨_, rfl⟩
  induction k generalizing j with
  | zero =>
    obtain rfl : j = l.length := by omega
    rw [List.drop_length, mixed_all h, Nat.sub_self]
    rfl
  | succ k ih =>
    have hjl : j < l.length := by omega
    have e1 : l.drop j = l.getD j 0 :: l.drop (j + 1) := by
      rw [List.drop_eq_getElem_cons hjl, List.getD_eq_getElem?_getD, List.getElem?_eq_getElem hjl]
      rfl
    rw [e1, stores_cons]
    have e2 : aftA 1 (wordA (pre.length : Int) j) (l.getD j 0) 0 (valM pre c (mixed l old j) post) = valM pre c (mixed l old (j + 1)) post := by
      rw [store_aft, set_word _ (by rw [mixed_length h]; omega) (by omega), mixed_set h hjl]
    rw [e2, ih (j + 1) (by omega) (by omega)]
    refine Prod.ext rfl (Prod.ext rfl ?_)
    show _ + _ + 1 = _ + _
    omega

/-- A Write that goes on alone. -/
theorem alone_write (pre post l old : List Int) (c : Int) (h : l.length = old.length) (h0 : 0 < l.length) (h16 : l.length ≤ 16) (hs : pre.length ≤ 1000000) :
    (writeT (pre.length : Int) l).alone (valM pre c old post) = ((), valM pre (wrap64 (c + 2)) l post, l.length + 3) := by
  rw [writeT, if_neg (by omega), Tree.alone_acc, Tree.alone_acc]
  have e1 : ansA 0 (pre.length : Int) 0 (valM pre c old post) = c := val_count
  have e2 : aftA 0 (pre.length : Int) 0 0 (valM pre c old post) = valM pre c old post := rfl
  rw [e1, e2]
  have e3 : aftA 1 (pre.length : Int) (wrap64 (c + 1)) 0 (valM pre c old post) = valM pre (wrap64 (c + 1)) old post := set_count _
  rw [e3]
  have e4 := alone_stores (.acc 1 (pre.length : Int) (wrap64 (c + 2)) 0 fun _ => .ret () : Tree Unit 1) pre post l old (wrap64 (c + 1)) h (by omega) 0 (Nat.zero_le _)
  rw [mixed_zero, List.drop_zero] at e4
  rw [e4, Tree.alone_acc, Tree.alone_ret]
  have e5 : aftA 1 (pre.length : Int) (wrap64 (c + 2)) 0 (valM pre (wrap64 (c + 1)) l post) = valM pre (wrap64 (c + 2)) l post := set_count _
  rw [e5]
  refine Prod.ext rfl (Prod.ext rfl ?_)
  show 0 + 1 + (l.length - 0) + 1 + 1 = l.length + 3
  omega

theorem alone_loads {α : Type} {d : Nat} (f : List Int → Tree α d) (pre post ws : List Int) (c : Int) (hs : pre.length + 1 + ws.length ≤ 9223372036854775807) (l : List Int) (m : Nat) (hm : l.length + m = ws.length) (hl : l = ws.take l.length) :
    (loadsT (pre.length : Int) f m l).alone (valM pre c ws post) = (((f ws).alone (valM pre c ws post)).1, ((f ws).alone (valM pre c ws post)).2.1, ((f ws).alone (valM pre c ws post)).2.2 + m) := by
  induction m generalizing l with
  | zero =>
    obtain rfl : l = ws := by rw [hl, List.take_of_length_le (by omega)]
    rfl
  | succ m ih =>
    rw [loads_succ]
    have e1 : ansA 0 (wordA (pre.length : Int) l.length) 0 (valM pre c ws post) = ws.getD l.length 0 := by rw [load_ans, val_word (by omega) (by omega)]
    have e2 : aftA 0 (wordA (pre.length : Int) l.length) 0 0 (valM pre c ws post) = valM pre c ws post := load_aft _ _ _ _
    rw [e1, e2, ih (l ++ [ws.getD l.length 0]) (by rw [List.length_append]; simp; omega) (by
      rw [List.length_append, List.length_singleton, List.take_add_one, ← hl, List.getElem?_eq_getElem (by omega), List.getD_eq_getElem?_getD, List.getElem?_eq_getElem (by omega)]
      rfl)]
    refine Prod.ext rfl (Prod.ext rfl ?_)
    show _ + m + 1 = _ + (m + 1)
    omega

/-- A Read that goes on alone, of a value that nobody writes. -/
theorem alone_read (pre post ws : List Int) (c : Int) (m : Nat) (hc : oddB c = false) (h0 : 0 < ws.length) (h16 : ws.length ≤ 16) (hs : pre.length ≤ 1000000) :
    (readT (pre.length : Int) ws.length (m + 1)).alone (valM pre c ws post) = (some ws, valM pre c ws post, ws.length + 2) := by
  rw [readT, if_neg (by omega)]
  have e0 : (turnsT (pre.length : Int) ws.length (m + 1)).alone (valM pre c ws post) = ((oneT (pre.length : Int) ws.length).bind fun r => match r with
    | some l => .ret (some l)
    | none => turnsT (pre.length : Int) ws.length m).alone (valM pre c ws post) := rfl
  rw [e0]
  have e1 : (oneT (pre.length : Int) ws.length).alone (valM pre c ws post) = (some ws, valM pre c ws post, ws.length + 2) := by
    rw [oneT, Tree.alone_acc]
    have a1 : ansA 0 (pre.length : Int) 0 (valM pre c ws post) = c := val_count
    have a2 : aftA 0 (pre.length : Int) 0 0 (valM pre c ws post) = valM pre c ws post := rfl
    rw [a1, a2, wordsT, if_neg (by rw [hc]; decide), alone_loads (lastT (pre.length : Int) c) pre post ws c (by omega) [] ws.length (Nat.zero_add _) rfl, lastT, Tree.alone_acc, a1, a2, Tree.alone_off, Tree.alone_ret]
    refine Prod.ext ?_ (Prod.ext rfl ?_)
    · show (if (!false && (c == c)) = true then some ws else none) = some ws
      rw [if_pos (by simp)]
    · show 0 + 1 + ws.length + 1 = ws.length + 2
      omega
  have e2 := Tree.alone_then (g := fun r => match r with
    | some l => .ret (some l)
    | none => turnsT (pre.length : Int) ws.length m) e1 (Tree.alone_ret (some ws) _)
  exact e2
theorem alone_read_none (a : Int) (n m : Nat) (xs : List Int) (hn : n = 0 ∨ 16 < n) : (readT a n m).alone xs = (none, xs, 0) := by rw [readT, if_pos hn, Tree.alone_ret]
theorem alone_write_none (a : Int) (l xs : List Int) (hn : l.length = 0 ∨ 16 < l.length) : (writeT a l).alone xs = ((), xs, 0) := by rw [writeT, if_pos hn, Tree.alone_ret]
end Go.Sept

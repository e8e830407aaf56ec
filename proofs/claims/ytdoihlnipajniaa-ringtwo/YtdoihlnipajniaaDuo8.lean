/-
  One that puts and one that gets, in frames of their own over one memory: what a step of either leaves. Conditions: all of it lies in blocks that are not the same.
-/
import Derived.Test.YtdoihlnipajniaaAwake8
import Derived.Test.YtdoihlnipajniaaMath8b
import Derived.Test.YtdoihlnipajniaaCut8
import Derived.Test.YtdoihlnipajniaaSame
namespace Go.Sept
open Go.RowKit
/-- No number of the one list is in the other. -/
def Sep (A B : List Nat) : Prop := ∀ x ∈ A, ∀ y ∈ B, x ≠ y
theorem Sep.next {A A' B : List Nat} {n : Nat} (h : Sep A B) (hA : ∀ x ∈ A', x ∈ A ∨ n ≤ x) (hB : ∀ y ∈ B, y < n) : Sep A' B := by
  intro x hx y hy
  rcases hA x hx with h1 | h1
  · exact h x h1 y hy
  · have := hB y hy
    omega
theorem Sep.symm {A B : List Nat} (h : Sep A B) : Sep B A := fun x hx y hy e => h y hy x hx e.symm
def From (n : Nat) (A : List Nat) : Prop := ∀ x ∈ A, n ≤ x
theorem From.next {A A' : List Nat} {n m : Nat} (h : From n A) (hA : ∀ x ∈ A', x ∈ A ∨ m ≤ x) (hn : n ≤ m) : From n A' := by
  intro x hx
  rcases hA x hx with h1 | h1
  · exact h x h1
  · omega
theorem three_next {F L U L' n : Nat} (h : L' = L ∨ n ≤ L') : ∀ x ∈ [F, L', U], x ∈ [F, L, U] ∨ n ≤ x := by
  intro x hx
  rcases List.mem_cons.1 hx with rfl | hx
  · exact .inl (by simp)
  · rcases List.mem_cons.1 hx with rfl | hx
    · rcases h with rfl | h
      · exact .inl (by simp)
      · exact .inr h
    · obtain rfl : x = U := by simpa using hx
      exact .inl (by simp)
theorem three_new {F L U n : Nat} {A : List Nat} (h1 : n ≤ F) (h2 : n ≤ L) (h3 : n ≤ U) : ∀ x ∈ [F, L, U], x ∈ A ∨ n ≤ x := by
  intro x hx
  rcases List.mem_cons.1 hx with rfl | hx
  · exact .inr h1
  · rcases List.mem_cons.1 hx with rfl | hx
    · exact .inr h2
    · obtain rfl : x = U := by simpa using hx
      exact .inr h3
theorem CutIs.keep {w w' : World} {v : Value} {b : Nat} {xs : List Int} {S : Nat → Prop} (h : CutIs w v b xs) (ho : Only S w w') (hb : v ≠ .slice none 0 0 → ¬ S b) : CutIs w' v b xs := by
  rcases h with h | ⟨off, cap, cur, h1, h2, h3⟩
  · exact .inl h
  · exact .inr ⟨off, cap, cur, h1, (ho.block b (lt_of_block h2) (hb (by rw [h1]; intro e; injection e with e; cases e))).trans h2, h3⟩
theorem CutIs.low {w : World} {v : Value} {b : Nat} {xs : List Int} (h : CutIs w v b xs) (hv : v ≠ .slice none 0 0) : b < w.heap.size := by
  rcases h with h | ⟨off, cap, cur, h1, h2, h3⟩
  · exact absurd h.1 hv
  · exact lt_of_block h2
theorem CutIs.spot {w : World} {v : Value} {b : Nat} {xs : List Int} (h : CutIs w v b xs) : ∃ b', CutIs w v b' xs ∧ (b' = b ∧ v ≠ .slice none 0 0 ∨ b' = w.heap.size) := by
  rcases h with h | ⟨off, cap, cur, h1, h2, h3⟩
  · exact ⟨_, .inl h, .inr rfl⟩
  · exact ⟨b, .inr ⟨off, cap, cur, h1, h2, h3⟩, .inl ⟨rfl, by rw [h1]; intro e; injection e with e; cases e⟩⟩
theorem CutIs.sees {w : World} {ao : Option Addr} {n cap b : Nat} {xs : List Int} (h : CutIs w (.slice ao n cap) b xs) : Sees w ao xs b := by
  rcases h with ⟨h1, rfl⟩ | ⟨off, cap, cur, h1, h2, h3, h4, h5, h6⟩
  · exact .inl rfl
  · injection h1 with h1 h7 h8
    refine .inr ⟨off, h1, fun i hi => ?_⟩
    rw [cell_of_block h2]
    exact h6 i hi
end Go.Sept

namespace Go.Proofs.Ytdoihlnipajniaa
open Go.RowKit Go.Sept

abbrev putK (U : Nat) (c v : Int) : Kept Bool := cellK U (fun o => act8O 0 c v 0 o 0)
abbrev getK (U : Nat) (c : Int) : Kept (Int × Bool) := cellK U (fun x => act8O 1 c 0 x.1 x.2 0)
abbrev body8V (U : Nat) : Value := bodyV 11 (ptrV U)

/-- One that puts, whose accesses have answered l. -/
def PutAt (wx : World) (c p q F L U : Nat) (xs l : List Int) : Prop :=
  ∃ s v, Near (putK U c v) wx F L p q s xs ∧ s.done = false ∧ s.underway = false ∧ s.mp = some ⟨p, 0, none⟩ ∧ s.answers = l
/-- One that gets. -/
def GetAt (wx : World) (c p q F L U : Nat) (xs l : List Int) : Prop :=
  ∃ s, Near (getK U c) wx F L p q s xs ∧ s.done = false ∧ s.underway = false ∧ s.mp = some ⟨p, 0, none⟩ ∧ s.answers = l

section
variable {w wx w' : World} {c p q F L U : Nat} {xs ys l : List Int} {S : Nat → Prop}
theorem PutAt.mem (h : PutAt wx c p q F L U xs l) (ho : Only S wx w') (hm : MemIs 49 w' p q ys) (hS : ∀ k ∈ [F, L, U], ¬ S k) : PutAt w' c p q F L U ys l := by
  obtain ⟨s, v, h1, h2, h3, h4, h5⟩ := h
  exact ⟨s, v, h1.mem ho (by rw [h4]; exact .inl ⟨rfl, hm⟩) (hS F (by simp)) (hS L (by simp)) (fun k hk => by obtain rfl : k = U := hk; exact hS k (by simp)), h2, h3, h4, h5⟩
theorem GetAt.mem (h : GetAt wx c p q F L U xs l) (ho : Only S wx w') (hm : MemIs 49 w' p q ys) (hS : ∀ k ∈ [F, L, U], ¬ S k) : GetAt w' c p q F L U ys l := by
  obtain ⟨s, h1, h2, h3, h4, h5⟩ := h
  exact ⟨s, h1.mem ho (by rw [h4]; exact .inl ⟨rfl, hm⟩) (hS F (by simp)) (hS L (by simp)) (fun k hk => by obtain rfl : k = U := hk; exact hS k (by simp)), h2, h3, h4, h5⟩
theorem PutAt.lt (h : PutAt wx c p q F L U xs l) : ∀ k ∈ [F, L, U], k < wx.heap.size := by
  obtain ⟨s, v, h1, _⟩ := h
  intro k hk
  rcases List.mem_cons.1 hk with rfl | hk
  · exact h1.fm.frame.lt
  · rcases List.mem_cons.1 hk with rfl | hk
    · exact h1.fm.ll
    · obtain rfl : k = U := by simpa using hk
      exact (putK k c v).low _ _ h1.pre rfl
theorem GetAt.lt (h : GetAt wx c p q F L U xs l) : ∀ k ∈ [F, L, U], k < wx.heap.size := by
  obtain ⟨s, h1, _⟩ := h
  intro k hk
  rcases List.mem_cons.1 hk with rfl | hk
  · exact h1.fm.frame.lt
  · rcases List.mem_cons.1 hk with rfl | hk
    · exact h1.fm.ll
    · obtain rfl : k = U := by simpa using hk
      exact (getK k c).low _ _ h1.pre rfl
theorem PutAt.off (h : PutAt wx c p q F L U xs l) : ∀ k ∈ [F, L, U], k ≠ q ∧ k ≠ p := by
  obtain ⟨s, v, h1, _⟩ := h
  intro k hk
  rcases List.mem_cons.1 hk with rfl | hk
  · exact ⟨h1.fm.n2, h1.fm.n1⟩
  · rcases List.mem_cons.1 hk with rfl | hk
    · exact ⟨h1.fm.n4, h1.fm.n3⟩
    · obtain rfl : k = U := by simpa using hk
      have h9 := h1.apart k rfl
      exact ⟨h9.2.2.2, h9.2.2.1⟩
theorem GetAt.off (h : GetAt wx c p q F L U xs l) : ∀ k ∈ [F, L, U], k ≠ q ∧ k ≠ p := by
  obtain ⟨s, h1, _⟩ := h
  intro k hk
  rcases List.mem_cons.1 hk with rfl | hk
  · exact ⟨h1.fm.n2, h1.fm.n1⟩
  · rcases List.mem_cons.1 hk with rfl | hk
    · exact ⟨h1.fm.n4, h1.fm.n3⟩
    · obtain rfl : k = U := by simpa using hk
      have h9 := h1.apart k rfl
      exact ⟨h9.2.2.2, h9.2.2.1⟩
theorem PutAt.holds (h : PutAt wx c p q F L U xs l) (hx : 0 < xs.length) : MemIs 49 wx p q xs := by
  obtain ⟨s, v, h1, _, _, h4, _⟩ := h
  have := h1.fm.mem
  rw [h4] at this
  exact holds_mem this hx
theorem GetAt.holds (h : GetAt wx c p q F L U xs l) (hx : 0 < xs.length) : MemIs 49 wx p q xs := by
  obtain ⟨s, h1, _, _, h4, _⟩ := h
  have := h1.fm.mem
  rw [h4] at this
  exact holds_mem this hx
/-- A new one. -/
theorem PutAt.new {v : Int} (hm : MemIs 49 wx p q xs) (hf : FrameIs wx F F (fresh (some ⟨p, 0, none⟩))) (hU : wx.heap[U]? = some (act8O 0 c v 0 false 0)) (n1 : F ≠ p) (n2 : F ≠ q) (n3 : U ≠ F) (n4 : U ≠ p) (n5 : U ≠ q) : PutAt wx c p q F F U xs [] :=
  ⟨_, v, ⟨⟨hf, .inl ⟨rfl, hm⟩, lt_of_block hm.head, hm.row.lt, hf.lt, n1, n2, n1, n2⟩, ⟨false, hU⟩, fun k hk => by obtain rfl : k = U := hk; exact ⟨n3, n3, n4, n5⟩⟩, rfl, rfl, rfl, rfl⟩
theorem GetAt.new (hm : MemIs 49 wx p q xs) (hf : FrameIs wx F F (fresh (some ⟨p, 0, none⟩))) (hU : wx.heap[U]? = some (act8O 1 c 0 0 false 0)) (n1 : F ≠ p) (n2 : F ≠ q) (n3 : U ≠ F) (n4 : U ≠ p) (n5 : U ≠ q) : GetAt wx c p q F F U xs [] :=
  ⟨_, ⟨⟨hf, .inl ⟨rfl, hm⟩, lt_of_block hm.head, hm.row.lt, hf.lt, n1, n2, n1, n2⟩, ⟨(0, false), hU⟩, fun k hk => by obtain rfl : k = U := hk; exact ⟨n3, n3, n4, n5⟩⟩, rfl, rfl, rfl, rfl⟩

/-- A step of the one that puts, with the word v. -/
theorem put_go (h : PutAt wx c p q F L U xs l) (v now : Int) (hc1 : 1 ≤ c) (hc : c ≤ 16) (hx : 0 < xs.length) (hl : l.length ≤ 3) {A : AccS Bool} (hA : (putT 3 c v).after l = some (Sum.inr A)) :
    Calls Try.prog 13 #[.pointer (some ⟨F, 0, none⟩), .int .i64 now, body8V U] (wx.setCell ⟨U, 2, none⟩ (.int .i64 v)) fun e w' => ∃ L' T', (putT 3 c v).after (l ++ [ansA A.k A.a A.u xs]) = some T' ∧ e = .returned (.bool (!(Tree.hmore T'))) ∧ (L' = L ∨ wx.heap.size ≤ L') ∧
      Only (fun k => k ∈ [F, L, U] ∨ k = q) wx w' ∧ w'.heap[U]? = some (act8O 0 c v 0 (Tree.hval T') 0) ∧ MemIs 49 w' p q (aftA A.k A.a A.v A.u xs) ∧ (Tree.hmore T' = true → PutAt w' c p q F L' U (aftA A.k A.a A.v A.u xs) (l ++ [ansA A.k A.a A.u xs])) := by
  obtain ⟨s, v0, h1, h2, h3, h4, h5⟩ := h
  have ho : Only (fun k => k = U) wx (wx.setCell ⟨U, 2, none⟩ (.int .i64 v)) := (Only.self U wx).own 2 _
  obtain ⟨o, hU⟩ := h1.pre
  have hap := h1.apart U rfl
  have hN : Near (putK U c v) (wx.setCell ⟨U, 2, none⟩ (.int .i64 v)) F L p q s xs :=
    ⟨h1.fm.only ho (fun e => hap.1 e.symm) (fun e => hap.2.1 e.symm) (fun e => hap.2.2.1 e.symm) (fun e => hap.2.2.2 e.symm), ⟨o, block_setCell hU 2 _⟩, h1.apart⟩
  have hlen : s.log.length = l.length := by rw [← h5, FrSt.answers, List.length_map]
  refine ((act8_put U c v _ (by decide) (put_does 3 c v (by omega) (by omega))).step _ F L p q s xs now hN h2 h3 (by omega) (by rw [h5]; exact hA)).mono ?_
  rintro e w' ⟨s', T', rfl, ⟨L', hn', hL, hO, hP⟩, g1, g2, g3, g4, g5, g6⟩
  have ha : s'.answers = l ++ [ansA A.k A.a A.u xs] := by rw [answers_snoc g1, h5]
  have hz : (wx.setCell ⟨U, 2, none⟩ (.int .i64 v)).heap.size = wx.heap.size := by simp
  refine ⟨L', T', by rw [← ha]; exact g5, rfl, by rw [← hz]; exact hL, ?_, hP, ?_, fun hm => ⟨s', v, hn', by rw [g4, hm]; rfl, g3, g2.trans h4, ha⟩⟩
  · refine (ho.mono (T := fun k => k ∈ [F, L, U] ∨ k = q) (fun k _ e => .inl (by rw [show k = U from e]; simp))).chain hO (fun k _ e => ?_)
    rcases e with rfl | rfl | rfl | e
    · exact .inl (by simp)
    · exact .inl (by simp)
    · exact .inr rfl
    · exact .inl (by rw [show k = U from e]; simp)
  · have h9 := hn'.fm.mem
    rw [g2.trans h4] at h9
    exact holds_mem h9 (by rw [length_aftA]; exact hx)
/-- A step of the one that gets. -/
theorem get_go (h : GetAt wx c p q F L U xs l) (now : Int) (hc1 : 1 ≤ c) (hc : c ≤ 16) (hx : 0 < xs.length) (hl : l.length ≤ 3) {A : AccS (Int × Bool)} (hA : (getT 3 c).after l = some (Sum.inr A)) :
    Calls Try.prog 13 #[.pointer (some ⟨F, 0, none⟩), .int .i64 now, body8V U] wx fun e w' => ∃ L' T', (getT 3 c).after (l ++ [ansA A.k A.a A.u xs]) = some T' ∧ e = .returned (.bool (!(Tree.hmore T'))) ∧ (L' = L ∨ wx.heap.size ≤ L') ∧
      Only (fun k => k ∈ [F, L, U] ∨ k = q) wx w' ∧ w'.heap[U]? = some (act8O 1 c 0 (Tree.hval T').1 (Tree.hval T').2 0) ∧ MemIs 49 w' p q (aftA A.k A.a A.v A.u xs) ∧ (Tree.hmore T' = true → GetAt w' c p q F L' U (aftA A.k A.a A.v A.u xs) (l ++ [ansA A.k A.a A.u xs])) := by
  obtain ⟨s, h1, h2, h3, h4, h5⟩ := h
  have hlen : s.log.length = l.length := by rw [← h5, FrSt.answers, List.length_map]
  refine ((act8_get U c 0 _ (by decide) (get_does 3 c (by omega) (by omega))).step _ F L p q s xs now h1 h2 h3 (by omega) (by rw [h5]; exact hA)).mono ?_
  rintro e w' ⟨s', T', rfl, ⟨L', hn', hL, hO, hP⟩, g1, g2, g3, g4, g5, g6⟩
  have ha : s'.answers = l ++ [ansA A.k A.a A.u xs] := by rw [answers_snoc g1, h5]
  refine ⟨L', T', by rw [← ha]; exact g5, rfl, hL, ?_, hP, ?_, fun hm => ⟨s', hn', by rw [g4, hm]; rfl, g3, g2.trans h4, ha⟩⟩
  · refine hO.mono (fun k _ e => ?_)
    rcases e with rfl | rfl | rfl | e
    · exact .inl (by simp)
    · exact .inl (by simp)
    · exact .inr rfl
    · exact .inl (by rw [show k = U from e]; simp)
  · have h9 := hn'.fm.mem
    rw [g2.trans h4] at h9
    exact holds_mem h9 (by rw [length_aftA]; exact hx)
end
end Go.Proofs.Ytdoihlnipajniaa

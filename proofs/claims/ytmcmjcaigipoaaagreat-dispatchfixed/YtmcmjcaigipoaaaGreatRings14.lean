/-
  Rings of nodes in words, linked both ways, as plain mathematics: what an append, a prepend and a remove leave. Conditions: the nodes' words are apart.
-/
import Derived.Test.YtmcmjcaigipoaaaGreatMath12d
import Derived.Test.YtmcmjcaigipoaaaGreatQueue6a
import Derived.Test.YtmcmjcaigipoaaaGreatMath13
namespace Go.Sept
open Go.RowKit

/-- From a by the nodes of L, each told by the one ahead of it, and telling it. -/
def Inner (xs : List Int) : Int → List Int → Prop
  | _, [] => True
  | a, x :: r => valA xs a = x ∧ valA xs (x + 1) = a ∧ Inner xs x r
/-- A head and its nodes, linked both ways. -/
structure Ring14 (xs : List Int) (h : Int) (L : List Int) : Prop where
  inn : Inner xs h L
  fwd : valA xs (lastOf h L) = h
  bwd : valA xs (h + 1) = lastOf h L
/-- Places of two words each, that share none. -/
def Spread (S : Int → Prop) : Prop := ∀ a b, S a → S b → a = b ∨ a + 1 < b ∨ b + 1 < a

theorem lastOf_cut : ∀ (A : List Int) (a x : Int) (B : List Int), lastOf a (A ++ x :: B) = lastOf x B
  | [], _, _, _ => rfl
  | y :: r, _, x, B => lastOf_cut r y x B
theorem inner_cut {xs : List Int} : ∀ (A : List Int) (a x : Int) (B : List Int), Inner xs a (A ++ x :: B) ↔ Inner xs a A ∧ valA xs (lastOf a A) = x ∧ valA xs (x + 1) = lastOf a A ∧ Inner xs x B
  | [], a, x, B => ⟨fun h => ⟨trivial, h⟩, fun h => h.2⟩
  | y :: r, a, x, B => by
    rw [List.cons_append, Inner, Inner, inner_cut r y x B, lastOf]
    constructor
    · rintro ⟨h1, h2, h3, h4⟩
      exact ⟨⟨h1, h2, h3⟩, h4⟩
    · rintro ⟨⟨h1, h2, h3⟩, h4⟩
      exact ⟨h1, h2, h3, h4⟩
theorem inner_keep {xs ys : List Int} : ∀ (L : List Int) (a : Int), Inner xs a L → (a :: L).Nodup → (∀ c, c = a ∨ c ∈ L → c ≠ lastOf a L → valA ys c = valA xs c) → (∀ c ∈ L, valA ys (c + 1) = valA xs (c + 1)) → Inner ys a L
  | [], _, _, _, _, _ => trivial
  | x :: r, a, h, hn, h1, h2 => by
    have hn2 := List.nodup_cons.1 hn
    refine ⟨(h1 a (.inl rfl) fun e => hn2.1 ?_).trans h.1, (h2 x (List.mem_cons_self ..)).trans h.2.1, inner_keep r x h.2.2 hn2.2 (fun c hc hl => h1 c (.inr ?_) hl) (fun c hc => h2 c (List.mem_cons_of_mem _ hc))⟩
    · rw [e, lastOf]
      rcases lastOf_mem r x with h9 | h9
      · rw [h9]; exact List.mem_cons_self ..
      · exact List.mem_cons_of_mem _ h9
    · rcases hc with rfl | hc
      · exact List.mem_cons_self ..
      · exact List.mem_cons_of_mem _ hc
theorem inner_chn {xs : List Int} : ∀ (L : List Int) (a z : Int), Inner xs a L → valA xs (lastOf a L) = z → NodeCh xs a L z
  | [], _, _, _, h => h
  | x :: r, _, z, h, hz => ⟨h.1, inner_chn r x z h.2.2 hz⟩
theorem Ring14.chn {xs : List Int} {h : Int} {L : List Int} (hr : Ring14 xs h L) : NodeCh xs h L h := inner_chn L h h hr.inn hr.fwd

theorem up1 {S : Int → Prop} {c : Int} (h : S c) : S (c + 1 - 1) := by rwa [Int.add_sub_cancel]
theorem last_in (h : Int) (L : List Int) : lastOf h L = h ∨ lastOf h L ∈ L := lastOf_mem L h

section
variable {xs ys : List Int} {h n : Int} {L : List Int} {S : Int → Prop}
theorem Ring14.keep (hr : Ring14 xs h L) (h1 : ∀ c, c = h ∨ c ∈ L → valA ys c = valA xs c ∧ valA ys (c + 1) = valA xs (c + 1)) (hn : (h :: L).Nodup) : Ring14 ys h L := by
  refine ⟨inner_keep L h hr.inn hn (fun c hc _ => (h1 c hc).1) (fun c hc => (h1 c (.inr hc)).2), ?_, ?_⟩
  · rw [(h1 _ (last_in h L)).1]
    exact hr.fwd
  · rw [(h1 h (.inl rfl)).2]
    exact hr.bwd

theorem Ring14.append (hr : Ring14 xs h L) (hS : Spread S) (sh : S h) (sL : ∀ a ∈ L, S a) (sn : S n) (hn : (h :: L).Nodup) (nh : n ≠ h) (nL : n ∉ L)
    (e1 : valA ys (lastOf h L) = n) (e2 : valA ys (n + 1) = lastOf h L) (e3 : valA ys n = h) (e4 : valA ys (h + 1) = n) (e5 : ∀ c, S c ∨ S (c - 1) → c ≠ lastOf h L → c ≠ n + 1 → c ≠ n → c ≠ h + 1 → valA ys c = valA xs c) : Ring14 ys h (L ++ [n]) := by
  have hl : S (lastOf h L) := by
    rcases last_in h L with e | e
    · rw [e]; exact sh
    · exact sL _ e
  have hsc : ∀ c, c = h ∨ c ∈ L → S c := fun c hc => hc.elim (fun e => e ▸ sh) (sL c)
  have hne : ∀ c, c = h ∨ c ∈ L → c ≠ n := fun c hc e => hc.elim (fun e2 => nh (e.symm.trans e2)) (fun e2 => nL (e ▸ e2))
  refine ⟨(inner_cut L h n []).2 ⟨inner_keep L h hr.inn hn (fun c hc hcl => e5 c (.inl (hsc c hc)) hcl ?_ (hne c hc) ?_) (fun c hc => e5 (c + 1) (.inr (up1 (sL c hc))) ?_ ?_ ?_ ?_), e1, e2, trivial⟩, ?_, ?_⟩
  · have := hS c n (hsc c hc) sn; omega
  · have := hS c h (hsc c hc) sh; omega
  · have := hS c _ (sL c hc) hl; omega
  · have := hne c (.inr hc); omega
  · have := hS c n (sL c hc) sn; omega
  · intro e
    have e' : c = h := by omega
    exact (List.nodup_cons.1 hn).1 (e' ▸ hc)
  · rw [lastOf_snoc]
    exact e3
  · rw [lastOf_snoc]
    exact e4

theorem Ring14.first (hr : Ring14 xs h L) : valA xs h = L.headD h := by
  cases L with
  | nil => exact hr.fwd
  | cons x r => exact hr.inn.1

theorem Ring14.prepend (hr : Ring14 xs h L) (hS : Spread S) (sh : S h) (sL : ∀ a ∈ L, S a) (sn : S n) (hn : (h :: L).Nodup) (nh : n ≠ h) (nL : n ∉ L)
    (e1 : valA ys h = n) (e2 : valA ys (n + 1) = h) (e3 : valA ys n = L.headD h) (e4 : valA ys (L.headD h + 1) = n) (e5 : ∀ c, S c ∨ S (c - 1) → c ≠ h → c ≠ n + 1 → c ≠ n → c ≠ L.headD h + 1 → valA ys c = valA xs c) : Ring14 ys h (n :: L) := by
  cases L with
  | nil => exact ⟨⟨e1, e2, trivial⟩, e3, e4⟩
  | cons x r =>
    simp only [List.headD_cons] at e3 e4 e5
    have hn2 := List.nodup_cons.1 hn
    have hn3 := List.nodup_cons.1 hn2.2
    have sx := sL x (List.mem_cons_self ..)
    have sr : ∀ c, c ∈ x :: r → S c := sL
    have hcn : ∀ c, c ∈ x :: r → c ≠ n := fun c hc e => nL (e ▸ hc)
    have hch : ∀ c, c ∈ x :: r → c ≠ h := fun c hc e => hn2.1 (e ▸ hc)
    have h1 := hS n h sn sh
    have h2 := hS n x sn sx
    have h3 := hS h x sh sx
    have hx1 := hcn x (List.mem_cons_self ..)
    have hx2 := hch x (List.mem_cons_self ..)
    have hst : ∀ c, c ∈ x :: r → valA ys c = valA xs c := fun c hc => by
      have a1 := hS c n (sr c hc) sn
      have a2 := hS c x (sr c hc) sx
      exact e5 c (.inl (sr c hc)) (hch c hc) (by omega) (hcn c hc) (by omega)
    refine ⟨⟨e1, e2, e3, e4, inner_keep r x hr.inn.2.2 hn2.2 (fun c hc _ => hst c ?_) (fun c hc => ?_)⟩, ?_, ?_⟩
    · rcases hc with rfl | hc
      · exact List.mem_cons_self ..
      · exact List.mem_cons_of_mem _ hc
    · have hc' := List.mem_cons_of_mem x hc
      have a1 := hS c n (sr c hc') sn
      have a2 := hS c h (sr c hc') sh
      have a3 := hcn c hc'
      have a4 : c ≠ x := fun e => hn3.1 (e ▸ hc)
      exact e5 (c + 1) (.inr (up1 (sr c hc'))) (by omega) (by omega) (by omega) (by omega)
    · show valA ys (lastOf x r) = h
      have hm : lastOf x r ∈ x :: r := by
        rcases last_in x r with e | e
        · rw [e]; exact List.mem_cons_self ..
        · exact List.mem_cons_of_mem _ e
      rw [hst _ hm]
      exact hr.fwd
    · show valA ys (h + 1) = lastOf x r
      rw [e5 (h + 1) (.inr (up1 sh)) (by omega) (by omega) (by omega) (by omega)]
      exact hr.bwd

/-- What stands in the midst of a ring. -/
theorem Ring14.at {A B : List Int} (hr : Ring14 xs h (A ++ n :: B)) : valA xs n = B.headD h ∧ valA xs (n + 1) = lastOf h A := by
  obtain ⟨h1, h2, h3, h4⟩ := (inner_cut A h n B).1 hr.inn
  refine ⟨?_, h3⟩
  cases B with
  | nil =>
    have h9 := hr.fwd
    rw [lastOf_cut] at h9
    exact h9
  | cons x r => exact h4.1

theorem Ring14.remove {A B : List Int} (hr : Ring14 xs h (A ++ n :: B)) (hS : Spread S) (sh : S h) (sL : ∀ a ∈ A ++ n :: B, S a) (hn : (h :: (A ++ n :: B)).Nodup)
    (e1 : valA ys (lastOf h A) = B.headD h) (e2 : valA ys (B.headD h + 1) = lastOf h A) (e5 : ∀ c, S c ∨ S (c - 1) → c ≠ lastOf h A → c ≠ B.headD h + 1 → c ≠ n → c ≠ n + 1 → valA ys c = valA xs c) : Ring14 ys h (A ++ B) := by
  obtain ⟨h1, h2, h3, h4⟩ := (inner_cut A h n B).1 hr.inn
  have hn1 := List.nodup_cons.1 hn
  have hn2 := List.nodup_append.1 hn1.2
  have hnB := List.nodup_cons.1 hn2.2.1
  have sn : S n := sL n (by simp)
  have sA : ∀ c ∈ A, S c := fun c hc => sL c (List.mem_append_left _ hc)
  have sB : ∀ c ∈ B, S c := fun c hc => sL c (List.mem_append_right _ (List.mem_cons_of_mem _ hc))
  have nA : n ∉ A := fun hc => hn2.2.2 n hc n (List.mem_cons_self ..) rfl
  have hA : h ∉ A := fun hc => hn1.1 (List.mem_append_left _ hc)
  have hB : h ∉ B := fun hc => hn1.1 (List.mem_append_right _ (List.mem_cons_of_mem _ hc))
  have nh : n ≠ h := fun e => hn1.1 (e ▸ (by simp : n ∈ A ++ n :: B))
  have sl : S (lastOf h A) := by
    rcases last_in h A with e | e
    · rw [e]; exact sh
    · exact sA _ e
  have lh : lastOf h A = h ∨ lastOf h A ∈ A := last_in h A
  have sx : S (B.headD h) := by
    cases B with
    | nil => exact sh
    | cons x r => exact sB x (List.mem_cons_self ..)
  have hsc : ∀ c, c = h ∨ c ∈ A → S c := fun c hc => hc.elim (fun e => e ▸ sh) (sA c)
  have hnc : ∀ c, c = h ∨ c ∈ A → c ≠ n := fun c hc e => hc.elim (fun e2 => nh (e.symm.trans e2)) (fun e2 => nA (e ▸ e2))
  have hxA : ∀ c ∈ A, c ≠ B.headD h := fun c hc e => by
    cases B with
    | nil =>
      have e' : c = h := e
      exact hA (e' ▸ hc)
    | cons x r => exact hn2.2.2 c hc x (List.mem_cons_of_mem _ (List.mem_cons_self ..)) e
  have iA : Inner ys h A := by
    refine inner_keep A h h1 (List.nodup_cons.2 ⟨hA, hn2.1⟩) (fun c hc hcl => ?_) (fun c hc => ?_)
    · have a1 := hS c _ (hsc c hc) sx
      have a2 := hS c n (hsc c hc) sn
      exact e5 c (.inl (hsc c hc)) hcl (by omega) (hnc c hc) (by omega)
    · have a1 := hS c _ (sA c hc) sl
      have a2 := hS c n (sA c hc) sn
      have a3 := hxA c hc
      have a4 := hnc c (.inr hc)
      exact e5 (c + 1) (.inr (up1 (sA c hc))) (by omega) (by omega) (by omega) (by omega)
  cases B with
  | nil =>
    rw [List.append_nil]
    exact ⟨iA, e1, e2⟩
  | cons x r =>
    simp only [List.headD_cons] at e1 e2 e5 sx hxA
    have xn : x ≠ n := fun e => hnB.1 (e ▸ List.mem_cons_self ..)
    have hnr := List.nodup_cons.1 hnB.2
    have xh : x ≠ h := fun e => hB (e ▸ List.mem_cons_self ..)
    have hcB : ∀ c, c ∈ x :: r → c ≠ lastOf h A := fun c hc e => by
      rcases lh with e9 | e9
      · exact hB (by rw [← e9, ← e]; exact hc)
      · exact hn2.2.2 _ e9 c (List.mem_cons_of_mem _ hc) e.symm
    have hst : ∀ c, c ∈ x :: r → valA ys c = valA xs c := fun c hc => by
      have a1 := hS c x (sB c hc) sx
      have a2 := hS c n (sB c hc) sn
      have a3 : c ≠ n := fun e => hnB.1 (e ▸ hc)
      exact e5 c (.inl (sB c hc)) (hcB c hc) (by omega) a3 (by omega)
    have iB : Inner ys x r := by
      refine inner_keep r x h4.2.2 hnB.2 (fun c hc _ => hst c ?_) (fun c hc => ?_)
      · rcases hc with rfl | hc
        · exact List.mem_cons_self ..
        · exact List.mem_cons_of_mem _ hc
      · have hc' := List.mem_cons_of_mem x hc
        have a1 := hS c _ (sB c hc') sl
        have a2 := hS c n (sB c hc') sn
        have a3 : c ≠ n := fun e => hnB.1 (e ▸ hc')
        have a4 : c ≠ x := fun e => hnr.1 (e ▸ hc)
        exact e5 (c + 1) (.inr (up1 (sB c hc'))) (by omega) (by omega) (by omega) (by omega)
    have hm : lastOf x r ∈ x :: r := by
      rcases last_in x r with e | e
      · rw [e]; exact List.mem_cons_self ..
      · exact List.mem_cons_of_mem _ e
    refine ⟨(inner_cut A h x r).2 ⟨iA, e1, e2, iB⟩, ?_, ?_⟩
    · rw [lastOf_cut, hst _ hm]
      have h9 := hr.fwd
      rw [lastOf_cut] at h9
      exact h9
    · have a1 := hS h _ sh sl
      have a2 := hS h n sh sn
      have a3 := hS h x sh sx
      rw [lastOf_cut, e5 (h + 1) (.inr (up1 sh)) (by omega) (by omega) (by omega) (by omega)]
      have h9 := hr.bwd
      rw [lastOf_cut] at h9
      exact h9
end
end Go.Sept

/-
  Package queue: AddFirst and Drop, as trees of accesses. Conditions: none beside what Does asks.
-/
namespace Go.Sept
open Go.RowKit
/-- The word without the priority's bit. -/
def offV (v p : Int) : Int := bits .andNot .i64 v (2 ^ p.toNat)
def qFrontT (a n p : Int) : Tree Unit 7 := if 0 ≤ p ∧ p < 16 then (prependT (headA a p) n).bind fun _ => (loadT a).bind fun v => storeT a (orV v p) else .ret ()
def qDropT (a n p : Int) : Tree Unit (1 + 1 + 2 + 6) := if 0 ≤ p ∧ p < 16 then (removeT n).bind fun _ => (emptyT (headA a p)).bind fun b => if b = true then (loadT a).bind fun v => storeT a (offV v p) else .ret () else .ret ()
end Go.Sept

namespace Go.Proofs.YtmcmjcaigipoaaaGreat
open Go.RowKit Go.Sept

set_option maxHeartbeats 400000 in
theorem qFront_does (a n p : Int) : Does 79 (fun f => #[f, .int .i64 a, .int .i64 n, .int .i64 p]) (qFrontT a n p) (fun _ => .tuple #[]) := by
  by_cases hp : 0 ≤ p ∧ p < 16
  · refine Does.of fun w F lb p' q R h0 => ?_
    have H := hid (h0.pos hp)
    clear h0
    go_enter Tryz.func79, Tryz.ntmps79
    go_wp2_with fail
    refine (valid_true _ p hp).mono ?_
    rintro e w0 ⟨rfl, rfl⟩
    go_wp2_with fail
    refine (head_rel _ a p).mono ?_
    rintro e w1 ⟨rfl, rfl⟩
    go_wp2_with fail
    refine (H.out.call (prepend_does (headA a p) n)).mono ?_
    rintro e w2 ⟨x2, rfl, h2⟩
    have H2 := hid h2
    clear H h2
    go_wp2_with fail
    refine (H2.out.call (load_does a)).mono ?_
    rintro e w3 ⟨v, rfl, h3⟩
    have H3 := hid h3
    clear H2 h3
    go_wp2_with fail
    refine (bit_rel _ p hp.1 (by omega)).mono ?_
    rintro e w4 ⟨rfl, rfl⟩
    go_wp2_with fail
    refine (H3.out.tail (store_does a (orV v p))).mono ?_
    rintro e w5 ⟨x5, rfl, h5⟩
    have H5 := hid h5
    clear H3 h5
    go_wp2_with fail
    go_end0
    exact ⟨_, rfl, H5.out⟩
  · refine Does.eq (Does.idle (x := ()) (qAddFirst_none a n p hp)) ?_
    rw [qFrontT, if_neg hp]

set_option maxHeartbeats 400000 in
theorem qDrop_does (a n p : Int) : Does 77 (fun f => #[f, .int .i64 a, .int .i64 n, .int .i64 p]) (qDropT a n p) (fun _ => .tuple #[]) := by
  by_cases hp : 0 ≤ p ∧ p < 16
  · refine Does.of fun w F lb p' q R h0 => ?_
    have H := hid (h0.pos hp)
    clear h0
    go_enter Tryz.func77, Tryz.ntmps77
    go_wp2_with fail
    refine (valid_true _ p hp).mono ?_
    rintro e w0 ⟨rfl, rfl⟩
    go_wp2_with fail
    refine (H.out.call (remove_does n)).mono ?_
    rintro e w2 ⟨x2, rfl, h2⟩
    have H2 := hid h2
    clear H h2
    go_wp2_with fail
    refine (head_rel _ a p).mono ?_
    rintro e w1 ⟨rfl, rfl⟩
    go_wp2_with fail
    refine (H2.out.call (empty_does (headA a p))).mono ?_
    rintro e w3 ⟨b, rfl, h3⟩
    have H3 := hid h3
    clear H2 h3
    cases b with
    | false =>
      have H4 := hid (H3.out.neg (by decide))
      clear H3
      go_wp2_with fail
      go_end0
      exact ⟨_, rfl, H4.out.fin⟩
    | true =>
      have H4 := hid (H3.out.pos rfl)
      clear H3
      go_wp2_with fail
      refine (H4.out.call (load_does a)).mono ?_
      rintro e w4 ⟨v, rfl, h4⟩
      have H5 := hid h4
      clear H4 h4
      go_wp2_with fail
      refine (bit_rel _ p hp.1 (by omega)).mono ?_
      rintro e w5 ⟨rfl, rfl⟩
      go_wp2_with fail
      refine (H5.out.tail (store_does a (offV v p))).mono ?_
      rintro e w6 ⟨x6, rfl, h6⟩
      have H6 := hid h6
      clear H5 h6
      go_wp2_with fail
      go_end0
      exact ⟨_, rfl, H6.out⟩
  · refine Does.eq (Does.idle (x := ()) (qDrop_none a n p hp)) ?_
    rw [qDropT, if_neg hp]
end Go.Proofs.YtmcmjcaigipoaaaGreat

/-
  The queue in words, as plain mathematics: what Add, AddFirst and Drop leave. Conditions: who is added is in no list; who is dropped is in that list.
-/
namespace Go.Sept
open Go.RowKit

/-- A priority's bit, cleared. -/
theorem off_bit (k p : Nat) (hk : k < 65536) : ∃ k' : Nat, offV (k : Int) (p : Int) = (k' : Int) ∧ k' < 65536 ∧ ∀ q, q < 16 → k'.testBit q = (k.testBit q && !decide (p = q)) := by
  have e : offV (k : Int) (p : Int) = IntKind.i64.wrap ((BitVec.ofInt 64 (k : Int) &&& ~~~ BitVec.ofInt 64 (2 ^ (p : Int).toNat : Int)).toNat : Int) := rfl
  have e2 : (2 ^ (p : Int).toNat : Int) = ((2 ^ p : Nat) : Int) := by rw [Int.toNat_natCast]; norm_cast
  rw [e2, BitVec.ofInt_natCast, BitVec.ofInt_natCast] at e
  obtain ⟨k', hk'⟩ : ∃ k', (BitVec.ofNat 64 k &&& ~~~ BitVec.ofNat 64 (2 ^ p)).toNat = k' := ⟨_, rfl⟩
  rw [hk'] at e
  have hle : k' ≤ k := by
    rw [← hk', BitVec.toNat_and]
    refine Nat.le_trans Nat.and_le_left ?_
    rw [BitVec.toNat_ofNat]
    exact Nat.mod_le _ _
  refine ⟨k', by rw [e, IntKind.wrap_i64]; omega, by omega, fun q hq => ?_⟩
  rw [← hk', BitVec.testBit_toNat, BitVec.getLsbD_and, BitVec.getLsbD_not, BitVec.getLsbD_ofNat, BitVec.getLsbD_ofNat, Nat.testBit_two_pow]
  have h1 : decide (q < 64) = true := decide_eq_true (by omega)
  rw [h1]
  simp

theorem aft_prepend (c d : Int) (ys : List Int) : aft (prependT c d) ys = setA (setA (setA (setA ys c d) (wrap64 (d + 1)) c) d (valA ys c)) (wrap64 (valA ys c + 1)) d := by
  unfold prependT
  rw [aft_bind, aft_load, ans_load, aft_bind, aft_join, aft_join]
theorem aft_remove (d : Int) (ys : List Int) : aft (removeT d) ys = setA (setA (setA (setA ys (valA ys (wrap64 (d + 1))) (valA ys d)) (wrap64 (valA ys d + 1)) (valA ys (wrap64 (d + 1)))) d d) (wrap64 (d + 1)) d := by
  unfold removeT
  rw [aft_bind, aft_load, ans_load, aft_bind, aft_load, ans_load, aft_bind, aft_join, aft_join]
theorem aft_empty (c : Int) (ys : List Int) : aft (emptyT c) ys = ys := by
  unfold emptyT
  rw [aft_bind, aft_next, aft_ret]
theorem ans_empty (c : Int) (ys : List Int) : ans (emptyT c) ys = decide (valA ys c = c) := by
  unfold emptyT
  rw [ans_bind, ans_next, ans_ret]
  by_cases h : valA ys c = c
  · rw [if_pos h, decide_eq_true h]
    rfl
  · rw [if_neg h, decide_eq_false h]
    rfl
/-- Four words, apart, set one behind the other. -/
theorem four_set {xs : List Int} {a b c d : Int} (ha : 0 ≤ a ∧ a < xs.length) (hb : 0 ≤ b ∧ b < xs.length) (hc : 0 ≤ c ∧ c < xs.length) (hd : 0 ≤ d ∧ d < xs.length) (v1 v2 v3 v4 : Int)
    (ab : a ≠ b) (ac : a ≠ c) (ad : a ≠ d) (bc : b ≠ c) (bd : b ≠ d) (cd : c ≠ d) :
    let ys := setA (setA (setA (setA xs a v1) b v2) c v3) d v4
    ys.length = xs.length ∧ valA ys a = v1 ∧ valA ys b = v2 ∧ valA ys c = v3 ∧ valA ys d = v4 ∧ ∀ e, e ≠ a → e ≠ b → e ≠ c → e ≠ d → valA ys e = valA xs e := by
  intro ys
  have hv : ∀ e, valA ys e = if e = d then v4 else if e = c then v3 else if e = b then v2 else if e = a then v1 else valA xs e := fun e => by
    show valA (setA (setA (setA (setA xs a v1) b v2) c v3) d v4) e = _
    rw [val_set hd.1 (by rw [length_setA, length_setA, length_setA]; exact hd.2), val_set hc.1 (by rw [length_setA, length_setA]; exact hc.2), val_set hb.1 (by rw [length_setA]; exact hb.2), val_set ha.1 ha.2]
  refine ⟨by show (setA _ _ _).length = _; rw [length_setA, length_setA, length_setA, length_setA], ?_, ?_, ?_, ?_, fun e h1 h2 h3 h4 => ?_⟩
  · rw [hv, if_neg ad, if_neg ac, if_neg ab, if_pos rfl]
  · rw [hv, if_neg bd, if_neg bc, if_pos rfl]
  · rw [hv, if_neg cd, if_pos rfl]
  · rw [hv, if_pos rfl]
  · rw [hv, if_neg h4, if_neg h3, if_neg h2, if_neg h1]

/-- The places of the queue's heads, and of threads' nodes. -/
def QPl (n m : Nat) (a : Int) : Prop := (∃ p : Nat, p < 16 ∧ a = hdA p) ∨ ∃ j : Int, (0 ≤ j ∧ j < n) ∧ a = nodeA m j
theorem qpl_spread (n m : Nat) : Spread (QPl n m) := by
  rintro a b (⟨p, hp, rfl⟩ | ⟨i, hi, rfl⟩) (⟨q, hq, rfl⟩ | ⟨j, hj, rfl⟩) <;> (simp only [hdA, nodeA]; omega)

theorem qpl_not8 {n m : Nat} {c : Int} (h : QPl n m c ∨ QPl n m (c - 1)) : c ≠ 8 := by
  rcases h with (⟨p, hp, e⟩ | ⟨j, hj, e⟩) | (⟨p, hp, e⟩ | ⟨j, hj, e⟩) <;> (simp only [hdA, nodeA] at e; omega)

/-- The queue's lists in the words xs of a partition's memory. -/
structure QRing (N n m : Nat) (qs : Nat → List Int) (xs : List Int) : Prop where
  len : xs.length = N
  room : 43 + m + n * 24 ≤ N
  rng : ∀ p, p < 16 → Ring14 xs (hdA p) ((qs p).map (nodeA m))
  bit : ∃ k : Nat, valA xs 8 = k ∧ k < 65536 ∧ ∀ p, p < 16 → k.testBit p = !(qs p).isEmpty
  mem : ∀ p, p < 16 → (qs p).Nodup ∧ ∀ j ∈ qs p, 0 ≤ j ∧ j < n
  one : ∀ p q j, p < 16 → q < 16 → j ∈ qs p → j ∈ qs q → p = q

theorem QRing.read {N n m : Nat} {qs : Nat → List Int} {xs : List Int} (h : QRing N n m qs xs) : QRead m qs xs := ⟨fun p hp => (h.rng p hp).chn, h.bit, fun p hp j hj => ((h.mem p hp).2 j hj).1⟩

section
variable {N n m : Nat} {qs : Nat → List Int} {xs ys : List Int}
theorem QRing.places (h : QRing N n m qs xs) {p : Nat} (hp : p < 16) : QPl n m (hdA p) ∧ ∀ a ∈ (qs p).map (nodeA m), QPl n m a := by
  refine ⟨.inl ⟨p, hp, rfl⟩, fun a ha => ?_⟩
  obtain ⟨j, hj, rfl⟩ := List.mem_map.1 ha
  exact .inr ⟨j, (h.mem p hp).2 j hj, rfl⟩
theorem QRing.nodup (h : QRing N n m qs xs) {p : Nat} (hp : p < 16) : (hdA p :: (qs p).map (nodeA m)).Nodup := by
  rw [List.nodup_cons]
  constructor
  · intro h9
    obtain ⟨j, hj, e⟩ := List.mem_map.1 h9
    have := (h.mem p hp).2 j hj
    unfold nodeA hdA at e
    omega
  · exact List.pairwise_map.2 ((h.mem p hp).1.imp (fun hab e => hab (node_inj e)))
/-- Where a place of a list stands. -/
theorem QRing.in_range (h : QRing N n m qs xs) {p : Nat} (hp : p < 16) {a : Int} (ha : a = hdA p ∨ a ∈ (qs p).map (nodeA m)) : 9 ≤ a ∧ a + 1 < N ∧ (a ≤ 39 ∨ 43 ≤ a) := by
  rcases ha with rfl | ha
  · have := h.room
    unfold hdA
    omega
  · obtain ⟨j, hj, rfl⟩ := List.mem_map.1 ha
    have := (h.mem p hp).2 j hj
    have := h.room
    unfold nodeA at *
    omega
/-- A list whose places' words are as they were. -/
theorem QRing.other (h : QRing N n m qs xs) {q : Nat} (hq : q < 16) (hk : ∀ c, c = hdA q ∨ c ∈ (qs q).map (nodeA m) → valA ys c = valA xs c ∧ valA ys (c + 1) = valA xs (c + 1)) : Ring14 ys (hdA q) ((qs q).map (nodeA m)) :=
  (h.rng q hq).keep hk (h.nodup hq)
/-- Two lists share no place. -/
theorem QRing.apart (h : QRing N n m qs xs) {p q : Nat} (hp : p < 16) (hq : q < 16) (hne : p ≠ q) {a b : Int} (ha : a = hdA p ∨ a ∈ (qs p).map (nodeA m)) (hb : b = hdA q ∨ b ∈ (qs q).map (nodeA m)) : a ≠ b := by
  intro e
  rcases ha with rfl | ha <;> rcases hb with rfl | hb
  · unfold hdA at e; omega
  · obtain ⟨j, hj, rfl⟩ := List.mem_map.1 hb
    have := (h.mem q hq).2 j hj
    unfold hdA nodeA at *
    omega
  · obtain ⟨j, hj, rfl⟩ := List.mem_map.1 ha
    have := (h.mem p hp).2 j hj
    unfold hdA nodeA at *
    omega
  · obtain ⟨i, hi, rfl⟩ := List.mem_map.1 ha
    obtain ⟨j, hj, e2⟩ := List.mem_map.1 hb
    have e3 : i = j := node_inj (e.trans e2.symm)
    exact hne (h.one p q i hp hq hi (e3 ▸ hj))

/-- One list, turned. -/
def updQ (qs : Nat → List Int) (p : Nat) (L : List Int) : Nat → List Int := fun q => if q = p then L else qs q
theorem updQ_self (qs : Nat → List Int) (p : Nat) (L : List Int) : updQ qs p L p = L := if_pos rfl
theorem updQ_other {qs : Nat → List Int} {p q : Nat} {L : List Int} (h : q ≠ p) : updQ qs p L q = qs q := if_neg h
/-- A word that is none of the queue's. -/
def QElse (n m : Nat) (c : Int) : Prop := c ≠ 8 ∧ ∀ a, QPl n m a → c ≠ a ∧ c ≠ a + 1
theorem QElse.low {n m : Nat} {c : Int} (h : c < 8 ∨ (41 ≤ c ∧ c < 43 + (m : Int))) : QElse n m c := by
  refine ⟨by omega, fun a ha => ?_⟩
  rcases ha with ⟨p, hp, rfl⟩ | ⟨j, hj, rfl⟩ <;> (simp only [hdA, nodeA]; omega)
theorem QElse.field {n m : Nat} {j d : Int} (hj : 0 ≤ j) (h0 : 2 ≤ d) (h1 : d < 24) : QElse n m (nodeA m j + d) := by
  refine ⟨by simp only [nodeA]; omega, fun a ha => ?_⟩
  rcases ha with ⟨p, hp, rfl⟩ | ⟨i, hi, rfl⟩ <;> (simp only [hdA, nodeA]; omega)

theorem QRing.upd (h : QRing N n m qs xs) {p : Nat} (hp : p < 16) {L : List Int} (hlen : ys.length = N) (hr : Ring14 ys (hdA p) (L.map (nodeA m)))
    (hk : ∀ q, q < 16 → q ≠ p → ∀ c, c = hdA q ∨ c ∈ (qs q).map (nodeA m) → valA ys c = valA xs c ∧ valA ys (c + 1) = valA xs (c + 1))
    (hb : ∃ k : Nat, valA ys 8 = k ∧ k < 65536 ∧ ∀ q, q < 16 → k.testBit q = !(updQ qs p L q).isEmpty) (hm : L.Nodup ∧ ∀ j ∈ L, 0 ≤ j ∧ j < n) (ho : ∀ q j, q < 16 → q ≠ p → j ∈ L → j ∉ qs q) : QRing N n m (updQ qs p L) ys := by
  refine ⟨hlen, h.room, fun q hq => ?_, hb, fun q hq => ?_, fun q r j hq hr' hjq hjr => ?_⟩
  · by_cases e : q = p
    · subst e
      rw [updQ_self]
      exact hr
    · rw [updQ_other e]
      exact h.other hq (hk q hq e)
  · by_cases e : q = p
    · subst e
      rw [updQ_self]
      exact hm
    · rw [updQ_other e]
      exact h.mem q hq
  · by_cases e : q = p
    · by_cases e2 : r = p
      · rw [e, e2]
      · subst e
        rw [updQ_self] at hjq
        rw [updQ_other e2] at hjr
        exact absurd hjr (ho r j hr' e2 hjq)
    · by_cases e2 : r = p
      · subst e2
        rw [updQ_self] at hjr
        rw [updQ_other e] at hjq
        exact absurd hjq (ho q j hq e hjr)
      · rw [updQ_other e] at hjq
        rw [updQ_other e2] at hjr
        exact h.one q r j hq hr' hjq hjr

/-- The bits behind one more in a list. -/
theorem bits_more {k p : Nat} (hk : k < 65536) (hp : p < 16) {L : List Int} (hL : L ≠ []) (hb : ∀ q, q < 16 → k.testBit q = !(qs q).isEmpty) : ∃ k' : Nat, orV (k : Int) (p : Int) = (k' : Int) ∧ k' < 65536 ∧ ∀ q, q < 16 → k'.testBit q = !(updQ qs p L q).isEmpty := by
  refine ⟨k ||| 2 ^ p, (or_bit k p hk hp).1, (or_bit k p hk hp).2, fun q hq => ?_⟩
  rw [Nat.testBit_or, Nat.testBit_two_pow]
  by_cases e : q = p
  · subst e
    rw [updQ_self]
    cases L with
    | nil => exact absurd rfl hL
    | cons x r => simp
  · rw [updQ_other e, hb q hq, decide_eq_false (fun e9 => e e9.symm), Bool.or_false]

/-- Add: the last one of its priority. -/
theorem QRing.add (h : QRing N n m qs xs) {p : Nat} (hp : p < 16) {j : Int} (hj : 0 ≤ j) (hN : j < n) (hN2 : N ≤ 4000) (hno : ∀ q, q < 16 → j ∉ qs q) :
    QRing N n m (updQ qs p (qs p ++ [j])) (aft (qAddT 8 (nodeA m j) (p : Int)) xs) ∧ ∀ c, QElse n m c → valA (aft (qAddT 8 (nodeA m j) (p : Int)) xs) c = valA xs c := by
  obtain ⟨A, hA⟩ : ∃ A, nodeA m j = A := ⟨_, rfl⟩
  obtain ⟨H, hH⟩ : ∃ H, hdA p = H := ⟨_, rfl⟩
  obtain ⟨b, hb⟩ : ∃ b, lastOf (hdA p) ((qs p).map (nodeA m)) = b := ⟨_, rfl⟩
  have hAe : A = 43 + (m : Int) + j * 24 := hA.symm
  have hHe : H = 9 + 2 * (p : Int) := hH.symm
  have hr := h.rng p hp
  have hS := qpl_spread n m
  have hroom := h.room
  obtain ⟨sh, sL⟩ := h.places hp
  have sn : QPl n m (nodeA m j) := .inr ⟨j, ⟨hj, hN⟩, rfl⟩
  have hbp : b = hdA p ∨ b ∈ (qs p).map (nodeA m) := hb ▸ last_in _ _
  have hbr := h.in_range hp hbp
  have nL : nodeA m j ∉ (qs p).map (nodeA m) := fun h9 => by
    obtain ⟨i, hi, e⟩ := List.mem_map.1 h9
    exact hno p hp (node_inj e ▸ hi)
  have sb : QPl n m b := by
    rcases hbp with e | e
    · rw [e]; exact sh
    · exact sL _ e
  have s1 := hS b A sb (hA ▸ sn)
  have s2 := hS b H sb (hH ▸ sh)
  have bA : b ≠ A := fun e => by
    rcases hbp with e9 | e9
    · rw [hH] at e9; omega
    · rw [e, ← hA] at e9
      exact nL e9
  have e0 : aft (qAddT 8 A (p : Int)) xs = setA (setA (setA (setA (setA xs b A) (A + 1) b) A H) (H + 1) A) 8 (orV (valA (setA (setA (setA (setA xs b A) (A + 1) b) A H) (H + 1) A) 8) (p : Int)) := by
    rw [← hH]
    exact aft_qadd hp xs b (by rw [hr.bwd, hb]) ⟨by omega, by have := h.room; omega⟩
  have hl := h.len
  obtain ⟨f0, f1, f2, f3, f4, f5⟩ := four_set (xs := xs) (a := b) (b := A + 1) (c := A) (d := H + 1) ⟨by omega, by omega⟩ ⟨by omega, by omega⟩ ⟨by omega, by omega⟩ ⟨by omega, by omega⟩ A b H A (by omega) bA (by omega) (by omega) (by omega) (by omega)
  rw [hA, e0]
  obtain ⟨zs, hzs⟩ : ∃ zs, setA (setA (setA (setA xs b A) (A + 1) b) A H) (H + 1) A = zs := ⟨_, rfl⟩
  simp only [hzs] at f0 f1 f2 f3 f4 f5 ⊢
  have hv : ∀ c, c ≠ 8 → valA (setA zs 8 (orV (valA zs 8) (p : Int))) c = valA zs c := fun c hc => val_other _ hc
  have h8 : valA (setA zs 8 (orV (valA zs 8) (p : Int))) 8 = orV (valA zs 8) (p : Int) := by rw [val_set (by omega) (by omega), if_pos rfl]
  have hz8 : valA zs 8 = valA xs 8 := f5 8 (by omega) (by omega) (by omega) (by omega)
  obtain ⟨k, hk, hk2, hkb⟩ := h.bit
  obtain ⟨k', g1, g2, g3⟩ := bits_more (qs := qs) (L := qs p ++ [j]) hk2 hp (by simp) hkb
  refine ⟨h.upd hp (by rw [length_setA, f0, hl]) ?_ (fun q hq hne c hc => ?_) ⟨k', by rw [h8, hz8, hk, g1], g2, g3⟩ ⟨?_, fun i hi => ?_⟩ (fun q i hq hne hi => ?_), fun c hc => ?_⟩
  · rw [List.map_append, List.map_cons, List.map_nil, hA]
    refine hr.append hS sh sL (hA ▸ sn) (h.nodup hp) (by rw [hH]; omega) (hA ▸ nL) ?_ ?_ ?_ ?_ (fun c h0 h1 h2 h3 h4 => ?_)
    · rw [hb, hv b (by omega)]; exact f1
    · rw [hb, hv (A + 1) (by omega)]; exact f2
    · rw [hH, hv A (by omega)]; exact f3
    · rw [hH, hv (H + 1) (by omega)]; exact f4
    · rw [hb] at h1
      rw [hH] at h4
      rw [hv c (qpl_not8 h0)]
      exact f5 c h1 h2 h3 h4
  · have hcr := h.in_range hq hc
    have c1 := h.apart hq hp hne hc hbp
    have c2 := h.apart hq hp hne hc (.inl hH.symm)
    have sc : QPl n m c := by
      rcases hc with e | e
      · rw [e]; exact (h.places hq).1
      · exact (h.places hq).2 _ e
    have c3 : c ≠ A := fun e => by
      rcases hc with e9 | e9
      · simp only [hdA] at e9; omega
      · obtain ⟨i, hi, e2⟩ := List.mem_map.1 e9
        exact hno q hq (node_inj (e2.trans (e.trans hA.symm)) ▸ hi)
    have s3 := hS c b sc sb
    have s4 := hS c A sc (hA ▸ sn)
    have s5 := hS c H sc (hH ▸ sh)
    rw [hv c (by omega), hv (c + 1) (by omega)]
    exact ⟨f5 c c1 (by omega) c3 (by omega), f5 (c + 1) (by omega) (by omega) (by omega) (by omega)⟩
  · refine List.nodup_append.2 ⟨(h.mem p hp).1, by simp, fun a ha c hc => ?_⟩
    rw [List.mem_singleton] at hc
    rw [hc]
    exact fun e => hno p hp (e ▸ ha)
  · rcases List.mem_append.1 hi with hi | hi
    · exact (h.mem p hp).2 i hi
    · rw [List.mem_singleton] at hi
      rw [hi]
      exact ⟨hj, hN⟩
  · rcases List.mem_append.1 hi with hi | hi
    · exact fun h9 => hne (h.one q p i hq hp h9 hi)
    · rw [List.mem_singleton] at hi
      rw [hi]
      exact hno q hq
  · have q1 := hc.2 b sb
    have q2 := hc.2 A (hA ▸ sn)
    have q3 := hc.2 H (hH ▸ sh)
    rw [hv c hc.1]
    exact f5 c q1.1 q2.2 q2.1 q3.2

theorem head_place (qs : Nat → List Int) (m p : Nat) : ((qs p).map (nodeA m)).headD (hdA p) = hdA p ∨ ((qs p).map (nodeA m)).headD (hdA p) ∈ (qs p).map (nodeA m) := by
  cases (qs p).map (nodeA m) with
  | nil => exact .inl rfl
  | cons x r => exact .inr (List.mem_cons_self ..)

/-- AddFirst: the first one of its priority. -/
theorem QRing.front (h : QRing N n m qs xs) {p : Nat} (hp : p < 16) {j : Int} (hj : 0 ≤ j) (hN : j < n) (hN2 : N ≤ 4000) (hno : ∀ q, q < 16 → j ∉ qs q) :
    QRing N n m (updQ qs p (j :: qs p)) (aft (qFrontT 8 (nodeA m j) (p : Int)) xs) ∧ ∀ c, QElse n m c → valA (aft (qFrontT 8 (nodeA m j) (p : Int)) xs) c = valA xs c := by
  obtain ⟨A, hA⟩ : ∃ A, nodeA m j = A := ⟨_, rfl⟩
  obtain ⟨H, hH⟩ : ∃ H, hdA p = H := ⟨_, rfl⟩
  obtain ⟨b, hb⟩ : ∃ b, ((qs p).map (nodeA m)).headD (hdA p) = b := ⟨_, rfl⟩
  have hAe : A = 43 + (m : Int) + j * 24 := hA.symm
  have hHe : H = 9 + 2 * (p : Int) := hH.symm
  have hr := h.rng p hp
  have hS := qpl_spread n m
  have hroom := h.room
  obtain ⟨sh, sL⟩ := h.places hp
  have sn : QPl n m (nodeA m j) := .inr ⟨j, ⟨hj, hN⟩, rfl⟩
  have hbp : b = hdA p ∨ b ∈ (qs p).map (nodeA m) := hb ▸ head_place qs m p
  have hbr := h.in_range hp hbp
  have nL : nodeA m j ∉ (qs p).map (nodeA m) := fun h9 => by
    obtain ⟨i, hi, e⟩ := List.mem_map.1 h9
    exact hno p hp (node_inj e ▸ hi)
  have sb : QPl n m b := by
    rcases hbp with e | e
    · rw [e]; exact sh
    · exact sL _ e
  have s1 := hS b A sb (hA ▸ sn)
  have s2 := hS b H sb (hH ▸ sh)
  have bA : b ≠ A := fun e => by
    rcases hbp with e9 | e9
    · rw [hH] at e9; omega
    · rw [e, ← hA] at e9
      exact nL e9
  have htop := h.room
  have e0 : aft (qFrontT 8 A (p : Int)) xs = setA (setA (setA (setA (setA xs H A) (A + 1) H) A b) (b + 1) A) 8 (orV (valA (setA (setA (setA (setA xs H A) (A + 1) H) A b) (b + 1) A) 8) (p : Int)) := by
    unfold qFrontT
    rw [if_pos ⟨by omega, by omega⟩]
    refine (aft_bind _ _ _).trans ((aft_orbit _ _ _).trans ?_)
    rw [head_hd p hp, aft_prepend, hr.first, hb, hH, v64 (A + 1) ⟨by omega, by omega⟩, v64 (b + 1) ⟨by omega, by omega⟩]
  have hl := h.len
  obtain ⟨f0, f1, f2, f3, f4, f5⟩ := four_set (xs := xs) (a := H) (b := A + 1) (c := A) (d := b + 1) ⟨by omega, by omega⟩ ⟨by omega, by omega⟩ ⟨by omega, by omega⟩ ⟨by omega, by omega⟩ A H b A (by omega) (by omega) (by omega) (by omega) (by omega) (by omega)
  rw [hA, e0]
  obtain ⟨zs, hzs⟩ : ∃ zs, setA (setA (setA (setA xs H A) (A + 1) H) A b) (b + 1) A = zs := ⟨_, rfl⟩
  simp only [hzs] at f0 f1 f2 f3 f4 f5 ⊢
  have hv : ∀ c, c ≠ 8 → valA (setA zs 8 (orV (valA zs 8) (p : Int))) c = valA zs c := fun c hc => val_other _ hc
  have h8 : valA (setA zs 8 (orV (valA zs 8) (p : Int))) 8 = orV (valA zs 8) (p : Int) := by rw [val_set (by omega) (by omega), if_pos rfl]
  have hz8 : valA zs 8 = valA xs 8 := f5 8 (by omega) (by omega) (by omega) (by omega)
  obtain ⟨k, hk, hk2, hkb⟩ := h.bit
  obtain ⟨k', g1, g2, g3⟩ := bits_more (qs := qs) (L := j :: qs p) hk2 hp (by simp) hkb
  refine ⟨h.upd hp (by rw [length_setA, f0, hl]) ?_ (fun q hq hne c hc => ?_) ⟨k', by rw [h8, hz8, hk, g1], g2, g3⟩ ⟨?_, fun i hi => ?_⟩ (fun q i hq hne hi => ?_), fun c hc => ?_⟩
  · rw [List.map_cons, hA]
    refine hr.prepend hS sh sL (hA ▸ sn) (h.nodup hp) (by rw [hH]; omega) (hA ▸ nL) ?_ ?_ ?_ ?_ (fun c h0 h1 h2 h3 h4 => ?_)
    · rw [hH, hv H (by omega)]; exact f1
    · rw [hH, hv (A + 1) (by omega)]; exact f2
    · rw [hb, hv A (by omega)]; exact f3
    · rw [hb, hv (b + 1) (by omega)]; exact f4
    · rw [hH] at h1
      rw [hb] at h4
      rw [hv c (qpl_not8 h0)]
      exact f5 c h1 h2 h3 h4
  · have hcr := h.in_range hq hc
    have c1 := h.apart hq hp hne hc hbp
    have c2 := h.apart hq hp hne hc (.inl hH.symm)
    have sc : QPl n m c := by
      rcases hc with e | e
      · rw [e]; exact (h.places hq).1
      · exact (h.places hq).2 _ e
    have c3 : c ≠ A := fun e => by
      rcases hc with e9 | e9
      · simp only [hdA] at e9; omega
      · obtain ⟨i, hi, e2⟩ := List.mem_map.1 e9
        exact hno q hq (node_inj (e2.trans (e.trans hA.symm)) ▸ hi)
    have s3 := hS c b sc sb
    have s4 := hS c A sc (hA ▸ sn)
    have s5 := hS c H sc (hH ▸ sh)
    rw [hv c (by omega), hv (c + 1) (by omega)]
    exact ⟨f5 c c2 (by omega) c3 (by omega), f5 (c + 1) (by omega) (by omega) (by omega) (by omega)⟩
  · exact List.nodup_cons.2 ⟨hno p hp, (h.mem p hp).1⟩
  · rcases List.mem_cons.1 hi with rfl | hi
    · exact ⟨hj, hN⟩
    · exact (h.mem p hp).2 i hi
  · rcases List.mem_cons.1 hi with rfl | hi
    · exact hno q hq
    · exact fun h9 => hne (h.one q p i hq hp h9 hi)
  · have q1 := hc.2 b sb
    have q2 := hc.2 A (hA ▸ sn)
    have q3 := hc.2 H (hH ▸ sh)
    rw [hv c hc.1]
    exact f5 c q3.1 q2.2 q2.1 q1.2

/-- Drop: one less in its list. -/
theorem QRing.drop (h : QRing N n m qs xs) {p : Nat} (hp : p < 16) {j : Int} {L1 L2 : List Int} (hq : qs p = L1 ++ j :: L2) (hN2 : N ≤ 4000) :
    QRing N n m (updQ qs p (L1 ++ L2)) (aft (qDropT 8 (nodeA m j) (p : Int)) xs) ∧ ∀ c, QElse n m c → valA (aft (qDropT 8 (nodeA m j) (p : Int)) xs) c = valA xs c := by
  have hjm : j ∈ qs p := by rw [hq]; simp
  obtain ⟨hj, hN⟩ := (h.mem p hp).2 j hjm
  obtain ⟨A, hA⟩ : ∃ A, nodeA m j = A := ⟨_, rfl⟩
  obtain ⟨H, hH⟩ : ∃ H, hdA p = H := ⟨_, rfl⟩
  obtain ⟨b, hb⟩ : ∃ b, lastOf (hdA p) (L1.map (nodeA m)) = b := ⟨_, rfl⟩
  obtain ⟨x, hx⟩ : ∃ x, (L2.map (nodeA m)).headD (hdA p) = x := ⟨_, rfl⟩
  have hAe : A = 43 + (m : Int) + j * 24 := hA.symm
  have hHe : H = 9 + 2 * (p : Int) := hH.symm
  have hmap : (qs p).map (nodeA m) = L1.map (nodeA m) ++ nodeA m j :: L2.map (nodeA m) := by rw [hq, List.map_append, List.map_cons]
  have hr := h.rng p hp
  have hnd := h.nodup hp
  have hS := qpl_spread n m
  have hroom := h.room
  obtain ⟨sh, sL⟩ := h.places hp
  have hin : ∀ a, a = hdA p ∨ a ∈ (qs p).map (nodeA m) → 9 ≤ a ∧ a + 1 < N ∧ (a ≤ 39 ∨ 43 ≤ a) := fun a ha => h.in_range hp ha
  have hAm : nodeA m j ∈ (qs p).map (nodeA m) := List.mem_map.2 ⟨j, hjm, rfl⟩
  have sn : QPl n m (nodeA m j) := sL _ hAm
  rw [hmap] at hr hnd
  obtain ⟨r1, r2⟩ := hr.at
  rw [hx] at r1
  rw [hb] at r2
  have hnd1 := List.nodup_cons.1 hnd
  have hnd2 := List.nodup_append.1 hnd1.2
  have hnd3 := List.nodup_cons.1 hnd2.2.1
  have hbp : b = hdA p ∨ b ∈ L1.map (nodeA m) := hb ▸ last_in _ _
  have hxp : x = hdA p ∨ x ∈ L2.map (nodeA m) := by
    rw [← hx]
    cases L2.map (nodeA m) with
    | nil => exact .inl rfl
    | cons y r => exact .inr (List.mem_cons_self ..)
  have hbq : b = hdA p ∨ b ∈ (qs p).map (nodeA m) := hbp.imp (fun e => e) (fun e => by rw [hmap]; exact List.mem_append_left _ e)
  have hxq : x = hdA p ∨ x ∈ (qs p).map (nodeA m) := hxp.imp (fun e => e) (fun e => by rw [hmap]; exact List.mem_append_right _ (List.mem_cons_of_mem _ e))
  have hbr := hin b hbq
  have hxr := hin x hxq
  have sb : QPl n m b := hbq.elim (fun e => e ▸ sh) (sL b)
  have sx : QPl n m x := hxq.elim (fun e => e ▸ sh) (sL x)
  have bA : b ≠ A := fun e => by
    rcases hbp with e9 | e9
    · rw [hH] at e9; omega
    · rw [e, ← hA] at e9
      exact hnd2.2.2 _ e9 _ (List.mem_cons_self ..) rfl
  have xA : x ≠ A := fun e => by
    rcases hxp with e9 | e9
    · rw [hH] at e9; omega
    · rw [e, ← hA] at e9
      exact hnd3.1 e9
  have s1 := hS b A sb (hA ▸ sn)
  have s2 := hS x A sx (hA ▸ sn)
  have s3 := hS b x sb sx
  have htop := h.room
  rw [hA] at r1 r2
  obtain ⟨zs, hzs⟩ : ∃ zs, aft (removeT A) xs = zs := ⟨_, rfl⟩
  have ez : zs = setA (setA (setA (setA xs b x) (x + 1) b) A A) (A + 1) A := by
    rw [← hzs, aft_remove, v64 (A + 1) ⟨by omega, by omega⟩, r1, r2, v64 (x + 1) ⟨by omega, by omega⟩]
  have hl := h.len
  obtain ⟨f0, f1, f2, f3, f4, f5⟩ := four_set (xs := xs) (a := b) (b := x + 1) (c := A) (d := A + 1) ⟨by omega, by omega⟩ ⟨by omega, by omega⟩ ⟨by omega, by omega⟩ ⟨by omega, by omega⟩ x b A A (by omega) bA (by omega) (by omega) (by omega) (by omega)
  simp only [← ez] at f0 f1 f2 f3 f4 f5
  have hz8 : valA zs 8 = valA xs 8 := f5 8 (by omega) (by omega) (by omega) (by omega)
  have hring : Ring14 zs (hdA p) ((L1 ++ L2).map (nodeA m)) := by
    rw [List.map_append]
    refine hr.remove hS sh (fun a ha => sL a (by rw [hmap]; exact ha)) hnd ?_ ?_ (fun c h0 h1 h2 h3 h4 => ?_)
    · rw [hb, hx]; exact f1
    · rw [hb, hx]; exact f2
    · rw [hb] at h1
      rw [hx] at h2
      rw [hA] at h3 h4
      exact f5 c h1 h2 h3 h4
  have hoth : ∀ q, q < 16 → q ≠ p → ∀ c, c = hdA q ∨ c ∈ (qs q).map (nodeA m) → c ≠ 8 ∧ c + 1 ≠ 8 ∧ valA zs c = valA xs c ∧ valA zs (c + 1) = valA xs (c + 1) := fun q hq' hne c hc => by
    have hcr := h.in_range hq' hc
    have c1 := h.apart hq' hp hne hc hbq
    have c2 := h.apart hq' hp hne hc hxq
    have c3 := h.apart hq' hp hne hc (.inr hAm)
    rw [hA] at c3
    have sc : QPl n m c := by
      rcases hc with e | e
      · rw [e]; exact (h.places hq').1
      · exact (h.places hq').2 _ e
    have t1 := hS c b sc sb
    have t2 := hS c x sc sx
    have t3 := hS c A sc (hA ▸ sn)
    exact ⟨by omega, by omega, f5 c c1 (by omega) c3 (by omega), f5 (c + 1) (by omega) (by omega) (by omega) (by omega)⟩
  have hmem : (L1 ++ L2).Nodup ∧ ∀ i ∈ L1 ++ L2, 0 ≤ i ∧ i < n := by
    have h9 := (h.mem p hp)
    rw [hq] at h9
    have g := List.nodup_append.1 h9.1
    refine ⟨List.nodup_append.2 ⟨g.1, (List.nodup_cons.1 g.2.1).2, fun a ha c hc => g.2.2 a ha c (List.mem_cons_of_mem _ hc)⟩, fun i hi => h9.2 i ?_⟩
    rcases List.mem_append.1 hi with hi | hi
    · exact List.mem_append_left _ hi
    · exact List.mem_append_right _ (List.mem_cons_of_mem _ hi)
  have hone : ∀ q i, q < 16 → q ≠ p → i ∈ L1 ++ L2 → i ∉ qs q := fun q i hq' hne hi h9 => by
    refine hne (h.one q p i hq' hp h9 ?_)
    rw [hq]
    rcases List.mem_append.1 hi with hi | hi
    · exact List.mem_append_left _ hi
    · exact List.mem_append_right _ (List.mem_cons_of_mem _ hi)
  obtain ⟨k, hk, hk2, hkb⟩ := h.bit
  have hfirst := hring.first
  have e0 : aft (qDropT 8 A (p : Int)) xs = if valA zs H = H then setA zs 8 (offV (valA zs 8) (p : Int)) else zs := by
    unfold qDropT
    rw [if_pos ⟨by omega, by omega⟩]
    refine (aft_bind _ _ _).trans ((aft_bind _ _ _).trans ?_)
    rw [hzs, ans_empty, aft_empty, head_hd p hp, hH]
    by_cases e : valA zs H = H
    · rw [if_pos e, if_pos (decide_eq_true e)]
      refine (aft_bind _ _ _).trans ?_
      rw [aft_load, ans_load, aft_store]
    · rw [if_neg e, if_neg (by rw [decide_eq_false e]; decide)]
      exact aft_ret _ _
  rw [hA, e0]
  by_cases hnil : L1 ++ L2 = []
  · rw [hnil] at hfirst
    have e : valA zs H = H := by rw [← hH]; exact hfirst
    rw [if_pos e]
    have hv : ∀ c, c ≠ 8 → valA (setA zs 8 (offV (valA zs 8) (p : Int))) c = valA zs c := fun c hc => val_other _ hc
    have h8 : valA (setA zs 8 (offV (valA zs 8) (p : Int))) 8 = offV (valA zs 8) (p : Int) := by rw [val_set (by omega) (by omega), if_pos rfl]
    obtain ⟨k', g1, g2, g3⟩ := off_bit k p hk2
    refine ⟨h.upd hp (by rw [length_setA, f0, hl]) ?_ (fun q hq' hne c hc => ?_) ⟨k', by rw [h8, hz8, hk, g1], g2, fun q hq' => ?_⟩ hmem hone, fun c hc => ?_⟩
    · rw [hnil]
      rw [hnil] at hring
      exact hring.keep (fun c hc => by
        rcases hc with rfl | hc
        · exact ⟨hv _ (by simp only [hdA]; omega), hv _ (by simp only [hdA]; omega)⟩
        · cases hc) (by simp)
    · obtain ⟨t1, t2, t3, t4⟩ := hoth q hq' hne c hc
      rw [hv c t1, hv _ t2]
      exact ⟨t3, t4⟩
    · rw [g3 q hq', hkb q hq']
      by_cases e9 : q = p
      · rw [e9, updQ_self, hnil]
        simp
      · rw [updQ_other e9, decide_eq_false (fun e8 => e9 e8.symm), Bool.not_false, Bool.and_true]
    · have q1 := hc.2 b sb
      have q2 := hc.2 A (hA ▸ sn)
      have q3 := hc.2 x sx
      rw [hv c hc.1]
      exact f5 c q1.1 q3.2 q2.1 q2.2
  · have e : valA zs H ≠ H := fun e => by
      rw [hH, e] at hfirst
      cases hL : L1 ++ L2 with
      | nil => exact hnil hL
      | cons i r =>
        rw [hL, List.map_cons, List.headD_cons] at hfirst
        have := hmem.2 i (by rw [hL]; exact List.mem_cons_self ..)
        simp only [nodeA] at hfirst
        omega
    rw [if_neg e]
    refine ⟨h.upd hp (f0.trans hl) hring (fun q hq' hne c hc => (hoth q hq' hne c hc).2.2) ⟨k, hz8.trans hk, hk2, fun q hq' => ?_⟩ hmem hone, fun c hc => ?_⟩
    · rw [hkb q hq']
      by_cases e9 : q = p
      · rw [e9, updQ_self, hq]
        cases hL : L1 ++ L2 with
        | nil => exact absurd hL hnil
        | cons i r =>
          cases L1 <;> simp
      · rw [updQ_other e9]
    · have q1 := hc.2 b sb
      have q2 := hc.2 A (hA ▸ sn)
      have q3 := hc.2 x sx
      exact f5 c q1.1 q3.2 q2.1 q2.2

/-- The words of the queue stay: so does the queue. -/
theorem QRing.calm (h : QRing N n m qs xs) (hl : ys.length = N) (hk : ∀ c, ¬ QElse n m c → valA ys c = valA xs c) : QRing N n m qs ys := by
  refine ⟨hl, h.room, fun p hp => (h.rng p hp).keep (fun c hc => ?_) (h.nodup hp), ?_, h.mem, h.one⟩
  · have sc : QPl n m c := by
      rcases hc with e | e
      · rw [e]; exact (h.places hp).1
      · exact (h.places hp).2 _ e
    exact ⟨hk c (fun e => (e.2 c sc).1 rfl), hk (c + 1) (fun e => (e.2 c sc).2 rfl)⟩
  · obtain ⟨k, h1, h2, h3⟩ := h.bit
    exact ⟨k, (hk 8 (fun e => e.1 rfl)).trans h1, h2, h3⟩
theorem QRing.set (h : QRing N n m qs xs) {c : Int} (hc : QElse n m c) (v : Int) : QRing N n m qs (setA xs c v) :=
  h.calm (by rw [length_setA, h.len]) (fun d hd => val_other v (fun e => hd (e ▸ hc)))
/-- No list has anybody. -/
theorem QRing.none (h : QInv N m 0 (fun _ => []) xs) (hr : 43 + m + n * 24 ≤ N) : QRing N n m (fun _ => []) xs :=
  ⟨h.len, hr, fun p hp => ⟨trivial, h.chn p hp, h.lst p hp⟩, h.bit, fun _ _ => ⟨List.nodup_nil, fun j hj => by cases hj⟩, fun p q j _ _ hj => by cases hj⟩
end

theorem rdyN_lt14 (ths : List Th) (t q : Nat) : ∀ j ∈ rdyN ths t q, 0 ≤ j ∧ j < t := by
  induction t with
  | zero => intro j hj; simp [rdyN] at hj
  | succ t ih =>
    intro j hj
    rw [rdyN] at hj
    split at hj
    · rcases List.mem_append.1 hj with hj | hj
      · have := ih j hj
        omega
      · rw [List.mem_singleton] at hj
        omega
    · have := ih j hj
      omega
/-- The queue behind the threads' bodies. -/
theorem thr_ring {pt : Pt} {N n m : Nat} {xs : List Int} (h : QRing N n m (fun _ => []) xs) (hn : pt.ths.length ≤ n) (hpr : ∀ x ∈ pt.ths, 0 ≤ x.prio ∧ x.prio ≤ 15) (hN2 : N ≤ 4000) : ∀ t, t ≤ pt.ths.length → QRing N n m (rdyN pt.ths t) (thrX pt m t xs) := by
  intro t
  induction t with
  | zero => exact fun _ => h
  | succ t ih =>
    intro ht
    have hi := ih (by omega)
    have hx : pt.ths[t]? = some pt.ths[t] := List.getElem?_eq_getElem (by omega)
    obtain ⟨hp0, hp1⟩ := hpr _ (List.getElem_mem (by omega : t < pt.ths.length))
    obtain ⟨p, hp⟩ : ∃ p : Nat, pt.ths[t].prio = (p : Int) := ⟨pt.ths[t].prio.toNat, by omega⟩
    have e1 : thrX pt m (t + 1) xs = aft (thrT (nodeA m (t : Int)) (p : Int)) (thrX pt m t xs) := by
      rw [thrX, hx, ← hp]
      rfl
    have e2 : rdyN pt.ths (t + 1) = updQ (rdyN pt.ths t) p (rdyN pt.ths t p ++ [(t : Int)]) := by
      funext q
      rw [rdyN, hx, updQ]
      by_cases e : q = p
      · subst e
        rw [if_pos (by rw [Option.map_some, hp]), if_pos rfl]
      · rw [if_neg (by rw [Option.map_some, hp]; intro h9; injection h9 with h9; exact e (by omega)), if_neg e]
    have hroom := h.room
    have hA : 43 ≤ nodeA m (t : Int) ∧ nodeA m (t : Int) + 24 ≤ N := by unfold nodeA; omega
    rw [e1, e2, aft_thrT, v64 (nodeA m (t : Int) + 2 + 1) ⟨by omega, by omega⟩]
    have ef : ∀ d : Int, 2 ≤ d → d < 24 → QElse n m (nodeA m (t : Int) + d) := fun d h0 h1 => QElse.field (by omega) h0 h1
    have e3 : nodeA m (t : Int) + 2 + 1 = nodeA m (t : Int) + 3 := by omega
    rw [e3]
    have g := (((hi.set (ef 2 (by decide) (by decide)) (nodeA m (t : Int) + 2)).set (ef 3 (by decide) (by decide)) (nodeA m (t : Int) + 2)).set (ef 6 (by decide) (by decide)) (p : Int)).set (ef 7 (by decide) (by decide)) (p : Int)
    refine (g.add (by omega) (by omega) (by omega) hN2 (fun q hq hj => ?_)).1
    have h9 := rdyN_lt14 _ _ _ _ hj
    omega

/-- The queue behind Boot. -/
theorem boot_ring {pt : Pt} (h : partW pt = 0) : QRing (43 + pt.obs.length + pt.ths.length * 24 + pt.obs.length * 24) pt.ths.length pt.obs.length (rdyN pt.ths pt.ths.length) (bootX 16 [3, 5] pt pt.ths.length pt.obs.length) := by
  obtain ⟨⟨hn1, hn6⟩, hm8, hths, hobs⟩ := part_parts h
  have hob : ∀ (o : Nat) (x : Ob), pt.obs[o]? = some x → x.size.toNat ≤ 16 := fun o x hx => by
    have h8 := of_decide_eq_true (List.all_eq_true.1 hobs x (List.mem_of_getElem? hx))
    omega
  have hpr : ∀ x ∈ pt.ths, 0 ≤ x.prio ∧ x.prio ≤ 15 := fun x hx => by
    have h8 := of_decide_eq_true (List.all_eq_true.1 hths x hx)
    exact ⟨h8.1, h8.2.1⟩
  have h0 := start_inv 16 pt.ths.length pt.obs.length rfl
  have h1 := h0.same (ys := objX pt pt.ths.length pt.obs.length pt.obs.length (startX 16 pt.ths.length pt.obs.length)) (by rw [length_objX, length_startX]) (fun c hc => objX_keep pt.ths.length pt.obs.length (by omega) hob pt.obs.length _ (by omega) (by omega) c (by omega))
  have h2 := thr_ring (QRing.none (n := pt.ths.length) h1 (by omega)) (Nat.le_refl _) hpr (by omega) pt.ths.length (Nat.le_refl _)
  refine h2.calm (by rw [length_bootX]) (fun c hc => ?_)
  refine cores_keep _ _ _ (fun e => hc (e ▸ QElse.low (.inl (by decide)))) (fun e => hc (e ▸ QElse.low (.inl (by decide))))
end Go.Sept

/-
  One that writes versions and two that read, over one memory. Conditions: all of it lies in blocks that are not the same.
-/
import Derived.Test.YtcafpdnbceoekaaInv4
import Derived.Test.YtcafpdnbceoekaaMach
namespace Go.Proofs.Ytcafpdnbceoekaa
open Go.RowKit Go.Sept

/-- A table of two values. -/
def Tab (w : World) (b : Nat) (P : Nat → Value → Prop) : Prop := ∃ c t, w.heap[b]? = some (.cells c t) ∧ c.size = 2 ∧ ∀ i, i < 2 → ∃ v, c[i]? = some v ∧ P i v
theorem Tab.only {w w' : World} {b : Nat} {P : Nat → Value → Prop} {S : Nat → Prop} (h : Tab w b P) (ho : Only S w w') (hb : ¬ S b) : Tab w' b P := by
  obtain ⟨c, t, h1, h2⟩ := h
  exact ⟨c, t, (ho.block b (lt_of_block h1) hb).trans h1, h2⟩
theorem Tab.mono {w : World} {b : Nat} {P Q : Nat → Value → Prop} (h : Tab w b P) (hpq : ∀ i v, i < 2 → P i v → Q i v) : Tab w b Q := by
  obtain ⟨c, t, h1, h2, h3⟩ := h
  refine ⟨c, t, h1, h2, fun i hi => ?_⟩
  obtain ⟨v, h4, h5⟩ := h3 i hi
  exact ⟨v, h4, hpq i v hi h5⟩
theorem Tab.cell {w : World} {b : Nat} {P : Nat → Value → Prop} (h : Tab w b P) {i : Nat} (hi : i < 2) : ∃ v, w.cell? ⟨b, i, none⟩ = some v ∧ P i v ∧ w.frozen? ⟨b, i, none⟩ = false := by
  obtain ⟨c, t, h1, h2, h3⟩ := h
  obtain ⟨v, h4, h5⟩ := h3 i hi
  exact ⟨v, (cell_of_block h1 i).trans h4, h5, frozen_of_block h1 i⟩
theorem Tab.set {w : World} {b : Nat} {P Q : Nat → Value → Prop} (h : Tab w b P) {i : Nat} (v : Value) (hv : Q i v) (hpq : ∀ j u, j < 2 → j ≠ i → P j u → Q j u) : Tab (w.setCell ⟨b, i, none⟩ v) b Q := by
  obtain ⟨c, t, h1, h2, h3⟩ := h
  refine ⟨_, t, block_setCell h1 i v, by rw [Array.size_setIfInBounds]; exact h2, fun j hj => ?_⟩
  by_cases e : j = i
  · subst e
    exact ⟨v, by rw [Array.getElem?_setIfInBounds_self, if_pos (by omega)], hv⟩
  · obtain ⟨u, h4, h5⟩ := h3 j hj
    exact ⟨u, by rw [Array.getElem?_setIfInBounds_ne (fun e' => e e'.symm)]; exact h4, hpq j u hj e h5⟩

abbrev WrAt (w : World) (k v n p q : Nat) (ta : Option Addr) (tc F L U V : Nat) (s : FrSt) (f : Nat) : Prop :=
  Walks (writerK U 0 ta tc (vals (v + 1) k) V) (writeT 0 (vals (v + 1) k)) (writeM 0 (vals (v + 1) k)) w F L p q s (memAt k v n) (stW n (2 * (v : Int))) f
abbrev RdAt (w : World) (k v n p q : Nat) (F L U : Nat) (s : FrSt) (st : Nat × Int × List Int) (f : Nat) : Prop :=
  Walks (readerK U 0 k) (readT 0 k 1000) (readM 0 k) w F L p q s (memAt k v n) st f

structure Play (D : Nat → Prop) (B : Nat) (w : World) (k v n now p q FA RA LA : Nat) (Fs Ls Us : Nat → Nat) (ta : Option Addr) (tc WV : Nat) (ss : Nat → FrSt) (sts : Nat → Nat × Int × List Int) (least : Nat → Nat) : Prop where
  lay : Lay D B w p q FA RA LA Fs Ls Us WV
  mem : Holds 52 w (.pointer (some ⟨p, 0, none⟩)) p q (memAt k v n)
  wr : ¬ D 2 → ∃ f, 500 ≤ now + f ∧ WrAt w k v n p q ta tc (Fs 2) (Ls 2) (Us 2) WV (ss 2) f
  rd : ∀ i, i < 2 → ¬ D i → ∃ f, 500 ≤ now + f ∧ RdAt w k v n p q (Fs i) (Ls i) (Us i) (ss i) (sts i) f
  inv : ∀ i, i < 2 → ¬ D i → ((ss i).log = [] ∧ sts i = (0, 0, [])) ∨ ((ss i).log ≠ [] ∧ RInv k v n (least i) (sts i))
  short : ∀ a, a < 3 → ¬ D a → (ss a).log.length ≤ now
  fa : Tab w FA (fun i x => (∃ ao, x = .pointer ao) ∧ (¬ D i → x = ptr (Fs i)))
  ra : Tab w RA (fun i x => (∃ ao, x = .pointer ao) ∧ (¬ D i → x = ptr (Us i)))
  la : Tab w LA (fun i x => x = .int .i64 (least i : Int))
  low : B ≤ w.heap.size
  nk : n < k + 3
  vn : v ≤ now
  kk : 0 < k ∧ k ≤ 6

section
variable {D : Nat → Prop} {B : Nat} {w w' : World} {k v n now p q FA RA LA tc WV : Nat} {ta : Option Addr} {Fs Ls Us : Nat → Nat} {ss : Nat → FrSt} {sts : Nat → Nat × Int × List Int} {least : Nat → Nat}

theorem Play.still (h : Play D B w k v n now p q FA RA LA Fs Ls Us ta tc WV ss sts least) (ho : Only (fun _ => False) w w') : Play D B w' k v n now p q FA RA LA Fs Ls Us ta tc WV ss sts least := by
  refine ⟨h.lay.mono ho.size, h.mem.only ho (fun h => h) (fun h => h), fun hd => ?_, fun i hi hd => ?_, h.inv, h.short, h.fa.only ho (fun h => h), h.ra.only ho (fun h => h), h.la.only ho (fun h => h), by have := h.low; have := ho.size; omega, h.nk, h.vn, h.kk⟩
  · obtain ⟨f, h1, h2⟩ := h.wr hd
    exact ⟨f, h1, h2.only ho (fun h => h) (fun h => h) (fun h => h) (fun h => h) (fun _ _ h => h)⟩
  · obtain ⟨f, h1, h2⟩ := h.rd i hi hd
    exact ⟨f, h1, h2.only ho (fun h => h) (fun h => h) (fun h => h) (fun h => h) (fun _ _ h => h)⟩
theorem Play.later (h : Play D B w k v n now p q FA RA LA Fs Ls Us ta tc WV ss sts least) : Play D B w k v n (now + 1) p q FA RA LA Fs Ls Us ta tc WV ss sts least := by
  refine ⟨h.lay, h.mem, fun hd => ?_, fun i hi hd => ?_, h.inv, fun a ha hd => by have := h.short a ha hd; omega, h.fa, h.ra, h.la, h.low, h.nk, by have := h.vn; omega, h.kk⟩
  · obtain ⟨f, h1, h2⟩ := h.wr hd
    exact ⟨f, by omega, h2⟩
  · obtain ⟨f, h1, h2⟩ := h.rd i hi hd
    exact ⟨f, by omega, h2⟩

/-- What a step of one leaves of the others. -/
theorem Play.others (h : Play D B w k v n now p q FA RA LA Fs Ls Us ta tc WV ss sts least) (a : Nat) (ha : a < 3) (hd : ¬ D a) {v' n' L' : Nat} {s' : FrSt} {st' : Nat × Int × List Int}
    (hL : L' = Ls a ∨ w.heap.size ≤ L') (hL' : L' < w'.heap.size) (ho : Only (fun x => x = Fs a ∨ x = Ls a ∨ x = q ∨ x = Us a) w w') (hm : Holds 52 w' (.pointer (some ⟨p, 0, none⟩)) p q (memAt k v' n'))
    (hw : a = 2 ∨ (v' = v ∧ n' = n)) (hinv : ∀ i, i < 2 → i ≠ a → RInv k v n (least i) (sts i) → RInv k v' n' (least i) (sts i)) (hn : n' < k + 3) (hv : v' ≤ now + 1) :
    Play (fun x => D x ∨ x = a) B w' k v' n' (now + 1) p q FA RA LA Fs (ext Ls a L') Us ta tc WV (ext ss a s') (ext sts a st') least ∧ Lay D B w' p q FA RA LA Fs (ext Ls a L') Us WV ∧ Tab w' FA (fun i x => (∃ ao, x = .pointer ao) ∧ (¬ D i → x = ptr (Fs i))) ∧ Tab w' RA (fun i x => (∃ ao, x = .pointer ao) ∧ (¬ D i → x = ptr (Us i))) := by
  have ownsame : ∀ b x, b ≠ a → own Fs (ext Ls a L') Us WV b x → own Fs Ls Us WV b x := by
    intro b x hb hx
    rcases hx with hx | hx | hx | hx
    · exact .inl hx
    · rw [ext_ne _ _ hb] at hx; exact .inr (.inl hx)
    · exact .inr (.inr (.inl hx))
    · exact .inr (.inr (.inr hx))
  have hlay : Lay D B w' p q FA RA LA Fs (ext Ls a L') Us WV := by
    refine h.lay.renew ho.size a (fun b _ e => e) h.low (fun b x _ hb hx => ownsame b x hb hx) (fun x hx => ?_)
    rcases hx with hx | hx | hx | hx
    · exact .inr ⟨hd, .inl hx⟩
    · rw [ext_self] at hx
      rcases hL with e | e
      · exact .inr ⟨hd, .inr (.inl (hx.trans e))⟩
      · exact .inl ⟨by omega, by omega⟩
    · exact .inr ⟨hd, .inr (.inr (.inl hx))⟩
    · exact .inr ⟨hd, .inr (.inr (.inr hx))⟩
  have hoff := h.lay.off
  have farq : ∀ b x, b < 3 → ¬ D b → own Fs Ls Us WV b x → x ≠ q := fun b x hb hdb hx => (h.lay.far b x hb hdb hx).2.2.1
  have free : ∀ b, b < 3 → ¬ D b → b ≠ a → ∀ x, own Fs Ls Us WV b x → ¬ (x = Fs a ∨ x = Ls a ∨ x = q ∨ x = Us a) := by
    intro b hb hdb hba x hx e
    rcases e with e | e | e | e
    · exact h.lay.apart b a x hb ha hdb hd hba hx (.inl e)
    · exact h.lay.apart b a x hb ha hdb hd hba hx (.inr (.inl e))
    · exact farq b x hb hdb hx e
    · exact h.lay.apart b a x hb ha hdb hd hba hx (.inr (.inr (.inl e)))
  have tabs : ∀ T, (T = FA ∨ T = RA ∨ T = LA) → ¬ (T = Fs a ∨ T = Ls a ∨ T = q ∨ T = Us a) := by
    intro T hT e
    have f1 := h.lay.far a (Fs a) ha hd (.inl rfl)
    have f2 := h.lay.far a (Ls a) ha hd (.inr (.inl rfl))
    have f3 := h.lay.far a (Us a) ha hd (.inr (.inr (.inl rfl)))
    rcases hT with hT | hT | hT <;> rcases e with e | e | e | e
    · exact f1.2.2.2.1 (e.symm.trans hT)
    · exact f2.2.2.2.1 (e.symm.trans hT)
    · exact hoff.2.1.1 (e.symm.trans hT)
    · exact f3.2.2.2.1 (e.symm.trans hT)
    · exact f1.2.2.2.2.1 (e.symm.trans hT)
    · exact f2.2.2.2.2.1 (e.symm.trans hT)
    · exact hoff.2.1.2.1 (e.symm.trans hT)
    · exact f3.2.2.2.2.1 (e.symm.trans hT)
    · exact f1.2.2.2.2.2 (e.symm.trans hT)
    · exact f2.2.2.2.2.2 (e.symm.trans hT)
    · exact hoff.2.1.2.2 (e.symm.trans hT)
    · exact f3.2.2.2.2.2 (e.symm.trans hT)
  have alive : ∀ {x}, ¬ (D x ∨ x = a) → ¬ D x ∧ x ≠ a := fun hx => ⟨fun e => hx (.inl e), fun e => hx (.inr e)⟩
  refine ⟨⟨hlay.dead (fun b e => .inl e), hm, fun hd2 => ?_, fun i hi hdi => ?_, fun i hi hdi => ?_, fun b hb hdb => ?_, ?_, ?_, ?_, by have := h.low; have := ho.size; omega, hn, hv, h.kk⟩, hlay, h.fa.only ho (tabs FA (.inl rfl)), h.ra.only ho (tabs RA (.inr (.inl rfl)))⟩
  · obtain ⟨d1, d2⟩ := alive hd2
    obtain ⟨f, h1, h2⟩ := h.wr d1
    have hvn : v' = v ∧ n' = n := hw.resolve_left (fun e => d2 e.symm)
    obtain ⟨rfl, rfl⟩ := hvn
    rw [ext_ne _ _ d2, ext_ne _ _ d2]
    refine ⟨f, by omega, h2.mem ho hm (free 2 (by omega) d1 d2 _ (.inl rfl)) (free 2 (by omega) d1 d2 _ (.inr (.inl rfl))) (fun x hx => free 2 (by omega) d1 d2 x ?_)⟩
    rcases hx with hx | ⟨_, hx⟩
    · exact .inr (.inr (.inl hx))
    · exact .inr (.inr (.inr ⟨rfl, hx⟩))
  · obtain ⟨d1, d2⟩ := alive hdi
    obtain ⟨f, h1, h2⟩ := h.rd i hi d1
    rw [ext_ne _ _ d2, ext_ne _ _ d2, ext_ne _ _ d2]
    refine ⟨f, by omega, h2.mem ho hm (free i (by omega) d1 d2 _ (.inl rfl)) (free i (by omega) d1 d2 _ (.inr (.inl rfl))) (fun x hx => free i (by omega) d1 d2 x (.inr (.inr (.inl hx))))⟩
  · obtain ⟨d1, d2⟩ := alive hdi
    rw [ext_ne _ _ d2, ext_ne _ _ d2]
    rcases h.inv i hi d1 with h1 | h1
    · exact .inl h1
    · exact .inr ⟨h1.1, hinv i hi d2 h1.2⟩
  · obtain ⟨d1, d2⟩ := alive hdb
    rw [ext_ne _ _ d2]
    have := h.short b hb d1
    omega
  · exact (h.fa.only ho (tabs FA (.inl rfl))).mono (fun i x _ e => ⟨e.1, fun hd' => e.2 (alive hd').1⟩)
  · exact (h.ra.only ho (tabs RA (.inr (.inl rfl)))).mono (fun i x _ e => ⟨e.1, fun hd' => e.2 (alive hd').1⟩)
  · exact h.la.only ho (tabs LA (.inr (.inr rfl)))
end
end Go.Proofs.Ytcafpdnbceoekaa

/-
  Steps of one that writes versions and of two that read, over one memory. Conditions: all of it lies in blocks that are not the same.
-/
import Derived.Test.YtcafpdnbceoekaaPlay4
namespace Go.Proofs.Ytcafpdnbceoekaa
open Go.RowKit Go.Sept

section
variable {D : Nat → Prop} {B : Nat} {w w' : World} {k v n now p q FA RA LA tc WV : Nat} {ta : Option Addr} {Fs Ls Us : Nat → Nat} {ss : Nat → FrSt} {sts : Nat → Nat × Int × List Int} {least : Nat → Nat}

theorem Play.revive {a : Nat} (h : Play (fun x => D x ∨ x = a) B w k v n now p q FA RA LA Fs Ls Us ta tc WV ss sts least) (hl : Lay D B w p q FA RA LA Fs Ls Us WV)
    (hfa : Tab w FA (fun i x => (∃ ao, x = .pointer ao) ∧ (¬ D i → x = ptr (Fs i)))) (hra : Tab w RA (fun i x => (∃ ao, x = .pointer ao) ∧ (¬ D i → x = ptr (Us i)))) (hs : (ss a).log.length ≤ now)
    (hwr : a = 2 → ∃ f, 500 ≤ now + f ∧ WrAt w k v n p q ta tc (Fs 2) (Ls 2) (Us 2) WV (ss 2) f)
    (hrd : a < 2 → (∃ f, 500 ≤ now + f ∧ RdAt w k v n p q (Fs a) (Ls a) (Us a) (ss a) (sts a) f) ∧ (((ss a).log = [] ∧ sts a = (0, 0, [])) ∨ ((ss a).log ≠ [] ∧ RInv k v n (least a) (sts a)))) :
    Play D B w k v n now p q FA RA LA Fs Ls Us ta tc WV ss sts least := by
  have both : ∀ {x}, ¬ D x → x ≠ a → ¬ (D x ∨ x = a) := fun h1 h2 e => e.elim h1 h2
  refine ⟨hl, h.mem, fun hd => ?_, fun i hi hd => ?_, fun i hi hd => ?_, fun b hb hd => ?_, hfa, hra, h.la, h.low, h.nk, h.vn, h.kk⟩
  · by_cases e : 2 = a
    · exact hwr e.symm
    · exact h.wr (both hd e)
  · by_cases e : i = a
    · subst e; exact (hrd hi).1
    · exact h.rd i hi (both hd e)
  · by_cases e : i = a
    · subst e; exact (hrd hi).2
    · exact h.inv i hi (both hd e)
  · by_cases e : b = a
    · subst e; exact hs
    · exact h.short b hb (both hd e)

/-- A step of the one that writes. -/
theorem play_write (h : Play D B w k v n now p q FA RA LA Fs Ls Us ta tc WV ss sts least) (hd : ¬ D 2) (hnow : now ≤ 400) :
    Calls Try.prog 16 #[.pointer (some ⟨Fs 2, 0, none⟩), .int .i64 (now : Int), bodyV 10 (.pointer (some ⟨Us 2, 0, none⟩))] w fun e w' => ∃ L' s', Only (fun x => x = Fs 2 ∨ x = Ls 2 ∨ x = q ∨ x = Us 2) w w' ∧
      ((e = .returned (.bool false) ∧ n + 1 < k + 3 ∧ Play D B w' k v (n + 1) (now + 1) p q FA RA LA Fs (ext Ls 2 L') Us ta tc WV (ext ss 2 s') (ext sts 2 (0, 0, [])) least) ∨
       (e = .returned (.bool true) ∧ n + 1 = k + 3 ∧ Play (fun x => D x ∨ x = 2) B w' k (v + 1) 0 (now + 1) p q FA RA LA Fs (ext Ls 2 L') Us ta tc WV (ext ss 2 s') (ext sts 2 (0, 0, [])) least)) := by
  obtain ⟨f, hf, hw⟩ := h.wr hd
  obtain ⟨f, rfl⟩ : ∃ g, f = g + 1 := ⟨f - 1, by omega⟩
  have hk := h.kk
  have hv := h.vn
  have hn := h.nk
  have hlen : (vals (v + 1) k).length = (vals v k).length := by rw [vals_length, vals_length]
  obtain ⟨k1, a1, v1, u1, g1, g2, g3⟩ := write_go (c := 2 * (v : Int)) (post := restOf k) hlen (by rw [vals_length]; omega) (n := n) (by rw [vals_length]; exact hn)
  refine (hw.step (writer_of 5000 (Nat.le_refl _) (Us 2) 0 ta tc (vals (v + 1) k) WV (by rw [vals_length]; omega)) (now : Int) (by have := h.short 2 (by omega) hd; omega) g1).mono ?_
  rintro e w' ⟨s', L', hlog, hL, ho, hor⟩
  rw [show memAt k v n = wmem (2 * (v : Int)) (vals v k) (vals (v + 1) k) (restOf k) n from rfl, g2, g3] at hor
  have ho' : Only (fun x => x = Fs 2 ∨ x = Ls 2 ∨ x = q ∨ x = Us 2) w w' := ho.mono (fun x _ e => by
    rcases e with e | e | e | e
    · exact .inl e
    · exact .inr (.inl e)
    · exact .inr (.inr (.inl e))
    · exact e.elim)
  have hst : stW (n + 1) (2 * (v : Int)) = (n + 1, 2 * (v : Int)) := by rw [stW, if_neg (by omega)]
  refine ⟨L', s', ho', ?_⟩
  rcases hor with ⟨x, hx, rfl, hdone, hmp, hnear, _⟩ | ⟨⟨Bx, hx⟩, rfl, hwk⟩
  · have hn3 : n + 1 = k + 3 := by
      by_cases e : n + 1 < k + 3
      · obtain ⟨Bx, hB⟩ := writeM_more (a := 0) (l := vals (v + 1) k) (n := n + 1) (2 * (v : Int)) (by rw [vals_length]; exact e)
        rw [hst, hB] at hx
        cases hx
      · omega
    rw [hn3, memAt_next (by omega)] at hnear
    have hm := hnear.fm.mem
    rw [hmp] at hm
    exact .inr ⟨rfl, hn3, (h.others 2 (by omega) hd hL hnear.fm.ll ho' hm (.inl rfl) (fun i _ _ hr => hr.done) (by omega) (by omega)).1⟩
  · have hn3 : n + 1 < k + 3 := by
      by_cases e : n + 1 < k + 3
      · exact e
      · have e1 : n + 1 = (vals (v + 1) k).length + 3 := by rw [vals_length]; omega
        rw [hst, e1, writeM_end] at hx
        cases hx
    obtain ⟨o1, o2, o3, o4⟩ := h.others (s' := s') (st' := (0, 0, [])) 2 (by omega) hd hL hwk.near.fm.ll ho' hwk.holds (.inl rfl) (fun i _ _ hr => hr.write) hn3 (by omega)
    refine .inl ⟨rfl, hn3, o1.revive o2 o3 o4 ?_ (fun _ => ⟨f, by omega, ?_⟩) (fun e => by omega)⟩
    · rw [ext_self, hlog, List.length_append, List.length_singleton]
      have := h.short 2 (by omega) hd
      omega
    · rw [ext_self, ext_self]
      exact hwk

/-- A step of one that reads. -/
theorem play_read (h : Play D B w k v n now p q FA RA LA Fs Ls Us ta tc WV ss sts least) {i : Nat} (hi : i < 2) (hd : ¬ D i) (hr : RInv k v n (least i) (sts i)) (hnow : now ≤ 400) :
    Calls Try.prog 16 #[.pointer (some ⟨Fs i, 0, none⟩), .int .i64 (now : Int), bodyV 11 (.pointer (some ⟨Us i, 0, none⟩))] w fun e w' => ∃ r L' s' st', e = .returned (.bool r) ∧ Only (fun x => x = Fs i ∨ x = Ls i ∨ x = q ∨ x = Us i) w w' ∧ Tab w' FA (fun i x => (∃ ao, x = .pointer ao) ∧ (¬ D i → x = ptr (Fs i))) ∧ Tab w' RA (fun i x => (∃ ao, x = .pointer ao) ∧ (¬ D i → x = ptr (Us i))) ∧
      ((r = false ∧ Play D B w' k v n (now + 1) p q FA RA LA Fs (ext Ls i L') Us ta tc WV (ext ss i s') (ext sts i st') least) ∨
       (r = true ∧ Play (fun x => D x ∨ x = i) B w' k v n (now + 1) p q FA RA LA Fs (ext Ls i L') Us ta tc WV (ext ss i s') (ext sts i st') least ∧ ∃ u y, least i ≤ u ∧ u ≤ v ∧ w'.heap[Us i]? = some (readerO 0 k y) ∧ GotIs w' y (some (vals u k)) w.heap.size)) := by
  obtain ⟨f, hf, hw⟩ := h.rd i hi hd
  obtain ⟨f, rfl⟩ : ∃ g, f = g + 1 := ⟨f - 1, by omega⟩
  have hk := h.kk
  have hv := h.vn
  have hn := h.nk
  obtain ⟨a1, g1, g2⟩ := read_go hk.2 (by omega) hn hr
  refine (hw.step (reader_of 1000 (by decide) (Us i) 0 k (by omega)) (now : Int) (by have := h.short i (by omega) hd; omega) g1).mono ?_
  rintro e w' ⟨s', L', hlog, hL, ho, hor⟩
  rw [load_ans, load_aft] at hor
  have ho' : Only (fun x => x = Fs i ∨ x = Ls i ∨ x = q ∨ x = Us i) w w' := ho
  rcases hor with ⟨x, hx, rfl, hdone, hmp, hnear, hpost⟩ | ⟨⟨Bx, hx⟩, rfl, hwk⟩
  · rcases g2 with g2 | ⟨u, g2, g3, g4⟩
    · exfalso
      obtain ⟨_, hB, _⟩ := read_go hk.2 (by omega) hn g2
      rw [hB] at hx
      cases hx
    · rw [g2, readM_end] at hx
      obtain rfl := Sum.inl.inj hx
      have hm := hnear.fm.mem
      rw [hmp] at hm
      obtain ⟨o1, _, o3, o4⟩ := h.others (s' := s') (st' := (0, 0, [])) i (by omega) hd hL hnear.fm.ll ho' hm (.inr ⟨rfl, rfl⟩) (fun _ _ _ hr => hr) hn (by omega)
      obtain ⟨y, y1, y2⟩ := hpost
      exact ⟨true, L', s', (0, 0, []), rfl, ho', o3, o4, .inr ⟨rfl, o1, u, y, g3, g4, y1, y2⟩⟩
  · obtain ⟨o1, o2, o3, o4⟩ := h.others (s' := s') (st' := (readM 0 k).next (sts i) (valA (memAt k v n) a1)) i (by omega) hd hL hwk.near.fm.ll ho' hwk.holds (.inr ⟨rfl, rfl⟩) (fun _ _ _ hr => hr) hn (by omega)
    refine ⟨false, L', s', _, rfl, ho', o3, o4, .inl ⟨rfl, o1.revive o2 o3 o4 ?_ (fun e => by omega) (fun _ => ⟨⟨f, by omega, ?_⟩, .inr ⟨by rw [ext_self, hlog]; simp, ?_⟩⟩)⟩⟩
    · rw [ext_self, hlog, List.length_append, List.length_singleton]
      have := h.short i (by omega) hd
      omega
    · rw [ext_self, ext_self, ext_self]
      exact hwk
    · rw [ext_self]
      rcases g2 with g2 | ⟨u, g2, _⟩
      · exact g2
      · rw [g2, readM_end] at hx
        cases hx

/-- Behind stores into the tables. -/
theorem Play.tables (h : Play D B w k v n now p q FA RA LA Fs Ls Us ta tc WV ss sts least) (ho : Only (fun x => x = FA ∨ x = RA ∨ x = LA) w w') {least' : Nat → Nat}
    (hfa : Tab w' FA (fun i x => (∃ ao, x = .pointer ao) ∧ (¬ D i → x = ptr (Fs i)))) (hra : Tab w' RA (fun i x => (∃ ao, x = .pointer ao) ∧ (¬ D i → x = ptr (Us i)))) (hla : Tab w' LA (fun i x => x = .int .i64 (least' i : Int)))
    (hinv : ∀ i, i < 2 → ¬ D i → ((ss i).log = [] ∧ sts i = (0, 0, [])) ∨ ((ss i).log ≠ [] ∧ RInv k v n (least' i) (sts i))) : Play D B w' k v n now p q FA RA LA Fs Ls Us ta tc WV ss sts least' := by
  have hoff := h.lay.off
  have np : ¬ (p = FA ∨ p = RA ∨ p = LA) := by
    rintro (e | e | e)
    · exact hoff.1.1 e
    · exact hoff.1.2.1 e
    · exact hoff.1.2.2 e
  have nq : ¬ (q = FA ∨ q = RA ∨ q = LA) := by
    rintro (e | e | e)
    · exact hoff.2.1.1 e
    · exact hoff.2.1.2.1 e
    · exact hoff.2.1.2.2 e
  have free : ∀ b, b < 3 → ¬ D b → ∀ x, own Fs Ls Us WV b x → ¬ (x = FA ∨ x = RA ∨ x = LA) := by
    intro b hb hdb x hx e
    have f1 := h.lay.far b x hb hdb hx
    rcases e with e | e | e
    · exact f1.2.2.2.1 e
    · exact f1.2.2.2.2.1 e
    · exact f1.2.2.2.2.2 e
  refine ⟨h.lay.mono ho.size, h.mem.only ho np nq, fun hd => ?_, fun i hi hd => ?_, hinv, h.short, hfa, hra, hla, by have := h.low; have := ho.size; omega, h.nk, h.vn, h.kk⟩
  · obtain ⟨f, h1, h2⟩ := h.wr hd
    refine ⟨f, h1, h2.only ho (free 2 (by omega) hd _ (.inl rfl)) (free 2 (by omega) hd _ (.inr (.inl rfl))) np nq (fun x hx => free 2 (by omega) hd x ?_)⟩
    rcases hx with hx | ⟨_, hx⟩
    · exact .inr (.inr (.inl hx))
    · exact .inr (.inr (.inr ⟨rfl, hx⟩))
  · obtain ⟨f, h1, h2⟩ := h.rd i hi hd
    exact ⟨f, h1, h2.only ho (free i (by omega) hd _ (.inl rfl)) (free i (by omega) hd _ (.inr (.inl rfl))) np nq (fun x hx => free i (by omega) hd x (.inr (.inr (.inl hx))))⟩

theorem own_ext {a F L U b x : Nat} (hb : b ≠ a) (h : own (ext Fs a F) (ext Ls a L) (ext Us a U) WV b x) : own Fs Ls Us WV b x := by
  rcases h with h | h | h | h
  · rw [ext_ne _ _ hb] at h; exact .inl h
  · rw [ext_ne _ _ hb] at h; exact .inr (.inl h)
  · rw [ext_ne _ _ hb] at h; exact .inr (.inr (.inl h))
  · exact .inr (.inr (.inr h))

/-- One that writes the next version begins. -/
theorem Play.writer (h : Play (fun x => D x ∨ x = 2) B w k v 0 now p q FA RA LA Fs Ls Us ta tc WV ss sts least) (ho : Only (fun _ => False) w w') {F U V tc' : Nat} {ta' : Option Addr}
    (hf : FrameIs w' F F (fresh (some ⟨p, 0, none⟩))) (hU : w'.heap[U]? = some (writerO 0 ta' tc' (vals (v + 1) k))) (hS : Sees w' ta' (vals (v + 1) k) V) (zF : w.heap.size ≤ F) (zU : w.heap.size ≤ U) (zV : w.heap.size ≤ V) (n1 : U ≠ F) (n2 : V ≠ F) :
    Play D B w' k v 0 now p q FA RA LA (ext Fs 2 F) (ext Ls 2 F) (ext Us 2 U) ta' tc' V (ext ss 2 (fresh (some ⟨p, 0, none⟩))) sts least := by
  have h1 := h.still ho
  have hk := h.kk
  have hne : vals (v + 1) k ≠ [] := by
    intro e
    have := vals_length (v + 1) k
    rw [e] at this
    have h9 : (0 : Nat) = k := this
    omega
  have hV := hS.lt hne
  have lF := hf.lt
  have lU := lt_of_block hU
  obtain ⟨b1, b2, _⟩ := h.lay.base
  obtain ⟨c1, c2, _⟩ := h1.lay.base
  have both : ∀ {x}, ¬ D x → x ≠ 2 → ¬ (D x ∨ x = 2) := fun h1 h2 e => e.elim h1 h2
  refine ⟨?_, h1.mem, fun _ => ?_, fun i hi hd => ?_, fun i hi hd => ?_, fun b hb hd => ?_, ?_, ?_, h1.la, h1.low, h1.nk, h1.vn, hk⟩
  · refine h.lay.renew ho.size 2 (fun b hb e => e.elim (fun e => e) (fun e => absurd e hb)) h.low (fun b x _ hb hx => ?_) (fun x hx => .inl ?_)
    · rcases hx with hx | hx | hx | hx
      · rw [ext_ne _ _ hb] at hx; exact .inl hx
      · rw [ext_ne _ _ hb] at hx; exact .inr (.inl hx)
      · rw [ext_ne _ _ hb] at hx; exact .inr (.inr (.inl hx))
      · exact absurd hx.1 hb
    · rcases hx with hx | hx | hx | hx
      · rw [ext_self] at hx; omega
      · rw [ext_self] at hx; omega
      · rw [ext_self] at hx; omega
      · omega
  · refine ⟨1000, by omega, ?_⟩
    rw [ext_self, ext_self, ext_self, ext_self]
    refine Walks.start ⟨⟨hf, h1.mem, c1, c2, lF, by omega, by omega, by omega, by omega⟩, ⟨hU, hS⟩, ?_⟩ (sim_write (by rw [vals_length]; omega) (by rw [vals_length]; omega) 1001)
    rintro x (rfl | ⟨_, rfl⟩)
    · exact ⟨n1, n1, by omega, by omega⟩
    · exact ⟨n2, n2, by omega, by omega⟩
  · have hi2 : i ≠ 2 := by omega
    rw [ext_ne _ _ hi2, ext_ne _ _ hi2, ext_ne _ _ hi2, ext_ne _ _ hi2]
    exact h1.rd i hi (both hd hi2)
  · have hi2 : i ≠ 2 := by omega
    rw [ext_ne _ _ hi2]
    exact h1.inv i hi (both hd hi2)
  · by_cases e : b = 2
    · subst e; rw [ext_self]; exact Nat.zero_le _
    · rw [ext_ne _ _ e]; exact h1.short b hb (both hd e)
  · exact h1.fa.mono (fun i x hi e => ⟨e.1, fun hd => by rw [ext_ne _ _ (by omega)]; exact e.2 (both hd (by omega))⟩)
  · exact h1.ra.mono (fun i x hi e => ⟨e.1, fun hd => by rw [ext_ne _ _ (by omega)]; exact e.2 (both hd (by omega))⟩)

/-- One that reads begins. -/
theorem Play.reader {i : Nat} (h : Play (fun x => D x ∨ x = i) B w k v n now p q FA RA LA Fs Ls Us ta tc WV ss sts least) (hi : i < 2) (ho : Only (fun _ => False) w w') {F U : Nat}
    (hf : FrameIs w' F F (fresh (some ⟨p, 0, none⟩))) (hU : w'.heap[U]? = some (readerO 0 k (.slice none 0 0))) (zF : w.heap.size ≤ F) (zU : w.heap.size ≤ U) (n1 : U ≠ F) :
    Play D B ((w'.setCell ⟨FA, i, none⟩ (ptr F)).setCell ⟨RA, i, none⟩ (ptr U)) k v n now p q FA RA LA (ext Fs i F) (ext Ls i F) (ext Us i U) ta tc WV (ext ss i (fresh (some ⟨p, 0, none⟩))) (ext sts i (0, 0, [])) least := by
  have hk := h.kk
  have lF := hf.lt
  have lU := lt_of_block hU
  obtain ⟨b1, b2, b3, b4, b5⟩ := h.lay.base
  have hoff := h.lay.off
  have hO : Only (fun x => x = FA ∨ x = RA ∨ x = LA) w' ((w'.setCell ⟨FA, i, none⟩ (ptr F)).setCell ⟨RA, i, none⟩ (ptr U)) :=
    ((Only.refl _ w').setCell (p := ⟨FA, i, none⟩) (.inr (.inl rfl)) _).setCell (p := ⟨RA, i, none⟩) (.inr (.inr (.inl rfl))) _
  have both : ∀ {x}, ¬ D x → x ≠ i → ¬ (D x ∨ x = i) := fun h1 h2 e => e.elim h1 h2
  have h1 := h.still ho
  have h2 : Play (fun x => D x ∨ x = i) B ((w'.setCell ⟨FA, i, none⟩ (ptr F)).setCell ⟨RA, i, none⟩ (ptr U)) k v n now p q FA RA LA Fs Ls Us ta tc WV ss sts least := by
    refine h1.tables hO ?_ ?_ ?_ h1.inv
    · refine Tab.only (h1.fa.set (ptr F) ⟨⟨_, rfl⟩, fun hd => absurd (.inr rfl) hd⟩ (fun _ _ _ _ e => e)) (((Only.self RA _).own i (ptr U))) (fun e => hoff.2.2.1 e)
    · refine Tab.set (Tab.only h1.ra ((Only.self FA _).own i (ptr F)) (fun e => hoff.2.2.1 e.symm)) (ptr U) ⟨⟨_, rfl⟩, fun hd => absurd (.inr rfl) hd⟩ (fun _ _ _ _ e => e)
    · refine Tab.only (Tab.only h1.la ((Only.self FA _).own i (ptr F)) (fun e => hoff.2.2.2.1 e.symm)) ((Only.self RA _).own i (ptr U)) (fun e => hoff.2.2.2.2 e.symm)
  have hF2 : FrameIs ((w'.setCell ⟨FA, i, none⟩ (ptr F)).setCell ⟨RA, i, none⟩ (ptr U)) F F (fresh (some ⟨p, 0, none⟩)) := hf.only hO (by omega) (by omega)
  have hU2 : ((w'.setCell ⟨FA, i, none⟩ (ptr F)).setCell ⟨RA, i, none⟩ (ptr U)).heap[U]? = some (readerO 0 k (.slice none 0 0)) := (hO.block U lU (by omega)).trans hU
  have hfa2 : Tab ((w'.setCell ⟨FA, i, none⟩ (ptr F)).setCell ⟨RA, i, none⟩ (ptr U)) FA (fun j x => (∃ ao, x = .pointer ao) ∧ (¬ D j → x = ptr (ext Fs i F j))) := by
    refine Tab.only (h1.fa.set (ptr F) ⟨⟨_, rfl⟩, fun _ => by rw [ext_self]⟩ (fun j x _ hj e => ⟨e.1, fun hd => by rw [ext_ne _ _ hj]; exact e.2 (both hd hj)⟩)) (((Only.self RA _).own i (ptr U))) (fun e => hoff.2.2.1 e)
  have hra2 : Tab ((w'.setCell ⟨FA, i, none⟩ (ptr F)).setCell ⟨RA, i, none⟩ (ptr U)) RA (fun j x => (∃ ao, x = .pointer ao) ∧ (¬ D j → x = ptr (ext Us i U j))) := by
    refine Tab.set (Tab.only h1.ra ((Only.self FA _).own i (ptr F)) (fun e => hoff.2.2.1 e.symm)) (ptr U) ⟨⟨_, rfl⟩, fun _ => by rw [ext_self]⟩ (fun j x _ hj e => ⟨e.1, fun hd => by rw [ext_ne _ _ hj]; exact e.2 (both hd hj)⟩)
  generalize (w'.setCell ⟨FA, i, none⟩ (ptr F)).setCell ⟨RA, i, none⟩ (ptr U) = w2 at *
  have z2 := hO.size
  have z1 := ho.size
  obtain ⟨c1, c2, _⟩ := h2.lay.base
  refine ⟨?_, h2.mem, fun hd => ?_, fun j hj hd => ?_, fun j hj hd => ?_, fun b hb hd => ?_, hfa2, hra2, h2.la, h2.low, h2.nk, h2.vn, hk⟩
  · refine h.lay.renew (Nat.le_trans z1 z2) i (fun b hb e => e.elim (fun e => e) (fun e => absurd e hb)) h.low (fun b x _ hb hx => own_ext hb hx) (fun x hx => .inl ?_)
    rcases hx with hx | hx | hx | hx
    · rw [ext_self] at hx; omega
    · rw [ext_self] at hx; omega
    · rw [ext_self] at hx; omega
    · omega
  · have hi2 : 2 ≠ i := by omega
    rw [ext_ne _ _ hi2, ext_ne _ _ hi2, ext_ne _ _ hi2, ext_ne _ _ hi2]
    exact h2.wr (both hd hi2)
  · by_cases e : j = i
    · subst e
      rw [ext_self, ext_self, ext_self, ext_self, ext_self]
      refine ⟨999, by omega, Walks.start ⟨⟨hF2, h2.mem, c1, c2, hF2.lt, by omega, by omega, by omega, by omega⟩, ⟨_, hU2⟩, ?_⟩ (sim_read (by omega) (by omega) 1000)⟩
      rintro x rfl
      exact ⟨n1, n1, by omega, by omega⟩
    · rw [ext_ne _ _ e, ext_ne _ _ e, ext_ne _ _ e, ext_ne _ _ e, ext_ne _ _ e]
      exact h2.rd j hj (both hd e)
  · by_cases e : j = i
    · subst e
      rw [ext_self, ext_self]
      exact .inl ⟨rfl, rfl⟩
    · rw [ext_ne _ _ e, ext_ne _ _ e]
      exact h2.inv j hj (both hd e)
  · by_cases e : b = i
    · subst e; rw [ext_self]; exact Nat.zero_le _
    · rw [ext_ne _ _ e]; exact h2.short b hb (both hd e)
end
end Go.Proofs.Ytcafpdnbceoekaa

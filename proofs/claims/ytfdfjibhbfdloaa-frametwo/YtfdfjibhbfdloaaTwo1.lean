/-
  A turn of septumlaw02.FrameTwo: what a step of one frame, and of its plain accesses, leaves of all three. Conditions: all of it lies in blocks that are not the same.
-/
import Derived.Test.YtfdfjibhbfdloaaTwo0
namespace Go.Proofs.Ytfdfjibhbfdloaa
open Go.RowKit Go.Sept

section
variable {B : Nat} {w : World} {k p q rp rq : Nat} {ds : Nat → D} {xs ys : List Int}

/-- A step, told with what turns; of one that is done, too. -/
theorem turn_step (h : Team B w k p q rp rq ds xs ys) (g : Nat) (hg : g < k) (now : Int) (hu : (ds g).s.underway = false) (hlog : (ds g).s.log = (ds g).log) (hl : Live (ds g).ins (ds g).log) (hlen : (ds g).ins.length ≤ 60) :
    Calls Try.prog 13 #[.pointer (some ⟨(ds g).F, 0, none⟩), .int .i64 now, bodyV (ds g).P] w fun e w' => ∃ b d xs', e = .returned (.bool b) ∧ Team B w' k p q rp rq (ext2 ds g d) xs' ys ∧
      (d.F = (ds g).F ∧ d.P = (ds g).P ∧ d.Q = (ds g).Q ∧ d.ins = (ds g).ins ∧ d.log = (ds g).log ∧ d.s.underway = false) ∧
      ((ds g).s.done = true → xs' = xs ∧ d.s.log = (ds g).log ∧ d.s.done = true ∧ d.got = (ds g).got) ∧
      ((ds g).s.done = false → xs' = (nx (ds g).ins (ds g).log xs now).2 ∧ d.s.log = (nx (ds g).ins (ds g).log xs now).1 ∧ (d.s.done = true → d.got = (ctlOf (ds g).ins (nx (ds g).ins (ds g).log xs now).1).got)) ∧
      Only (fun b => b = q ∨ (ds g).mine false b) w w' ∧ (∀ c b, d.mine c b → (ds g).mine c b ∨ w.heap.size ≤ b) := by
  have hS : ∀ b, (b = (ds g).F ∨ b = (ds g).lb ∨ b = q ∨ b = (ds g).P) → b = q ∨ (ds g).mine false b := by
    rintro b (e | e | e | e)
    · exact .inr (.inl e)
    · exact .inr (.inr (.inl e))
    · exact .inl e
    · exact .inr (.inr (.inr (.inl e)))
  have hM : ∀ (lb' gb' : Nat) (s' : FrSt) (last' : Int) (got' : List Int), (lb' = (ds g).lb ∨ w.heap.size ≤ lb') → (gb' = (ds g).P ∨ w.heap.size ≤ gb') → ∀ c b, (({ ds g with lb := lb', gb := gb', s := s', last := last', got := got' } : D)).mine c b → (ds g).mine c b ∨ w.heap.size ≤ b := by
    intro lb' gb' s' last' got' hlb hgb c b hb
    cases c
    · rcases hb with e | e | e | e
      · exact .inl (.inl e)
      · rcases hlb with e1 | e1
        · exact .inl (.inr (.inl (e.trans e1)))
        · exact .inr (by rw [e]; exact e1)
      · exact .inl (.inr (.inr (.inl e)))
      · rcases hgb with e1 | e1
        · exact .inl (.inr (.inr (.inl (e.trans e1))))
        · exact .inr (by rw [e]; exact e1)
    · exact .inl hb
  cases hd : (ds g).s.done with
  | true =>
    refine (step_over w _ _ _ now (h.real g hg).fm.frame hd _).mono ?_
    rintro e w' ⟨rfl, rfl⟩
    have e1 : ext2 ds g (ds g) = ds := by
      funext i
      unfold ext2
      split
      · rename_i e; rw [e]
      · rfl
    exact ⟨true, ds g, xs, rfl, by rw [e1]; exact h, ⟨rfl, rfl, rfl, rfl, rfl, hu⟩, fun _ => ⟨rfl, hlog, hd, rfl⟩, fun h9 => absurd h9 (by decide), Only.refl _ _, fun c b hb => .inl hb⟩
  | false =>
    by_cases hc : (ctlOf (ds g).ins (ds g).log).i < (ds g).ins.length
    · have e1 : nx (ds g).ins (ds g).log xs now = (nextLog (ds g).ins (ds g).log xs now, nextWords (ds g).ins (ds g).log xs) := by rw [nx, if_pos hc]
      rw [e1]
      refine (step2_go w _ _ p q _ _ _ _ _ _ _ xs _ _ now (ds g).log hlog (h.real g hg) hd hu hl hlen hc).mono ?_
      rintro e w' ⟨lb', gb', s', last', got', rfl, hU, ⟨r1, r2, r3, r4⟩, r5, hlb, hgb, ho⟩
      exact ⟨_, _, _, rfl, h.stepped hg hU r1 hlb hgb ho, ⟨rfl, rfl, rfl, rfl, rfl, r3⟩, fun h9 => absurd h9 (by decide), fun _ => ⟨rfl, r2, fun h9 => (r5 (r4 ▸ h9)).1⟩, ho.mono (fun b _ e => hS b e), hM _ _ _ _ _ hlb hgb⟩
    · have e1 : nx (ds g).ins (ds g).log xs now = ((ds g).log, xs) := by rw [nx, if_neg hc]
      rw [e1]
      refine (step2_none w _ _ p q _ _ _ _ _ _ _ xs _ _ now (ds g).log hlog (h.real g hg) hd hu hl hlen hc).mono ?_
      rintro e w' ⟨lb', gb', s', last', got', rfl, hU, ⟨r1, r2, r3, r4⟩, r5, hlb, hgb, ho⟩
      exact ⟨_, _, _, rfl, h.stepped hg hU r1 hlb hgb ho, ⟨rfl, rfl, rfl, rfl, rfl, r3⟩, fun h9 => absurd h9 (by decide), fun _ => ⟨rfl, r2, fun _ => r5.1⟩, ho.mono (fun b _ e => hS b e), hM _ _ _ _ _ hlb hgb⟩

theorem turn_plain (h : Team B w k p q rp rq ds xs ys) (g : Nat) (hg : g < k) (now : Int) (hl : Live (ds g).ins (ds g).log) (hlen : (ds g).ins.length ≤ 60) :
    Calls Try.prog 15 #[.pointer (some ⟨(ds g).Q, 0, none⟩), .pointer (some ⟨rp, 0, none⟩), .int .i64 now] w fun e w' => ∃ b d, e = .returned (.bool b) ∧ Team B w' k p q rp rq (ext2 ds g d) xs (nx (ds g).ins (ds g).log ys now).2 ∧
      (d.F = (ds g).F ∧ d.P = (ds g).P ∧ d.Q = (ds g).Q ∧ d.ins = (ds g).ins ∧ d.s = (ds g).s ∧ d.got = (ds g).got) ∧ d.log = (nx (ds g).ins (ds g).log ys now).1 ∧ Only (fun b => b = rq ∨ (ds g).mine true b) w w' ∧ (∀ c b, d.mine c b → (ds g).mine c b ∨ w.heap.size ≤ b) := by
  have hS : ∀ b, (b = (ds g).Q ∨ b = (ds g).gq ∨ b = rq) → b = rq ∨ (ds g).mine true b := by
    rintro b (e | e | e)
    · exact .inr (.inl e)
    · exact .inr (.inr e)
    · exact .inl e
  have hM : ∀ (gq' : Nat) (log' : List (Int × Int)), (gq' = (ds g).gq ∨ w.heap.size ≤ gq') → ∀ c b, (({ ds g with gq := gq', log := log' } : D)).mine c b → (ds g).mine c b ∨ w.heap.size ≤ b := by
    intro gq' log' hgq c b hb
    cases c
    · exact .inl hb
    · rcases hb with e | e
      · exact .inl (.inl e)
      · rcases hgq with e1 | e1
        · exact .inl (.inr (e.trans e1))
        · exact .inr (by rw [e]; exact e1)
  by_cases hc : (ctlOf (ds g).ins (ds g).log).i < (ds g).ins.length
  · have e1 : nx (ds g).ins (ds g).log ys now = (nextLog (ds g).ins (ds g).log ys now, nextWords (ds g).ins (ds g).log ys) := by rw [nx, if_pos hc]
    rw [e1]
    refine (pstep_log w _ _ rp rq _ _ _ _ _ ys now (h.ref g hg) hlen hl hc).mono ?_
    rintro e w' ⟨rfl, gq', hP, hgq, ho⟩
    exact ⟨_, _, rfl, h.plained hg hP hgq ho, ⟨rfl, rfl, rfl, rfl, rfl, rfl⟩, rfl, ho.mono (fun b _ e => hS b e), hM _ _ hgq⟩
  · have e1 : nx (ds g).ins (ds g).log ys now = ((ds g).log, ys) := by rw [nx, if_neg hc]
    rw [e1]
    refine (pstep_over w _ _ rp rq _ _ _ _ _ _ ys now (h.ref g hg) hc).mono ?_
    rintro e w' ⟨rfl, hP, ho⟩
    have ho' : Only (fun b => b = (ds g).Q ∨ b = (ds g).gq ∨ b = rq) w w' := ho.mono (fun _ _ h => h.elim)
    exact ⟨_, _, rfl, h.plained hg hP (.inl rfl) ho', ⟨rfl, rfl, rfl, rfl, rfl, rfl⟩, rfl, ho'.mono (fun b _ e => hS b e), hM _ _ (.inl rfl)⟩
end

/-- The lists stay. -/
theorem Lists.carry {B : Nat} {w w' : World} {fa pa qa k p q rp rq g : Nat} {ds : Nat → D} {d : D} {S : Nat → Prop} (h : Lists B w fa pa qa k p q rp rq ds) (hg : g < k) (ho : Only S w w') (hS : ∀ b, S b → (b = q ∨ b = rq) ∨ ∃ c, (ds g).mine c b) (e1 : d.F = (ds g).F) (e2 : d.P = (ds g).P) (e3 : d.Q = (ds g).Q) (hm : ∀ c b, d.mine c b → (ds g).mine c b ∨ w.heap.size ≤ b) :
    Lists B w' fa pa qa k p q rp rq (ext2 ds g d) := by
  have hn : ∀ x, (x = fa ∨ x = pa ∨ x = qa) → ¬ S x := fun x hx e => by
    obtain ⟨⟨a1, a2, a3, a4⟩, a5⟩ := h.free x hx
    rcases hS x e with (e | e) | ⟨c, e⟩
    · exact a2 e
    · exact a4 e
    · exact a5 g c hg e
  obtain ⟨af, q1, q2, q3, q4⟩ := h.f
  obtain ⟨ap, r1, r2, r3, r4⟩ := h.b
  obtain ⟨aq, s1, s2, s3, s4⟩ := h.c
  have key : ∀ i, (ext2 ds g d i).F = (ds i).F ∧ (ext2 ds g d i).P = (ds i).P ∧ (ext2 ds g d i).Q = (ds i).Q := by
    intro i
    by_cases e : i = g
    · subst e; rw [ext2_self]; exact ⟨e1, e2, e3⟩
    · rw [ext2_ne _ _ e]; exact ⟨rfl, rfl, rfl⟩
  refine ⟨⟨af, (ho.block fa (lt_of_block q1) (hn fa (.inl rfl))).trans q1, q2, fun i hi => by rw [(key i).1]; exact q3 i hi, q4⟩, ⟨ap, (ho.block pa (lt_of_block r1) (hn pa (.inr (.inl rfl)))).trans r1, r2, fun i hi => by rw [(key i).2.1]; exact r3 i hi, r4⟩,
    ⟨aq, (ho.block qa (lt_of_block s1) (hn qa (.inr (.inr rfl)))).trans s1, s2, fun i hi => by rw [(key i).2.2]; exact s3 i hi, s4⟩, h.ne, h.base, fun x hx => ⟨(h.free x hx).1, fun i c hi hb => ?_⟩⟩
  by_cases e : i = g
  · subst e
    rw [ext2_self] at hb
    rcases hm c x hb with h9 | h9
    · exact (h.free x hx).2 i c hi h9
    · have hl : x < w.heap.size := by
        rcases hx with rfl | rfl | rfl
        · exact lt_of_block q1
        · exact lt_of_block r1
        · exact lt_of_block s1
      omega
  · rw [ext2_ne _ _ e] at hb
    exact (h.free x hx).2 i c hi hb
theorem Lists.still {B : Nat} {w w' : World} {fa pa qa k p q rp rq : Nat} {ds : Nat → D} (h : Lists B w fa pa qa k p q rp rq ds) (ho : Only (fun _ => False) w w') : Lists B w' fa pa qa k p q rp rq ds := by
  obtain ⟨af, q1, q2⟩ := h.f
  obtain ⟨ap, r1, r2⟩ := h.b
  obtain ⟨aq, s1, s2⟩ := h.c
  exact ⟨⟨af, (ho.block fa (lt_of_block q1) (fun h => h)).trans q1, q2⟩, ⟨ap, (ho.block pa (lt_of_block r1) (fun h => h)).trans r1, r2⟩, ⟨aq, (ho.block qa (lt_of_block s1) (fun h => h)).trans s1, s2⟩, h.ne, h.base, h.free⟩
theorem Lists.cells {B : Nat} {w : World} {fa pa qa k p q rp rq : Nat} {ds : Nat → D} (h : Lists B w fa pa qa k p q rp rq ds) {i : Nat} (hi : i < k) : w.cell? ⟨fa, i, none⟩ = some (pt (ds i).F) ∧ w.cell? ⟨pa, i, none⟩ = some (pt (ds i).P) ∧ w.cell? ⟨qa, i, none⟩ = some (pt (ds i).Q) := by
  obtain ⟨af, q1, _, q3, _⟩ := h.f
  obtain ⟨ap, r1, _, r3, _⟩ := h.b
  obtain ⟨aq, s1, _, s3, _⟩ := h.c
  exact ⟨(Sept.cell_of_block q1 i).trans (q3 i hi), (Sept.cell_of_block r1 i).trans (r3 i hi), (Sept.cell_of_block s1 i).trans (s3 i hi)⟩

/-- Between turns. -/
structure Calm (B : Nat) (w : World) (fa pa qa p q rp rq : Nat) (ins : Nat → List Ins) (ds : Nat → D) (xs : List Int) : Prop where
  team : Team B w 3 p q rp rq ds xs xs
  lists : Lists B w fa pa qa 3 p q rp rq ds
  words : xs.length = 8
  each : ∀ i, i < 3 → (ds i).ins = ins i ∧ (ins i).length ≤ 30 ∧ Live (ins i) (ds i).log ∧ (ds i).s.log = (ds i).log ∧ (ds i).s.underway = false ∧ ((ds i).s.done = true → (ds i).got = (ctlOf (ins i) (ds i).log).got)
theorem Calm.still {B : Nat} {w w' : World} {fa pa qa p q rp rq : Nat} {ins : Nat → List Ins} {ds : Nat → D} {xs : List Int} (h : Calm B w fa pa qa p q rp rq ins ds xs) (ho : Only (fun _ => False) w w') : Calm B w' fa pa qa p q rp rq ins ds xs :=
  ⟨h.team.still ho, h.lists.still ho, h.words, h.each⟩

/-- In the midst of a turn of g: its step is taken; its plain access, if it wasn't done, is not. -/
structure Midst (B : Nat) (w : World) (fa pa qa p q rp rq : Nat) (ins : Nat → List Ins) (ds : Nat → D) (xs ys : List Int) (g : Nat) (now : Int) (done : Bool) : Prop where
  team : Team B w 3 p q rp rq ds xs ys
  lists : Lists B w fa pa qa 3 p q rp rq ds
  words : ys.length = 8
  others : ∀ i, i < 3 → i ≠ g → (ds i).ins = ins i ∧ (ins i).length ≤ 30 ∧ Live (ins i) (ds i).log ∧ (ds i).s.log = (ds i).log ∧ (ds i).s.underway = false ∧ ((ds i).s.done = true → (ds i).got = (ctlOf (ins i) (ds i).log).got)
  same : (ds g).ins = ins g ∧ (ins g).length ≤ 30 ∧ Live (ins g) (ds g).log ∧ (ds g).s.underway = false
  was : done = true → xs = ys ∧ (ds g).s.log = (ds g).log ∧ ((ds g).s.done = true → (ds g).got = (ctlOf (ins g) (ds g).log).got)
  wasnt : done = false → xs = (nx (ins g) (ds g).log ys now).2 ∧ (ds g).s.log = (nx (ins g) (ds g).log ys now).1 ∧ ((ds g).s.done = true → (ds g).got = (ctlOf (ins g) (nx (ins g) (ds g).log ys now).1).got)

theorem calm_step {B : Nat} {w : World} {fa pa qa p q rp rq : Nat} {ins : Nat → List Ins} {ds : Nat → D} {xs : List Int} (h : Calm B w fa pa qa p q rp rq ins ds xs) (g : Nat) (hg : g < 3) (now : Int) :
    Calls Try.prog 13 #[.pointer (some ⟨(ds g).F, 0, none⟩), .int .i64 now, bodyV (ds g).P] w fun e w' => ∃ b ds' xs', e = .returned (.bool b) ∧ Midst B w' fa pa qa p q rp rq ins ds' xs' xs g now (ds g).s.done ∧ ((ds' g).F = (ds g).F ∧ (ds' g).P = (ds g).P ∧ (ds' g).Q = (ds g).Q) ∧ Only (fun b => B ≤ b) w w' := by
  obtain ⟨a1, a2, a3, a4, a5, a6⟩ := h.each g hg
  refine (turn_step h.team g hg now a5 a4 (by rw [a1]; exact a3) (by rw [a1]; omega)).mono ?_
  rintro e w' ⟨b, d, xs', rfl, hT, ⟨c1, c2, c3, c4, c5, c6⟩, hy, hn, ho, hm⟩
  rw [a1] at hn c4
  have hbase : ∀ b, (b = q ∨ (ds g).mine false b) → B ≤ b := by
    rintro b (e | e)
    · rw [e]; exact h.team.rows.1
    · exact h.team.base g false b hg e
  refine ⟨b, _, xs', rfl, ⟨hT, h.lists.carry hg ho (fun b e => ?_) c1 c2 c3 hm, h.words, fun i hi hne => ?_, ?_, fun hd => ?_, fun hd => ?_⟩, ?_, ho.mono (fun b _ e => hbase b e)⟩
  · rcases e with e | e
    · exact .inl (.inl e)
    · exact .inr ⟨false, e⟩
  · rw [ext2_ne _ _ hne]
    exact h.each i hi
  · rw [ext2_self, c4, c5, c6]
    exact ⟨rfl, a2, a3, rfl⟩
  · obtain ⟨y1, y2, y3, y4⟩ := hy hd
    rw [ext2_self, c5]
    exact ⟨y1, y2, fun _ => by rw [y4]; exact a6 hd⟩
  · obtain ⟨y1, y2, y3⟩ := hn hd
    rw [ext2_self, c5]
    exact ⟨y1, y2, y3⟩
  · rw [ext2_self]
    exact ⟨c1, c2, c3⟩

theorem Midst.over {B : Nat} {w : World} {fa pa qa p q rp rq : Nat} {ins : Nat → List Ins} {ds : Nat → D} {xs ys : List Int} {g : Nat} {now : Int} (h : Midst B w fa pa qa p q rp rq ins ds xs ys g now true) : Calm B w fa pa qa p q rp rq ins ds ys := by
  obtain ⟨b1, b2, b3⟩ := h.was rfl
  refine ⟨b1 ▸ h.team, h.lists, h.words, fun i hi => ?_⟩
  by_cases e : i = g
  · subst e
    exact ⟨h.same.1, h.same.2.1, h.same.2.2.1, b2, h.same.2.2.2, b3⟩
  · exact h.others i hi e

theorem midst_plain {B : Nat} {w : World} {fa pa qa p q rp rq : Nat} {ins : Nat → List Ins} {ds : Nat → D} {xs ys : List Int} {g : Nat} {now : Int} (h : Midst B w fa pa qa p q rp rq ins ds xs ys g now false) (hg : g < 3) :
    Calls Try.prog 15 #[.pointer (some ⟨(ds g).Q, 0, none⟩), .pointer (some ⟨rp, 0, none⟩), .int .i64 now] w fun e w' => ∃ b ds' xs', e = .returned (.bool b) ∧ Calm B w' fa pa qa p q rp rq ins ds' xs' ∧ Only (fun b => B ≤ b) w w' := by
  obtain ⟨a1, a2, a3, a4⟩ := h.same
  obtain ⟨n1, n2, n3⟩ := h.wasnt rfl
  refine (turn_plain h.team g hg now (by rw [a1]; exact a3) (by rw [a1]; omega)).mono ?_
  rintro e w' ⟨b, d, rfl, hT, ⟨c1, c2, c3, c4, c5, c6⟩, c7, ho, hm⟩
  rw [a1] at hT c4 c7
  rw [← n1] at hT
  have hbase : ∀ b, (b = rq ∨ (ds g).mine true b) → B ≤ b := by
    rintro b (e | e)
    · rw [e]; exact h.team.rows.2
    · exact h.team.base g true b hg e
  refine ⟨b, _, xs, rfl, ⟨hT, h.lists.carry hg ho (fun b e => ?_) c1 c2 c3 hm, by rw [n1, nx_words]; exact h.words, fun i hi => ?_⟩, ho.mono (fun b _ e => hbase b e)⟩
  · rcases e with e | e
    · exact .inl (.inr e)
    · exact .inr ⟨true, e⟩
  · by_cases e : i = g
    · subst e
      rw [ext2_self, c4, c5, c6, c7]
      exact ⟨rfl, a2, nx_live a3 _ _, n2, a4, n3⟩
    · rw [ext2_ne _ _ e]
      exact h.others i hi e
end Go.Proofs.Ytfdfjibhbfdloaa

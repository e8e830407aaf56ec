/-
  The frames that septumlaw02.FrameTwo makes, in whatever order their parts are made. Conditions: all of it lies in blocks that are not the same.
-/
import Derived.Test.YtfdfjibhbfdloaaTeam3
namespace Go.Proofs.Ytfdfjibhbfdloaa
open Go.RowKit Go.Sept

def pt (b : Nat) : Value := .pointer (some ⟨b, 0, none⟩)

theorem Team.aside {B : Nat} {w w' : World} {k p q rp rq : Nat} {ds : Nat → D} {xs ys : List Int} {S : Nat → Prop} (h : Team B w k p q rp rq ds xs ys) (ho : Only S w w') (hS : ∀ b, S b → B ≤ b ∧ (b ≠ p ∧ b ≠ q ∧ b ≠ rp ∧ b ≠ rq) ∧ ∀ i c, i < k → ¬ (ds i).mine c b) : Team B w' k p q rp rq ds xs ys := by
  obtain ⟨z1, z2, z3, z4⟩ := h.zs
  have hm := h.mem.only ho (fun e => (hS _ e).2.1.1 rfl) (fun e => (hS _ e).2.1.2.1 rfl)
  have hd := h.doc.only ho (fun e => (hS _ e).2.1.2.2.1 rfl) (fun e => (hS _ e).2.1.2.2.2 rfl)
  have hn : ∀ i c b, i < k → (ds i).mine c b → ¬ S b := fun i c b hi hb e => (hS b e).2.2 i c hi hb
  have hl : ∀ i, i < k → 0 < (ds i).ins.length → ¬ S (ds i).LB := fun i hi h0 e => by
    have := (hS _ e).1
    have := h.low i hi h0
    omega
  refine ⟨fun i hi => (h.real i hi).row ho (by rw [h.mps i hi]; exact hm) (hn i false _ hi (.inl rfl)) (hn i false _ hi (.inr (.inl rfl))) (hn i false _ hi (.inr (.inr (.inl rfl)))) (hn i false _ hi (.inr (.inr (.inr rfl)))) (hl i hi),
    fun i hi => (h.ref i hi).row ho hd (hn i true _ hi (.inl rfl)) (hn i true _ hi (.inr rfl)) (hl i hi), h.apart, h.free, h.base, h.low, h.four, h.rows, hm, hd, h.mps, Nat.le_trans h.size ho.size, ⟨Nat.lt_of_lt_of_le z1 ho.size, Nat.lt_of_lt_of_le z2 ho.size, Nat.lt_of_lt_of_le z3 ho.size, Nat.lt_of_lt_of_le z4 ho.size⟩⟩

/-- What is made of a new frame, a new body, new plain accesses, and what of it stands in the three lists. -/
structure Trip (w0 w : World) (fa pa qa i : Nat) (af ap aq : Array Value) (p : Nat) (lo : Option Addr) (n lc : Nat) (f b c sf sb sc : Option Nat) : Prop where
  only : Only (fun x => x = fa ∨ x = pa ∨ x = qa) w0 w
  isF : ∀ F, f = some F → FrameIs w F F (fresh (some ⟨p, 0, none⟩)) ∧ w0.heap.size ≤ F
  isB : ∀ P, b = some P → w.heap[P]? = some (progO lo n lc) ∧ w0.heap.size ≤ P
  isC : ∀ Q, c = some Q → w.heap[Q]? = some (plainO lo n lc) ∧ w0.heap.size ≤ Q
  fb : ∀ x, f = some x → b ≠ some x
  fc : ∀ x, f = some x → c ≠ some x
  bc : ∀ x, b = some x → c ≠ some x
  hf : w.heap[fa]? = some (.cells (match sf with | none => af | some F => af.setIfInBounds i (pt F)) 50)
  hp : w.heap[pa]? = some (.cells (match sb with | none => ap | some P => ap.setIfInBounds i (pt P)) 51)
  hq : w.heap[qa]? = some (.cells (match sc with | none => aq | some Q => aq.setIfInBounds i (pt Q)) 52)
  ne : fa ≠ pa ∧ fa ≠ qa ∧ pa ≠ qa
  z : fa < w0.heap.size ∧ pa < w0.heap.size ∧ qa < w0.heap.size

section
variable {w0 w w1 : World} {fa pa qa i : Nat} {af ap aq : Array Value} {p : Nat} {lo : Option Addr} {n lc : Nat} {f b c sf sb sc : Option Nat}
theorem Trip.start (h1 : w0.heap[fa]? = some (.cells af 50)) (h2 : w0.heap[pa]? = some (.cells ap 51)) (h3 : w0.heap[qa]? = some (.cells aq 52)) (ne : fa ≠ pa ∧ fa ≠ qa ∧ pa ≠ qa) :
    Trip w0 w0.drew fa pa qa i af ap aq p lo n lc none none none none none none :=
  ⟨(Only.refl _ _).drew, (fun _ h => by cases h), (fun _ h => by cases h), (fun _ h => by cases h), (fun _ h => by cases h), (fun _ h => by cases h), (fun _ h => by cases h), h1, h2, h3, ne, ⟨lt_of_block h1, lt_of_block h2, lt_of_block h3⟩⟩
theorem Trip.still (h : Trip w0 w fa pa qa i af ap aq p lo n lc f b c sf sb sc) (ho : Only (fun _ => False) w w1) : Trip w0 w1 fa pa qa i af ap aq p lo n lc f b c sf sb sc :=
  ⟨h.only.chain ho (fun _ _ h => h.elim), fun F e => ⟨(h.isF F e).1.only ho (fun h => h) (fun h => h), (h.isF F e).2⟩, fun P e => ⟨(ho.block P (lt_of_block (h.isB P e).1) (fun h => h)).trans (h.isB P e).1, (h.isB P e).2⟩, fun Q e => ⟨(ho.block Q (lt_of_block (h.isC Q e).1) (fun h => h)).trans (h.isC Q e).1, (h.isC Q e).2⟩,
    h.fb, h.fc, h.bc, (ho.block fa (lt_of_block h.hf) (fun h => h)).trans h.hf, (ho.block pa (lt_of_block h.hp) (fun h => h)).trans h.hp, (ho.block qa (lt_of_block h.hq) (fun h => h)).trans h.hq, h.ne, h.z⟩
theorem Trip.frame {F : Nat} (h : Trip w0 w fa pa qa i af ap aq p lo n lc none b c sf sb sc) (hf : FrameIs w1 F F (fresh (some ⟨p, 0, none⟩))) (hF : F = w.heap.size) (ho : Only (fun _ => False) w w1) : Trip w0 w1 fa pa qa i af ap aq p lo n lc (some F) b c sf sb sc := by
  have h1 := h.still ho
  have z := h.only.size
  refine ⟨h1.only, fun G e => ?_, h1.isB, h1.isC, fun x e e2 => ?_, fun x e e2 => ?_, h1.bc, h1.hf, h1.hp, h1.hq, h1.ne, h1.z⟩
  · injection e with e
    subst e
    exact ⟨hf, by omega⟩
  · injection e with e
    subst e
    have := lt_of_block (h.isB _ e2).1
    omega
  · injection e with e
    subst e
    have := lt_of_block (h.isC _ e2).1
    omega
theorem Trip.prog {P : Nat} (h : Trip w0 w fa pa qa i af ap aq p lo n lc f none c sf sb sc) (hP : P = w.heap.size) : Trip w0 (w.alloc (progO lo n lc)) fa pa qa i af ap aq p lo n lc f (some P) c sf sb sc := by
  subst hP
  have h1 := h.still ((Only.refl (fun _ => False) w).alloc (progO lo n lc))
  have z := h.only.size
  refine ⟨h1.only, h1.isF, fun G e => ?_, h1.isC, fun x e e2 => ?_, h1.fc, fun x e e2 => ?_, h1.hf, h1.hp, h1.hq, h1.ne, h1.z⟩
  · injection e with e
    subst e
    exact ⟨heap_new _ _, by omega⟩
  · injection e2 with e2
    subst e2
    have := (h.isF _ e).1.lt
    omega
  · injection e with e
    subst e
    have := lt_of_block (h.isC _ e2).1
    omega
theorem Trip.plain {Q : Nat} (h : Trip w0 w fa pa qa i af ap aq p lo n lc f b none sf sb sc) (hQ : Q = w.heap.size) : Trip w0 (w.alloc (plainO lo n lc)) fa pa qa i af ap aq p lo n lc f b (some Q) sf sb sc := by
  subst hQ
  have h1 := h.still ((Only.refl (fun _ => False) w).alloc (plainO lo n lc))
  have z := h.only.size
  refine ⟨h1.only, h1.isF, h1.isB, fun G e => ?_, h1.fb, fun x e e2 => ?_, fun x e e2 => ?_, h1.hf, h1.hp, h1.hq, h1.ne, h1.z⟩
  · injection e with e
    subst e
    exact ⟨heap_new _ _, by omega⟩
  · injection e2 with e2
    subst e2
    have := (h.isF _ e).1.lt
    omega
  · injection e2 with e2
    subst e2
    have := lt_of_block (h.isB _ e).1
    omega
/-- A store into one of the lists leaves what is new. -/
theorem Trip.set {x : Nat} (h : Trip w0 w fa pa qa i af ap aq p lo n lc f b c sf sb sc) (hx : x = fa ∨ x = pa ∨ x = qa) (v : Value) :
    Only (fun x => x = fa ∨ x = pa ∨ x = qa) w0 (w.setCell ⟨x, i, none⟩ v) ∧ (∀ F, f = some F → FrameIs (w.setCell ⟨x, i, none⟩ v) F F (fresh (some ⟨p, 0, none⟩)) ∧ w0.heap.size ≤ F) ∧ (∀ P, b = some P → (w.setCell ⟨x, i, none⟩ v).heap[P]? = some (progO lo n lc) ∧ w0.heap.size ≤ P) ∧ (∀ Q, c = some Q → (w.setCell ⟨x, i, none⟩ v).heap[Q]? = some (plainO lo n lc) ∧ w0.heap.size ≤ Q) := by
  have ho : Only (· = x) w (w.setCell ⟨x, i, none⟩ v) := (Only.self x w).own i v
  obtain ⟨z1, z2, z3⟩ := h.z
  have hx' : x < w0.heap.size := by rcases hx with rfl | rfl | rfl <;> assumption
  refine ⟨h.only.chain ho (fun y _ e => by subst e; exact hx), fun F e => ?_, fun P e => ?_, fun Q e => ?_⟩
  · have h1 := h.isF F e
    exact ⟨h1.1.only ho (by have := h1.2; omega) (by have := h1.2; omega), h1.2⟩
  · have h1 := h.isB P e
    exact ⟨(ho.block P (lt_of_block h1.1) (by have := h1.2; omega)).trans h1.1, h1.2⟩
  · have h1 := h.isC Q e
    exact ⟨(ho.block Q (lt_of_block h1.1) (by have := h1.2; omega)).trans h1.1, h1.2⟩
theorem Trip.putF {F : Nat} (h : Trip w0 w fa pa qa i af ap aq p lo n lc f b c none sb sc) : Trip w0 (w.setCell ⟨fa, i, none⟩ (pt F)) fa pa qa i af ap aq p lo n lc f b c (some F) sb sc := by
  obtain ⟨h1, h2, h3, h4⟩ := h.set (x := fa) (.inl rfl) (pt F)
  have ho : Only (· = fa) w (w.setCell ⟨fa, i, none⟩ (pt F)) := (Only.self fa w).own i _
  exact ⟨h1, h2, h3, h4, h.fb, h.fc, h.bc, block_setCell h.hf i _, (ho.block pa (lt_of_block h.hp) (fun e => h.ne.1 e.symm)).trans h.hp, (ho.block qa (lt_of_block h.hq) (fun e => h.ne.2.1 e.symm)).trans h.hq, h.ne, h.z⟩
theorem Trip.putB {P : Nat} (h : Trip w0 w fa pa qa i af ap aq p lo n lc f b c sf none sc) : Trip w0 (w.setCell ⟨pa, i, none⟩ (pt P)) fa pa qa i af ap aq p lo n lc f b c sf (some P) sc := by
  obtain ⟨h1, h2, h3, h4⟩ := h.set (x := pa) (.inr (.inl rfl)) (pt P)
  have ho : Only (· = pa) w (w.setCell ⟨pa, i, none⟩ (pt P)) := (Only.self pa w).own i _
  exact ⟨h1, h2, h3, h4, h.fb, h.fc, h.bc, (ho.block fa (lt_of_block h.hf) (fun e => h.ne.1 e)).trans h.hf, block_setCell h.hp i _, (ho.block qa (lt_of_block h.hq) (fun e => h.ne.2.2 e.symm)).trans h.hq, h.ne, h.z⟩
theorem Trip.putC {Q : Nat} (h : Trip w0 w fa pa qa i af ap aq p lo n lc f b c sf sb none) : Trip w0 (w.setCell ⟨qa, i, none⟩ (pt Q)) fa pa qa i af ap aq p lo n lc f b c sf sb (some Q) := by
  obtain ⟨h1, h2, h3, h4⟩ := h.set (x := qa) (.inr (.inr rfl)) (pt Q)
  have ho : Only (· = qa) w (w.setCell ⟨qa, i, none⟩ (pt Q)) := (Only.self qa w).own i _
  exact ⟨h1, h2, h3, h4, h.fb, h.fc, h.bc, (ho.block fa (lt_of_block h.hf) (fun e => h.ne.2.1 e)).trans h.hf, (ho.block pa (lt_of_block h.hp) (fun e => h.ne.2.2 e)).trans h.hp, block_setCell h.hq i _, h.ne, h.z⟩

/-- The lists, so far. -/
structure Lists (B : Nat) (w : World) (fa pa qa k p q rp rq : Nat) (ds : Nat → D) : Prop where
  f : ∃ af, w.heap[fa]? = some (.cells af 50) ∧ af.size = 3 ∧ (∀ i, i < k → af[i]? = some (pt (ds i).F)) ∧ ∀ i, k ≤ i → i < 3 → af[i]? = some (.pointer none)
  b : ∃ ap, w.heap[pa]? = some (.cells ap 51) ∧ ap.size = 3 ∧ (∀ i, i < k → ap[i]? = some (pt (ds i).P)) ∧ ∀ i, k ≤ i → i < 3 → ap[i]? = some (.pointer none)
  c : ∃ aq, w.heap[qa]? = some (.cells aq 52) ∧ aq.size = 3 ∧ (∀ i, i < k → aq[i]? = some (pt (ds i).Q)) ∧ ∀ i, k ≤ i → i < 3 → aq[i]? = some (.pointer none)
  ne : fa ≠ pa ∧ fa ≠ qa ∧ pa ≠ qa
  base : B ≤ fa ∧ B ≤ pa ∧ B ≤ qa
  free : ∀ x, (x = fa ∨ x = pa ∨ x = qa) → (x ≠ p ∧ x ≠ q ∧ x ≠ rp ∧ x ≠ rq) ∧ ∀ i c, i < k → ¬ (ds i).mine c x
end

theorem set_at {a : Array Value} {k : Nat} {v : Value} (hs : a.size = 3) (hk : k < 3) (g : Nat → Nat) (x : Nat) (hv : v = pt x) (h1 : ∀ i, i < k → a[i]? = some (pt (g i))) (h2 : ∀ i, k ≤ i → i < 3 → a[i]? = some (.pointer none)) (g' : Nat → Nat) (hg : ∀ i, i < k → g' i = g i) (hx : g' k = x) :
    (a.setIfInBounds k v).size = 3 ∧ (∀ i, i < k + 1 → (a.setIfInBounds k v)[i]? = some (pt (g' i))) ∧ ∀ i, k + 1 ≤ i → i < 3 → (a.setIfInBounds k v)[i]? = some (.pointer none) := by
  subst hv
  refine ⟨by simpa using hs, fun i hi => ?_, fun i hi h3 => ?_⟩
  · by_cases e : i = k
    · subst e
      rw [Array.getElem?_setIfInBounds_self_of_lt (by omega), hx]
    · rw [Array.getElem?_setIfInBounds_ne (by omega), h1 i (by omega), hg i (by omega)]
  · rw [Array.getElem?_setIfInBounds_ne (by omega), h2 i (by omega) h3]

/-- All three parts are made, and stand in the lists. -/
theorem trip_done {B : Nat} {w0 w : World} {fa pa qa k p q rp rq LB F P Q : Nat} {ds : Nat → D} {xs ys : List Int} {lo : Option Addr} {lc : Nat} {ins : List Ins} {af ap aq : Array Value}
    (h : Team B w0 k p q rp rq ds xs ys) (hL : Lists B w0 fa pa qa k p q rp rq ds) (hk : k < 3) (hm : MemIs 74 w0 p q xs) (hr : MemIs 43 w0 rp rq ys) (hi : InsIs w0 lo LB ins) (hlb : 0 < ins.length → LB < B)
    (ha : w0.heap[fa]? = some (.cells af 50)) (hb : w0.heap[pa]? = some (.cells ap 51)) (hc : w0.heap[qa]? = some (.cells aq 52))
    (ht : Trip w0 w fa pa qa k af ap aq p lo ins.length lc (some F) (some P) (some Q) (some F) (some P) (some Q)) :
    ∃ ds', Team B w (k + 1) p q rp rq ds' xs ys ∧ Lists B w fa pa qa (k + 1) p q rp rq ds' ∧ (∀ i, i < k → ds' i = ds i) ∧ (ds' k).ins = ins ∧ (ds' k).s = fresh (some ⟨p, 0, none⟩) ∧ (ds' k).log = [] ∧ MemIs 74 w p q xs ∧ MemIs 43 w rp rq ys ∧ Only (fun x => x = fa ∨ x = pa ∨ x = qa) w0 w := by
  have hS : ∀ x, (x = fa ∨ x = pa ∨ x = qa) → B ≤ x ∧ (x ≠ p ∧ x ≠ q ∧ x ≠ rp ∧ x ≠ rq) ∧ ∀ i c, i < k → ¬ (ds i).mine c x := fun x hx => ⟨by
    have := hL.base
    rcases hx with rfl | rfl | rfl
    · exact this.1
    · exact this.2.1
    · exact this.2.2, hL.free x hx⟩
  have hT := h.aside ht.only hS
  have hm' := hm.only ht.only (fun e => (hS _ e).2.1.1 rfl) (fun e => (hS _ e).2.1.2.1 rfl)
  have hr' := hr.only ht.only (fun e => (hS _ e).2.1.2.2.1 rfl) (fun e => (hS _ e).2.1.2.2.2 rfl)
  have hi' := hi.only ht.only (fun h0 e => by have h1 := hlb h0; have h2 := (hS _ e).1; omega)
  obtain ⟨f1, f2⟩ := ht.isF F rfl
  obtain ⟨b1, b2⟩ := ht.isB P rfl
  obtain ⟨c1, c2⟩ := ht.isC Q rfl
  have d1 : F ≠ P := fun e => ht.fb F rfl (by rw [e])
  have d2 : F ≠ Q := fun e => ht.fc F rfl (by rw [e])
  have d3 : P ≠ Q := fun e => ht.bc P rfl (by rw [e])
  obtain ⟨z1, z2, z3, z4⟩ := h.zs
  have zB := h.size
  have zr := h.rows
  obtain ⟨y1, y2, y3⟩ := ht.z
  have hU := under_new (LB := LB) hm' f1 b1 hi' (by omega) (by omega) (by omega) (by omega) (by omega) (fun h0 => by have := hlb h0; omega)
  have hP := plain_new (LB := LB) hr' c1 hi' (by omega) (by omega) (fun h0 => by have := hlb h0; omega)
  obtain ⟨d, hd⟩ : ∃ d : D, d = ⟨F, F, P, P, Q, Q, LB, lo, lc, ins, fresh (some ⟨p, 0, none⟩), 0, [], []⟩ := ⟨_, rfl⟩
  have hmine : ∀ c b, d.mine c b → b = F ∨ b = P ∨ b = Q := by
    intro c b hb
    rw [hd] at hb
    cases c <;> simp only [D.mine] at hb <;> omega
  have hTn : Team B w (k + 1) p q rp rq (ext2 ds k d) xs ys := by
    refine hT.add d (by rw [hd]; exact hU) (by rw [hd]; exact hP) ?_ ?_ ?_ ?_ (by rw [hd]; exact hlb) (by rw [hd]; rfl)
    · intro c c' b a1 a2
      rw [hd] at a1 a2
      cases c <;> cases c' <;> simp only [D.mine] at a1 a2
      · rfl
      · omega
      · omega
      · rfl
    · intro i c c' b hi a1 a2
      have h1 := h.lt hi a1
      have h2 := hmine c' b a2
      omega
    · intro c b a1
      have h2 := hmine c b a1
      exact ⟨by omega, by omega, by omega, by omega⟩
    · intro c b a1
      have h2 := hmine c b a1
      omega
  obtain ⟨af', q1, q2, q3, q4⟩ := hL.f
  obtain ⟨ap', r1, r2, r3, r4⟩ := hL.b
  obtain ⟨aq', s1, s2, s3, s4⟩ := hL.c
  rw [ha] at q1
  rw [hb] at r1
  rw [hc] at s1
  injection q1 with q1
  injection q1 with q1 _
  injection r1 with r1
  injection r1 with r1 _
  injection s1 with s1
  injection s1 with s1 _
  subst q1 r1 s1
  refine ⟨_, hTn, ⟨⟨_, ht.hf, set_at q2 hk (fun i => (ds i).F) F rfl q3 q4 (fun i => (ext2 ds k d i).F) (fun i hi => by simp only [ext2_ne _ _ (show i ≠ k by omega)]) (by simp only [ext2_self]; rw [hd])⟩,
    ⟨_, ht.hp, set_at r2 hk (fun i => (ds i).P) P rfl r3 r4 (fun i => (ext2 ds k d i).P) (fun i hi => by simp only [ext2_ne _ _ (show i ≠ k by omega)]) (by simp only [ext2_self]; rw [hd])⟩,
    ⟨_, ht.hq, set_at s2 hk (fun i => (ds i).Q) Q rfl s3 s4 (fun i => (ext2 ds k d i).Q) (fun i hi => by simp only [ext2_ne _ _ (show i ≠ k by omega)]) (by simp only [ext2_self]; rw [hd])⟩, hL.ne, hL.base, fun x hx => ⟨(hL.free x hx).1, fun i c hi hx2 => ?_⟩⟩, fun i hi => ext2_ne _ _ (by omega), by rw [ext2_self, hd], by rw [ext2_self, hd], by rw [ext2_self, hd], hm', hr', ht.only⟩
  by_cases e : i = k
  · subst e
    rw [ext2_self] at hx2
    have h2 := hmine c x hx2
    rcases hx with rfl | rfl | rfl <;> omega
  · rw [ext2_ne _ _ e] at hx2
    exact (hL.free x hx).2 i c (by omega) hx2
end Go.Proofs.Ytfdfjibhbfdloaa

/-
  Users of one lock, whose steps are taken in turns: what holds all the while, as plain mathematics. Conditions: none; no program is named here.
-/
import Derived.Test.YtfdfjibhbfdloaaPhase3
namespace Go.Sept.Turns
open Go.RowKit Go.Sept

/-- The m-th ticket. -/
def tk (first : Int) (m : Nat) : Int := wrap64 (first + m)
/-- The words, when d tickets are drawn, c users are done, and the next one is at e. -/
def wordsOf (first : Int) (d c e : Nat) : List Int := [tk first d, tk first c, 0, 0, 0, (c : Int) + if e = 3 then 1 else 0]

theorem tk_succ (first : Int) (m : Nat) : wrap64 (tk first m + 1) = tk first (m + 1) := by
  unfold tk wrap64
  push_cast
  omega
theorem tk_inj {first : Int} {m n : Nat} (h : tk first m = tk first n) (hm : m ≤ 1000) (hn : n ≤ 1000) : m = n := by
  unfold tk wrap64 at h
  omega
theorem tk_zero {first : Int} (h : -9223372036854775808 ≤ first ∧ first ≤ 9223372036854775807) : tk first 0 = first := by
  unfold tk wrap64
  omega
theorem tk_sub (first : Int) (m : Nat) (h : m ≤ 1000) : wrap64 (tk first m - first) = m := by
  unfold tk wrap64
  omega

theorem val0 (first : Int) (d c e : Nat) : valA (wordsOf first d c e) 0 = tk first d := rfl
theorem val1 (first : Int) (d c e : Nat) : valA (wordsOf first d c e) 1 = tk first c := rfl
theorem val5 (first : Int) (d c e : Nat) : valA (wordsOf first d c e) 5 = (c : Int) + if e = 3 then 1 else 0 := rfl
theorem set0 (first : Int) (d c e : Nat) : setA (wordsOf first d c e) 0 (wrap64 (tk first d + 1)) = wordsOf first (d + 1) c e := by
  rw [tk_succ]
  rfl
theorem set5 (first : Int) (d c : Nat) (h : c ≤ 1000) : setA (wordsOf first d c 2) 5 (wrap64 ((c : Int) + 1)) = wordsOf first d c 3 := by
  rw [show wrap64 ((c : Int) + 1) = (c : Int) + 1 by unfold wrap64; omega]
  rfl
theorem set1 (first : Int) (d c : Nat) : setA (wordsOf first d c 3) 1 (wrap64 (tk first c + 1)) = wordsOf first d (c + 1) 0 := by
  rw [tk_succ]
  show [tk first d, tk first (c + 1), 0, 0, 0, (c : Int) + 1] = [tk first d, tk first (c + 1), 0, 0, 0, ((c + 1 : Nat) : Int) + 0]
  rw [Int.add_zero, Int.natCast_succ]

/-- How far the user with the m-th ticket is. -/
def Spot (first : Int) (c e m : Nat) (φ : Ph) : Prop :=
  (m < c ∧ φ = .Z (tk first m) m) ∨ (c < m ∧ ∃ j, φ = .B (tk first m) j) ∨
  (m = c ∧ ((e = 0 ∧ ∃ j, φ = .B (tk first m) j) ∨ (e = 1 ∧ φ = .C (tk first m)) ∨ (e = 2 ∧ φ = .D (tk first m) m) ∨ (e = 3 ∧ φ = .E (tk first m) m)))

structure Good (k : Nat) (first : Int) (φ : Nat → Ph) (ord : List Nat) (c e : Nat) : Prop where
  nodup : ord.Nodup
  lt : ∀ i ∈ ord, i < k
  cle : c ≤ ord.length
  e0 : c = ord.length → e = 0
  e3 : e ≤ 3
  spot : ∀ m i, ord[m]? = some i → Spot first c e m (φ i)
  rest : ∀ i, i < k → i ∉ ord → φ i = .A

theorem Good.start (k : Nat) (first : Int) : Good k first (fun _ => .A) [] 0 0 :=
  ⟨List.nodup_nil, fun _ h => by simp at h, Nat.le_refl _, fun _ => rfl, by omega, fun m i h => by simp at h, fun _ _ _ => rfl⟩

theorem nodup_le {l : List Nat} {k : Nat} (hn : l.Nodup) (h : ∀ i ∈ l, i < k) : l.length ≤ k := by
  induction k generalizing l with
  | zero =>
    cases l with
    | nil => simp
    | cons x r => exact absurd (h x (by simp)) (by omega)
  | succ k ih =>
    have h1 := ih (l := l.erase k) (hn.erase k) (fun i hi => by
      have h2 := (hn.mem_erase_iff).1 hi
      have h3 := h i h2.2
      omega)
    have h2 : l.length ≤ (l.erase k).length + 1 := by
      by_cases hk : k ∈ l
      · rw [List.length_erase_of_mem hk]
        omega
      · rw [List.erase_of_not_mem hk]
        omega
    omega
theorem nodup_eq {l : List Nat} {k : Nat} (hn : l.Nodup) (h : ∀ i ∈ l, i < k) (ha : ∀ i, i < k → i ∈ l) : l.length = k := by
  induction k generalizing l with
  | zero =>
    cases l with
    | nil => rfl
    | cons x r => exact absurd (h x (by simp)) (by omega)
  | succ k ih =>
    have hk : k ∈ l := ha k (by omega)
    have h1 := ih (l := l.erase k) (hn.erase k) (fun i hi => by
      have h2 := (hn.mem_erase_iff).1 hi
      have h3 := h i h2.2
      omega) (fun i hi => (hn.mem_erase_iff).2 ⟨by omega, ha i (by omega)⟩)
    rw [List.length_erase_of_mem hk] at h1
    have h2 : 0 < l.length := List.length_pos_of_mem hk
    omega
theorem exists_out {l : List Nat} {k : Nat} (hn : l.Nodup) (h : ∀ i ∈ l, i < k) (hl : l.length < k) : ∃ i, i < k ∧ i ∉ l := by
  refine Classical.byContradiction fun hc => ?_
  have := nodup_eq hn h (fun i hi => Classical.byContradiction fun hx => hc ⟨i, hi, hx⟩)
  omega

section
variable {k : Nat} {first : Int} {φ : Nat → Ph} {ord : List Nat} {c e : Nat}
theorem Good.len (h : Good k first φ ord c e) : ord.length ≤ k := nodup_le h.nodup h.lt
/-- How much is done. -/
def score (ord : List Nat) (c e : Nat) : Nat := ord.length + 4 * c + e
theorem Good.score_le (h : Good k first φ ord c e) : score ord c e ≤ 5 * k := by
  have h1 := h.len
  have h2 := h.cle
  have h3 := h.e0
  have h4 := h.e3
  unfold score
  by_cases hc : c = ord.length
  · have := h3 hc
    omega
  · omega
/-- Who does something with its next step. -/
def Target (k : Nat) (ord : List Nat) (c : Nat) (g : Nat) : Prop := g < k ∧ ((c < ord.length ∧ ord[c]? = some g) ∨ (c = ord.length ∧ g ∉ ord))
theorem Good.target (h : Good k first φ ord c e) (hs : score ord c e ≠ 5 * k) : ∃ g, Target k ord c g := by
  by_cases hc : c = ord.length
  · have h3 := h.e0 hc
    have h1 := h.len
    obtain ⟨i, hi, hx⟩ := exists_out h.nodup h.lt (k := k) (by unfold score at hs; omega)
    exact ⟨i, hi, .inr ⟨hc, hx⟩⟩
  · have h2 := h.cle
    have hlt : c < ord.length := by omega
    exact ⟨ord[c], h.lt _ (List.getElem_mem hlt), .inl ⟨hlt, List.getElem?_eq_getElem hlt⟩⟩

def upd (φ : Nat → Ph) (g : Nat) (x : Ph) : Nat → Ph := fun i => if i = g then x else φ i
theorem upd_self (φ : Nat → Ph) (g : Nat) (x : Ph) : upd φ g x g = x := by simp [upd]
theorem upd_ne (φ : Nat → Ph) {g i : Nat} (x : Ph) (h : i ≠ g) : upd φ g x i = φ i := by simp [upd, h]

theorem getElem?_inj {l : List Nat} (hn : l.Nodup) {m n i : Nat} (h1 : l[m]? = some i) (h2 : l[n]? = some i) : m = n := by
  obtain ⟨a1, a2⟩ := List.getElem?_eq_some_iff.1 h1
  obtain ⟨b1, b2⟩ := List.getElem?_eq_some_iff.1 h2
  have key := List.pairwise_iff_getElem.1 hn
  rcases Nat.lt_trichotomy m n with h | h | h
  · exact absurd (a2.trans b2.symm) (key m n a1 b1 h)
  · exact h
  · exact absurd (b2.trans a2.symm) (key n m b1 a1 h)

theorem Good.same (h : Good k first φ ord c e) {m g : Nat} (hg : ord[m]? = some g) {c' e' : Nat} {x : Ph} (hc : c' ≤ ord.length) (h0 : c' = ord.length → e' = 0) (h3 : e' ≤ 3) (hx : Spot first c' e' m x)
    (hs : ∀ n i, n ≠ m → ord[n]? = some i → Spot first c' e' n (φ i)) : Good k first (upd φ g x) ord c' e' := by
  refine ⟨h.nodup, h.lt, hc, h0, h3, fun n i hi => ?_, fun i hi hn => ?_⟩
  · by_cases hnm : n = m
    · subst hnm
      rw [hg] at hi
      injection hi with hi
      subst hi
      rw [upd_self]
      exact hx
    · rw [upd_ne]
      · exact hs n i hnm hi
      · rintro rfl
        exact hnm (getElem?_inj h.nodup hi hg)
  · rw [upd_ne]
    · exact h.rest i hi hn
    · rintro rfl
      exact hn (List.mem_of_getElem? hg)

/-- A step of the user g that is not done. -/
theorem Good.step (h : Good k first φ ord c e) (hk : k ≤ 5) {g : Nat} (hg : g < k) (hz : (φ g).isZ = false) :
    ∃ ord' c' e', Good k first (upd φ g ((φ g).next (wordsOf first ord.length c e))) ord' c' e' ∧ (φ g).words (wordsOf first ord.length c e) = wordsOf first ord'.length c' e' ∧
      (score ord' c' e' = score ord c e + 1 ∨ (ord' = ord ∧ c' = c ∧ e' = e ∧ ¬ Target k ord c g)) := by
  have hlen := h.len
  have hcl := h.cle
  by_cases hm : g ∈ ord
  · obtain ⟨m, hm1, hm2⟩ := List.getElem_of_mem hm
    have hgm : ord[m]? = some g := by rw [List.getElem?_eq_getElem hm1, hm2]
    rcases h.spot m g hgm with ⟨h1, h2⟩ | ⟨h1, j, h2⟩ | ⟨rfl, ⟨rfl, j, h2⟩ | ⟨rfl, h2⟩ | ⟨rfl, h2⟩ | ⟨rfl, h2⟩⟩
    · rw [h2] at hz
      exact absurd (show true = false from hz) (by decide)
    · have hne : ¬ tk first c = tk first m := fun e => by
        have := tk_inj e (by omega) (by omega)
        omega
      have e1 : (φ g).next (wordsOf first ord.length c e) = .B (tk first m) (j + 1) := by rw [h2]; show (if valA (wordsOf first ord.length c e) 1 = tk first m then Ph.C (tk first m) else Ph.B (tk first m) (j + 1)) = _; rw [val1]; exact if_neg hne
      have e2 : (φ g).words (wordsOf first ord.length c e) = wordsOf first ord.length c e := by rw [h2]; rfl
      rw [e1, e2]
      refine ⟨ord, c, e, h.same hgm h.cle h.e0 h.e3 (.inr (.inl ⟨h1, _, rfl⟩)) (fun n i _ hi => h.spot n i hi), rfl, .inr ⟨rfl, rfl, rfl, ?_⟩⟩
      rintro ⟨_, ⟨_, h4⟩ | ⟨_, h4⟩⟩
      · have := getElem?_inj h.nodup h4 hgm
        omega
      · exact h4 hm
    · have e1 : (φ g).next (wordsOf first ord.length m 0) = .C (tk first m) := by rw [h2]; show (if valA (wordsOf first ord.length m 0) 1 = tk first m then Ph.C (tk first m) else Ph.B (tk first m) (j + 1)) = _; rw [val1]; exact if_pos rfl
      have e2 : (φ g).words (wordsOf first ord.length m 0) = wordsOf first ord.length m 1 := by rw [h2]; rfl
      rw [e1, e2]
      refine ⟨ord, m, 1, h.same hgm hcl (by omega) (by omega) (.inr (.inr ⟨rfl, .inr (.inl ⟨rfl, rfl⟩)⟩)) (fun n i hn hi => ?_), rfl, .inl rfl⟩
      rcases h.spot n i hi with h5 | h5 | ⟨h5, _⟩
      · exact .inl h5
      · exact .inr (.inl h5)
      · exact absurd h5 hn
    · have e1 : (φ g).next (wordsOf first ord.length m 1) = .D (tk first m) m := by rw [h2]; show Ph.D (tk first m) (valA (wordsOf first ord.length m 1) 5) = _; rw [val5]; simp
      have e2 : (φ g).words (wordsOf first ord.length m 1) = wordsOf first ord.length m 2 := by rw [h2]; rfl
      rw [e1, e2]
      refine ⟨ord, m, 2, h.same hgm hcl (by omega) (by omega) (.inr (.inr ⟨rfl, .inr (.inr (.inl ⟨rfl, rfl⟩))⟩)) (fun n i hn hi => ?_), rfl, .inl rfl⟩
      rcases h.spot n i hi with h5 | h5 | ⟨h5, _⟩
      · exact .inl h5
      · exact .inr (.inl h5)
      · exact absurd h5 hn
    · have e1 : (φ g).next (wordsOf first ord.length m 2) = .E (tk first m) m := by rw [h2]; rfl
      have e2 : (φ g).words (wordsOf first ord.length m 2) = wordsOf first ord.length m 3 := by rw [h2]; exact set5 first _ m (by omega)
      rw [e1, e2]
      refine ⟨ord, m, 3, h.same hgm hcl (by omega) (by omega) (.inr (.inr ⟨rfl, .inr (.inr (.inr ⟨rfl, rfl⟩))⟩)) (fun n i hn hi => ?_), rfl, .inl rfl⟩
      rcases h.spot n i hi with h5 | h5 | ⟨h5, _⟩
      · exact .inl h5
      · exact .inr (.inl h5)
      · exact absurd h5 hn
    · have e1 : (φ g).next (wordsOf first ord.length m 3) = .Z (tk first m) m := by rw [h2]; rfl
      have e2 : (φ g).words (wordsOf first ord.length m 3) = wordsOf first ord.length (m + 1) 0 := by rw [h2]; exact set1 first _ m
      rw [e1, e2]
      refine ⟨ord, m + 1, 0, h.same hgm (by omega) (fun _ => rfl) (by omega) (.inl ⟨by omega, rfl⟩) (fun n i hn hi => ?_), rfl, .inl (by unfold score; omega)⟩
      rcases h.spot n i hi with ⟨h5, h6⟩ | ⟨h5, h6⟩ | ⟨h5, _⟩
      · exact .inl ⟨by omega, h6⟩
      · by_cases h7 : n = m + 1
        · exact .inr (.inr ⟨h7, .inl ⟨rfl, h6⟩⟩)
        · exact .inr (.inl ⟨by omega, h6⟩)
      · exact absurd h5 hn
  · have hA := h.rest g hg hm
    have e1 : (φ g).next (wordsOf first ord.length c e) = .B (tk first ord.length) 0 := by rw [hA]; rfl
    have e2 : (φ g).words (wordsOf first ord.length c e) = wordsOf first (ord ++ [g]).length c e := by
      rw [hA, List.length_append]
      exact set0 first _ c e
    rw [e1, e2]
    refine ⟨ord ++ [g], c, e, ⟨?_, ?_, ?_, ?_, h.e3, ?_, ?_⟩, rfl, .inl (by unfold score; simp; omega)⟩
    · rw [List.nodup_append]
      exact ⟨h.nodup, by simp, fun a ha b hb => by
        rw [List.mem_singleton] at hb
        subst hb
        rintro rfl
        exact hm ha⟩
    · intro i hi
      rcases List.mem_append.1 hi with hi | hi
      · exact h.lt i hi
      · rw [List.mem_singleton] at hi
        omega
    · simp; omega
    · intro hc
      simp at hc
      omega
    · intro n i hi
      by_cases hn : n < ord.length
      · rw [List.getElem?_append_left hn] at hi
        rw [upd_ne]
        · exact h.spot n i hi
        · rintro rfl
          exact hm (List.mem_of_getElem? hi)
      · rw [List.getElem?_append_right (by omega)] at hi
        have hn2 : n = ord.length := by
          have h6 : n - ord.length < 1 := by
            have := (List.getElem?_eq_some_iff.1 hi).1
            simpa using this
          omega
        subst hn2
        simp at hi
        subst hi
        rw [upd_self]
        by_cases hc : c = ord.length
        · exact .inr (.inr ⟨hc.symm, .inl ⟨h.e0 hc, _, rfl⟩⟩)
        · exact .inr (.inl ⟨by omega, _, rfl⟩)
    · intro i hi hn
      rw [upd_ne]
      · exact h.rest i hi (fun hx => hn (List.mem_append.2 (.inl hx)))
      · rintro rfl
        exact hn (by simp)

/-- At most one is inside. -/
theorem Good.inside (h : Good k first φ ord c e) {i j : Nat} (hi : i < k) (hj : j < k) (h1 : (φ i).out.2.2 = true) (h2 : (φ j).out.2.2 = true) : i = j := by
  have key : ∀ i, i < k → (φ i).out.2.2 = true → ord[c]? = some i := by
    intro i hi h1
    by_cases hm : i ∈ ord
    · obtain ⟨m, hm1, hm2⟩ := List.getElem_of_mem hm
      have hgm : ord[m]? = some i := by rw [List.getElem?_eq_getElem hm1, hm2]
      rcases h.spot m i hgm with ⟨_, h2⟩ | ⟨_, j, h2⟩ | ⟨rfl, _⟩
      · rw [h2] at h1; exact absurd (show false = true from h1) (by decide)
      · rw [h2] at h1; exact absurd (show false = true from h1) (by decide)
      · exact hgm
    · rw [h.rest i hi hm] at h1
      exact absurd (show false = true from h1) (by decide)
  have a1 := key i hi h1
  have a2 := key j hj h2
  rw [a1] at a2
  injection a2

/-- All are done. -/
theorem Good.all (h : Good k first φ ord c e) (hs : score ord c e = 5 * k) : c = k ∧ e = 0 ∧ ord.length = k ∧ ∀ i, i < k → ∃ m, m ≤ k ∧ φ i = .Z (tk first m) m := by
  have h1 := h.len
  have h2 := h.cle
  have h3 := h.e0
  have h4 := h.e3
  unfold score at hs
  have hc : c = ord.length := by omega
  have he := h3 hc
  have hck : c = k := by omega
  refine ⟨hck, he, by omega, fun i hi => ?_⟩
  have hm : i ∈ ord := Classical.byContradiction fun hx => by
    have h6 := nodup_le (l := i :: ord) (k := k) (List.nodup_cons.2 ⟨hx, h.nodup⟩) (fun j hj => by
      rcases List.mem_cons.1 hj with rfl | hj
      · exact hi
      · exact h.lt j hj)
    simp at h6
    omega
  obtain ⟨m, hm1, hm2⟩ := List.getElem_of_mem hm
  have hgm : ord[m]? = some i := by rw [List.getElem?_eq_getElem hm1, hm2]
  rcases h.spot m i hgm with ⟨h5, h6⟩ | ⟨h5, _⟩ | ⟨h5, _⟩
  · exact ⟨m, by omega, h6⟩
  · omega
  · omega
end

/-! In turns -/
/-- How many turns till g's. -/
def wait (k now g : Nat) : Nat := (g + k - now % k) % k
theorem wait_lt {k : Nat} (hk : 0 < k) (now g : Nat) : wait k now g < k := Nat.mod_lt _ hk
theorem wait_here {k now g : Nat} (hg : g < k) (h : now % k = g) : wait k now g = 0 := by
  unfold wait
  rw [h, show g + k - g = k by omega, Nat.mod_self]
theorem wait_next {k now g : Nat} (hk : k ≤ 5) (hg : g < k) (h : now % k ≠ g) : wait k (now + 1) g + 1 = wait k now g := by
  unfold wait
  match k, hk with
  | 0, _ => omega
  | 1, _ => omega
  | 2, _ => omega
  | 3, _ => omega
  | 4, _ => omega
  | 5, _ => omega

/-- What is left, in turns. -/
def Pace (k : Nat) (ord : List Nat) (c e : Nat) (r now : Nat) : Prop := score ord c e = 5 * k ∨ ∃ g, Target k ord c g ∧ r + k * (5 * k - score ord c e) + wait k now g ≤ 26 * k

theorem Good.pace_start {k : Nat} {first : Int} {φ : Nat → Ph} {ord : List Nat} {c e : Nat} (h : Good k first φ ord c e) (h0 : 0 < k) (hk : k ≤ 5) (now : Nat) : Pace k ord c e 0 now := by
  by_cases hs : score ord c e = 5 * k
  · exact .inl hs
  · obtain ⟨g, hg⟩ := h.target hs
    refine .inr ⟨g, hg, ?_⟩
    have h1 := wait_lt h0 now g
    have h2 : k * (5 * k - score ord c e) ≤ k * 25 := Nat.mul_le_mul_left k (by omega)
    omega

theorem Good.pace_step {k : Nat} {first : Int} {φ' : Nat → Ph} {ord ord' : List Nat} {c e c' e' r now : Nat} (h' : Good k first φ' ord' c' e') (h0 : 0 < k) (hk : k ≤ 5) (hp : Pace k ord c e r now)
    (hs : score ord' c' e' = score ord c e + 1 ∨ (ord' = ord ∧ c' = c ∧ e' = e ∧ ¬ Target k ord c (now % k))) : Pace k ord' c' e' (r + 1) (now + 1) := by
  by_cases hd : score ord' c' e' = 5 * k
  · exact .inl hd
  · have hle := h'.score_le
    rcases hs with hs | ⟨rfl, rfl, rfl, hn⟩
    · rcases hp with hp | ⟨g, hg, hb⟩
      · omega
      · obtain ⟨g', hg'⟩ := h'.target hd
        refine .inr ⟨g', hg', ?_⟩
        have h1 := wait_lt h0 (now + 1) g'
        have h2 : k * (5 * k - score ord c e) = k * (5 * k - score ord' c' e') + k := by
          rw [show 5 * k - score ord c e = (5 * k - score ord' c' e') + 1 by omega, Nat.mul_add, Nat.mul_one]
        omega
    · rcases hp with hp | ⟨g, hg, hb⟩
      · exact absurd hp hd
      · refine .inr ⟨g, hg, ?_⟩
        have h1 : now % k ≠ g := fun e => hn (e ▸ hg)
        have h2 := wait_next hk hg.1 h1
        omega
theorem Pace.done {k : Nat} {ord : List Nat} {c e r now : Nat} (h : Pace k ord c e r now) (h0 : 0 < k) (hr : r = 60 * k) : score ord c e = 5 * k := by
  rcases h with h | ⟨g, _, hb⟩
  · exact h
  · omega
end Go.Sept.Turns

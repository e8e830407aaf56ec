/-
  A turn of one of several frames, and of its plain accesses. Conditions: all of it lies in blocks that are not the same; at most 60 accesses a body.
-/
import Derived.Test.YtfdfjibhbfdloaaTeam2
namespace Go.Proofs.Ytfdfjibhbfdloaa
open Go.RowKit Go.Sept

/-- The log and the words behind the next access, if there is one. -/
def nx (ins : List Ins) (log : List (Int × Int)) (xs : List Int) (now : Int) : List (Int × Int) × List Int :=
  if (ctlOf ins log).i < ins.length then (nextLog ins log xs now, nextWords ins log xs) else (log, xs)
theorem nx_live {ins : List Ins} {log : List (Int × Int)} (h : Live ins log) (xs : List Int) (now : Int) : Live ins (nx ins log xs now).1 := by
  unfold nx
  split
  · rename_i hc
    exact live_next h hc xs now
  · exact h
theorem nx_words (ins : List Ins) (log : List (Int × Int)) (xs : List Int) (now : Int) : (nx ins log xs now).2.length = xs.length := by
  unfold nx
  split
  · exact length_aftA _ _ _ _ _
  · rfl
theorem nx_length (ins : List Ins) (log : List (Int × Int)) (xs : List Int) (now : Int) : (nx ins log xs now).1.length = if (ctlOf ins log).i < ins.length then log.length + 1 else log.length := by
  unfold nx
  split
  · simp [nextLog]
  · rfl

section
variable {B : Nat} {w : World} {k p q rp rq : Nat} {ds : Nat → D} {xs ys : List Int}

theorem team_step (h : Team B w k p q rp rq ds xs ys) (g : Nat) (hg : g < k) (now : Int) (log : List (Int × Int)) (hd : (ds g).s.done = false) (hu : (ds g).s.underway = false) (hlog : (ds g).s.log = log) (hl : Live (ds g).ins log) (hlen : (ds g).ins.length ≤ 60) :
    Calls Try.prog 13 #[.pointer (some ⟨(ds g).F, 0, none⟩), .int .i64 now, bodyV (ds g).P] w fun e w' => ∃ d, e = .returned (.bool (overB (ds g).ins (nx (ds g).ins log xs now).1)) ∧ Team B w' k p q rp rq (ext2 ds g d) (nx (ds g).ins log xs now).2 ys ∧
      (d.F = (ds g).F ∧ d.P = (ds g).P ∧ d.Q = (ds g).Q ∧ d.ins = (ds g).ins ∧ d.log = (ds g).log) ∧ (d.s.log = (nx (ds g).ins log xs now).1 ∧ d.s.underway = false ∧ d.s.done = overB (ds g).ins (nx (ds g).ins log xs now).1) ∧
      (overB (ds g).ins (nx (ds g).ins log xs now).1 = true → d.got = (ctlOf (ds g).ins (nx (ds g).ins log xs now).1).got ∧ d.s.mark = (ctlOf (ds g).ins (nx (ds g).ins log xs now).1).mt.getD 0 ∧ d.s.marked = (ctlOf (ds g).ins (nx (ds g).ins log xs now).1).mt.isSome) ∧ Only (fun b => B ≤ b) w w' := by
  have hbase : ∀ b, (b = (ds g).F ∨ b = (ds g).lb ∨ b = q ∨ b = (ds g).P) → B ≤ b := by
    rintro b (rfl | rfl | rfl | rfl)
    · exact h.base g false _ hg (.inl rfl)
    · exact h.base g false _ hg (.inr (.inl rfl))
    · exact h.rows.1
    · exact h.base g false _ hg (.inr (.inr (.inl rfl)))
  by_cases hc : (ctlOf (ds g).ins log).i < (ds g).ins.length
  · have e1 : nx (ds g).ins log xs now = (nextLog (ds g).ins log xs now, nextWords (ds g).ins log xs) := by rw [nx, if_pos hc]
    rw [e1]
    refine (step2_go w _ _ p q _ _ _ _ _ _ _ xs _ _ now log hlog (h.real g hg) hd hu hl hlen hc).mono ?_
    rintro e w' ⟨lb', gb', s', last', got', rfl, hU, ⟨r1, r2, r3, r4⟩, r5, hlb, hgb, ho⟩
    exact ⟨_, rfl, h.stepped hg hU r1 hlb hgb ho, ⟨rfl, rfl, rfl, rfl, rfl⟩, ⟨r2, r3, r4⟩, r5, ho.mono (fun b _ e => hbase b e)⟩
  · have e1 : nx (ds g).ins log xs now = (log, xs) := by rw [nx, if_neg hc]
    have hov : overB (ds g).ins log = true := by rw [overB, decide_eq_false hc]; rfl
    rw [e1]
    refine (step2_none w _ _ p q _ _ _ _ _ _ _ xs _ _ now log hlog (h.real g hg) hd hu hl hlen hc).mono ?_
    rintro e w' ⟨lb', gb', s', last', got', rfl, hU, ⟨r1, r2, r3, r4⟩, r5, hlb, hgb, ho⟩
    exact ⟨_, by rw [hov], h.stepped hg hU r1 hlb hgb ho, ⟨rfl, rfl, rfl, rfl, rfl⟩, ⟨r2, r3, by rw [hov]; exact r4⟩, fun _ => r5, ho.mono (fun b _ e => hbase b e)⟩

theorem team_plain (h : Team B w k p q rp rq ds xs ys) (g : Nat) (hg : g < k) (now : Int) (hl : Live (ds g).ins (ds g).log) (hlen : (ds g).ins.length ≤ 60) :
    Calls Try.prog 15 #[.pointer (some ⟨(ds g).Q, 0, none⟩), .pointer (some ⟨rp, 0, none⟩), .int .i64 now] w fun e w' => ∃ d, e = .returned (.bool (decide ((ctlOf (ds g).ins (ds g).log).i < (ds g).ins.length))) ∧ Team B w' k p q rp rq (ext2 ds g d) xs (nx (ds g).ins (ds g).log ys now).2 ∧
      (d.F = (ds g).F ∧ d.P = (ds g).P ∧ d.Q = (ds g).Q ∧ d.ins = (ds g).ins ∧ d.s = (ds g).s ∧ d.got = (ds g).got) ∧ d.log = (nx (ds g).ins (ds g).log ys now).1 ∧ Only (fun b => B ≤ b) w w' := by
  have hbase : ∀ b, (b = (ds g).Q ∨ b = (ds g).gq ∨ b = rq) → B ≤ b := by
    rintro b (rfl | rfl | rfl)
    · exact h.base g true _ hg (.inl rfl)
    · exact h.base g true _ hg (.inr rfl)
    · exact h.rows.2
  by_cases hc : (ctlOf (ds g).ins (ds g).log).i < (ds g).ins.length
  · have e1 : nx (ds g).ins (ds g).log ys now = (nextLog (ds g).ins (ds g).log ys now, nextWords (ds g).ins (ds g).log ys) := by rw [nx, if_pos hc]
    rw [e1]
    refine (pstep_log w _ _ rp rq _ _ _ _ _ ys now (h.ref g hg) hlen hl hc).mono ?_
    rintro e w' ⟨rfl, gq', hP, hgq, ho⟩
    exact ⟨_, by rw [decide_eq_true hc], h.plained hg hP hgq ho, ⟨rfl, rfl, rfl, rfl, rfl, rfl⟩, rfl, ho.mono (fun b _ e => hbase b e)⟩
  · have e1 : nx (ds g).ins (ds g).log ys now = ((ds g).log, ys) := by rw [nx, if_neg hc]
    rw [e1]
    refine (pstep_over w _ _ rp rq _ _ _ _ _ _ ys now (h.ref g hg) hc).mono ?_
    rintro e w' ⟨rfl, hP, ho⟩
    have ho' : Only (fun b => b = (ds g).Q ∨ b = (ds g).gq ∨ b = rq) w w' := ho.mono (fun _ _ h => h.elim)
    exact ⟨_, by rw [decide_eq_false hc], h.plained hg hP (.inl rfl) ho', ⟨rfl, rfl, rfl, rfl, rfl, rfl⟩, rfl, ho'.mono (fun b _ e => hbase b e)⟩
end

/-- What the laws look at, of one frame and its plain accesses that stand alike. -/
structure Look (w : World) (d : D) (p q rp rq : Nat) (xs : List Int) (gv hv rv : Value) : Prop where
  i : w.cell? ⟨d.Q, 1, none⟩ = some (.int .i64 ((ctlOf d.ins d.log).i : Int))
  n : w.cell? ⟨d.Q, 4, none⟩ = some (.int .i64 (d.log.length : Int))
  m : w.cell? ⟨d.Q, 5, none⟩ = some (.int .i64 ((ctlOf d.ins d.log).mt.getD 0))
  h : w.cell? ⟨d.Q, 6, none⟩ = some (.bool (ctlOf d.ins d.log).mt.isSome)
  g : w.cell? ⟨d.P, 1, none⟩ = some gv
  gv : VecIs w gv d.got
  k : w.cell? ⟨d.Q, 3, none⟩ = some hv
  hv : VecIs w hv (ctlOf d.ins d.log).got
  r : w.cell? ⟨rp, 0, none⟩ = some rv
  rv : VecIs w rv xs
  f : FrameIs w d.F d.lb d.s
  e : Holds 74 w (.pointer (some ⟨p, 0, none⟩)) p q xs

theorem Team.look {B : Nat} {w : World} {k p q rp rq : Nat} {ds : Nat → D} {xs : List Int} (h : Team B w k p q rp rq ds xs xs) {g : Nat} (hg : g < k) : ∃ gv hv rv, Look w (ds g) p q rp rq xs gv hv rv := by
  obtain ⟨gv, g1, g2⟩ := (h.real g hg).pr
  obtain ⟨hv, k1, k2⟩ := (h.ref g hg).pl
  obtain ⟨rv, r1, r2⟩ := ref_vec h.doc
  obtain ⟨_, c1, _, c4, c5, c6, _⟩ := (h.ref g hg).cells
  exact ⟨gv, hv, rv, c1, c4, c5, c6, cell_of_block g1 1, vec_grow g2, cell_of_block k1 3, vec_grow k2, r1, r2, (h.real g hg).fm.frame, h.mem⟩
theorem Look.still {w w' : World} {d : D} {p q rp rq : Nat} {xs : List Int} {gv hv rv : Value} (h : Look w d p q rp rq xs gv hv rv) (ho : Only (fun _ => False) w w') : Look w' d p q rp rq xs gv hv rv := by
  have key : ∀ (b j : Nat) (v : Value), w.cell? ⟨b, j, none⟩ = some v → w'.cell? ⟨b, j, none⟩ = some v := fun b j v hc => (World.cell?_of_block (ho.block b (World.block_lt_of_cell? _ _ hc) (fun h => h))).trans hc
  exact ⟨key _ _ _ h.i, key _ _ _ h.n, key _ _ _ h.m, key _ _ _ h.h, key _ _ _ h.g, h.gv.only ho, key _ _ _ h.k, h.hv.only ho, key _ _ _ h.r, h.rv.only ho, h.f.only ho (fun h => h) (fun h => h), h.e.only ho (fun h => h) (fun h => h)⟩

abbrev progO (lo : Option Addr) (n lc : Nat) : Obj := .cells #[.slice lo n lc, .slice none 0 0, .int .i64 0] 33
abbrev plainO (lo : Option Addr) (n lc : Nat) : Obj := .cells #[.slice lo n lc, .int .i64 0, .int .i64 0, .slice none 0 0, .int .i64 0, .int .i64 0, .bool false] 36

/-- A new frame, a new body, new plain accesses. -/
theorem team_new {B : Nat} {w w1 : World} {k p q rp rq F LB lc : Nat} {ds : Nat → D} {xs ys : List Int} {lo : Option Addr} {ins : List Ins} (h : Team B w k p q rp rq ds xs ys) (hm : MemIs 74 w p q xs) (hr : MemIs 43 w rp rq ys) (hi : InsIs w lo LB ins) (hlb : 0 < ins.length → LB < B)
    (hf : FrameIs w1 F F (fresh (some ⟨p, 0, none⟩))) (hF : F = w.heap.size) (ho : Only (fun _ => False) w w1) :
    ∃ d, Team B ((w1.alloc (progO lo ins.length lc)).alloc (plainO lo ins.length lc)) (k + 1) p q rp rq (ext2 ds k d) xs ys ∧ Only (fun _ => False) w ((w1.alloc (progO lo ins.length lc)).alloc (plainO lo ins.length lc)) ∧
      d.F = F ∧ d.P = w1.heap.size ∧ d.Q = w1.heap.size + 1 ∧ d.ins = ins ∧ d.s = fresh (some ⟨p, 0, none⟩) ∧ d.log = [] := by
  have ho1 : Only (fun _ => False) w1 (w1.alloc (progO lo ins.length lc)) := (Only.refl _ _).alloc _
  have ho2 : Only (fun _ => False) (w1.alloc (progO lo ins.length lc)) ((w1.alloc (progO lo ins.length lc)).alloc (plainO lo ins.length lc)) := (Only.refl _ _).alloc _
  have hO := (ho.chain ho1 (fun _ _ h => h)).chain ho2 (fun _ _ h => h)
  have e1 : (w1.alloc (progO lo ins.length lc)).heap.size = w1.heap.size + 1 := by simp
  have hp : ((w1.alloc (progO lo ins.length lc)).alloc (plainO lo ins.length lc)).heap[w1.heap.size]? = some (progO lo ins.length lc) := (Below.heap_alloc _ _ _ (by simp)).trans (heap_new _ _)
  have hq : ((w1.alloc (progO lo ins.length lc)).alloc (plainO lo ins.length lc)).heap[w1.heap.size + 1]? = some (plainO lo ins.length lc) := by
    have h9 := heap_new (w1.alloc (progO lo ins.length lc)) (plainO lo ins.length lc)
    rwa [e1] at h9
  have z0 := ho.size
  have zF := hf.lt
  obtain ⟨z1, z2, z3, z4⟩ := h.zs
  have zB := h.size
  have hi2 := hi.only hO (fun _ h => h)
  have hf2 := (hf.only ho1 (fun h => h) (fun h => h)).only ho2 (fun h => h) (fun h => h)
  have hU := under_new (LB := LB) (hm.only hO (fun h => h) (fun h => h)) hf2 hp hi2 (by omega) (by omega) (by omega) (by omega) (by omega) (fun h0 => by have := hlb h0; have := h.rows; omega)
  have hP := plain_new (LB := LB) (hr.only hO (fun h => h) (fun h => h)) hq hi2 (by omega) (by omega) (fun h0 => by have := hlb h0; have := h.rows; omega)
  refine ⟨⟨F, F, w1.heap.size, w1.heap.size, w1.heap.size + 1, w1.heap.size + 1, LB, lo, lc, ins, fresh (some ⟨p, 0, none⟩), 0, [], []⟩, (h.still hO).add _ hU hP ?_ ?_ ?_ ?_ hlb rfl, hO, rfl, rfl, rfl, rfl, rfl, rfl⟩
  · intro c c' b a1 a2
    cases c <;> cases c' <;> simp only [D.mine] at a1 a2
    · rfl
    · omega
    · omega
    · rfl
  · intro i c c' b hi a1 a2
    have := h.lt hi a1
    cases c' <;> simp only [D.mine] at a2 <;> omega
  · intro c b a1
    cases c <;> simp only [D.mine] at a1 <;> exact ⟨by omega, by omega, by omega, by omega⟩
  · intro c b a1
    cases c <;> simp only [D.mine] at a1 <;> omega

/-- The same, by the blocks' numbers. -/
structure Sight (w : World) (F lb P Q p q rp : Nat) (s : FrSt) (c : Ctl) (n : Nat) (got xs : List Int) (gv hv rv : Value) : Prop where
  i : w.cell? ⟨Q, 1, none⟩ = some (.int .i64 (c.i : Int))
  n : w.cell? ⟨Q, 4, none⟩ = some (.int .i64 (n : Int))
  m : w.cell? ⟨Q, 5, none⟩ = some (.int .i64 (c.mt.getD 0))
  h : w.cell? ⟨Q, 6, none⟩ = some (.bool c.mt.isSome)
  g : w.cell? ⟨P, 1, none⟩ = some gv
  gv : VecIs w gv got
  k : w.cell? ⟨Q, 3, none⟩ = some hv
  hv : VecIs w hv c.got
  r : w.cell? ⟨rp, 0, none⟩ = some rv
  rv : VecIs w rv xs
  f : FrameIs w F lb s
  e : Holds 74 w (.pointer (some ⟨p, 0, none⟩)) p q xs
theorem Team.sight {B : Nat} {w : World} {k p q rp rq F P Q : Nat} {ds : Nat → D} {xs : List Int} {ins : List Ins} {log : List (Int × Int)} (h : Team B w k p q rp rq ds xs xs) {g : Nat} (hg : g < k) (e1 : (ds g).F = F) (e2 : (ds g).P = P) (e3 : (ds g).Q = Q) (e4 : (ds g).ins = ins) (e5 : (ds g).log = log) :
    ∃ gv hv rv, Sight w F (ds g).lb P Q p q rp (ds g).s (ctlOf ins log) log.length (ds g).got xs gv hv rv := by
  obtain ⟨gv, hv, rv, hl⟩ := h.look hg
  subst e1 e2 e3 e4 e5
  exact ⟨gv, hv, rv, hl.i, hl.n, hl.m, hl.h, hl.g, hl.gv, hl.k, hl.hv, hl.r, hl.rv, hl.f, hl.e⟩
theorem Sight.still {w w' : World} {F lb P Q p q rp : Nat} {s : FrSt} {c : Ctl} {n : Nat} {got xs : List Int} {gv hv rv : Value} (h : Sight w F lb P Q p q rp s c n got xs gv hv rv) (ho : Only (fun _ => False) w w') : Sight w' F lb P Q p q rp s c n got xs gv hv rv := by
  have key : ∀ (b j : Nat) (v : Value), w.cell? ⟨b, j, none⟩ = some v → w'.cell? ⟨b, j, none⟩ = some v := fun b j v hc => (World.cell?_of_block (ho.block b (World.block_lt_of_cell? _ _ hc) (fun h => h))).trans hc
  exact ⟨key _ _ _ h.i, key _ _ _ h.n, key _ _ _ h.m, key _ _ _ h.h, key _ _ _ h.g, h.gv.only ho, key _ _ _ h.k, h.hv.only ho, key _ _ _ h.r, h.rv.only ho, h.f.only ho (fun h => h) (fun h => h), h.e.only ho (fun h => h) (fun h => h)⟩
end Go.Proofs.Ytfdfjibhbfdloaa

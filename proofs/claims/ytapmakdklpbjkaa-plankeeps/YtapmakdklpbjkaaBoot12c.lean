/-
  Package plan: the closures that Boot plays, and play. Conditions: the plan is one that Of makes.
-/
import Derived.Test.YtapmakdklpbjkaaBoot12b
namespace Go.Proofs.Ytapmakdklpbjkaa
open Go.RowKit Go.Sept

/-- A block of one int. -/
abbrev intO (o : Nat) : Obj := .cells #[.int .i64 (o : Int)] 3
abbrev bootBag (z : Nat) (cs : Array Value) (p : Pt) (Q : Nat → Prop) : Bag := (plBag cs p Q).and (Bag.one z (plO cs))
abbrev bootBag2 (z y o : Nat) (cs : Array Value) (p : Pt) (Q : Nat → Prop) : Bag := (plBag cs p Q).and ((Bag.one z (plO cs)).and (Bag.one y (intO o)))

set_option maxRecDepth 100000 in
set_option maxHeartbeats 1000000 in
theorem boot3 {Q : Nat → Prop} {w w1 : World} {F lb p q z y : Nat} {R : Unit × FrSt × List Int} (n m : Nat) (ta oa za zb : Option Addr) (zc zd : Nat) (pt : Pt) (hn : pt.ths.length = n) (hm : pt.obs.length = m) (hn20 : n ≤ 20) (hm20 : m ≤ 20) (o : Nat) (x : Ob) (hx : pt.obs[o]? = some x) (hok : obOk x = true)
    (h : At w F lb p q (fun _ => False) (bootBag2 z y o (planCs n m ta oa (.slice za n zc) (.slice zb m zd)) pt Q) (objT (43 + (m : Int) + (n : Int) * 24 + (o : Int) * 24) x.kind x.size.toNat) R w1) :
    Calls Try.prog 26 #[ptrV F, ptrV z, ptrV y] w1 fun e w' => ∃ x, e = .returned (.tuple #[]) ∧ At w F lb p q (fun _ => False) (bootBag2 z y o (planCs n m ta oa (.slice za n zc) (.slice zb m zd)) pt Q) (Tree.ret x : Tree Unit 0) R w' := by
  have H := hid (bootObj n m ta oa za zb zc zd pt hn hm hn20 hm20 o x hx hok h)
  obtain ⟨_, hz, hy⟩ := h.bag
  have p0 : w1.cell? ⟨z, 0, none⟩ = some (.int .i64 0) := cell_of_block hz 0
  have p1 : w1.cell? ⟨z, 1, none⟩ = some (.int .i64 2) := cell_of_block hz 1
  have p2 : w1.cell? ⟨z, 2, none⟩ = some (.int .i64 4) := cell_of_block hz 2
  have p3 : w1.cell? ⟨z, 3, none⟩ = some (.int .i64 3) := cell_of_block hz 3
  have p4 : w1.cell? ⟨z, 4, none⟩ = some (.int .i64 5) := cell_of_block hz 4
  have p5 : w1.cell? ⟨z, 5, none⟩ = some (.int .i64 6) := cell_of_block hz 5
  have p6 : w1.cell? ⟨z, 6, none⟩ = some (.int .i64 8) := cell_of_block hz 6
  have p7 : w1.cell? ⟨z, 7, none⟩ = some (.int .i64 41) := cell_of_block hz 7
  have p8 : w1.cell? ⟨z, 8, none⟩ = some (.int .i64 43) := cell_of_block hz 8
  have p9 : w1.cell? ⟨z, 9, none⟩ = some (.slice ta n n) := cell_of_block hz 9
  have p10 : w1.cell? ⟨z, 10, none⟩ = some (.slice oa m m) := cell_of_block hz 10
  have p11 : w1.cell? ⟨z, 11, none⟩ = some (.int .i64 (43 + (m : Int) + (n : Int) * 24 + (m : Int) * 24)) := cell_of_block hz 11
  have p12 : w1.cell? ⟨z, 12, none⟩ = some (.slice za n zc) := cell_of_block hz 12
  have p13 : w1.cell? ⟨z, 13, none⟩ = some (.slice zb m zd) := cell_of_block hz 13
  have c0 : w1.cell? ⟨y, 0, none⟩ = some (.int .i64 (o : Int)) := cell_of_block hy 0
  clear h hx hok hz hy
  go_enter Try.func26, Try.ntmps26
  go_wp2_with fail
  refine H.out.mono ?_
  rintro e w2 ⟨u, rfl, h2⟩
  have H2 := hid h2
  clear H h2
  go_wp2_with fail
  go_end0
  exact ⟨_, rfl, H2.out⟩

set_option maxRecDepth 100000 in
set_option maxHeartbeats 1000000 in
theorem boot4 {Q : Nat → Prop} {w w1 : World} {F lb p q z y : Nat} {R : Unit × FrSt × List Int} (n m : Nat) (ta oa za zb : Option Addr) (zc zd : Nat) (pt : Pt) (hn : pt.ths.length = n) (hm : pt.obs.length = m) (hn20 : n ≤ 20) (hm20 : m ≤ 20) (o : Nat) (x : Th) (hx : pt.ths[o]? = some x)
    (h : At w F lb p q (fun _ => False) (bootBag2 z y o (planCs n m ta oa (.slice za n zc) (.slice zb m zd)) pt Q) (thrT (43 + (m : Int) + (o : Int) * 24) x.prio) R w1) :
    Calls Try.prog 28 #[ptrV F, ptrV z, ptrV y] w1 fun e w' => ∃ x, e = .returned (.tuple #[]) ∧ At w F lb p q (fun _ => False) (bootBag2 z y o (planCs n m ta oa (.slice za n zc) (.slice zb m zd)) pt Q) (Tree.ret x : Tree Unit 0) R w' := by
  have H := hid (bootThr n m ta oa za zb zc zd pt hn hm hn20 hm20 o x hx h)
  obtain ⟨_, hz, hy⟩ := h.bag
  have p0 : w1.cell? ⟨z, 0, none⟩ = some (.int .i64 0) := cell_of_block hz 0
  have p1 : w1.cell? ⟨z, 1, none⟩ = some (.int .i64 2) := cell_of_block hz 1
  have p2 : w1.cell? ⟨z, 2, none⟩ = some (.int .i64 4) := cell_of_block hz 2
  have p3 : w1.cell? ⟨z, 3, none⟩ = some (.int .i64 3) := cell_of_block hz 3
  have p4 : w1.cell? ⟨z, 4, none⟩ = some (.int .i64 5) := cell_of_block hz 4
  have p5 : w1.cell? ⟨z, 5, none⟩ = some (.int .i64 6) := cell_of_block hz 5
  have p6 : w1.cell? ⟨z, 6, none⟩ = some (.int .i64 8) := cell_of_block hz 6
  have p7 : w1.cell? ⟨z, 7, none⟩ = some (.int .i64 41) := cell_of_block hz 7
  have p8 : w1.cell? ⟨z, 8, none⟩ = some (.int .i64 43) := cell_of_block hz 8
  have p9 : w1.cell? ⟨z, 9, none⟩ = some (.slice ta n n) := cell_of_block hz 9
  have p10 : w1.cell? ⟨z, 10, none⟩ = some (.slice oa m m) := cell_of_block hz 10
  have p11 : w1.cell? ⟨z, 11, none⟩ = some (.int .i64 (43 + (m : Int) + (n : Int) * 24 + (m : Int) * 24)) := cell_of_block hz 11
  have p12 : w1.cell? ⟨z, 12, none⟩ = some (.slice za n zc) := cell_of_block hz 12
  have p13 : w1.cell? ⟨z, 13, none⟩ = some (.slice zb m zd) := cell_of_block hz 13
  have c0 : w1.cell? ⟨y, 0, none⟩ = some (.int .i64 (o : Int)) := cell_of_block hy 0
  clear h hx hz hy
  go_enter Try.func28, Try.ntmps28
  go_wp2_with fail
  refine H.out.mono ?_
  rintro e w2 ⟨u, rfl, h2⟩
  have H2 := hid h2
  clear H h2
  go_wp2_with fail
  go_end0
  exact ⟨_, rfl, H2.out⟩

set_option maxRecDepth 100000 in
set_option maxHeartbeats 1000000 in
theorem boot5 {Q : Nat → Prop} {w w1 : World} {F lb p q z : Nat} {R : Unit × FrSt × List Int} (n m : Nat) (ta oa za zb : Option Addr) (zc zd : Nat) (pt : Pt) (hn : pt.ths.length = n) (hm : pt.obs.length = m) (hn20 : n ≤ 20)
    (h : At w F lb p q (fun _ => False) (bootBag z (planCs n m ta oa (.slice za n zc) (.slice zb m zd)) pt Q) (coresT (thAts n m) [3, 5]) R w1) :
    Calls Try.prog 30 #[ptrV F, ptrV z] w1 fun e w' => ∃ x, e = .returned (.tuple #[]) ∧ At w F lb p q (fun _ => False) (bootBag z (planCs n m ta oa (.slice za n zc) (.slice zb m zd)) pt Q) (Tree.ret x : Tree Unit 0) R w' := by
  have H := hid (bootCrs n m ta oa za zb zc zd pt hn hm hn20 h)
  obtain ⟨_, hz⟩ := h.bag
  have p0 : w1.cell? ⟨z, 0, none⟩ = some (.int .i64 0) := cell_of_block hz 0
  have p1 : w1.cell? ⟨z, 1, none⟩ = some (.int .i64 2) := cell_of_block hz 1
  have p2 : w1.cell? ⟨z, 2, none⟩ = some (.int .i64 4) := cell_of_block hz 2
  have p3 : w1.cell? ⟨z, 3, none⟩ = some (.int .i64 3) := cell_of_block hz 3
  have p4 : w1.cell? ⟨z, 4, none⟩ = some (.int .i64 5) := cell_of_block hz 4
  have p5 : w1.cell? ⟨z, 5, none⟩ = some (.int .i64 6) := cell_of_block hz 5
  have p6 : w1.cell? ⟨z, 6, none⟩ = some (.int .i64 8) := cell_of_block hz 6
  have p7 : w1.cell? ⟨z, 7, none⟩ = some (.int .i64 41) := cell_of_block hz 7
  have p8 : w1.cell? ⟨z, 8, none⟩ = some (.int .i64 43) := cell_of_block hz 8
  have p9 : w1.cell? ⟨z, 9, none⟩ = some (.slice ta n n) := cell_of_block hz 9
  have p10 : w1.cell? ⟨z, 10, none⟩ = some (.slice oa m m) := cell_of_block hz 10
  have p11 : w1.cell? ⟨z, 11, none⟩ = some (.int .i64 (43 + (m : Int) + (n : Int) * 24 + (m : Int) * 24)) := cell_of_block hz 11
  have p12 : w1.cell? ⟨z, 12, none⟩ = some (.slice za n zc) := cell_of_block hz 12
  have p13 : w1.cell? ⟨z, 13, none⟩ = some (.slice zb m zd) := cell_of_block hz 13
  clear h hz
  go_enter Try.func30, Try.ntmps30
  go_wp2_with fail
  refine H.out.mono ?_
  rintro e w2 ⟨u, rfl, h2⟩
  have H2 := hid h2
  clear H h2
  go_wp2_with fail
  go_end0
  exact ⟨_, rfl, H2.out⟩

set_option maxHeartbeats 400000 in
/-- play of a closure that does a tree. -/
theorem play12 {n : Nat} {T : Tree Unit n} {fn : Nat} {cap : Array Value} {B : Bag} (hB : BodyCl T fn cap (bagK B) 6000) (w : World) (p q : Nat) (xs : List Int) (hm : MemIs 77 w p q xs) (hP : B.P w) (hV : ∀ k, B.V k → k ≠ p ∧ k ≠ q) (hk : n ≤ 60) (hy : 0 < xs.length) :
    Calls Try.prog 21 #[.pointer (some ⟨p, 0, none⟩), closV fn cap] w fun e w' => e = .returned (.tuple #[]) ∧ MemIs 77 w' p q (T.alone xs).2.1 ∧ Only (fun k => k = q) w w' := by
  have HR := hid (clos_run hB w p q xs 60 hm hP hV (by omega) (by decide) (by decide) hy)
  obtain ⟨X, hX⟩ : ∃ X, (T.alone xs).2.1 = X := ⟨_, rfl⟩
  rw [hX] at HR ⊢
  clear hm hP hV hB hX
  go_enter Try.func21, Try.ntmps21
  go_wp2_with fail
  refine HR.out.mono ?_
  rintro e w2 ⟨rfl, h2, h3⟩
  have H2 := hid (And.intro h2 h3)
  clear h2 h3 HR
  go_wp2_with fail
  go_end0
  exact ⟨rfl, H2.out⟩
end Go.Proofs.Ytapmakdklpbjkaa

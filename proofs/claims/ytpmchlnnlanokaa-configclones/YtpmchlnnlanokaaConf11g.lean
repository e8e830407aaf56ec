/-
  Package config: fresh, of each type. Conditions: the slice is of at most 100 elements.
-/
import Derived.Test.YtpmchlnnlanokaaFresh11
import Derived.Test.YtpmchlnnlanokaaCopied11
import Derived.Lib.SliceRun
namespace Go.Proofs.Ytpmchlnnlanokaa
open Go.RowKit Go.Sept

theorem infoI64 : (Try.prog.info? 2).map (fun i => (i.zero, i.size, i.bytes)) = some (some (.int .i64 0), 1, 8) := by kernel_rfl
theorem none_news {news : List Value} {n size : Nat} {w : World} (hl : news.length = n * size) (hsz : 0 < size) (hnews : ∀ j u, news[j]? = some u → ∃ a, (none : Option Addr) = some a ∧ w.cell? (a.add j) = some u) : n = 0 := by
  cases news with
  | nil =>
    rcases Nat.mul_eq_zero.1 hl.symm with h | h
    · exact h
    · omega
  | cons u r =>
    obtain ⟨a, ha, _⟩ := hnews 0 u rfl
    cases ha

theorem sizeInt : (Try.prog.info? 2).map (·.size) = some 1 := by kernel_rfl
set_option maxRecDepth 100000 in
set_option maxHeartbeats 1000000 in
theorem freshInt (w : World) (ao : Option Addr) (n cap : Nat) (news : List Value) (hl : news.length = n * 1) (hnews : ∀ j u, news[j]? = some u → ∃ a, ao = some a ∧ w.cell? (a.add j) = some u) (h1 : ∀ u ∈ news, u.oneCell' = true) (hb : n ≤ 100) :
    Calls Try.prog 43 #[.slice ao n cap] w fun e w' => FreshIs 2 w w' e n news := by
  cases ao with
  | none =>
    have hn0 := none_news hl (by decide) hnews
    subst hn0
    have heq := Lib.run_eql_slice_nil (P := Try.prog) w 44 2 none 0 cap 0 0 Try.underlying44
    clear hnews hl h1
    go_enter Try.func43, Try.ntmps43
    go_wp2_with fail
    go_ret
    exact .inl ⟨rfl, rfl, rfl⟩
  | some a =>
    obtain ⟨Z, hZ, hmk⟩ := run_make_some 44 2 _ 1 8 Try.underlying44 infoI64 n (by omega) (by omega) w
    have hcp := run_copy_all w 44 3 2 1 n Try.underlying44 sizeInt Z hZ (some a) cap news hl hnews h1
    have heq := Lib.run_eql_slice_nil (P := Try.prog) w 44 2 (some a) n cap 0 0 Try.underlying44
    clear hnews hl h1 hZ
    go_enter Try.func43, Try.ntmps43
    go_wp2_with fail
    go_ret
    exact .inr ⟨rfl, rfl⟩

theorem sizeCl : (Try.prog.info? 46).map (·.size) = some 6 := by kernel_rfl
set_option maxRecDepth 100000 in
set_option maxHeartbeats 1000000 in
theorem freshCl (w : World) (ao : Option Addr) (n cap : Nat) (news : List Value) (hl : news.length = n * 6) (hnews : ∀ j u, news[j]? = some u → ∃ a, ao = some a ∧ w.cell? (a.add j) = some u) (h1 : ∀ u ∈ news, u.oneCell' = true) (hb : n ≤ 100) :
    Calls Try.prog 42 #[.slice ao n cap] w fun e w' => FreshIs 46 w w' e n news := by
  cases ao with
  | none =>
    have hn0 := none_news hl (by decide) hnews
    subst hn0
    have heq := Lib.run_eql_slice_nil (P := Try.prog) w 41 46 none 0 cap 0 0 Try.underlying41
    clear hnews hl h1
    go_enter Try.func42, Try.ntmps42
    go_wp2_with fail
    go_ret
    exact .inl ⟨rfl, rfl, rfl⟩
  | some a =>
    obtain ⟨Z, hZ, hmk⟩ := run_make_some 41 46 _ 6 64 Try.underlying41 infoCl n (by omega) (by omega) w
    have hcp := run_copy_all w 41 3 46 6 n Try.underlying41 sizeCl Z hZ (some a) cap news hl hnews h1
    have heq := Lib.run_eql_slice_nil (P := Try.prog) w 41 46 (some a) n cap 0 0 Try.underlying41
    clear hnews hl h1 hZ
    go_enter Try.func42, Try.ntmps42
    go_wp2_with fail
    go_ret
    exact .inr ⟨rfl, rfl⟩

theorem sizeTh : (Try.prog.info? 43).map (·.size) = some 4 := by kernel_rfl
set_option maxRecDepth 100000 in
set_option maxHeartbeats 1000000 in
theorem freshTh (w : World) (ao : Option Addr) (n cap : Nat) (news : List Value) (hl : news.length = n * 4) (hnews : ∀ j u, news[j]? = some u → ∃ a, ao = some a ∧ w.cell? (a.add j) = some u) (h1 : ∀ u ∈ news, u.oneCell' = true) (hb : n ≤ 100) :
    Calls Try.prog 33 #[.slice ao n cap] w fun e w' => FreshIs 43 w w' e n news := by
  cases ao with
  | none =>
    have hn0 := none_news hl (by decide) hnews
    subst hn0
    have heq := Lib.run_eql_slice_nil (P := Try.prog) w 36 43 none 0 cap 0 0 Try.underlying36
    clear hnews hl h1
    go_enter Try.func33, Try.ntmps33
    go_wp2_with fail
    go_ret
    exact .inl ⟨rfl, rfl, rfl⟩
  | some a =>
    obtain ⟨Z, hZ, hmk⟩ := run_make_some 36 43 _ 4 40 Try.underlying36 infoTh n (by omega) (by omega) w
    have hcp := run_copy_all w 36 3 43 4 n Try.underlying36 sizeTh Z hZ (some a) cap news hl hnews h1
    have heq := Lib.run_eql_slice_nil (P := Try.prog) w 36 43 (some a) n cap 0 0 Try.underlying36
    clear hnews hl h1 hZ
    go_enter Try.func33, Try.ntmps33
    go_wp2_with fail
    go_ret
    exact .inr ⟨rfl, rfl⟩

theorem sizeOb : (Try.prog.info? 70).map (·.size) = some 3 := by kernel_rfl
set_option maxRecDepth 100000 in
set_option maxHeartbeats 1000000 in
theorem freshOb (w : World) (ao : Option Addr) (n cap : Nat) (news : List Value) (hl : news.length = n * 3) (hnews : ∀ j u, news[j]? = some u → ∃ a, ao = some a ∧ w.cell? (a.add j) = some u) (h1 : ∀ u ∈ news, u.oneCell' = true) (hb : n ≤ 100) :
    Calls Try.prog 35 #[.slice ao n cap] w fun e w' => FreshIs 70 w w' e n news := by
  cases ao with
  | none =>
    have hn0 := none_news hl (by decide) hnews
    subst hn0
    have heq := Lib.run_eql_slice_nil (P := Try.prog) w 37 70 none 0 cap 0 0 Try.underlying37
    clear hnews hl h1
    go_enter Try.func35, Try.ntmps35
    go_wp2_with fail
    go_ret
    exact .inl ⟨rfl, rfl, rfl⟩
  | some a =>
    obtain ⟨Z, hZ, hmk⟩ := run_make_some 37 70 _ 3 24 Try.underlying37 infoOb n (by omega) (by omega) w
    have hcp := run_copy_all w 37 3 70 3 n Try.underlying37 sizeOb Z hZ (some a) cap news hl hnews h1
    have heq := Lib.run_eql_slice_nil (P := Try.prog) w 37 70 (some a) n cap 0 0 Try.underlying37
    clear hnews hl h1 hZ
    go_enter Try.func35, Try.ntmps35
    go_wp2_with fail
    go_ret
    exact .inr ⟨rfl, rfl⟩

theorem sizeWin : (Try.prog.info? 48).map (·.size) = some 2 := by kernel_rfl
set_option maxRecDepth 100000 in
set_option maxHeartbeats 1000000 in
theorem freshWin (w : World) (ao : Option Addr) (n cap : Nat) (news : List Value) (hl : news.length = n * 2) (hnews : ∀ j u, news[j]? = some u → ∃ a, ao = some a ∧ w.cell? (a.add j) = some u) (h1 : ∀ u ∈ news, u.oneCell' = true) (hb : n ≤ 100) :
    Calls Try.prog 25 #[.slice ao n cap] w fun e w' => FreshIs 48 w w' e n news := by
  cases ao with
  | none =>
    have hn0 := none_news hl (by decide) hnews
    subst hn0
    have heq := Lib.run_eql_slice_nil (P := Try.prog) w 23 48 none 0 cap 0 0 Try.underlying23
    clear hnews hl h1
    go_enter Try.func25, Try.ntmps25
    go_wp2_with fail
    go_ret
    exact .inl ⟨rfl, rfl, rfl⟩
  | some a =>
    obtain ⟨Z, hZ, hmk⟩ := run_make_some 23 48 _ 2 16 Try.underlying23 infoWin n (by omega) (by omega) w
    have hcp := run_copy_all w 23 3 48 2 n Try.underlying23 sizeWin Z hZ (some a) cap news hl hnews h1
    have heq := Lib.run_eql_slice_nil (P := Try.prog) w 23 48 (some a) n cap 0 0 Try.underlying23
    clear hnews hl h1 hZ
    go_enter Try.func25, Try.ntmps25
    go_wp2_with fail
    go_ret
    exact .inr ⟨rfl, rfl⟩

theorem sizeChn : (Try.prog.info? 54).map (·.size) = some 4 := by kernel_rfl
set_option maxRecDepth 100000 in
set_option maxHeartbeats 1000000 in
theorem freshChn (w : World) (ao : Option Addr) (n cap : Nat) (news : List Value) (hl : news.length = n * 4) (hnews : ∀ j u, news[j]? = some u → ∃ a, ao = some a ∧ w.cell? (a.add j) = some u) (h1 : ∀ u ∈ news, u.oneCell' = true) (hb : n ≤ 100) :
    Calls Try.prog 26 #[.slice ao n cap] w fun e w' => FreshIs 54 w w' e n news := by
  cases ao with
  | none =>
    have hn0 := none_news hl (by decide) hnews
    subst hn0
    have heq := Lib.run_eql_slice_nil (P := Try.prog) w 24 54 none 0 cap 0 0 Try.underlying24
    clear hnews hl h1
    go_enter Try.func26, Try.ntmps26
    go_wp2_with fail
    go_ret
    exact .inl ⟨rfl, rfl, rfl⟩
  | some a =>
    obtain ⟨Z, hZ, hmk⟩ := run_make_some 24 54 _ 4 32 Try.underlying24 infoChn n (by omega) (by omega) w
    have hcp := run_copy_all w 24 3 54 4 n Try.underlying24 sizeChn Z hZ (some a) cap news hl hnews h1
    have heq := Lib.run_eql_slice_nil (P := Try.prog) w 24 54 (some a) n cap 0 0 Try.underlying24
    clear hnews hl h1 hZ
    go_enter Try.func26, Try.ntmps26
    go_wp2_with fail
    go_ret
    exact .inr ⟨rfl, rfl⟩

theorem sizePt : (Try.prog.info? 39).map (·.size) = some 2 := by kernel_rfl
set_option maxRecDepth 100000 in
set_option maxHeartbeats 1000000 in
theorem freshPt (w : World) (ao : Option Addr) (n cap : Nat) (news : List Value) (hl : news.length = n * 2) (hnews : ∀ j u, news[j]? = some u → ∃ a, ao = some a ∧ w.cell? (a.add j) = some u) (h1 : ∀ u ∈ news, u.oneCell' = true) (hb : n ≤ 100) :
    Calls Try.prog 23 #[.slice ao n cap] w fun e w' => FreshIs 39 w w' e n news := by
  cases ao with
  | none =>
    have hn0 := none_news hl (by decide) hnews
    subst hn0
    have heq := Lib.run_eql_slice_nil (P := Try.prog) w 22 39 none 0 cap 0 0 Try.underlying22
    clear hnews hl h1
    go_enter Try.func23, Try.ntmps23
    go_wp2_with fail
    go_ret
    exact .inl ⟨rfl, rfl, rfl⟩
  | some a =>
    obtain ⟨Z, hZ, hmk⟩ := run_make_some 22 39 _ 2 48 Try.underlying22 infoPt n (by omega) (by omega) w
    have hcp := run_copy_all w 22 3 39 2 n Try.underlying22 sizePt Z hZ (some a) cap news hl hnews h1
    have heq := Lib.run_eql_slice_nil (P := Try.prog) w 22 39 (some a) n cap 0 0 Try.underlying22
    clear hnews hl h1 hZ
    go_enter Try.func23, Try.ntmps23
    go_wp2_with fail
    go_ret
    exact .inr ⟨rfl, rfl⟩
end Go.Proofs.Ytpmchlnnlanokaa

/-
  Package config: fresh, of each type. Conditions: the slice is of at most 100 elements.
-/
import Derived.Test.YtapmakdklpbjkaaFresh11
import Derived.Test.YtapmakdklpbjkaaCopied11
import Derived.Lib.SliceRun
namespace Go.Proofs.Ytapmakdklpbjkaa
open Go.RowKit Go.Sept

theorem infoI64 : (Try.prog.info? 2).map (fun i => (i.zero, i.size, i.bytes)) = some (some (.int .i64 0), 1, 8) := by kernel_rfl
theorem none_news {news : List Value} {n size : Nat} {w : World} (hl : news.length = n * size) (hsz : 0 < size) (hnews : ∀ j u, news[j]? = some u → ∃ a, (none : Option Addr) = some a ∧ w.cell? (a.add j) = some u) : n = 0 := by
  cases news with
  | nil =>
    rcases Nat.mul_eq_zero.1 hl.symm with h | h
    · exact h
    · omega
  | cons u r =>
    obtain ⟨a, ha, _⟩ := hnews 0 u rfl
    cases ha

theorem sizeInt : (Try.prog.info? 2).map (·.size) = some 1 := by kernel_rfl
set_option maxRecDepth 100000 in
set_option maxHeartbeats 1000000 in
theorem freshInt (w : World) (ao : Option Addr) (n cap : Nat) (news : List Value) (hl : news.length = n * 1) (hnews : ∀ j u, news[j]? = some u → ∃ a, ao = some a ∧ w.cell? (a.add j) = some u) (h1 : ∀ u ∈ news, u.oneCell' = true) (hb : n ≤ 100) :
    Calls Try.prog 79 #[.slice ao n cap] w fun e w' => FreshIs 2 w w' e n news := by
  cases ao with
  | none =>
    have hn0 := none_news hl (by decide) hnews
    subst hn0
    have heq := Lib.run_eql_slice_nil (P := Try.prog) w 42 2 none 0 cap 0 0 Try.underlying42
    clear hnews hl h1
    go_enter Try.func79, Try.ntmps79
    go_wp2_with fail
    go_ret
    exact .inl ⟨rfl, rfl, rfl⟩
  | some a =>
    obtain ⟨Z, hZ, hmk⟩ := run_make_some 42 2 _ 1 8 Try.underlying42 infoI64 n (by omega) (by omega) w
    have hcp := run_copy_all w 42 3 2 1 n Try.underlying42 sizeInt Z hZ (some a) cap news hl hnews h1
    have heq := Lib.run_eql_slice_nil (P := Try.prog) w 42 2 (some a) n cap 0 0 Try.underlying42
    clear hnews hl h1 hZ
    go_enter Try.func79, Try.ntmps79
    go_wp2_with fail
    go_ret
    exact .inr ⟨rfl, rfl⟩

theorem sizeCl : (Try.prog.info? 52).map (·.size) = some 6 := by kernel_rfl
set_option maxRecDepth 100000 in
set_option maxHeartbeats 1000000 in
theorem freshCl (w : World) (ao : Option Addr) (n cap : Nat) (news : List Value) (hl : news.length = n * 6) (hnews : ∀ j u, news[j]? = some u → ∃ a, ao = some a ∧ w.cell? (a.add j) = some u) (h1 : ∀ u ∈ news, u.oneCell' = true) (hb : n ≤ 100) :
    Calls Try.prog 78 #[.slice ao n cap] w fun e w' => FreshIs 52 w w' e n news := by
  cases ao with
  | none =>
    have hn0 := none_news hl (by decide) hnews
    subst hn0
    have heq := Lib.run_eql_slice_nil (P := Try.prog) w 48 52 none 0 cap 0 0 Try.underlying48
    clear hnews hl h1
    go_enter Try.func78, Try.ntmps78
    go_wp2_with fail
    go_ret
    exact .inl ⟨rfl, rfl, rfl⟩
  | some a =>
    obtain ⟨Z, hZ, hmk⟩ := run_make_some 48 52 _ 6 64 Try.underlying48 infoCl n (by omega) (by omega) w
    have hcp := run_copy_all w 48 3 52 6 n Try.underlying48 sizeCl Z hZ (some a) cap news hl hnews h1
    have heq := Lib.run_eql_slice_nil (P := Try.prog) w 48 52 (some a) n cap 0 0 Try.underlying48
    clear hnews hl h1 hZ
    go_enter Try.func78, Try.ntmps78
    go_wp2_with fail
    go_ret
    exact .inr ⟨rfl, rfl⟩

theorem sizeTh : (Try.prog.info? 50).map (·.size) = some 4 := by kernel_rfl
set_option maxRecDepth 100000 in
set_option maxHeartbeats 1000000 in
theorem freshTh (w : World) (ao : Option Addr) (n cap : Nat) (news : List Value) (hl : news.length = n * 4) (hnews : ∀ j u, news[j]? = some u → ∃ a, ao = some a ∧ w.cell? (a.add j) = some u) (h1 : ∀ u ∈ news, u.oneCell' = true) (hb : n ≤ 100) :
    Calls Try.prog 56 #[.slice ao n cap] w fun e w' => FreshIs 50 w w' e n news := by
  cases ao with
  | none =>
    have hn0 := none_news hl (by decide) hnews
    subst hn0
    have heq := Lib.run_eql_slice_nil (P := Try.prog) w 22 50 none 0 cap 0 0 Try.underlying22
    clear hnews hl h1
    go_enter Try.func56, Try.ntmps56
    go_wp2_with fail
    go_ret
    exact .inl ⟨rfl, rfl, rfl⟩
  | some a =>
    obtain ⟨Z, hZ, hmk⟩ := run_make_some 22 50 _ 4 40 Try.underlying22 infoTh n (by omega) (by omega) w
    have hcp := run_copy_all w 22 3 50 4 n Try.underlying22 sizeTh Z hZ (some a) cap news hl hnews h1
    have heq := Lib.run_eql_slice_nil (P := Try.prog) w 22 50 (some a) n cap 0 0 Try.underlying22
    clear hnews hl h1 hZ
    go_enter Try.func56, Try.ntmps56
    go_wp2_with fail
    go_ret
    exact .inr ⟨rfl, rfl⟩

theorem sizeOb : (Try.prog.info? 68).map (·.size) = some 3 := by kernel_rfl
set_option maxRecDepth 100000 in
set_option maxHeartbeats 1000000 in
theorem freshOb (w : World) (ao : Option Addr) (n cap : Nat) (news : List Value) (hl : news.length = n * 3) (hnews : ∀ j u, news[j]? = some u → ∃ a, ao = some a ∧ w.cell? (a.add j) = some u) (h1 : ∀ u ∈ news, u.oneCell' = true) (hb : n ≤ 100) :
    Calls Try.prog 58 #[.slice ao n cap] w fun e w' => FreshIs 68 w w' e n news := by
  cases ao with
  | none =>
    have hn0 := none_news hl (by decide) hnews
    subst hn0
    have heq := Lib.run_eql_slice_nil (P := Try.prog) w 23 68 none 0 cap 0 0 Try.underlying23
    clear hnews hl h1
    go_enter Try.func58, Try.ntmps58
    go_wp2_with fail
    go_ret
    exact .inl ⟨rfl, rfl, rfl⟩
  | some a =>
    obtain ⟨Z, hZ, hmk⟩ := run_make_some 23 68 _ 3 24 Try.underlying23 infoOb n (by omega) (by omega) w
    have hcp := run_copy_all w 23 3 68 3 n Try.underlying23 sizeOb Z hZ (some a) cap news hl hnews h1
    have heq := Lib.run_eql_slice_nil (P := Try.prog) w 23 68 (some a) n cap 0 0 Try.underlying23
    clear hnews hl h1 hZ
    go_enter Try.func58, Try.ntmps58
    go_wp2_with fail
    go_ret
    exact .inr ⟨rfl, rfl⟩

theorem sizeWin : (Try.prog.info? 55).map (·.size) = some 2 := by kernel_rfl
set_option maxRecDepth 100000 in
set_option maxHeartbeats 1000000 in
theorem freshWin (w : World) (ao : Option Addr) (n cap : Nat) (news : List Value) (hl : news.length = n * 2) (hnews : ∀ j u, news[j]? = some u → ∃ a, ao = some a ∧ w.cell? (a.add j) = some u) (h1 : ∀ u ∈ news, u.oneCell' = true) (hb : n ≤ 100) :
    Calls Try.prog 42 #[.slice ao n cap] w fun e w' => FreshIs 55 w w' e n news := by
  cases ao with
  | none =>
    have hn0 := none_news hl (by decide) hnews
    subst hn0
    have heq := Lib.run_eql_slice_nil (P := Try.prog) w 56 55 none 0 cap 0 0 Try.underlying56
    clear hnews hl h1
    go_enter Try.func42, Try.ntmps42
    go_wp2_with fail
    go_ret
    exact .inl ⟨rfl, rfl, rfl⟩
  | some a =>
    obtain ⟨Z, hZ, hmk⟩ := run_make_some 56 55 _ 2 16 Try.underlying56 infoWin n (by omega) (by omega) w
    have hcp := run_copy_all w 56 3 55 2 n Try.underlying56 sizeWin Z hZ (some a) cap news hl hnews h1
    have heq := Lib.run_eql_slice_nil (P := Try.prog) w 56 55 (some a) n cap 0 0 Try.underlying56
    clear hnews hl h1 hZ
    go_enter Try.func42, Try.ntmps42
    go_wp2_with fail
    go_ret
    exact .inr ⟨rfl, rfl⟩

theorem sizeChn : (Try.prog.info? 108).map (·.size) = some 4 := by kernel_rfl
set_option maxRecDepth 100000 in
set_option maxHeartbeats 1000000 in
theorem freshChn (w : World) (ao : Option Addr) (n cap : Nat) (news : List Value) (hl : news.length = n * 4) (hnews : ∀ j u, news[j]? = some u → ∃ a, ao = some a ∧ w.cell? (a.add j) = some u) (h1 : ∀ u ∈ news, u.oneCell' = true) (hb : n ≤ 100) :
    Calls Try.prog 43 #[.slice ao n cap] w fun e w' => FreshIs 108 w w' e n news := by
  cases ao with
  | none =>
    have hn0 := none_news hl (by decide) hnews
    subst hn0
    have heq := Lib.run_eql_slice_nil (P := Try.prog) w 57 108 none 0 cap 0 0 Try.underlying57
    clear hnews hl h1
    go_enter Try.func43, Try.ntmps43
    go_wp2_with fail
    go_ret
    exact .inl ⟨rfl, rfl, rfl⟩
  | some a =>
    obtain ⟨Z, hZ, hmk⟩ := run_make_some 57 108 _ 4 32 Try.underlying57 infoChn n (by omega) (by omega) w
    have hcp := run_copy_all w 57 3 108 4 n Try.underlying57 sizeChn Z hZ (some a) cap news hl hnews h1
    have heq := Lib.run_eql_slice_nil (P := Try.prog) w 57 108 (some a) n cap 0 0 Try.underlying57
    clear hnews hl h1 hZ
    go_enter Try.func43, Try.ntmps43
    go_wp2_with fail
    go_ret
    exact .inr ⟨rfl, rfl⟩

theorem sizePt : (Try.prog.info? 25).map (·.size) = some 2 := by kernel_rfl
set_option maxRecDepth 100000 in
set_option maxHeartbeats 1000000 in
theorem freshPt (w : World) (ao : Option Addr) (n cap : Nat) (news : List Value) (hl : news.length = n * 2) (hnews : ∀ j u, news[j]? = some u → ∃ a, ao = some a ∧ w.cell? (a.add j) = some u) (h1 : ∀ u ∈ news, u.oneCell' = true) (hb : n ≤ 100) :
    Calls Try.prog 40 #[.slice ao n cap] w fun e w' => FreshIs 25 w w' e n news := by
  cases ao with
  | none =>
    have hn0 := none_news hl (by decide) hnews
    subst hn0
    have heq := Lib.run_eql_slice_nil (P := Try.prog) w 53 25 none 0 cap 0 0 Try.underlying53
    clear hnews hl h1
    go_enter Try.func40, Try.ntmps40
    go_wp2_with fail
    go_ret
    exact .inl ⟨rfl, rfl, rfl⟩
  | some a =>
    obtain ⟨Z, hZ, hmk⟩ := run_make_some 53 25 _ 2 48 Try.underlying53 infoPt n (by omega) (by omega) w
    have hcp := run_copy_all w 53 3 25 2 n Try.underlying53 sizePt Z hZ (some a) cap news hl hnews h1
    have heq := Lib.run_eql_slice_nil (P := Try.prog) w 53 25 (some a) n cap 0 0 Try.underlying53
    clear hnews hl h1 hZ
    go_enter Try.func40, Try.ntmps40
    go_wp2_with fail
    go_ret
    exact .inr ⟨rfl, rfl⟩
end Go.Proofs.Ytapmakdklpbjkaa

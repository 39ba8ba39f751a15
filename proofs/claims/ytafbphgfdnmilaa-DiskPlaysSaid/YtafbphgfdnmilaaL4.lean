/- The walk of DiskPlays, but for the main way. No condition. -/
import Derived.Test.YtafbphgfdnmilaaS2
import Derived.Test.YtafbphgfdnmilaaL3
namespace Go.Proofs.Ytafbphgfdnmilaa
open Go.RowKit Go.Own

set_option maxRecDepth 100000 in
theorem plays_few (A : List Ac) (va : Value) (n : Int) (w : World) (hA : Acts w va A) (hno : ¬ FewOk A) :
    Calls Try.prog 3 #[.int .i64 n, va] w fun e w' => e = .returned (.bool true) ∧ Grows w w' := by
  refine calls_wd ?_
  go_enter Try.func3, Try.ntmps3
  go_wp2_with fail
  refine (awake_any _).mono ?_
  rintro e w' ⟨rfl, g, d, rfl⟩
  rw [Wd_wd]
  go_wp2_with fail
  refine (few_no A va w _ _ hA hno).mono ?_
  rintro e w' ⟨rfl, rfl⟩
  go_wp2
  go_ret
  exact ⟨rfl, Grows.of _ _ _⟩
set_option maxRecDepth 100000 in
theorem plays_wide (A : List Ac) (va : Value) (n : Int) (w : World) (hA : Acts w va A) (hyes : FewOk A) (h1 : 60 < n) (h2 : n ≤ 4096) :
    Calls Try.prog 3 #[.int .i64 n, va] w fun e w' => e = .returned (.bool true) ∧ Grows w w' := by
  refine calls_wd ?_
  go_enter Try.func3, Try.ntmps3
  go_wp2_with fail
  refine (awake_any _).mono ?_
  rintro e w' ⟨rfl, g, d, rfl⟩
  rw [Wd_wd]
  go_wp2_with fail
  refine (few_yes A va w _ _ hA hyes.1 hyes.2).mono ?_
  rintro e w' ⟨rfl, rfl⟩
  go_wp2
  go_ret
  exact ⟨rfl, Grows.of _ _ _⟩
set_option maxRecDepth 100000 in
theorem plays_low (A : List Ac) (va : Value) (n : Int) (w : World) (hA : Acts w va A) (hyes : FewOk A) (h1 : n < 1) :
    Calls Try.prog 3 #[.int .i64 n, va] w fun e w' => e = .returned (.bool true) ∧ Grows w w' := by
  have h2 : ¬ 60 < n := by omega
  refine calls_wd ?_
  go_enter Try.func3, Try.ntmps3
  go_wp2_with fail
  refine (awake_any _).mono ?_
  rintro e w' ⟨rfl, g, d, rfl⟩
  rw [Wd_wd]
  go_wp2_with fail
  refine (few_yes A va w _ _ hA hyes.1 hyes.2).mono ?_
  rintro e w' ⟨rfl, rfl⟩
  go_wp2_with fail
  refine (new_bad _ n (.inl h1)).mono ?_
  rintro e w' ⟨rfl, rfl⟩
  go_wp2
  go_ret
  exact ⟨rfl, Grows.of _ _ _⟩
set_option maxRecDepth 100000 in
theorem plays_high (A : List Ac) (va : Value) (n : Int) (w : World) (hA : Acts w va A) (hyes : FewOk A) (h1 : 4096 < n) :
    Calls Try.prog 3 #[.int .i64 n, va] w fun e w' => e = .returned (.bool true) ∧ Grows w w' := by
  have h2 : 60 < n := by omega
  have h3 : ¬ n ≤ 4096 := by omega
  have h4 : ¬ n < 1 := by omega
  refine calls_wd ?_
  go_enter Try.func3, Try.ntmps3
  go_wp2_with fail
  refine (awake_any _).mono ?_
  rintro e w' ⟨rfl, g, d, rfl⟩
  rw [Wd_wd]
  go_wp2_with fail
  refine (few_yes A va w _ _ hA hyes.1 hyes.2).mono ?_
  rintro e w' ⟨rfl, rfl⟩
  go_wp2_with fail
  refine (new_bad _ n (.inr h1)).mono ?_
  rintro e w' ⟨rfl, rfl⟩
  go_wp2
  go_ret
  exact ⟨rfl, Grows.of _ _ _⟩
end Go.Proofs.Ytafbphgfdnmilaa

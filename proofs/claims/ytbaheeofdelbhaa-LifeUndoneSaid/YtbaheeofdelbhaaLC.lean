/- Life's functions by contract: what is behind an event. No condition but what each names. -/
import Derived.Test.YtbaheeofdelbhaaLB
namespace Go.Proofs.Ytbaheeofdelbhaa
open Go Go.RowKit
set_option maxRecDepth 100000 in
theorem be_21 (n now d e v : Int) (w : World) :
    Calls Try.prog 13 #[ev 2 n, lv 1 d e v, .int .i64 now] w (Ret (lv 2 d e v) w) := by
  unfold ev lv
  go_enter Try.func13, Try.ntmps13
  go_wp2
  go_returns
  exact ⟨rfl, by go_grown⟩
set_option maxRecDepth 100000 in
theorem be_12 (n now d e v : Int) (w : World) :
    Calls Try.prog 13 #[ev 1 n, lv 2 d e v, .int .i64 now] w (Ret (lv 1 d e v) w) := by
  unfold ev lv
  go_enter Try.func13, Try.ntmps13
  go_wp2
  go_returns
  exact ⟨rfl, by go_grown⟩
set_option maxRecDepth 100000 in
theorem be_71 (n now d e v : Int) (w : World) :
    Calls Try.prog 13 #[ev 7 n, lv 1 d e v, .int .i64 now] w (Ret (lv 1 d e v) w) := by
  unfold ev lv
  go_enter Try.func13, Try.ntmps13
  go_wp2
  go_returns
  exact ⟨rfl, by go_grown⟩
set_option maxRecDepth 100000 in
theorem be_31 (n now d e v : Int) (h1 : 1 ≤ n) (h2 : n ≤ 1000) (h3 : 0 ≤ now) (h4 : now + n ≤ 1099511627776) (w : World) :
    Calls Try.prog 13 #[ev 3 n, lv 1 d e v, .int .i64 now] w (Ret (lv 3 (now + n) e v) w) := by
  have hw : wrap64 (now + n) = now + n := IntWalk.wrap64_in _ (by omega)
  unfold ev lv
  go_enter Try.func13, Try.ntmps13
  go_wp2_with fail
  go_region
  all_goals (go_wp2; go_returns; exact ⟨rfl, by go_grown⟩)
set_option maxRecDepth 100000 in
theorem be_43 (n now d e v : Int) (w : World) :
    Calls Try.prog 13 #[ev 4 n, lv 3 d e v, .int .i64 now] w (Ret (lv 2 0 e v) w) := by
  unfold ev lv
  go_enter Try.func13, Try.ntmps13
  go_wp2
  go_returns
  exact ⟨rfl, by go_grown⟩
set_option maxRecDepth 100000 in
theorem be_61 (n now d e v : Int) (w : World) :
    Calls Try.prog 13 #[ev 6 n, lv 1 d e v, .int .i64 now] w (Ret (lv 1 d n v) w) := by
  unfold ev lv
  go_enter Try.func13, Try.ntmps13
  go_wp2
  go_returns
  exact ⟨rfl, by go_grown⟩
set_option maxRecDepth 100000 in
theorem be_73n (n now d e v : Int) (h1 : now < d) (w : World) :
    Calls Try.prog 13 #[ev 7 n, lv 3 d e v, .int .i64 now] w (Ret (lv 3 d e v) w) := by
  have h2 : decide (d ≤ now) = false := by simp; omega
  unfold ev lv
  go_enter Try.func13, Try.ntmps13
  go_wp2
  go_returns
  exact ⟨rfl, by go_grown⟩
set_option maxRecDepth 100000 in
theorem be_73y (n now d e v : Int) (h1 : d ≤ now) (w : World) :
    Calls Try.prog 13 #[ev 7 n, lv 3 d e v, .int .i64 now] w (Ret (lv 4 0 e v) w) := by
  unfold ev lv
  go_enter Try.func13, Try.ntmps13
  go_wp2
  go_returns
  exact ⟨rfl, by go_grown⟩
end Go.Proofs.Ytbaheeofdelbhaa

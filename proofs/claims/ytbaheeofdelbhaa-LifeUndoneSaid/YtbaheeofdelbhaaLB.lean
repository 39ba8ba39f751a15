/- Life's functions by contract: an event's. No condition but what each names. -/
import Derived.Test.YtbaheeofdelbhaaLA
namespace Go.Proofs.Ytbaheeofdelbhaa
open Go Go.RowKit
theorem below_new (W : World) (o : Obj) : Below W.heap.size W (W.alloc o) := (Below.refl _ _).alloc (Nat.le_refl _) o
theorem cell_new (w : World) (c : Array Value) (t : TypeId) (j : Nat) : (w.alloc (.cells c t)).cell? ⟨w.heap.size, j, none⟩ = c[j]? := by
  have h := heap_alloc_new w (.cells c t)
  simp only [World.cell?, h, Option.isSome_none, Bool.false_eq_true, if_false]
/-- Two blocks of the call's own. -/
structure Has2 (w : World) (A B : Array Value) (W : World) : Prop where
  a : ∀ (j : Nat) (v : Value), A[j]? = some v → W.cell? ⟨w.heap.size, j, none⟩ = some v
  b : ∀ (j : Nat) (v : Value), B[j]? = some v → W.cell? ⟨w.heap.size + 1, j, none⟩ = some v
  be : Below w.heap.size w W
  sz : w.heap.size + 2 ≤ W.heap.size
theorem Has2.new (w : World) (A B : Array Value) (s t : TypeId) : Has2 w A B ((w.alloc (.cells A s)).alloc (.cells B t)) := by
  have h1 := below_new w (.cells A s)
  have h2 := below_new (w.alloc (.cells A s)) (.cells B t)
  have z1 : (w.alloc (.cells A s)).heap.size = w.heap.size + 1 := by simp
  refine ⟨fun j v h => ?_, fun j v h => ?_, h1.trans (h2.mono h1.size), by simp⟩
  · rw [h2.cell (p := ⟨w.heap.size, j, none⟩) (by rw [z1]; exact Nat.lt_succ_self _), cell_new]; exact h
  · rw [← z1, cell_new]; exact h
theorem Has2.below {w W W' : World} {A B : Array Value} (h : Has2 w A B W) (hb : Below W.heap.size W W') : Has2 w A B W' :=
  ⟨fun j v e => (hb.cell (p := ⟨w.heap.size, j, none⟩) (by have := h.sz; show w.heap.size < _; omega)).trans (h.a j v e), fun j v e => (hb.cell (p := ⟨w.heap.size + 1, j, none⟩) (by have := h.sz; show w.heap.size + 1 < _; omega)).trans (h.b j v e), h.be.trans (hb.mono h.be.size), Nat.le_trans h.sz hb.size⟩
set_option maxRecDepth 100000 in
theorem rf_21 (n now d e v : Int) (w : World) :
    Calls Try.prog 12 #[ev 2 n, lv 1 d e v, .int .i64 now] w (Ret (.int .i64 0) w) := by
  have H2 := Lib.hid (Has2.new w #[.int .i64 2, .int .i64 n] #[.int .i64 1, .int .i64 d, .int .i64 e, .int .i64 v] 27 23)
  have HI := Lib.hid (fun W => in_2 n now W)
  have HC := Lib.hid (fun W => co_21 n W)
  unfold ev at *
  unfold lv
  go_enter Try.func12, Try.ntmps12
  go_wp2_with fail
  refine (HI.out _).mono ?_
  rintro e1 w1 ⟨rfl, hb1⟩
  replace H2 := Lib.hid (H2.out.below hb1)
  clear hb1
  have a0 := H2.out.a 0 _ rfl
  have a1 := H2.out.a 1 _ rfl
  have b0 := H2.out.b 0 _ rfl
  have b1 := H2.out.b 1 _ rfl
  have b2 := H2.out.b 2 _ rfl
  have b3 := H2.out.b 3 _ rfl
  go_wp2_with fail
  refine (HC.out _).mono ?_
  clear a0 a1 b0 b1 b2 b3
  rintro e1 w2 ⟨rfl, hb1⟩
  replace H2 := Lib.hid (H2.out.below hb1)
  clear hb1
  have a0 := H2.out.a 0 _ rfl
  have a1 := H2.out.a 1 _ rfl
  have b0 := H2.out.b 0 _ rfl
  have b1 := H2.out.b 1 _ rfl
  have b2 := H2.out.b 2 _ rfl
  have b3 := H2.out.b 3 _ rfl
  go_wp2_with fail
  go_ret
  exact ⟨rfl, H2.out.be⟩
set_option maxRecDepth 100000 in
theorem rf_12 (n now d e v : Int) (w : World) :
    Calls Try.prog 12 #[ev 1 n, lv 2 d e v, .int .i64 now] w (Ret (.int .i64 0) w) := by
  have H2 := Lib.hid (Has2.new w #[.int .i64 1, .int .i64 n] #[.int .i64 2, .int .i64 d, .int .i64 e, .int .i64 v] 27 23)
  have HI := Lib.hid (fun W => in_1 n now W)
  have HC := Lib.hid (fun W => co_12 n W)
  unfold ev at *
  unfold lv
  go_enter Try.func12, Try.ntmps12
  go_wp2_with fail
  refine (HI.out _).mono ?_
  rintro e1 w1 ⟨rfl, hb1⟩
  replace H2 := Lib.hid (H2.out.below hb1)
  clear hb1
  have a0 := H2.out.a 0 _ rfl
  have a1 := H2.out.a 1 _ rfl
  have b0 := H2.out.b 0 _ rfl
  have b1 := H2.out.b 1 _ rfl
  have b2 := H2.out.b 2 _ rfl
  have b3 := H2.out.b 3 _ rfl
  go_wp2_with fail
  refine (HC.out _).mono ?_
  clear a0 a1 b0 b1 b2 b3
  rintro e1 w2 ⟨rfl, hb1⟩
  replace H2 := Lib.hid (H2.out.below hb1)
  clear hb1
  have a0 := H2.out.a 0 _ rfl
  have a1 := H2.out.a 1 _ rfl
  have b0 := H2.out.b 0 _ rfl
  have b1 := H2.out.b 1 _ rfl
  have b2 := H2.out.b 2 _ rfl
  have b3 := H2.out.b 3 _ rfl
  go_wp2_with fail
  go_ret
  exact ⟨rfl, H2.out.be⟩
set_option maxRecDepth 100000 in
theorem rf_71 (n now d e v : Int) (w : World) :
    Calls Try.prog 12 #[ev 7 n, lv 1 d e v, .int .i64 now] w (Ret (.int .i64 0) w) := by
  have H2 := Lib.hid (Has2.new w #[.int .i64 7, .int .i64 n] #[.int .i64 1, .int .i64 d, .int .i64 e, .int .i64 v] 27 23)
  have HI := Lib.hid (fun W => in_7 n now W)
  have HC := Lib.hid (fun W => co_71 n W)
  unfold ev at *
  unfold lv
  go_enter Try.func12, Try.ntmps12
  go_wp2_with fail
  refine (HI.out _).mono ?_
  rintro e1 w1 ⟨rfl, hb1⟩
  replace H2 := Lib.hid (H2.out.below hb1)
  clear hb1
  have a0 := H2.out.a 0 _ rfl
  have a1 := H2.out.a 1 _ rfl
  have b0 := H2.out.b 0 _ rfl
  have b1 := H2.out.b 1 _ rfl
  have b2 := H2.out.b 2 _ rfl
  have b3 := H2.out.b 3 _ rfl
  go_wp2_with fail
  refine (HC.out _).mono ?_
  clear a0 a1 b0 b1 b2 b3
  rintro e1 w2 ⟨rfl, hb1⟩
  replace H2 := Lib.hid (H2.out.below hb1)
  clear hb1
  have a0 := H2.out.a 0 _ rfl
  have a1 := H2.out.a 1 _ rfl
  have b0 := H2.out.b 0 _ rfl
  have b1 := H2.out.b 1 _ rfl
  have b2 := H2.out.b 2 _ rfl
  have b3 := H2.out.b 3 _ rfl
  go_wp2_with fail
  go_ret
  exact ⟨rfl, H2.out.be⟩
set_option maxRecDepth 100000 in
theorem rf_31 (n now d e v : Int) (h1 : 1 ≤ n) (h2 : n ≤ 1000) (h3 : 0 ≤ now) (h4 : now + n ≤ 1099511627776) (w : World) :
    Calls Try.prog 12 #[ev 3 n, lv 1 d e v, .int .i64 now] w (Ret (.int .i64 0) w) := by
  have H2 := Lib.hid (Has2.new w #[.int .i64 3, .int .i64 n] #[.int .i64 1, .int .i64 d, .int .i64 e, .int .i64 v] 27 23)
  have HI := Lib.hid (fun W => in_3 n now h1 h2 h3 h4 W)
  have HC := Lib.hid (fun W => co_31 n W)
  unfold ev at *
  unfold lv
  go_enter Try.func12, Try.ntmps12
  go_wp2_with fail
  refine (HI.out _).mono ?_
  rintro e1 w1 ⟨rfl, hb1⟩
  replace H2 := Lib.hid (H2.out.below hb1)
  clear hb1
  have a0 := H2.out.a 0 _ rfl
  have a1 := H2.out.a 1 _ rfl
  have b0 := H2.out.b 0 _ rfl
  have b1 := H2.out.b 1 _ rfl
  have b2 := H2.out.b 2 _ rfl
  have b3 := H2.out.b 3 _ rfl
  go_wp2_with fail
  refine (HC.out _).mono ?_
  clear a0 a1 b0 b1 b2 b3
  rintro e1 w2 ⟨rfl, hb1⟩
  replace H2 := Lib.hid (H2.out.below hb1)
  clear hb1
  have a0 := H2.out.a 0 _ rfl
  have a1 := H2.out.a 1 _ rfl
  have b0 := H2.out.b 0 _ rfl
  have b1 := H2.out.b 1 _ rfl
  have b2 := H2.out.b 2 _ rfl
  have b3 := H2.out.b 3 _ rfl
  go_wp2_with fail
  go_ret
  exact ⟨rfl, H2.out.be⟩
set_option maxRecDepth 100000 in
theorem rf_43 (n now d e v : Int) (w : World) :
    Calls Try.prog 12 #[ev 4 n, lv 3 d e v, .int .i64 now] w (Ret (.int .i64 0) w) := by
  have H2 := Lib.hid (Has2.new w #[.int .i64 4, .int .i64 n] #[.int .i64 3, .int .i64 d, .int .i64 e, .int .i64 v] 27 23)
  have HI := Lib.hid (fun W => in_4 n now W)
  have HC := Lib.hid (fun W => co_43 n W)
  unfold ev at *
  unfold lv
  go_enter Try.func12, Try.ntmps12
  go_wp2_with fail
  refine (HI.out _).mono ?_
  rintro e1 w1 ⟨rfl, hb1⟩
  replace H2 := Lib.hid (H2.out.below hb1)
  clear hb1
  have a0 := H2.out.a 0 _ rfl
  have a1 := H2.out.a 1 _ rfl
  have b0 := H2.out.b 0 _ rfl
  have b1 := H2.out.b 1 _ rfl
  have b2 := H2.out.b 2 _ rfl
  have b3 := H2.out.b 3 _ rfl
  go_wp2_with fail
  refine (HC.out _).mono ?_
  clear a0 a1 b0 b1 b2 b3
  rintro e1 w2 ⟨rfl, hb1⟩
  replace H2 := Lib.hid (H2.out.below hb1)
  clear hb1
  have a0 := H2.out.a 0 _ rfl
  have a1 := H2.out.a 1 _ rfl
  have b0 := H2.out.b 0 _ rfl
  have b1 := H2.out.b 1 _ rfl
  have b2 := H2.out.b 2 _ rfl
  have b3 := H2.out.b 3 _ rfl
  go_wp2_with fail
  go_ret
  exact ⟨rfl, H2.out.be⟩
set_option maxRecDepth 100000 in
theorem rf_61 (n now d e v : Int) (h1 : 0 ≤ n) (h2 : n ≤ 1099511627776) (w : World) :
    Calls Try.prog 12 #[ev 6 n, lv 1 d e v, .int .i64 now] w (Ret (.int .i64 0) w) := by
  have H2 := Lib.hid (Has2.new w #[.int .i64 6, .int .i64 n] #[.int .i64 1, .int .i64 d, .int .i64 e, .int .i64 v] 27 23)
  have HI := Lib.hid (fun W => in_6 n now h1 h2 W)
  have HC := Lib.hid (fun W => co_61 n W)
  unfold ev at *
  unfold lv
  go_enter Try.func12, Try.ntmps12
  go_wp2_with fail
  refine (HI.out _).mono ?_
  rintro e1 w1 ⟨rfl, hb1⟩
  replace H2 := Lib.hid (H2.out.below hb1)
  clear hb1
  have a0 := H2.out.a 0 _ rfl
  have a1 := H2.out.a 1 _ rfl
  have b0 := H2.out.b 0 _ rfl
  have b1 := H2.out.b 1 _ rfl
  have b2 := H2.out.b 2 _ rfl
  have b3 := H2.out.b 3 _ rfl
  go_wp2_with fail
  refine (HC.out _).mono ?_
  clear a0 a1 b0 b1 b2 b3
  rintro e1 w2 ⟨rfl, hb1⟩
  replace H2 := Lib.hid (H2.out.below hb1)
  clear hb1
  have a0 := H2.out.a 0 _ rfl
  have a1 := H2.out.a 1 _ rfl
  have b0 := H2.out.b 0 _ rfl
  have b1 := H2.out.b 1 _ rfl
  have b2 := H2.out.b 2 _ rfl
  have b3 := H2.out.b 3 _ rfl
  go_wp2_with fail
  go_ret
  exact ⟨rfl, H2.out.be⟩
set_option maxRecDepth 100000 in
theorem rf_73 (n now d e v : Int) (w : World) :
    Calls Try.prog 12 #[ev 7 n, lv 3 d e v, .int .i64 now] w (Ret (.int .i64 0) w) := by
  have H2 := Lib.hid (Has2.new w #[.int .i64 7, .int .i64 n] #[.int .i64 3, .int .i64 d, .int .i64 e, .int .i64 v] 27 23)
  have HI := Lib.hid (fun W => in_7 n now W)
  have HC := Lib.hid (fun W => co_73 n W)
  unfold ev at *
  unfold lv
  go_enter Try.func12, Try.ntmps12
  go_wp2_with fail
  refine (HI.out _).mono ?_
  rintro e1 w1 ⟨rfl, hb1⟩
  replace H2 := Lib.hid (H2.out.below hb1)
  clear hb1
  have a0 := H2.out.a 0 _ rfl
  have a1 := H2.out.a 1 _ rfl
  have b0 := H2.out.b 0 _ rfl
  have b1 := H2.out.b 1 _ rfl
  have b2 := H2.out.b 2 _ rfl
  have b3 := H2.out.b 3 _ rfl
  go_wp2_with fail
  refine (HC.out _).mono ?_
  clear a0 a1 b0 b1 b2 b3
  rintro e1 w2 ⟨rfl, hb1⟩
  replace H2 := Lib.hid (H2.out.below hb1)
  clear hb1
  have a0 := H2.out.a 0 _ rfl
  have a1 := H2.out.a 1 _ rfl
  have b0 := H2.out.b 0 _ rfl
  have b1 := H2.out.b 1 _ rfl
  have b2 := H2.out.b 2 _ rfl
  have b3 := H2.out.b 3 _ rfl
  go_wp2_with fail
  go_ret
  exact ⟨rfl, H2.out.be⟩
set_option maxRecDepth 100000 in
theorem rf_14 (n now d e v : Int) (w : World) :
    Calls Try.prog 12 #[ev 1 n, lv 4 d e v, .int .i64 now] w (Ret (.int .i64 4) w) := by
  have H2 := Lib.hid (Has2.new w #[.int .i64 1, .int .i64 n] #[.int .i64 4, .int .i64 d, .int .i64 e, .int .i64 v] 27 23)
  have HI := Lib.hid (fun W => in_1 n now W)
  have HC := Lib.hid (fun W => co_14 n W)
  unfold ev at *
  unfold lv
  go_enter Try.func12, Try.ntmps12
  go_wp2_with fail
  refine (HI.out _).mono ?_
  rintro e1 w1 ⟨rfl, hb1⟩
  replace H2 := Lib.hid (H2.out.below hb1)
  clear hb1
  have a0 := H2.out.a 0 _ rfl
  have a1 := H2.out.a 1 _ rfl
  have b0 := H2.out.b 0 _ rfl
  have b1 := H2.out.b 1 _ rfl
  have b2 := H2.out.b 2 _ rfl
  have b3 := H2.out.b 3 _ rfl
  go_wp2_with fail
  refine (HC.out _).mono ?_
  clear a0 a1 b0 b1 b2 b3
  rintro e1 w2 ⟨rfl, hb1⟩
  replace H2 := Lib.hid (H2.out.below hb1)
  clear hb1
  have a0 := H2.out.a 0 _ rfl
  have a1 := H2.out.a 1 _ rfl
  have b0 := H2.out.b 0 _ rfl
  have b1 := H2.out.b 1 _ rfl
  have b2 := H2.out.b 2 _ rfl
  have b3 := H2.out.b 3 _ rfl
  go_wp2_with fail
  go_ret
  exact ⟨rfl, H2.out.be⟩
set_option maxRecDepth 100000 in
theorem rf_01 (n now d e v : Int) (w : World) :
    Calls Try.prog 12 #[ev 0 n, lv 1 d e v, .int .i64 now] w (Ret (.int .i64 15) w) := by
  have H2 := Lib.hid (Has2.new w #[.int .i64 0, .int .i64 n] #[.int .i64 1, .int .i64 d, .int .i64 e, .int .i64 v] 27 23)
  unfold ev at *
  unfold lv
  go_enter Try.func12, Try.ntmps12
  go_wp2_with fail
  go_ret
  exact ⟨rfl, H2.out.be⟩
end Go.Proofs.Ytbaheeofdelbhaa

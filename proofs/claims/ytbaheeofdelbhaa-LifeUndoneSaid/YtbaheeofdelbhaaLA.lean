/- Life's functions by contract. No condition but what each names. -/
import Derived.Test.YtbaheeofdelbhaaProg
import Derived.WalkKit
import Derived.WalkSpells
import Derived.Carry
import Derived.Lib.Hide
import Derived.Outline
import Derived.Handy
namespace Go.Proofs.Ytbaheeofdelbhaa
open Go Go.RowKit
def timeB (t : Int) : Bool := decide (0 ≤ t) && decide (t ≤ 1099511627776)
def lv (s d e v : Int) : Value := .agg #[.int .i64 s, .int .i64 d, .int .i64 e, .int .i64 v]
def ev (k n : Int) : Value := .agg #[.int .i64 k, .int .i64 n]
def rightB (s d e v : Int) : Bool := (((((decide (1 ≤ s) && decide (s ≤ 4)) && timeB d) && (decide (s = 3) || decide (d = 0))) && timeB e) && decide (1 ≤ v)) && decide (v ≤ 8)
theorem time_ok {t : Int} (h : 0 ≤ t) (h2 : t ≤ 1099511627776) : timeB t = true := by simp [timeB, h, h2]
set_option maxRecDepth 100000 in
theorem time_any (t : Int) (w : World) : Calls Try.prog 11 #[.int .i64 t] w fun e w' => e = .returned (.bool (timeB t)) ∧ w' = w := by
  by_cases h1 : (0 : Int) ≤ t
  · by_cases h2 : t ≤ 1099511627776
    · rw [time_ok h1 h2]
      go_enter Try.func11, Try.ntmps11
      go_wp2
      go_ret
      exact ⟨rfl, rfl⟩
    · rw [show timeB t = false by simp [timeB]; omega]
      go_enter Try.func11, Try.ntmps11
      go_wp2
      go_ret
      simp
  · rw [show timeB t = false by simp [timeB]; omega]
    go_enter Try.func11, Try.ntmps11
    go_wp2
    go_ret
    exact ⟨rfl, rfl⟩
/-- What a call that makes memory at most answers. -/
abbrev Ret (v : Value) (w : World) (e : Ending) (w' : World) : Prop := e = .returned v ∧ Below w.heap.size w w'
set_option maxRecDepth 100000 in
theorem right_any (s d e v : Int) (w : World) : Calls Try.prog 5 #[lv s d e v] w (Ret (.bool (rightB s d e v)) w) := by
  have HT := Lib.hid (fun t W => time_any t W)
  have HB := Lib.hid ((Below.refl w.heap.size w).alloc (Nat.le_refl _) (.cells #[.int .i64 s, .int .i64 d, .int .i64 e, .int .i64 v] 23))
  unfold lv
  unfold rightB
  obtain ⟨a1, h1⟩ : ∃ b, decide ((1 : Int) ≤ s) = b := ⟨_, rfl⟩
  obtain ⟨a2, h2⟩ : ∃ b, decide (s ≤ 4) = b := ⟨_, rfl⟩
  obtain ⟨a3, h3⟩ : ∃ b, timeB d = b := ⟨_, rfl⟩
  obtain ⟨a4, h4⟩ : ∃ b, decide (s = 3) = b := ⟨_, rfl⟩
  obtain ⟨a5, h5⟩ : ∃ b, decide (d = 0) = b := ⟨_, rfl⟩
  obtain ⟨a6, h6⟩ : ∃ b, timeB e = b := ⟨_, rfl⟩
  obtain ⟨a7, h7⟩ : ∃ b, decide ((1 : Int) ≤ v) = b := ⟨_, rfl⟩
  obtain ⟨a8, h8⟩ : ∃ b, decide (v ≤ 8) = b := ⟨_, rfl⟩
  have e4 : (s == 3) = a4 := by rw [← h4]; rfl
  have e5 : (d == 0) = a5 := by rw [← h5]; rfl
  have HD := HT.out d
  have HE := HT.out e
  rw [h3] at HD
  rw [h6] at HE
  have HD := Lib.hid HD
  have HE := Lib.hid HE
  rw [h1, h2, h3, h4, h5, h6, h7, h8]
  cases a1
  · go_enter Try.func5, Try.ntmps5
    go_wp2_with fail
    go_ret
    exact ⟨rfl, HB.out⟩
  · skip
    cases a2
    · go_enter Try.func5, Try.ntmps5
      go_wp2_with fail
      go_ret
      exact ⟨rfl, HB.out⟩
    · skip
      cases a3
      · go_enter Try.func5, Try.ntmps5
        go_wp2_with fail
        refine (HD.out _).mono ?_
        rintro e w1 ⟨rfl, rfl⟩
        go_wp2_with fail
        go_ret
        exact ⟨rfl, HB.out⟩
      · skip
        cases a4
        · cases a5
          · go_enter Try.func5, Try.ntmps5
            go_wp2_with fail
            refine (HD.out _).mono ?_
            rintro e w1 ⟨rfl, rfl⟩
            go_wp2_with fail
            go_ret
            exact ⟨rfl, HB.out⟩
          · skip
            cases a6
            · go_enter Try.func5, Try.ntmps5
              go_wp2_with fail
              refine (HD.out _).mono ?_
              rintro e w1 ⟨rfl, rfl⟩
              go_wp2_with fail
              refine (HE.out _).mono ?_
              rintro e w1 ⟨rfl, rfl⟩
              go_wp2_with fail
              go_ret
              exact ⟨rfl, HB.out⟩
            · skip
              cases a7
              · go_enter Try.func5, Try.ntmps5
                go_wp2_with fail
                refine (HD.out _).mono ?_
                rintro e w1 ⟨rfl, rfl⟩
                go_wp2_with fail
                refine (HE.out _).mono ?_
                rintro e w1 ⟨rfl, rfl⟩
                go_wp2_with fail
                go_ret
                exact ⟨rfl, HB.out⟩
              · skip
                cases a8
                · go_enter Try.func5, Try.ntmps5
                  go_wp2_with fail
                  refine (HD.out _).mono ?_
                  rintro e w1 ⟨rfl, rfl⟩
                  go_wp2_with fail
                  refine (HE.out _).mono ?_
                  rintro e w1 ⟨rfl, rfl⟩
                  go_wp2_with fail
                  go_ret
                  exact ⟨rfl, HB.out⟩
                · skip
                  go_enter Try.func5, Try.ntmps5
                  go_wp2_with fail
                  refine (HD.out _).mono ?_
                  rintro e w1 ⟨rfl, rfl⟩
                  go_wp2_with fail
                  refine (HE.out _).mono ?_
                  rintro e w1 ⟨rfl, rfl⟩
                  go_wp2_with fail
                  go_ret
                  exact ⟨rfl, HB.out⟩
        · skip
          cases a6
          · go_enter Try.func5, Try.ntmps5
            go_wp2_with fail
            refine (HD.out _).mono ?_
            rintro e w1 ⟨rfl, rfl⟩
            go_wp2_with fail
            refine (HE.out _).mono ?_
            rintro e w1 ⟨rfl, rfl⟩
            go_wp2_with fail
            go_ret
            exact ⟨rfl, HB.out⟩
          · skip
            cases a7
            · go_enter Try.func5, Try.ntmps5
              go_wp2_with fail
              refine (HD.out _).mono ?_
              rintro e w1 ⟨rfl, rfl⟩
              go_wp2_with fail
              refine (HE.out _).mono ?_
              rintro e w1 ⟨rfl, rfl⟩
              go_wp2_with fail
              go_ret
              exact ⟨rfl, HB.out⟩
            · skip
              cases a8
              · go_enter Try.func5, Try.ntmps5
                go_wp2_with fail
                refine (HD.out _).mono ?_
                rintro e w1 ⟨rfl, rfl⟩
                go_wp2_with fail
                refine (HE.out _).mono ?_
                rintro e w1 ⟨rfl, rfl⟩
                go_wp2_with fail
                go_ret
                exact ⟨rfl, HB.out⟩
              · skip
                go_enter Try.func5, Try.ntmps5
                go_wp2_with fail
                refine (HD.out _).mono ?_
                rintro e w1 ⟨rfl, rfl⟩
                go_wp2_with fail
                refine (HE.out _).mono ?_
                rintro e w1 ⟨rfl, rfl⟩
                go_wp2_with fail
                go_ret
                exact ⟨rfl, HB.out⟩
set_option maxRecDepth 100000 in
theorem in_1 (n now : Int) (w : World) :
    Calls Try.prog 16 #[ev 1 n, .int .i64 now] w (Ret (.bool true) w) := by
  have HB := Lib.hid ((Below.refl w.heap.size w).alloc (Nat.le_refl _) (.cells #[.int .i64 1, .int .i64 n] 27))
  unfold ev
  go_enter Try.func16, Try.ntmps16
  go_wp2
  go_ret
  exact ⟨rfl, HB.out⟩
set_option maxRecDepth 100000 in
theorem in_2 (n now : Int) (w : World) :
    Calls Try.prog 16 #[ev 2 n, .int .i64 now] w (Ret (.bool true) w) := by
  have HB := Lib.hid ((Below.refl w.heap.size w).alloc (Nat.le_refl _) (.cells #[.int .i64 2, .int .i64 n] 27))
  unfold ev
  go_enter Try.func16, Try.ntmps16
  go_wp2
  go_ret
  exact ⟨rfl, HB.out⟩
set_option maxRecDepth 100000 in
theorem in_4 (n now : Int) (w : World) :
    Calls Try.prog 16 #[ev 4 n, .int .i64 now] w (Ret (.bool true) w) := by
  have HB := Lib.hid ((Below.refl w.heap.size w).alloc (Nat.le_refl _) (.cells #[.int .i64 4, .int .i64 n] 27))
  unfold ev
  go_enter Try.func16, Try.ntmps16
  go_wp2
  go_ret
  exact ⟨rfl, HB.out⟩
set_option maxRecDepth 100000 in
theorem in_7 (n now : Int) (w : World) :
    Calls Try.prog 16 #[ev 7 n, .int .i64 now] w (Ret (.bool true) w) := by
  have HB := Lib.hid ((Below.refl w.heap.size w).alloc (Nat.le_refl _) (.cells #[.int .i64 7, .int .i64 n] 27))
  unfold ev
  go_enter Try.func16, Try.ntmps16
  go_wp2
  go_ret
  exact ⟨rfl, HB.out⟩
set_option maxRecDepth 100000 in
theorem in_3 (n now : Int) (h1 : 1 ≤ n) (h2 : n ≤ 1000) (h3 : 0 ≤ now) (h4 : now + n ≤ 1099511627776) (w : World) :
    Calls Try.prog 16 #[ev 3 n, .int .i64 now] w (Ret (.bool true) w) := by
  have HB := Lib.hid ((Below.refl w.heap.size w).alloc (Nat.le_refl _) (.cells #[.int .i64 3, .int .i64 n] 27))
  have hw : wrap64 (now + n) = now + n := IntWalk.wrap64_in _ (by omega)
  have HT := Lib.hid (fun W => time_any (now + n) W)
  rw [time_ok (by omega) h4] at HT
  unfold ev
  go_enter Try.func16, Try.ntmps16
  go_wp2_with fail
  refine (HT.out _).mono ?_
  rintro e w1 ⟨rfl, rfl⟩
  go_wp2_with fail
  go_ret
  exact ⟨rfl, HB.out⟩
set_option maxRecDepth 100000 in
theorem in_6 (n now : Int) (h1 : 0 ≤ n) (h2 : n ≤ 1099511627776) (w : World) :
    Calls Try.prog 16 #[ev 6 n, .int .i64 now] w (Ret (.bool true) w) := by
  have HB := Lib.hid ((Below.refl w.heap.size w).alloc (Nat.le_refl _) (.cells #[.int .i64 6, .int .i64 n] 27))
  have HT := Lib.hid (fun W => time_any n W)
  rw [time_ok h1 h2] at HT
  unfold ev
  go_enter Try.func16, Try.ntmps16
  go_wp2_with fail
  refine (HT.out _).mono ?_
  rintro e w1 ⟨rfl, rfl⟩
  go_wp2_with fail
  go_ret
  exact ⟨rfl, HB.out⟩
set_option maxRecDepth 100000 in
theorem co_21 (n : Int) (w : World) :
    Calls Try.prog 17 #[ev 2 n, .int .i64 1] w (Ret (.bool true) w) := by
  have HB := Lib.hid ((Below.refl w.heap.size w).alloc (Nat.le_refl _) (.cells #[.int .i64 2, .int .i64 n] 27))
  unfold ev
  go_enter Try.func17, Try.ntmps17
  go_wp2
  go_ret
  exact ⟨rfl, HB.out⟩
set_option maxRecDepth 100000 in
theorem co_12 (n : Int) (w : World) :
    Calls Try.prog 17 #[ev 1 n, .int .i64 2] w (Ret (.bool true) w) := by
  have HB := Lib.hid ((Below.refl w.heap.size w).alloc (Nat.le_refl _) (.cells #[.int .i64 1, .int .i64 n] 27))
  unfold ev
  go_enter Try.func17, Try.ntmps17
  go_wp2
  go_ret
  exact ⟨rfl, HB.out⟩
set_option maxRecDepth 100000 in
theorem co_71 (n : Int) (w : World) :
    Calls Try.prog 17 #[ev 7 n, .int .i64 1] w (Ret (.bool true) w) := by
  have HB := Lib.hid ((Below.refl w.heap.size w).alloc (Nat.le_refl _) (.cells #[.int .i64 7, .int .i64 n] 27))
  unfold ev
  go_enter Try.func17, Try.ntmps17
  go_wp2
  go_ret
  exact ⟨rfl, HB.out⟩
set_option maxRecDepth 100000 in
theorem co_31 (n : Int) (w : World) :
    Calls Try.prog 17 #[ev 3 n, .int .i64 1] w (Ret (.bool true) w) := by
  have HB := Lib.hid ((Below.refl w.heap.size w).alloc (Nat.le_refl _) (.cells #[.int .i64 3, .int .i64 n] 27))
  unfold ev
  go_enter Try.func17, Try.ntmps17
  go_wp2
  go_ret
  exact ⟨rfl, HB.out⟩
set_option maxRecDepth 100000 in
theorem co_43 (n : Int) (w : World) :
    Calls Try.prog 17 #[ev 4 n, .int .i64 3] w (Ret (.bool true) w) := by
  have HB := Lib.hid ((Below.refl w.heap.size w).alloc (Nat.le_refl _) (.cells #[.int .i64 4, .int .i64 n] 27))
  unfold ev
  go_enter Try.func17, Try.ntmps17
  go_wp2
  go_ret
  exact ⟨rfl, HB.out⟩
set_option maxRecDepth 100000 in
theorem co_61 (n : Int) (w : World) :
    Calls Try.prog 17 #[ev 6 n, .int .i64 1] w (Ret (.bool true) w) := by
  have HB := Lib.hid ((Below.refl w.heap.size w).alloc (Nat.le_refl _) (.cells #[.int .i64 6, .int .i64 n] 27))
  unfold ev
  go_enter Try.func17, Try.ntmps17
  go_wp2
  go_ret
  exact ⟨rfl, HB.out⟩
set_option maxRecDepth 100000 in
theorem co_73 (n : Int) (w : World) :
    Calls Try.prog 17 #[ev 7 n, .int .i64 3] w (Ret (.bool true) w) := by
  have HB := Lib.hid ((Below.refl w.heap.size w).alloc (Nat.le_refl _) (.cells #[.int .i64 7, .int .i64 n] 27))
  unfold ev
  go_enter Try.func17, Try.ntmps17
  go_wp2
  go_ret
  exact ⟨rfl, HB.out⟩
set_option maxRecDepth 100000 in
theorem co_14 (n : Int) (w : World) :
    Calls Try.prog 17 #[ev 1 n, .int .i64 4] w (Ret (.bool false) w) := by
  have HB := Lib.hid ((Below.refl w.heap.size w).alloc (Nat.le_refl _) (.cells #[.int .i64 1, .int .i64 n] 27))
  unfold ev
  go_enter Try.func17, Try.ntmps17
  go_wp2
  go_ret
  exact ⟨rfl, HB.out⟩
end Go.Proofs.Ytbaheeofdelbhaa

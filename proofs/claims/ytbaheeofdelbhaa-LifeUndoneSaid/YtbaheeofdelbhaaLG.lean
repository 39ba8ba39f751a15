/- LifeUndone's short ways; what its rows come to. No condition. -/
import Derived.Test.YtbaheeofdelbhaaLF
import Derived.Test.YtbaheeofdelbhaaFJ
namespace Go.Proofs.Ytbaheeofdelbhaa
open Go Go.RowKit
def okB (s d e v n now : Int) : Bool := (((((rightB s d e v && decide (s = 1)) && decide (1 ≤ n)) && decide (n ≤ 1000)) && decide (0 ≤ now)) && decide (now ≤ 549755813888)) && decide (e = 0)
set_option maxRecDepth 100000 in
set_option maxHeartbeats 1000000 in
theorem undone_skip (s d e v n now : Int) (h : okB s d e v n now = false) (w : World) : Calls Try.prog 3 #[lv s d e v, .int .i64 n, .int .i64 now] w (AwakeQ w) := by
  have HB0 := Lib.hid (below_new w (.cells #[.int .i64 s, .int .i64 d, .int .i64 e, .int .i64 v] 23))
  have AL := Lib.hid (At.new w s d e v)
  have HA := Lib.hid (fun W => awake_any W)
  have HR := Lib.hid (fun W => right_any s d e v W)
  unfold okB at h
  obtain ⟨a1, h1⟩ : ∃ b, rightB s d e v = b := ⟨_, rfl⟩
  obtain ⟨a2, h2⟩ : ∃ b, decide (s = 1) = b := ⟨_, rfl⟩
  obtain ⟨a3, h3⟩ : ∃ b, decide ((1 : Int) ≤ n) = b := ⟨_, rfl⟩
  obtain ⟨a4, h4⟩ : ∃ b, decide (n ≤ 1000) = b := ⟨_, rfl⟩
  obtain ⟨a5, h5⟩ : ∃ b, decide ((0 : Int) ≤ now) = b := ⟨_, rfl⟩
  obtain ⟨a6, h6⟩ : ∃ b, decide (now ≤ 549755813888) = b := ⟨_, rfl⟩
  obtain ⟨a7, h7⟩ : ∃ b, decide (e = 0) = b := ⟨_, rfl⟩
  have e2 : (s != 1) = !a2 := by rw [← h2]; rfl
  have e7 : (e != 0) = !a7 := by rw [← h7]; rfl
  have e3 : decide (n < 1) = !a3 := by rw [← h3, ← decide_not]; exact decide_eq_decide.2 (by omega)
  have e4 : decide (1000 < n) = !a4 := by rw [← h4, ← decide_not]; exact decide_eq_decide.2 (by omega)
  have e5 : decide (now < 0) = !a5 := by rw [← h5, ← decide_not]; exact decide_eq_decide.2 (by omega)
  have e6 : decide (549755813888 < now) = !a6 := by rw [← h6, ← decide_not]; exact decide_eq_decide.2 (by omega)
  rw [h1, h2, h3, h4, h5, h6, h7] at h
  rw [h1] at HR
  have HR := Lib.hid HR.out
  clear h1 h2 h3 h4 h5 h6 h7
  unfold lv at *
  cases a1
  · skip
    go_enter Try.func3, Try.ntmps3
    go_wp2_with fail
    refine (HA.out _).mono ?_
    rintro x w1 ⟨rfl, hb⟩
    replace AL := Lib.hid (AL.out.below hb)
    replace HB0 := Lib.hid (HB0.out.trans (hb.mono HB0.out.size))
    clear hb
    obtain ⟨c0, c1, c2, c3⟩ := AL.out.cells
    go_wp2_with fail
    refine (HR.out _).mono ?_
    rintro x w2 ⟨rfl, hb⟩
    clear c0 c1 c2 c3
    replace AL := Lib.hid (AL.out.below hb)
    replace HB0 := Lib.hid (HB0.out.trans (hb.mono HB0.out.size))
    clear hb
    obtain ⟨c0, c1, c2, c3⟩ := AL.out.cells
    go_wp2_with fail
    go_ret
    exact ⟨rfl, HB0.out⟩
  · skip
    cases a2
    · replace e2 : (s != 1) = true := e2
      go_enter Try.func3, Try.ntmps3
      go_wp2_with fail
      refine (HA.out _).mono ?_
      rintro x w1 ⟨rfl, hb⟩
      replace AL := Lib.hid (AL.out.below hb)
      replace HB0 := Lib.hid (HB0.out.trans (hb.mono HB0.out.size))
      clear hb
      obtain ⟨c0, c1, c2, c3⟩ := AL.out.cells
      go_wp2_with fail
      refine (HR.out _).mono ?_
      rintro x w2 ⟨rfl, hb⟩
      clear c0 c1 c2 c3
      replace AL := Lib.hid (AL.out.below hb)
      replace HB0 := Lib.hid (HB0.out.trans (hb.mono HB0.out.size))
      clear hb
      obtain ⟨c0, c1, c2, c3⟩ := AL.out.cells
      go_wp2_with fail
      go_ret
      exact ⟨rfl, HB0.out⟩
    · replace e2 : (s != 1) = false := e2
      cases a3
      · replace e3 : decide (n < 1) = true := e3
        go_enter Try.func3, Try.ntmps3
        go_wp2_with fail
        refine (HA.out _).mono ?_
        rintro x w1 ⟨rfl, hb⟩
        replace AL := Lib.hid (AL.out.below hb)
        replace HB0 := Lib.hid (HB0.out.trans (hb.mono HB0.out.size))
        clear hb
        obtain ⟨c0, c1, c2, c3⟩ := AL.out.cells
        go_wp2_with fail
        refine (HR.out _).mono ?_
        rintro x w2 ⟨rfl, hb⟩
        clear c0 c1 c2 c3
        replace AL := Lib.hid (AL.out.below hb)
        replace HB0 := Lib.hid (HB0.out.trans (hb.mono HB0.out.size))
        clear hb
        obtain ⟨c0, c1, c2, c3⟩ := AL.out.cells
        go_wp2_with fail
        go_ret
        exact ⟨rfl, HB0.out⟩
      · replace e3 : decide (n < 1) = false := e3
        cases a4
        · replace e4 : decide (1000 < n) = true := e4
          go_enter Try.func3, Try.ntmps3
          go_wp2_with fail
          refine (HA.out _).mono ?_
          rintro x w1 ⟨rfl, hb⟩
          replace AL := Lib.hid (AL.out.below hb)
          replace HB0 := Lib.hid (HB0.out.trans (hb.mono HB0.out.size))
          clear hb
          obtain ⟨c0, c1, c2, c3⟩ := AL.out.cells
          go_wp2_with fail
          refine (HR.out _).mono ?_
          rintro x w2 ⟨rfl, hb⟩
          clear c0 c1 c2 c3
          replace AL := Lib.hid (AL.out.below hb)
          replace HB0 := Lib.hid (HB0.out.trans (hb.mono HB0.out.size))
          clear hb
          obtain ⟨c0, c1, c2, c3⟩ := AL.out.cells
          go_wp2_with fail
          go_ret
          exact ⟨rfl, HB0.out⟩
        · replace e4 : decide (1000 < n) = false := e4
          cases a5
          · replace e5 : decide (now < 0) = true := e5
            go_enter Try.func3, Try.ntmps3
            go_wp2_with fail
            refine (HA.out _).mono ?_
            rintro x w1 ⟨rfl, hb⟩
            replace AL := Lib.hid (AL.out.below hb)
            replace HB0 := Lib.hid (HB0.out.trans (hb.mono HB0.out.size))
            clear hb
            obtain ⟨c0, c1, c2, c3⟩ := AL.out.cells
            go_wp2_with fail
            refine (HR.out _).mono ?_
            rintro x w2 ⟨rfl, hb⟩
            clear c0 c1 c2 c3
            replace AL := Lib.hid (AL.out.below hb)
            replace HB0 := Lib.hid (HB0.out.trans (hb.mono HB0.out.size))
            clear hb
            obtain ⟨c0, c1, c2, c3⟩ := AL.out.cells
            go_wp2_with fail
            go_ret
            exact ⟨rfl, HB0.out⟩
          · replace e5 : decide (now < 0) = false := e5
            cases a6
            · replace e6 : decide (549755813888 < now) = true := e6
              go_enter Try.func3, Try.ntmps3
              go_wp2_with fail
              refine (HA.out _).mono ?_
              rintro x w1 ⟨rfl, hb⟩
              replace AL := Lib.hid (AL.out.below hb)
              replace HB0 := Lib.hid (HB0.out.trans (hb.mono HB0.out.size))
              clear hb
              obtain ⟨c0, c1, c2, c3⟩ := AL.out.cells
              go_wp2_with fail
              refine (HR.out _).mono ?_
              rintro x w2 ⟨rfl, hb⟩
              clear c0 c1 c2 c3
              replace AL := Lib.hid (AL.out.below hb)
              replace HB0 := Lib.hid (HB0.out.trans (hb.mono HB0.out.size))
              clear hb
              obtain ⟨c0, c1, c2, c3⟩ := AL.out.cells
              go_wp2_with fail
              go_ret
              exact ⟨rfl, HB0.out⟩
            · replace e6 : decide (549755813888 < now) = false := e6
              cases a7
              · replace e7 : (e != 0) = true := e7
                go_enter Try.func3, Try.ntmps3
                go_wp2_with fail
                refine (HA.out _).mono ?_
                rintro x w1 ⟨rfl, hb⟩
                replace AL := Lib.hid (AL.out.below hb)
                replace HB0 := Lib.hid (HB0.out.trans (hb.mono HB0.out.size))
                clear hb
                obtain ⟨c0, c1, c2, c3⟩ := AL.out.cells
                go_wp2_with fail
                refine (HR.out _).mono ?_
                rintro x w2 ⟨rfl, hb⟩
                clear c0 c1 c2 c3
                replace AL := Lib.hid (AL.out.below hb)
                replace HB0 := Lib.hid (HB0.out.trans (hb.mono HB0.out.size))
                clear hb
                obtain ⟨c0, c1, c2, c3⟩ := AL.out.cells
                go_wp2_with fail
                go_ret
                exact ⟨rfl, HB0.out⟩
              · replace e7 : (e != 0) = false := e7
                cases h
end Go.Proofs.Ytbaheeofdelbhaa

/- LifeUndone's walk. No condition. -/
import Derived.Test.YtbaheeofdelbhaaLH
namespace Go.Proofs.Ytbaheeofdelbhaa
open Go Go.RowKit Go.Own Go.Own.Fr
/-- What a region's operations yield: a new block, or values. -/
def TR (base : Nat) (cs : Array Value) (xs : List Value) (ph : Bool) (j : Nat) (v : Value) (W : World) : Prop :=
  (j = 13 → ∃ b, v = .pointer (some ⟨b, 0, none⟩) ∧ base ≤ b ∧ W.heap[b]? = some (.cells (if ph = true then cs else #[.int .i64 0, .int .i64 0, .int .i64 0, .int .i64 0]) 23 (0, 0))) ∧ (j ≠ 13 → TV xs j v)
theorem TR.last {base : Nat} {cs : Array Value} {xs : List Value} {ph : Bool} {j : Nat} {v : Value} {W W' : World} (h : TR base cs xs ph j v W) (hB : Below W.heap.size W W') : TR base cs xs ph j v W' :=
  ⟨fun e => by
    obtain ⟨b, h1, h2, h3⟩ := h.1 e
    exact ⟨b, h1, h2, (hB.block _ (Array.getElem?_eq_some_iff.1 h3).1).trans h3⟩, h.2⟩
theorem TR.val {base : Nat} {cs : Array Value} {xs : List Value} {ph : Bool} {j : Nat} {v : Value} {W : World} (hj : j ≠ 13) (h : xs[j]? = some v) : TR base cs xs ph j v W :=
  ⟨fun e => absurd e hj, fun _ _ hx => Option.some.inj (h.symm.trans hx)⟩
theorem eval_tmp (a : Act) (k : Nat) : a.eval (.tmp k) = a.tmps.getD k undef := rfl
set_option maxRecDepth 100000 in
set_option maxHeartbeats 4000000 in
theorem undone_main (v n now : Int) (hr : rightB 1 0 0 v = true) (hv : 1 ≤ v) (hv8 : v ≤ 8) (h1 : 1 ≤ n) (h2 : n ≤ 1000) (h3 : 0 ≤ now) (h4 : now ≤ 549755813888) (w : World) : Calls Try.prog 3 #[lv 1 0 0 v, .int .i64 n, .int .i64 now] w (AwakeQ w) := by
  have HB0 := Lib.hid (below_new w (.cells #[.int .i64 1, .int .i64 0, .int .i64 0, .int .i64 v] 23))
  have AL := Lib.hid (At.new w 1 0 0 v)
  have HA := Lib.hid awake_any
  have HR := Lib.hid (fun W => right_any 1 0 0 v W)
  rw [hr] at HR
  have HST := Lib.hid (step_all v n now hv hv8 h1 h2 h3 h4)
  have HWR : Hid (∀ k : Nat, k < 3 → IntKind.i64.wrap (now + (k : Int)) = now + (k : Int)) := Lib.hid fun k hk => by rw [IntKind.wrap_i64]; omega
  have HS0 := Lib.hid (start_at n now)
  have HRC := Lib.hid (rows_at n)
  have e3 : decide (n < 1) = false := by simp; omega
  have e4 : decide (1000 < n) = false := by simp; omega
  have e5 : decide (now < 0) = false := by simp; omega
  have e6 : decide (549755813888 < now) = false := by simp; omega
  clear hr hv hv8 h1 h2 h3 h4
  unfold lv at *
  go_enter Try.func3, Try.ntmps3
  go_wp2_with fail
  refine (HA.out _).mono ?_
  rintro _ w1 ⟨rfl, hb⟩
  replace AL := Lib.hid (AL.out.below hb)
  replace HB0 := Lib.hid (HB0.out.trans (hb.mono HB0.out.size))
  clear hb
  obtain ⟨c0, c1, c2, c3⟩ := AL.out.cells
  go_wp2_with fail
  refine (HR.out _).mono ?_
  rintro _ w2 ⟨rfl, hb⟩
  clear c0 c1 c2 c3
  replace AL := Lib.hid (AL.out.below hb)
  replace HB0 := Lib.hid (HB0.out.trans (hb.mono HB0.out.size))
  clear hb
  obtain ⟨c0, c1, c2, c3⟩ := AL.out.cells
  have HZ := Lib.hid (alloc_at w2 (.cells #[.int .i64 0, .int .i64 0, .int .i64 0, .int .i64 0, .int .i64 0, .int .i64 0, .int .i64 0, .int .i64 0, .int .i64 0, .int .i64 0, .int .i64 0, .int .i64 0, .int .i64 0, .int .i64 0, .int .i64 0, .int .i64 0, .int .i64 0, .int .i64 0] 29))
  have HB1 := Lib.hid (HB0.out.trans ((below_new w2 (.cells #[.int .i64 0, .int .i64 0, .int .i64 0, .int .i64 0, .int .i64 0, .int .i64 0, .int .i64 0, .int .i64 0, .int .i64 0, .int .i64 0, .int .i64 0, .int .i64 0, .int .i64 0, .int .i64 0, .int .i64 0, .int .i64 0, .int .i64 0, .int .i64 0] 29)).mono HB0.out.size))
  have HLZ := Lib.hid (AL.out.below (below_new w2 (.cells #[.int .i64 0, .int .i64 0, .int .i64 0, .int .i64 0, .int .i64 0, .int .i64 0, .int .i64 0, .int .i64 0, .int .i64 0, .int .i64 0, .int .i64 0, .int .i64 0, .int .i64 0, .int .i64 0, .int .i64 0, .int .i64 0, .int .i64 0, .int .i64 0] 29)))
  have I0 := Lib.hid (show (Try.prog.info? 29).map (·.size) = some (rowsC n).size by kernel_rfl)
  have I1 := Lib.hid (show (#[.int .i64 0, .int .i64 0, .int .i64 0, .int .i64 0, .int .i64 0, .int .i64 0, .int .i64 0, .int .i64 0, .int .i64 0, .int .i64 0, .int .i64 0, .int .i64 0, .int .i64 0, .int .i64 0, .int .i64 0, .int .i64 0, .int .i64 0, .int .i64 0] : Array Value).size = (rowsC n).size from rfl)
  have I2 := Lib.hid (show (rowsC n).all (·.oneCell') = true by simp [rowsC, Value.oneCell'])
  unfold rowsC at I0 I1 I2
  go_wp2_with (with_reducible refine wpList_put 29 w2.heap.size _ _ rfl rfl HZ.out I0.out I1.out I2.out ?_)
  intro w3 hg hgr
  clear c0 c1 c2 c3 e3 e4 e5 e6
  have HLT : Hid (w.heap.size < w2.heap.size) := Lib.hid (Array.getElem?_eq_some_iff.1 AL.out).1
  replace AL : Hid (At w3 w.heap.size 1 0 0 v) := Lib.hid ((hgr.block w.heap.size (by rw [World.size_alloc]; have := HLT.out; omega) (fun e => by have := Option.some.inj e; have := HLT.out; omega)).trans HLZ.out)
  have HB3 := Lib.hid (below_put HB1.out hgr HB1.out.size (Nat.le_of_lt HLT.out))
  have HRW := Lib.hid hg
  obtain ⟨rb, hrb⟩ : ∃ rb, w2.heap.size = rb := ⟨_, rfl⟩
  rw [hrb] at HRW ⊢
  clear hrb hg hgr HLZ HB1 HZ I0 I1 I2 HR HA HB0 HLT
  go_wp2
  go_loopw [8] (fun i wr => ∃ (j : Nat), j ≤ 3 ∧ i = .int .i64 (j : Int) ∧ Hid (At wr w.heap.size 1 0 0 v) ∧ Hid (wr.heap[rb]? = some (.cells (rowsC n) 29 (0, 0))) ∧ Hid (Below w.heap.size w wr)) (fun i _ => 3 - (intOf i).toNat)
  case atStart => exact ⟨0, by omega, rfl, AL, HRW, HB3⟩
  case round =>
    obtain ⟨j, hj, rfl, HL, HW, HB⟩ := hrel
    by_cases hlt : j < 3
    · have hlti : (j : Int) < 3 := by omega
      obtain ⟨c0, c1, c2, c3⟩ := HL.out.cells
      obtain ⟨s0, s1, s2, s3, s4, s5⟩ := HS0.out j hlt
      go_wp2
      have HN := Lib.hid (below_new wr (.cells #[.int .i64 1, .int .i64 0, .int .i64 0, .int .i64 v] 23))
      have HMm : Hid (At (wr.alloc (.cells #[.int .i64 1, .int .i64 0, .int .i64 0, .int .i64 v] 23)) wr.heap.size (sS j 0) (sD n now j 0) (sE n j 0) v) := Lib.hid (by rw [s0, s1, s2]; exact At.new wr 1 0 0 v)
      have HLm := Lib.hid (HL.out.below HN.out)
      have HWm := Lib.hid ((HN.out.block rb (Array.getElem?_eq_some_iff.1 HW.out).1).trans HW.out)
      have HBm := Lib.hid (HB.out.trans (HN.out.mono HB.out.size))
      have HE := Lib.hid (And.intro s3 (And.intro s4 s5))
      have HLB := Lib.hid (Array.getElem?_eq_some_iff.1 HL.out).1
      have HRB := Lib.hid (Array.getElem?_eq_some_iff.1 HW.out).1
      obtain ⟨bm, hbm⟩ : ∃ bm, wr.heap.size = bm := ⟨_, rfl⟩
      obtain ⟨wm, hwm⟩ : ∃ wm, wr.alloc (.cells #[.int .i64 1, .int .i64 0, .int .i64 0, .int .i64 v] 23) = wm := ⟨_, rfl⟩
      rw [hwm] at HMm HLm HWm HBm ⊢
      rw [hbm] at HMm HLB HRB ⊢
      clear hbm hwm s0 s1 s2 s3 s4 s5 c0 c1 c2 c3 HN HL HW HB
      go_loopw [10] (fun k wr => ∃ (q : Nat), q ≤ 3 ∧ k = .int .i64 (q : Int) ∧ Hid (At wr bm (sS j q) (sD n now j q) (sE n j q) v) ∧ Hid (At wr w.heap.size 1 0 0 v) ∧ Hid (wr.heap[rb]? = some (.cells (rowsC n) 29 (0, 0))) ∧ Hid (Below w.heap.size w wr)) (fun k _ => 3 - (intOf k).toNat)
      case atStart => exact ⟨0, by omega, rfl, HMm, HLm, HWm, HBm⟩
      case round =>
        obtain ⟨q, hq, rfl, HM, HL, HW, HB⟩ := hrel
        by_cases hlt2 : q < 3
        · have hlti2 : (q : Int) < 3 := by omega
          go_wp2_with fail
          have J0 := Lib.hid (show (#[.int .i64 0, .int .i64 0, .int .i64 0, .int .i64 0] : Array Value).size = (#[.int .i64 (sS j (q + 1)), .int .i64 (sD n now j (q + 1)), .int .i64 (sE n j (q + 1)), .int .i64 v] : Array Value).size from rfl)
          have J1 := Lib.hid (show (#[.int .i64 (sS j (q + 1)), .int .i64 (sD n now j (q + 1)), .int .i64 (sE n j (q + 1)), .int .i64 v] : Array Value).all (·.oneCell') = true by simp [Value.oneCell'])
          have HMl := Lib.hid (Array.getElem?_eq_some_iff.1 HM.out).1
          have HWl := Lib.hid (Array.getElem?_eq_some_iff.1 HW.out).1
          refine wp_region_fine_store 15 14 (by decide) (fun _ W => Below wr.heap.size wr W) (TR wr.heap.size #[.int .i64 (sS j (q + 1)), .int .i64 (sD n now j (q + 1)), .int .i64 (sE n j (q + 1)), .int .i64 v] [.agg #[.int .i64 (sS j q), .int .i64 (sD n now j q), .int .i64 (sE n j q), .int .i64 v], .int .i64 (j : Int), .int .i64 (q : Int), .pointer (some ⟨rb, j * 6, none⟩), .pointer (some ⟨rb, j * 6 + q * 2, none⟩), .agg #[.int .i64 (kK j q), .int .i64 (kN n j q)], .int .i64 now, .int .i64 (q : Int), .int .i64 (now + (q : Int)), .tuple #[.agg #[.int .i64 (sS j (q + 1)), .int .i64 (sD n now j (q + 1)), .int .i64 (sE n j (q + 1)), .int .i64 v], .int .i64 0], .tuple #[.agg #[.int .i64 (sS j (q + 1)), .int .i64 (sD n now j (q + 1)), .int .i64 (sE n j (q + 1)), .int .i64 v], .int .i64 0], .agg #[.int .i64 (sS j (q + 1)), .int .i64 (sD n now j (q + 1)), .int .i64 (sE n j (q + 1)), .int .i64 v], .int .i64 0]) (by kernel_rfl) (by kernel_rfl) (by kernel_rfl) (by kernel_rfl) ⟨rfl, rfl, rfl, Nat.le_refl _, fun _ _ => rfl⟩ (fun _ _ _ h hB => h.trans (hB.mono h.size)) (fun _ _ _ _ _ h hB => h.last hB) ?_ ?_ ?_ ?_
          · intro ix oo jj b ho hg ph vv W hT
            simp only [List.take_succ_cons, List.take_zero] at ho
            match ix, ho with
            | 0, ho => simp only [List.getElem?_cons_zero, Option.some.injEq] at ho; subst ho; cases hg
            | 1, ho => simp only [List.getElem?_cons_zero, List.getElem?_cons_succ, Option.some.injEq] at ho; subst ho; cases hg
            | 2, ho => simp only [List.getElem?_cons_zero, List.getElem?_cons_succ, Option.some.injEq] at ho; subst ho; cases hg
            | 3, ho => simp only [List.getElem?_cons_zero, List.getElem?_cons_succ, Option.some.injEq] at ho; subst ho; cases hg
            | 4, ho => simp only [List.getElem?_cons_zero, List.getElem?_cons_succ, Option.some.injEq] at ho; subst ho; cases hg
            | 5, ho => simp only [List.getElem?_cons_zero, List.getElem?_cons_succ, Option.some.injEq] at ho; subst ho; cases hg
            | 6, ho => simp only [List.getElem?_cons_zero, List.getElem?_cons_succ, Option.some.injEq] at ho; subst ho; cases hg
            | 7, ho => simp only [List.getElem?_cons_zero, List.getElem?_cons_succ, Option.some.injEq] at ho; subst ho; cases hg
            | 8, ho => simp only [List.getElem?_cons_zero, List.getElem?_cons_succ, Option.some.injEq] at ho; subst ho; cases hg
            | 9, ho => simp only [List.getElem?_cons_zero, List.getElem?_cons_succ, Option.some.injEq] at ho; subst ho; cases hg
            | 10, ho => simp only [List.getElem?_cons_zero, List.getElem?_cons_succ, Option.some.injEq] at ho; subst ho; cases hg
            | 11, ho => simp only [List.getElem?_cons_zero, List.getElem?_cons_succ, Option.some.injEq] at ho; subst ho; cases hg
            | 12, ho => simp only [List.getElem?_cons_zero, List.getElem?_cons_succ, Option.some.injEq] at ho; subst ho; cases hg
            | 13, ho => simp only [List.getElem?_cons_zero, List.getElem?_cons_succ, Option.some.injEq] at ho; subst ho; cases hg
            | 14, ho => simp only [List.getElem?_cons_zero, List.getElem?_cons_succ, Option.some.injEq] at ho; subst ho; cases hg
            | ix + 15, ho => simp at ho
          · intro oo ho a W hWI hdep hfix Q
            simp only [List.take_succ_cons, List.take_zero] at ho hdep hfix
            simp only [List.getElem?_cons_zero, List.getElem?_cons_succ, Option.some.injEq] at ho
            subst ho
            have e1 : a.tmps.getD 79 undef = .agg #[.int .i64 (sS j (q + 1)), .int .i64 (sD n now j (q + 1)), .int .i64 (sE n j (q + 1)), .int .i64 v] := (hdep 11 _ 79 rfl rfl (by decide +kernel)).2 (by decide) _ rfl
            obtain ⟨b, e2, hb, hc⟩ := (hdep 13 _ 11 rfl rfl (by decide +kernel)).1 rfl
            refine wp_store_row 23 (.tmp 11) (.tmp 79) rfl b #[.int .i64 (sS j (q + 1)), .int .i64 (sD n now j (q + 1)), .int .i64 (sE n j (q + 1)), .int .i64 v] (by rw [eval_tmp, e2]) (by rw [eval_tmp, e1]) 23 #[.int .i64 0, .int .i64 0, .int .i64 0, .int .i64 0] hc i23 J0.out J1.out ⟨rfl, ⟨hWI.os, hWI.tape, hWI.output, by simpa using hWI.size, fun k hk => ?_⟩, fun jj oj s hj hw hne hs hT => ⟨fun e => ?_, hT.2⟩⟩
            · rw [setRow_other W _ k _ (by omega)]; exact hWI.block k hk
            · subst e
              simp only [List.take_succ_cons, List.take_zero, List.getElem?_cons_zero, List.getElem?_cons_succ, Option.some.injEq] at hj
              subst hj
              obtain rfl := Option.some.inj hs
              exact ⟨b, e2, hb, setRow_heap W _ _ _ 23 (0, 0) hc⟩
          · intro ix oo ho hne a W b hWI _ hph hdep hfix
            simp only [List.take_succ_cons, List.take_zero] at ho hdep hfix hph
            match ix, ho with
            | 0, ho =>
              simp only [List.getElem?_cons_zero, Option.some.injEq] at ho; subst ho
              have e1 : a.tmps.getD 9 undef = .pointer (some ⟨bm, 0, none⟩) := hfix 9 (by decide +kernel)
              exact lays_eq _ (TR.val (by decide) rfl) (exec_load (by rw [eval_tmp, e1]) (ld_cells (P := Try.prog) (T := 23) W [.int .i64 (sS j q), .int .i64 (sD n now j q), .int .i64 (sE n j q), .int .i64 v] (by kernel_rfl) (by kernel_rfl) ((hWI.block bm HMl.out).trans HM.out)).1)
            | 1, ho =>
              simp only [List.getElem?_cons_zero, List.getElem?_cons_succ, Option.some.injEq] at ho; subst ho
              have e1 : a.tmps.getD 8 undef = .int .i64 (j : Int) := hfix 8 (by decide +kernel)
              exact lays_eq _ (TR.val (by decide) rfl) (exec_move (by rw [eval_tmp, e1]))
            | 2, ho =>
              simp only [List.getElem?_cons_zero, List.getElem?_cons_succ, Option.some.injEq] at ho; subst ho
              have e1 : a.tmps.getD 10 undef = .int .i64 (q : Int) := hfix 10 (by decide +kernel)
              exact lays_eq _ (TR.val (by decide) rfl) (exec_move (by rw [eval_tmp, e1]))
            | 3, ho =>
              simp only [List.getElem?_cons_zero, List.getElem?_cons_succ, Option.some.injEq] at ho; subst ho
              have e1 : a.tmps.getD 7 undef = .pointer (some ⟨rb, 0, none⟩) := hfix 7 (by decide +kernel)
              have e2 : a.tmps.getD 70 undef = .int .i64 (j : Int) := (hdep 1 _ 70 rfl rfl (by decide +kernel)).2 (by decide) _ rfl
              exact lays_eq _ (TR.val (by decide) rfl) (exec_ix29 (by rw [eval_tmp, e1]) (by rw [eval_tmp, e2]) hlt)
            | 4, ho =>
              simp only [List.getElem?_cons_zero, List.getElem?_cons_succ, Option.some.injEq] at ho; subst ho
              have e1 : a.tmps.getD 72 undef = .pointer (some ⟨rb, j * 6, none⟩) := (hdep 3 _ 72 rfl rfl (by decide +kernel)).2 (by decide) _ rfl
              have e2 : a.tmps.getD 71 undef = .int .i64 (q : Int) := (hdep 2 _ 71 rfl rfl (by decide +kernel)).2 (by decide) _ rfl
              exact lays_eq _ (TR.val (by decide) rfl) (exec_ix28 (by rw [eval_tmp, e1]) (by rw [eval_tmp, e2]) hlt2)
            | 5, ho =>
              simp only [List.getElem?_cons_zero, List.getElem?_cons_succ, Option.some.injEq] at ho; subst ho
              have e1 : a.tmps.getD 73 undef = .pointer (some ⟨rb, j * 6 + q * 2, none⟩) := (hdep 4 _ 73 rfl rfl (by decide +kernel)).2 (by decide) _ rfl
              have hc := fun x => cell_of ((hWI.block rb HWl.out).trans HW.out) x
              exact lays_eq _ (TR.val (by decide) rfl) (exec_load (by rw [eval_tmp, e1]) (ld27 ((hc _).trans (HRC.out j q hlt hlt2).1) ((hc _).trans (HRC.out j q hlt hlt2).2)))
            | 6, ho =>
              simp only [List.getElem?_cons_zero, List.getElem?_cons_succ, Option.some.injEq] at ho; subst ho
              have e1 : a.tmps.getD 2 undef = .int .i64 now := hfix 2 (by decide +kernel)
              exact lays_eq _ (TR.val (by decide) rfl) (exec_move (by rw [eval_tmp, e1]))
            | 7, ho =>
              simp only [List.getElem?_cons_zero, List.getElem?_cons_succ, Option.some.injEq] at ho; subst ho
              have e1 : a.tmps.getD 10 undef = .int .i64 (q : Int) := hfix 10 (by decide +kernel)
              exact lays_eq _ (TR.val (by decide) rfl) (exec_move (by rw [eval_tmp, e1]))
            | 8, ho =>
              simp only [List.getElem?_cons_zero, List.getElem?_cons_succ, Option.some.injEq] at ho; subst ho
              have e1 : a.tmps.getD 75 undef = .int .i64 now := (hdep 6 _ 75 rfl rfl (by decide +kernel)).2 (by decide) _ rfl
              have e2 : a.tmps.getD 76 undef = .int .i64 (q : Int) := (hdep 7 _ 76 rfl rfl (by decide +kernel)).2 (by decide) _ rfl
              exact lays_eq _ (TR.val (by decide) rfl) (exec_add (by rw [eval_tmp, e1]) (by rw [eval_tmp, e2]) (HWR.out q hlt2))
            | 9, ho =>
              simp only [List.getElem?_cons_zero, List.getElem?_cons_succ, Option.some.injEq] at ho; subst ho
              have e1 : a.tmps.getD 69 undef = .agg #[.int .i64 (sS j q), .int .i64 (sD n now j q), .int .i64 (sE n j q), .int .i64 v] := (hdep 0 _ 69 rfl rfl (by decide +kernel)).2 (by decide) _ rfl
              have e2 : a.tmps.getD 74 undef = .agg #[.int .i64 (kK j q), .int .i64 (kN n j q)] := (hdep 5 _ 74 rfl rfl (by decide +kernel)).2 (by decide) _ rfl
              have e3 : a.tmps.getD 77 undef = .int .i64 (now + (q : Int)) := (hdep 8 _ 77 rfl rfl (by decide +kernel)).2 (by decide) _ rfl
              refine lays_call #[.agg #[.int .i64 (sS j q), .int .i64 (sD n now j q), .int .i64 (sE n j q), .int .i64 v], .agg #[.int .i64 (kK j q), .int .i64 (kN n j q)], .int .i64 (now + (q : Int))] (by simp [Act.eval, e1, e2, e3]) (by kernel_rfl) ((HST.out j q hlt hlt2 W).mono ?_)
              rintro e W' ⟨rfl, hB'⟩
              exact ⟨_, rfl, hB', TR.val (by decide) rfl⟩
            | 10, ho =>
              simp only [List.getElem?_cons_zero, List.getElem?_cons_succ, Option.some.injEq] at ho; subst ho
              have e1 : a.tmps.getD 78 undef = .tuple #[.agg #[.int .i64 (sS j (q + 1)), .int .i64 (sD n now j (q + 1)), .int .i64 (sE n j (q + 1)), .int .i64 v], .int .i64 0] := (hdep 9 _ 78 rfl rfl (by decide +kernel)).2 (by decide) _ rfl
              exact lays_eq _ (TR.val (by decide) rfl) (exec_move (by rw [eval_tmp, e1]))
            | 11, ho =>
              simp only [List.getElem?_cons_zero, List.getElem?_cons_succ, Option.some.injEq] at ho; subst ho
              have e1 : a.tmps.getD 68 undef = .tuple #[.agg #[.int .i64 (sS j (q + 1)), .int .i64 (sD n now j (q + 1)), .int .i64 (sE n j (q + 1)), .int .i64 v], .int .i64 0] := (hdep 10 _ 68 rfl rfl (by decide +kernel)).2 (by decide) _ rfl
              exact lays_eq _ (TR.val (by decide) rfl) (exec_ext 0 (by rw [eval_tmp, e1]) rfl)
            | 12, ho =>
              simp only [List.getElem?_cons_zero, List.getElem?_cons_succ, Option.some.injEq] at ho; subst ho
              have e1 : a.tmps.getD 68 undef = .tuple #[.agg #[.int .i64 (sS j (q + 1)), .int .i64 (sD n now j (q + 1)), .int .i64 (sE n j (q + 1)), .int .i64 v], .int .i64 0] := (hdep 10 _ 68 rfl rfl (by decide +kernel)).2 (by decide) _ rfl
              exact lays_eq _ (TR.val (by decide) rfl) (exec_ext 1 (by rw [eval_tmp, e1]) rfl)
            | 13, ho =>
              simp only [List.getElem?_cons_zero, List.getElem?_cons_succ, Option.some.injEq] at ho; subst ho
              have hb : b = false := by
                cases b with
                | false => rfl
                | true => exact absurd (hph _ rfl rfl) (by decide +kernel)
              subst hb
              exact lays_value exec_new23 (below_new W _) ⟨fun _ => ⟨W.heap.size, rfl, hWI.size, alloc_at W _⟩, fun h => absurd rfl h⟩
            | 14, ho => exact absurd rfl hne
            | ix + 15, ho => simp at ho
          · intro a W hWI hd hsz hfix hT
            simp only [List.take_succ_cons, List.take_zero, List.drop_succ_cons, List.drop_zero] at hfix hT ⊢
            have f0 : a.tmps.getD 0 undef = .agg #[.int .i64 1, .int .i64 0, .int .i64 0, .int .i64 v] := hfix 0 (by decide +kernel)
            have f1 : a.tmps.getD 1 undef = .int .i64 n := hfix 1 (by decide +kernel)
            have f2 : a.tmps.getD 2 undef = .int .i64 now := hfix 2 (by decide +kernel)
            have f3 : a.tmps.getD 3 undef = .pointer (some ⟨w.heap.size, 0, none⟩) := hfix 3 (by decide +kernel)
            have f4 : a.tmps.getD 4 undef = undef := hfix 4 (by decide +kernel)
            have f5 : a.tmps.getD 5 undef = undef := hfix 5 (by decide +kernel)
            have f6 : a.tmps.getD 6 undef = u6 := hfix 6 (by decide +kernel)
            have f7 : a.tmps.getD 7 undef = .pointer (some ⟨rb, 0, none⟩) := hfix 7 (by decide +kernel)
            have f8 : a.tmps.getD 8 undef = .int .i64 (j : Int) := hfix 8 (by decide +kernel)
            have f9 : a.tmps.getD 9 undef = .pointer (some ⟨bm, 0, none⟩) := hfix 9 (by decide +kernel)
            have f10 : a.tmps.getD 10 undef = .int .i64 (q : Int) := hfix 10 (by decide +kernel)
            have f13 : a.tmps.getD 13 undef = .bool true := hfix 13 (by decide +kernel)
            have f14 : a.tmps.getD 14 undef = .bool false := hfix 14 (by decide +kernel)
            have f15 : a.tmps.getD 15 undef = .agg #[.int .i64 1, .int .i64 0, .int .i64 0, .int .i64 v] := hfix 15 (by decide +kernel)
            have f16 : a.tmps.getD 16 undef = .bool true := hfix 16 (by decide +kernel)
            have f17 : a.tmps.getD 17 undef = .bool false := hfix 17 (by decide +kernel)
            have f18 : a.tmps.getD 18 undef = .bool false := hfix 18 (by decide +kernel)
            have f19 : a.tmps.getD 19 undef = .pointer (some ⟨w.heap.size, 0, none⟩) := hfix 19 (by decide +kernel)
            have f20 : a.tmps.getD 20 undef = .int .i64 1 := hfix 20 (by decide +kernel)
            have f21 : a.tmps.getD 21 undef = .bool false := hfix 21 (by decide +kernel)
            have f22 : a.tmps.getD 22 undef = .bool false := hfix 22 (by decide +kernel)
            have f23 : a.tmps.getD 23 undef = .bool false := hfix 23 (by decide +kernel)
            have f24 : a.tmps.getD 24 undef = .int .i64 n := hfix 24 (by decide +kernel)
            have f25 : a.tmps.getD 25 undef = .bool false := hfix 25 (by decide +kernel)
            have f26 : a.tmps.getD 26 undef = .bool false := hfix 26 (by decide +kernel)
            have f27 : a.tmps.getD 27 undef = .bool false := hfix 27 (by decide +kernel)
            have f28 : a.tmps.getD 28 undef = .int .i64 n := hfix 28 (by decide +kernel)
            have f29 : a.tmps.getD 29 undef = .bool false := hfix 29 (by decide +kernel)
            have f30 : a.tmps.getD 30 undef = .bool false := hfix 30 (by decide +kernel)
            have f31 : a.tmps.getD 31 undef = .bool false := hfix 31 (by decide +kernel)
            have f32 : a.tmps.getD 32 undef = .int .i64 now := hfix 32 (by decide +kernel)
            have f33 : a.tmps.getD 33 undef = .bool false := hfix 33 (by decide +kernel)
            have f34 : a.tmps.getD 34 undef = .bool false := hfix 34 (by decide +kernel)
            have f35 : a.tmps.getD 35 undef = .bool false := hfix 35 (by decide +kernel)
            have f36 : a.tmps.getD 36 undef = .int .i64 now := hfix 36 (by decide +kernel)
            have f37 : a.tmps.getD 37 undef = .bool false := hfix 37 (by decide +kernel)
            have f38 : a.tmps.getD 38 undef = .bool false := hfix 38 (by decide +kernel)
            have f39 : a.tmps.getD 39 undef = .bool false := hfix 39 (by decide +kernel)
            have f40 : a.tmps.getD 40 undef = .pointer (some ⟨w.heap.size, 2, none⟩) := hfix 40 (by decide +kernel)
            have f41 : a.tmps.getD 41 undef = .int .i64 0 := hfix 41 (by decide +kernel)
            have f42 : a.tmps.getD 42 undef = .bool false := hfix 42 (by decide +kernel)
            have f43 : a.tmps.getD 43 undef = .bool false := hfix 43 (by decide +kernel)
            have f44 : a.tmps.getD 44 undef = .agg #[.int .i64 2, .int .i64 0] := hfix 44 (by decide +kernel)
            have f45 : a.tmps.getD 45 undef = .agg #[.int .i64 1, .int .i64 0] := hfix 45 (by decide +kernel)
            have f46 : a.tmps.getD 46 undef = .agg #[.int .i64 7, .int .i64 0] := hfix 46 (by decide +kernel)
            have f47 : a.tmps.getD 47 undef = .agg #[.int .i64 2, .int .i64 0, .int .i64 1, .int .i64 0, .int .i64 7, .int .i64 0] := hfix 47 (by decide +kernel)
            have f48 : a.tmps.getD 48 undef = .int .i64 n := hfix 48 (by decide +kernel)
            have f49 : a.tmps.getD 49 undef = .agg #[.int .i64 3, .int .i64 n] := hfix 49 (by decide +kernel)
            have f50 : a.tmps.getD 50 undef = .agg #[.int .i64 4, .int .i64 0] := hfix 50 (by decide +kernel)
            have f51 : a.tmps.getD 51 undef = .agg #[.int .i64 1, .int .i64 0] := hfix 51 (by decide +kernel)
            have f52 : a.tmps.getD 52 undef = .agg #[.int .i64 3, .int .i64 n, .int .i64 4, .int .i64 0, .int .i64 1, .int .i64 0] := hfix 52 (by decide +kernel)
            have f53 : a.tmps.getD 53 undef = .int .i64 n := hfix 53 (by decide +kernel)
            have f54 : a.tmps.getD 54 undef = .agg #[.int .i64 6, .int .i64 n] := hfix 54 (by decide +kernel)
            have f55 : a.tmps.getD 55 undef = .agg #[.int .i64 7, .int .i64 0] := hfix 55 (by decide +kernel)
            have f56 : a.tmps.getD 56 undef = .agg #[.int .i64 6, .int .i64 0] := hfix 56 (by decide +kernel)
            have f57 : a.tmps.getD 57 undef = .agg #[.int .i64 6, .int .i64 n, .int .i64 7, .int .i64 0, .int .i64 6, .int .i64 0] := hfix 57 (by decide +kernel)
            have f58 : a.tmps.getD 58 undef = .agg #[.int .i64 2, .int .i64 0, .int .i64 1, .int .i64 0, .int .i64 7, .int .i64 0, .int .i64 3, .int .i64 n, .int .i64 4, .int .i64 0, .int .i64 1, .int .i64 0, .int .i64 6, .int .i64 n, .int .i64 7, .int .i64 0, .int .i64 6, .int .i64 0] := hfix 58 (by decide +kernel)
            have f59 : a.tmps.getD 59 undef = .int .i64 (j : Int) := hfix 59 (by decide +kernel)
            have f60 : a.tmps.getD 60 undef = .bool true := hfix 60 (by decide +kernel)
            have f61 : a.tmps.getD 61 undef = u61 := hfix 61 (by decide +kernel)
            have f62 : a.tmps.getD 62 undef = u62 := hfix 62 (by decide +kernel)
            have f63 : a.tmps.getD 63 undef = .agg #[.int .i64 1, .int .i64 0, .int .i64 0, .int .i64 v] := hfix 63 (by decide +kernel)
            have f84 : a.tmps.getD 84 undef = u84 := hfix 84 (by decide +kernel)
            have f85 : a.tmps.getD 85 undef = u85 := hfix 85 (by decide +kernel)
            have f86 : a.tmps.getD 86 undef = u86 := hfix 86 (by decide +kernel)
            have f80 : a.tmps.getD 80 undef = .int .i64 0 := (hT 12 _ 80 rfl rfl).2 (by decide) _ rfl
            obtain ⟨b, f11, hb, hc⟩ := (hT 13 _ 11 rfl rfl).1 rfl
            rw [frame_lit a 87 hsz hd]
            clear hfix hT hsz hd
            simp only [List.range, List.range.loop, List.map]
            generalize a.tmps = t at *
            simp only [f0, f1, f2, f3, f4, f5, f6, f7, f8, f9, f10, f13, f14, f15, f16, f17, f18, f19, f20, f21, f22, f23, f24, f25, f26, f27, f28, f29, f30, f31, f32, f33, f34, f35, f36, f37, f38, f39, f40, f41, f42, f43, f44, f45, f46, f47, f48, f49, f50, f51, f52, f53, f54, f55, f56, f57, f58, f59, f60, f61, f62, f63, f84, f85, f86, f80, f11]
            clear f0 f1 f2 f3 f4 f5 f6 f7 f8 f9 f10 f13 f14 f15 f16 f17 f18 f19 f20 f21 f22 f23 f24 f25 f26 f27 f28 f29 f30 f31 f32 f33 f34 f35 f36 f37 f38 f39 f40 f41 f42 f43 f44 f45 f46 f47 f48 f49 f50 f51 f52 f53 f54 f55 f56 f57 f58 f59 f60 f61 f62 f63 f84 f85 f86 f80 f11
            replace hc := Lib.hid hc
            replace hc : Hid (W.heap[b]? = some (.cells #[.int .i64 (sS j (q + 1)), .int .i64 (sD n now j (q + 1)), .int .i64 (sE n j (q + 1)), .int .i64 v] 23 (0, 0))) := Lib.hid hc.out
            obtain ⟨c0, c1, c2, c3⟩ := At.cells (W := W) (a := b) (s := sS j (q + 1)) (d := sD n now j (q + 1)) (e := sE n j (q + 1)) (v := v) hc.out
            have HMW := Lib.hid ((hWI.block bm HMl.out).trans HM.out)
            have HLW := Lib.hid (HL.out.below hWI)
            have HWW := Lib.hid ((hWI.block rb HWl.out).trans HW.out)
            have HBW := Lib.hid (HB.out.trans (hWI.mono HB.out.size))
            have J2 := Lib.hid (show (#[.int .i64 (sS j q), .int .i64 (sD n now j q), .int .i64 (sE n j q), .int .i64 v] : Array Value).size = (#[.int .i64 (sS j (q + 1)), .int .i64 (sD n now j (q + 1)), .int .i64 (sE n j (q + 1)), .int .i64 v] : Array Value).size from rfl)
            have J3 := Lib.hid (show (Try.prog.info? 23).map (·.size) = some (#[.int .i64 (sS j (q + 1)), .int .i64 (sD n now j (q + 1)), .int .i64 (sE n j (q + 1)), .int .i64 v] : Array Value).size from i23)
            clear hb hc
            go_wp2_with (with_reducible refine wpList_put 23 bm _ _ rfl rfl HMW.out J3.out J2.out J1.out ?_)
            intro w5 hg hgr
            have HM5 : Hid (At w5 bm (sS j (q + 1)) (sD n now j (q + 1)) (sE n j (q + 1)) v) := Lib.hid hg
            have HL5 : Hid (At w5 w.heap.size 1 0 0 v) := Lib.hid ((hgr.block w.heap.size (Array.getElem?_eq_some_iff.1 HLW.out).1 (fun e => by have := Option.some.inj e; have := HLB.out; omega)).trans HLW.out)
            have HW5 := Lib.hid ((hgr.block rb (Array.getElem?_eq_some_iff.1 HWW.out).1 (fun e => by have := Option.some.inj e; have := HRB.out; omega)).trans HWW.out)
            have HB5 := Lib.hid (below_put HBW.out hgr HBW.out.size (Nat.le_of_lt HLB.out))
            clear hg hgr c0 c1 c2 c3
            go_wp2
            go_roundw
            case rel => exact ⟨q + 1, by omega, by go_num, HM5, HL5, HW5, HB5⟩
            case measure => simp [intOf]; omega
        · obtain rfl : q = 3 := by omega
          obtain ⟨s3, s4, s5⟩ := HE.out
          rw [s3, s4, s5] at HM
          obtain ⟨c0, c1, c2, c3⟩ := HM.out.cells
          obtain ⟨d0, d1, d2, d3⟩ := HL.out.cells
          clear s3 s4 s5 HM
          go_wp2
          go_roundw
          case rel => exact ⟨j + 1, by omega, by go_num, HL, HW, HB⟩
          case measure => simp [intOf]; omega
    · obtain rfl : j = 3 := by omega
      go_wp2
      go_ret
      exact ⟨rfl, HB.out⟩
end Go.Proofs.Ytbaheeofdelbhaa

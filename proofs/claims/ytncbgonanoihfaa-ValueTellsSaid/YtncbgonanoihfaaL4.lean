/- The walk of ValueTells. No condition. -/
import Derived.Test.YtncbgonanoihfaaF7
namespace Go.Proofs.Ytncbgonanoihfaa
open Go.RowKit Go.Own
set_option maxRecDepth 100000 in
set_option maxHeartbeats 1000000 in
theorem tells_skip (x : V) (q : ByteArray) (v : Value) (w : World) (hq : q.size ≤ 9223372036854775807) (hv : Holds w v x) (h : fewV x 0 = false ∨ (fewV x 0 = true ∧ 3000 < q.size)) : Calls Try.prog 3 #[v, .string q] w (SameQ true w) := by
  obtain ⟨c0, c1, c2, c3, c4, rfl⟩ := VAt.five hv
  have HA := Lib.hid (fun w => awake_any w)
  have HB0 : Hid (Below w.heap.size w (w.alloc (.cells #[c0, c1, c2, c3, c4] 24))) := Lib.hid ((Below.refl _ w).alloc (Nat.le_refl _) _)
  have HX0 : Hid (Box5 (w.alloc (.cells #[c0, c1, c2, c3, c4] 24)) w.heap.size c0 c1 c2 c3 c4) := Lib.hid (box5_new w _ _ _ _ _ _)
  have HFX := Lib.hid (fun W (hb : Below w.heap.size w W) => few_any x 0 _ W (by omega) (hv.below hb))
  clear hv
  rcases h with h | ⟨h, h2⟩
  · rw [h] at HFX
    clear h
    go_enter Try.func3, Try.ntmps3
    go_wp2_with (go_at_call 7; fail)
    refine (HA.out _).mono ?_
    rintro e w1 ⟨rfl, hb1⟩
    have HB1 := Lib.hid (HB0.out.trans (hb1.mono HB0.out.size))
    obtain ⟨_, e0, e1, e2, e3, e4⟩ := HX0.out.below hb1
    clear hb1
    go_wp2_with (go_at_call 8; fail)
    refine (HFX.out _ HB1.out).mono ?_
    rintro e w2 ⟨rfl, hb2⟩
    have HB2 := Lib.hid (HB1.out.trans (hb2.mono HB1.out.size))
    clear hb2
    go_wp2
    go_ret
    exact ⟨rfl, HB2.out⟩
  · rw [h] at HFX
    have d1 : decide ((3000 : Int) < (q.size : Int)) = true := by simp; omega
    clear h h2
    go_enter Try.func3, Try.ntmps3
    go_wp2_with (go_at_call 7; fail)
    refine (HA.out _).mono ?_
    rintro e w1 ⟨rfl, hb1⟩
    have HB1 := Lib.hid (HB0.out.trans (hb1.mono HB0.out.size))
    obtain ⟨_, e0, e1, e2, e3, e4⟩ := HX0.out.below hb1
    clear hb1
    go_wp2_with (go_at_call 8; fail)
    refine (HFX.out _ HB1.out).mono ?_
    rintro e w2 ⟨rfl, hb2⟩
    have HB2 := Lib.hid (HB1.out.trans (hb2.mono HB1.out.size))
    clear hb2
    go_wp2
    go_ret
    exact ⟨rfl, HB2.out⟩
def T3 (q : ByteArray) (v9 rv : Value) (y : V) : Nat → Value → World → Prop
  | 0, v, _ => v = .int .i64 0
  | 1, v, _ => v = .bool true
  | 2, v, _ => v = .bool true
  | 3, v, _ => v = .string q
  | 4, v, _ => v = .string q
  | 5, v, _ => v = .bool true
  | 6, v, _ => v = .bool true
  | 7, v, _ => v = .bool true
  | 8, v, _ => v = v9
  | 9, v, W => Holds W v y
  | 10, v, _ => v = rv
  | 11, v, _ => v = .bool true
  | 12, v, _ => v = .bool true
  | 13, v, _ => v = .bool true
  | _ + 14, _, _ => True
theorem T3.last {q : ByteArray} {v9 rv : Value} {y : V} : ∀ (i : Nat) (v : Value) (W W' : World), T3 q v9 rv y i v W → Below W.heap.size W W' → T3 q v9 rv y i v W'
  | 0, _, _, _, h, _ => h
  | 1, _, _, _, h, _ => h
  | 2, _, _, _, h, _ => h
  | 3, _, _, _, h, _ => h
  | 4, _, _, _, h, _ => h
  | 5, _, _, _, h, _ => h
  | 6, _, _, _, h, _ => h
  | 7, _, _, _, h, _ => h
  | 8, _, _, _, h, _ => h
  | 9, _, _, _, h, hb => Holds.below h hb
  | 10, _, _, _, h, _ => h
  | 11, _, _, _, h, _ => h
  | 12, _, _, _, h, _ => h
  | 13, _, _, _, h, _ => h
  | _ + 14, _, _, _, _, _ => trivial
set_option maxRecDepth 100000 in
set_option maxHeartbeats 4000000 in
theorem tells_go (x : V) (L : List Nat) (hb : ∀ c ∈ L, c < 256) (hL : L.length ≤ 3000) (v : Value) (w : World) (hv : Holds w v x) (hx : fewV x 0 = true) : Calls Try.prog 3 #[v, .string (mkS L)] w (SameQ true w) := by
  obtain ⟨c0, c1, c2, c3, c4, rfl⟩ := VAt.five hv
  have HA := Lib.hid (fun w => awake_any w)
  have HB0 : Hid (Below w.heap.size w (w.alloc (.cells #[c0, c1, c2, c3, c4] 24))) := Lib.hid ((Below.refl _ w).alloc (Nat.le_refl _) _)
  have HX0 : Hid (Box5 (w.alloc (.cells #[c0, c1, c2, c3, c4] 24)) w.heap.size c0 c1 c2 c3 c4) := Lib.hid (box5_new w _ _ _ _ _ _)
  have HFX := Lib.hid (fun W (hb : Below w.heap.size w W) => few_any x 0 _ W (by omega) (hv.below hb))
  rw [hx] at HFX
  have HOX := Lib.hid (fun W (hb : Below w.heap.size w W) => of_any x 0 _ W hx (hv.below hb))
  have hsz := sz_top _ 0 (by omega) hx
  have HPX := Lib.hid (fun v W (h : Has W v (ofV x)) => print_any (ofV x) v W h (by omega))
  have HRX := Lib.hid (fun W (hb : Below w.heap.size w W) => rprint_any x _ W hx (hv.below hb))
  have HPA := Lib.hid (fun W => parse_any L hb W)
  have HRP := Lib.hid (fun W => rparse_any L hb hL W)
  have HTO := Lib.hid (fun a ha v W hv => told_of L hb hL a ha v W hv)
  have HPV : Hid (∀ a, pa L = some a → ∀ v W, Has W v a → Calls Try.prog 9 #[v] W fun e w' => e = .returned (.tuple #[.string (mkS L), .int .i64 0]) ∧ Below W.heap.size W w') := Lib.hid (fun a ha v W hv => by
    obtain ⟨hwt, he, _⟩ := pa_was hb ha
    have hsz : sz a 0 ≤ 140737488355328 := by rw [← pr_sz a 0 he, ← hwt]; omega
    have hpt : prt a = mkS L := by rw [prt, if_pos he, ← hwt]
    have h := print_any a v W hv hsz
    unfold PrintQ at h
    rw [he, hpt] at h
    exact h)
  unfold PrintQ at HPX HRX
  obtain ⟨P, hP⟩ : ∃ P, prt (ofV x) = P := ⟨_, rfl⟩
  obtain ⟨E, hE⟩ : ∃ E, er (ofV x) 0 = E := ⟨_, rfl⟩
  rw [hP, hE] at HPX HRX
  obtain ⟨r, hr⟩ : ∃ r, pa L = r := ⟨_, rfl⟩
  rw [hr] at HPA HRP HTO HPV
  obtain ⟨q, hq⟩ : ∃ q, mkS L = q := ⟨_, rfl⟩
  have hz : q.size = L.length := by rw [← hq, mkS_size]
  rw [hq] at HPA HRP HPV ⊢
  obtain ⟨N, hN⟩ : ∃ n, L.length = n := ⟨_, rfl⟩
  rw [hN] at hz hL
  have d1 : decide ((3000 : Int) < (N : Int)) = false := by simp; omega
  clear hb hv hx hsz hP hE hr hq hN
  go_enter Try.func3, Try.ntmps3
  go_wp2_with (go_at_call 7; fail)
  refine (HA.out _).mono ?_
  rintro e w1 ⟨rfl, hb1⟩
  have HB1 := Lib.hid (HB0.out.trans (hb1.mono HB0.out.size))
  have HX1 := Lib.hid (HX0.out.below hb1)
  obtain ⟨_, e0, e1, e2, e3, e4⟩ := HX1.out
  clear hb1
  go_wp2_with (go_at_call 8; fail)
  refine (HFX.out _ HB1.out).mono ?_
  rintro e w2 ⟨rfl, hb2⟩
  have HB2 := Lib.hid (HB1.out.trans (hb2.mono HB1.out.size))
  have HX2 := Lib.hid (HX1.out.below hb2)
  clear hb2 e0 e1 e2 e3 e4
  obtain ⟨_, e0, e1, e2, e3, e4⟩ := HX2.out
  go_wp2_with (go_at_call 10; fail)
  refine (HOX.out _ HB2.out).mono ?_
  rintro e w3 ⟨r3, rfl, hr3, hb3⟩
  have HB3 := Lib.hid (HB2.out.trans (hb3.mono HB2.out.size))
  have HX3 := Lib.hid (HX2.out.below hb3)
  have HR3 := Lib.hid hr3.has
  clear hb3 hr3 e0 e1 e2 e3 e4
  go_wp2_with (go_at_call 9; fail)
  refine (HPX.out _ _ HR3.out).mono ?_
  rintro e w4 ⟨rfl, hb4⟩
  have HB4 := Lib.hid (HB3.out.trans (hb4.mono HB3.out.size))
  have HX4 := Lib.hid (HX3.out.below hb4)
  clear hb4
  obtain ⟨_, e0, e1, e2, e3, e4⟩ := HX4.out
  go_wp2_with (go_at_call 11; fail)
  refine (HRX.out _ HB4.out).mono ?_
  rintro e w5 ⟨rfl, hb5⟩
  have HB5 := Lib.hid (HB4.out.trans (hb5.mono HB4.out.size))
  clear hb5 e0 e1 e2 e3 e4
  go_wp2_with (go_at_call 12; fail)
  refine (HPA.out _).mono ?_
  intro e w6 hq6
  rcases hq6 with ⟨y, v6, rfl, rfl, hv6, hb6⟩ | ⟨rfl, rfl, hb6⟩
  · have HB6 := Lib.hid (HB5.out.trans (hb6.mono HB5.out.size))
    have HV6 := Lib.hid hv6
    have hform := hv6.form
    clear hb6 hv6
    go_wp2_with (go_at_call 13; fail)
    refine (HRP.out _).mono ?_
    intro e w7 hq7
    rcases hq7 with ⟨a', v7, ha', rfl, hv7, hb7⟩ | ⟨h, _⟩
    · obtain rfl : y = a' := Option.some.inj ha'
      have HB7 := Lib.hid (HB6.out.trans (hb7.mono HB6.out.size))
      have HV67 := Lib.hid (HV6.out.below hb7)
      have HV7 := Lib.hid hv7.holds
      obtain ⟨t0, t1, t2, t3, t4, rfl⟩ := VAt.five hv7
      have HON := Lib.hid hv7.ones
      clear hb7 hv7 ha'
      go_wp2_with (with_reducible refine wpList_put5 w7.heap.size _ _ _ _ _ _ _ _ _ _ rfl rfl (blk_new w7 #[.int .i64 0, .int .i64 0, .string { data := #[] }, .bool false, .slice none 0 0]) HON.out ?_)
      intro w8 hr8 hg8
      have hb8 := below_but hg8
      have HB8 := Lib.hid (HB7.out.trans (hb8.mono HB7.out.size))
      have HV68 := Lib.hid (HV67.out.below hb8)
      have HV78 := Lib.hid (HV7.out.below hb8)
      have HX8 : Hid (Box5 w8 w7.heap.size t0 t1 t2 t3 t4) := Lib.hid ⟨hr8.lt, hr8.cell 0, hr8.cell 1, hr8.cell 2, hr8.cell 3, hr8.cell 4⟩
      have HQ9 := Lib.hid (HPV.out y rfl v6 w8 HV68.out)
      clear hr8 hg8 hb8
      go_wp2_with (go_at_call 9; fail)
      refine HQ9.out.mono ?_
      rintro e w9 ⟨rfl, hb9⟩
      have HB9 := Lib.hid (HB8.out.trans (hb9.mono HB8.out.size))
      have HV69 := Lib.hid (HV68.out.below hb9)
      have HV79 := Lib.hid (HV78.out.below hb9)
      have HX9 := Lib.hid (HX8.out.below hb9)
      clear hb9
      go_wp2
      rename_i hK
      refine wp_region_fine (T3 q v6 (.agg #[t0, t1, t2, t3, t4]) (toV y)) (by kernel_rfl) (by kernel_rfl) T3.last ?_ ?_ ?_
      · intro i o j bb ho hg
        match i, ho with
        | 0, ho => simp only [List.getElem?_cons_zero, Option.some.injEq] at ho; subst ho; cases hg
        | 1, ho => simp only [List.getElem?_cons_zero, List.getElem?_cons_succ, Option.some.injEq] at ho; subst ho; cases hg
        | 2, ho => simp only [List.getElem?_cons_zero, List.getElem?_cons_succ, Option.some.injEq] at ho; subst ho; cases hg
        | 3, ho => simp only [List.getElem?_cons_zero, List.getElem?_cons_succ, Option.some.injEq] at ho; subst ho; simp only [Option.some.injEq, Prod.mk.injEq] at hg; obtain ⟨rfl, rfl⟩ := hg; exact fun v W h => h
        | 4, ho => simp only [List.getElem?_cons_zero, List.getElem?_cons_succ, Option.some.injEq] at ho; subst ho; simp only [Option.some.injEq, Prod.mk.injEq] at hg; obtain ⟨rfl, rfl⟩ := hg; exact fun v W h => h
        | 5, ho => simp only [List.getElem?_cons_zero, List.getElem?_cons_succ, Option.some.injEq] at ho; subst ho; simp only [Option.some.injEq, Prod.mk.injEq] at hg; obtain ⟨rfl, rfl⟩ := hg; exact fun v W h => h
        | 6, ho => simp only [List.getElem?_cons_zero, List.getElem?_cons_succ, Option.some.injEq] at ho; subst ho; cases hg
        | 7, ho => simp only [List.getElem?_cons_zero, List.getElem?_cons_succ, Option.some.injEq] at ho; subst ho; cases hg
        | 8, ho => simp only [List.getElem?_cons_zero, List.getElem?_cons_succ, Option.some.injEq] at ho; subst ho; simp only [Option.some.injEq, Prod.mk.injEq] at hg; obtain ⟨rfl, rfl⟩ := hg; exact fun v W h => h
        | 9, ho => simp only [List.getElem?_cons_zero, List.getElem?_cons_succ, Option.some.injEq] at ho; subst ho; simp only [Option.some.injEq, Prod.mk.injEq] at hg; obtain ⟨rfl, rfl⟩ := hg; exact fun v W h => h
        | 10, ho => simp only [List.getElem?_cons_zero, List.getElem?_cons_succ, Option.some.injEq] at ho; subst ho; simp only [Option.some.injEq, Prod.mk.injEq] at hg; obtain ⟨rfl, rfl⟩ := hg; exact fun v W h => h
        | 11, ho => simp only [List.getElem?_cons_zero, List.getElem?_cons_succ, Option.some.injEq] at ho; subst ho; simp only [Option.some.injEq, Prod.mk.injEq] at hg; obtain ⟨rfl, rfl⟩ := hg; exact fun v W h => h
        | 12, ho => simp only [List.getElem?_cons_zero, List.getElem?_cons_succ, Option.some.injEq] at ho; subst ho; cases hg
        | 13, ho => simp only [List.getElem?_cons_zero, List.getElem?_cons_succ, Option.some.injEq] at ho; subst ho; cases hg
        | i + 14, ho => simp at ho
      · intro i o ho a W hB hdep hfix
        match i, ho with
        | 0, ho =>
          simp only [List.getElem?_cons_zero, Option.some.injEq] at ho; subst ho
          exact lays_same (exec_move (hfix 14 (by decide +kernel))) rfl
        | 1, ho =>
          simp only [List.getElem?_cons_zero, List.getElem?_cons_succ, Option.some.injEq] at ho; subst ho
          have e1 : a.tmps.getD 68 undef = .int .i64 0 := hdep 0 _ 68 rfl rfl (by decide +kernel)
          exact lays_same (exec_eql0 (by decide) e1 rfl) rfl
        | 2, ho =>
          simp only [List.getElem?_cons_zero, List.getElem?_cons_succ, Option.some.injEq] at ho; subst ho
          have e1 : a.tmps.getD 69 undef = .bool true := hdep 1 _ 69 rfl rfl (by decide +kernel)
          exact lays_same (exec_move e1) rfl
        | 3, ho =>
          simp only [List.getElem?_cons_zero, List.getElem?_cons_succ, Option.some.injEq] at ho; subst ho
          exact lays_same (exec_move (hfix 13 (by decide +kernel))) rfl
        | 4, ho =>
          simp only [List.getElem?_cons_zero, List.getElem?_cons_succ, Option.some.injEq] at ho; subst ho
          exact lays_same (exec_move (hfix 1 (by decide +kernel))) rfl
        | 5, ho =>
          simp only [List.getElem?_cons_zero, List.getElem?_cons_succ, Option.some.injEq] at ho; subst ho
          have e1 : a.tmps.getD 71 undef = .string q := hdep 3 _ 71 rfl rfl (by decide +kernel)
          have e2 : a.tmps.getD 72 undef = .string q := hdep 4 _ 72 rfl rfl (by decide +kernel)
          exact lays_same (exec_eqls e1 e2) rfl
        | 6, ho =>
          simp only [List.getElem?_cons_zero, List.getElem?_cons_succ, Option.some.injEq] at ho; subst ho
          have e1 : a.tmps.getD 70 undef = .bool true := hdep 2 _ 70 rfl rfl (by decide +kernel)
          have e2 : a.tmps.getD 73 undef = .bool true := hdep 5 _ 73 rfl rfl (by decide +kernel)
          exact lays_same (exec_pick e1 e2) rfl
        | 7, ho =>
          simp only [List.getElem?_cons_zero, List.getElem?_cons_succ, Option.some.injEq] at ho; subst ho
          have e1 : a.tmps.getD 74 undef = .bool true := hdep 6 _ 74 rfl rfl (by decide +kernel)
          exact lays_same (exec_move e1) rfl
        | 8, ho =>
          simp only [List.getElem?_cons_zero, List.getElem?_cons_succ, Option.some.injEq] at ho; subst ho
          exact lays_same (exec_move (hfix 9 (by decide +kernel))) rfl
        | 9, ho =>
          simp only [List.getElem?_cons_zero, List.getElem?_cons_succ, Option.some.injEq] at ho; subst ho
          have e1 : a.tmps.getD 76 undef = v6 := hdep 8 _ 76 rfl rfl (by decide +kernel)
          exact lays_call #[v6] (by simp [Act.eval, e1]) (by kernel_rfl) (HTO.out y rfl v6 W (HV69.out.below hB))
        | 10, ho =>
          simp only [List.getElem?_cons_zero, List.getElem?_cons_succ, Option.some.injEq] at ho; subst ho
          exact lays_same (exec_load (hfix 11 (by decide +kernel)) (HX9.out.below hB).load) rfl
        | 11, ho =>
          simp only [List.getElem?_cons_zero, List.getElem?_cons_succ, Option.some.injEq] at ho; subst ho
          have e1 : Holds W (a.tmps.getD 77 undef) (toV y) := hdep 9 _ 77 rfl rfl (by decide +kernel)
          have e2 : a.tmps.getD 78 undef = .agg #[t0, t1, t2, t3, t4] := hdep 10 _ 78 rfl rfl (by decide +kernel)
          exact lays_call #[a.tmps.getD 77 undef, .agg #[t0, t1, t2, t3, t4]] (by simp [Act.eval, e2]) (by kernel_rfl) ((alike_any (toV y) _ _ W e1 (HV79.out.below hB)).mono fun e W' ⟨he, hb⟩ => ⟨_, he, hb, rfl⟩)
        | 12, ho =>
          simp only [List.getElem?_cons_zero, List.getElem?_cons_succ, Option.some.injEq] at ho; subst ho
          have e1 : a.tmps.getD 75 undef = .bool true := hdep 7 _ 75 rfl rfl (by decide +kernel)
          have e2 : a.tmps.getD 79 undef = .bool true := hdep 11 _ 79 rfl rfl (by decide +kernel)
          exact lays_same (exec_pick e1 e2) rfl
        | 13, ho =>
          simp only [List.getElem?_cons_zero, List.getElem?_cons_succ, Option.some.injEq] at ho; subst ho
          have e1 : a.tmps.getD 80 undef = .bool true := hdep 12 _ 80 rfl rfl (by decide +kernel)
          exact lays_same (exec_assign e1) rfl
        | i + 14, ho => simp at ho
      · intro a W hB hd hsz hfix hT
        have h4 : a.tmps.getD 4 undef = .bool true := hT 13 _ 4 rfl rfl
        have HB10 := Lib.hid (HB9.out.trans (hB.mono HB9.out.size))
        rw [frame_lit a 81 hsz hd]
        clear hfix hT hsz hd
        simp only [List.range, List.range.loop, List.map]
        generalize a.tmps = t at *
        rw [h4]
        refine hK _ _ ?_
        clear h4 hK
        go_wp2
        go_ret
        exact ⟨rfl, HB10.out⟩
    · cases h
  · have HB6 := Lib.hid (HB5.out.trans (hb6.mono HB5.out.size))
    clear hb6
    go_wp2_with (go_at_call 13; fail)
    refine (HRP.out _).mono ?_
    intro e w7 hq7
    rcases hq7 with ⟨a', v7, ha', _⟩ | ⟨_, rfl, hb7⟩
    · cases ha'
    · have HB7 := Lib.hid ((HB6.out.trans (hb7.mono HB6.out.size)).alloc (Nat.le_trans HB6.out.size hb7.size) (.cells #[.int .i64 0, .int .i64 0, .string { data := #[] }, .bool false, .slice none 0 0] 24))
      clear hb7
      go_wp2
      go_ret
      exact ⟨rfl, HB7.out⟩
theorem tells_any (x : V) (q : ByteArray) (v : Value) (w : World) (hq : q.size ≤ 9223372036854775807) (hv : Holds w v x) : Calls Try.prog 3 #[v, .string q] w (SameQ true w) := by
  cases hx : fewV x 0 with
  | false => exact tells_skip x q v w hq hv (Or.inl hx)
  | true =>
    by_cases h : 3000 < q.size
    · exact tells_skip x q v w hq hv (Or.inr ⟨hx, h⟩)
    · have hg := tells_go x (bys q) (bys_lt q) (by rw [bys_length]; omega) v w hv hx
      rw [mkS_bys] at hg
      exact hg
end Go.Proofs.Ytncbgonanoihfaa

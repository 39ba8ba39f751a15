/- The walk of ValueBack. No condition. -/
import Derived.Test.YtncbgonanoihfaaR4
import Derived.Test.YtncbgonanoihfaaD3
namespace Go.Proofs.Ytncbgonanoihfaa
open Go.RowKit Go.Own
set_option maxRecDepth 100000 in
set_option maxHeartbeats 1000000 in
theorem back_skip (x y : V) (v u : Value) (w : World) (hv : Holds w v x) (hu : Holds w u y) (h : fewV x 0 = false ∨ (fewV x 0 = true ∧ fewV y 0 = false)) : Calls Try.prog 5 #[v, u] w (SameQ true w) := by
  obtain ⟨c0, c1, c2, c3, c4, rfl⟩ := VAt.five hv
  obtain ⟨d0, d1, d2, d3, d4, rfl⟩ := VAt.five hu
  have HA := Lib.hid (fun w => awake_any w)
  have HB0 : Hid (Below w.heap.size w ((w.alloc (.cells #[c0, c1, c2, c3, c4] 24)).alloc (.cells #[d0, d1, d2, d3, d4] 24))) := Lib.hid (((Below.refl _ w).alloc (Nat.le_refl _) _).alloc (by simp) _)
  have HX0 : Hid (Box5 ((w.alloc (.cells #[c0, c1, c2, c3, c4] 24)).alloc (.cells #[d0, d1, d2, d3, d4] 24)) w.heap.size c0 c1 c2 c3 c4) := Lib.hid ((box5_new w _ _ _ _ _ _).below ((Below.refl _ _).alloc (Nat.le_refl _) _))
  have HY0 : Hid (Box5 ((w.alloc (.cells #[c0, c1, c2, c3, c4] 24)).alloc (.cells #[d0, d1, d2, d3, d4] 24)) (w.heap.size + 1) d0 d1 d2 d3 d4) := Lib.hid (by
    have h := box5_new (w.alloc (.cells #[c0, c1, c2, c3, c4] 24)) d0 d1 d2 d3 d4 24
    have hz : (w.alloc (.cells #[c0, c1, c2, c3, c4] 24)).heap.size = w.heap.size + 1 := by simp
    rw [hz] at h
    exact h)
  have HFX := Lib.hid (fun W (hb : Below w.heap.size w W) => few_any x 0 _ W (by omega) (hv.below hb))
  have HFY := Lib.hid (fun W (hb : Below w.heap.size w W) => few_any y 0 _ W (by omega) (hu.below hb))
  clear hv hu
  rcases h with h | ⟨h, h2⟩
  · rw [h] at HFX
    clear h
    go_enter Try.func5, Try.ntmps5
    go_wp2_with (go_at_call 7; fail)
    refine (HA.out _).mono ?_
    rintro e w1 ⟨rfl, hb1⟩
    have HB1 := Lib.hid (HB0.out.trans (hb1.mono HB0.out.size))
    obtain ⟨_, e0, e1, e2, e3, e4⟩ := HX0.out.below hb1
    clear hb1
    go_wp2_with (go_at_call 8; fail)
    refine (HFX.out _ HB1.out).mono ?_
    rintro e w2 ⟨rfl, hb2⟩
    have HB2 := Lib.hid (HB1.out.trans (hb2.mono HB1.out.size))
    clear hb2
    go_wp2
    go_ret
    exact ⟨rfl, HB2.out⟩
  · rw [h] at HFX
    rw [h2] at HFY
    clear h h2
    go_enter Try.func5, Try.ntmps5
    go_wp2_with (go_at_call 7; fail)
    refine (HA.out _).mono ?_
    rintro e w1 ⟨rfl, hb1⟩
    have HB1 := Lib.hid (HB0.out.trans (hb1.mono HB0.out.size))
    have HY1 := Lib.hid (HY0.out.below hb1)
    obtain ⟨_, e0, e1, e2, e3, e4⟩ := HX0.out.below hb1
    clear hb1
    go_wp2_with (go_at_call 8; fail)
    refine (HFX.out _ HB1.out).mono ?_
    rintro e w2 ⟨rfl, hb2⟩
    have HB2 := Lib.hid (HB1.out.trans (hb2.mono HB1.out.size))
    obtain ⟨_, f0, f1, f2, f3, f4⟩ := HY1.out.below hb2
    clear hb2 e0 e1 e2 e3 e4
    go_wp2_with (go_at_call 8; fail)
    refine (HFY.out _ HB2.out).mono ?_
    rintro e w3 ⟨rfl, hb3⟩
    have HB3 := Lib.hid (HB2.out.trans (hb3.mono HB2.out.size))
    clear hb3 f0 f1 f2 f3 f4
    go_wp2
    go_ret
    exact ⟨rfl, HB3.out⟩
theorem panics_any (k n : Int) (s : ByteArray) (b : Bool) (l : List V) (r : Value) (w : World) (hr : Has w r (ofV (.mk k n s b l))) (kb : Bool) (hk : (k == 2) = kb) : Calls Try.prog 22 #[r] w (SameQ (!kb) w) := by
  cases kb with
  | true =>
    have hk2 : k = 2 := by simpa using hk
    subst hk2
    rw [show ofV (.mk 2 n s b l) = .str s by simp [ofV]] at hr
    cases hr
    exact panics_no s w
  | false =>
    have hk2 : k ≠ 2 := by simpa using hk
    refine panics_yes r (pan_of hr fun s' h => ?_) w
    rcases kinds k with rfl | rfl | rfl | rfl | hk3
    · simp [ofV] at h
    · exact hk2 rfl
    · simp [ofV] at h
    · simp [ofV] at h
    · simp [ofV, hk3] at h
theorem ok_of_holds {w : World} {S : Nat → Prop} {v : Value} {x : V} (h : VAt w S v x) : okA (ofV x) := by
  induction h with
  | nil k n s b hk hn hs =>
    rcases kinds k with rfl | rfl | rfl | rfl | hk3 <;> simp [ofV, okA, ofVs, okAs, *]
  | empty k n s b hk hn hs a cap hcap =>
    rcases kinds k with rfl | rfl | rfl | rfl | hk3 <;> simp [ofV, okA, ofVs, okAs, *]
  | list k n s b hk hn hs g o m cap l U hm hS hb hle hcap hc ha ih =>
    rcases kinds k with rfl | rfl | rfl | rfl | hk3
    · simp [ofV, okA, hn]
    · simp [ofV, okA]
    · simp [ofV, okA]
    · rw [show ofV (.mk 4 n s b l) = .list (l.map ofV) by simp [ofV, ofVs_map]]
      rw [okA, okAs_all]
      intro x hx
      obtain ⟨y, hy, rfl⟩ := List.mem_map.1 hx
      obtain ⟨j, hj⟩ := List.getElem?_of_mem hy
      exact ih j y hj
    · simp [ofV, okA, hk3]
/-- The region that makes both values. -/
def T5 (x y : V) (c d : Value) : Nat → Value → World → Prop
  | 0, v, _ => v = c
  | 1, v, W => Has W v (ofV x)
  | 2, v, _ => v = d
  | 3, v, W => Has W v (ofV y)
  | 4, v, W => Has W v (ofV x)
  | 5, v, W => Has W v (ofV y)
  | _ + 6, _, _ => True
theorem T5.last {x y : V} {c d : Value} : ∀ (i : Nat) (v : Value) (W W' : World), T5 x y c d i v W → Below W.heap.size W W' → T5 x y c d i v W'
  | 0, _, _, _, h, _ => h
  | 1, _, _, _, h, hb => Has.below h hb
  | 2, _, _, _, h, _ => h
  | 3, _, _, _, h, hb => Has.below h hb
  | 4, _, _, _, h, hb => Has.below h hb
  | 5, _, _, _, h, hb => Has.below h hb
  | _ + 6, _, _, _, _, _ => trivial
set_option maxRecDepth 100000 in
set_option maxHeartbeats 4000000 in
theorem back_go (k n : Int) (s : ByteArray) (b : Bool) (l : List V) (y : V) (v u : Value) (w : World) (hv : Holds w v (.mk k n s b l)) (hu : Holds w u y) (hx : fewV (.mk k n s b l) 0 = true) (hy : fewV y 0 = true) : Calls Try.prog 5 #[v, u] w (SameQ true w) := by
  obtain ⟨p, cap, hp⟩ := VAt.parts hv
  obtain ⟨rfl, -, -, -, -, -, -⟩ := hp
  obtain ⟨d0, d1, d2, d3, d4, rfl⟩ := VAt.five hu
  have HA := Lib.hid (fun w => awake_any w)
  obtain ⟨m, hm⟩ : ∃ m, l.length = m := ⟨_, rfl⟩
  rw [hm] at hv ⊢
  have HB0 : Hid (Below w.heap.size w ((w.alloc (.cells #[.int .i64 k, .int .i64 n, .string s, .bool b, .slice p m cap] 24)).alloc (.cells #[d0, d1, d2, d3, d4] 24))) := Lib.hid (((Below.refl _ w).alloc (Nat.le_refl _) _).alloc (by simp) _)
  have HX0 : Hid (Box5 ((w.alloc (.cells #[.int .i64 k, .int .i64 n, .string s, .bool b, .slice p m cap] 24)).alloc (.cells #[d0, d1, d2, d3, d4] 24)) w.heap.size (.int .i64 k) (.int .i64 n) (.string s) (.bool b) (.slice p m cap)) := Lib.hid ((box5_new w _ _ _ _ _ _).below ((Below.refl _ _).alloc (Nat.le_refl _) _))
  have HY0 : Hid (Box5 ((w.alloc (.cells #[.int .i64 k, .int .i64 n, .string s, .bool b, .slice p m cap] 24)).alloc (.cells #[d0, d1, d2, d3, d4] 24)) (w.heap.size + 1) d0 d1 d2 d3 d4) := Lib.hid (by
    have h := box5_new (w.alloc (.cells #[.int .i64 k, .int .i64 n, .string s, .bool b, .slice p m cap] 24)) d0 d1 d2 d3 d4 24
    have hz : (w.alloc (.cells #[.int .i64 k, .int .i64 n, .string s, .bool b, .slice p m cap] 24)).heap.size = w.heap.size + 1 := by simp
    rw [hz] at h
    exact h)
  obtain ⟨kb, hkb⟩ : ∃ kb, (k == 2) = kb := ⟨_, rfl⟩
  have HPN := Lib.hid (fun r w hr => panics_any k n s b l r w hr kb hkb)
  have HS0 := Lib.hid (sz_top _ 0 (by omega) hx)
  have HS1 := Lib.hid (sz_top _ 0 (by omega) hy)
  obtain ⟨x, hxe⟩ : ∃ x, V.mk k n s b l = x := ⟨_, rfl⟩
  rw [hxe] at hv hx HPN HS0
  have HOK := Lib.hid (ok_of_holds hv)
  have HHV := Lib.hid hv
  have HHU := Lib.hid hu
  have HFX0 := Lib.hid hx
  have HFY0 := Lib.hid hy
  have HFX := Lib.hid (fun W (hb : Below w.heap.size w W) => few_any x 0 _ W (by omega) (hv.below hb))
  have HFY := Lib.hid (fun W (hb : Below w.heap.size w W) => few_any y 0 _ W (by omega) (hu.below hb))
  rw [hx] at HFX
  rw [hy] at HFY
  have HKB := Lib.hid hkb
  clear hv hu hx hy hxe hm hkb
  go_enter Try.func5, Try.ntmps5
  go_wp2_with (go_at_call 7; fail)
  refine (HA.out _).mono ?_
  rintro e w1 ⟨rfl, hb1⟩
  have HB1 := Lib.hid (HB0.out.trans (hb1.mono HB0.out.size))
  have HX1 := Lib.hid (HX0.out.below hb1)
  have HY1 := Lib.hid (HY0.out.below hb1)
  obtain ⟨_, e0, e1, e2, e3, e4⟩ := HX1.out
  clear hb1
  go_wp2_with (go_at_call 8; fail)
  refine (HFX.out _ HB1.out).mono ?_
  rintro e w2 ⟨rfl, hb2⟩
  have HB2 := Lib.hid (HB1.out.trans (hb2.mono HB1.out.size))
  have HX2 := Lib.hid (HX1.out.below hb2)
  have HY2 := Lib.hid (HY1.out.below hb2)
  obtain ⟨_, f0, f1, f2, f3, f4⟩ := HY2.out
  clear hb2 e0 e1 e2 e3 e4
  go_wp2_with (go_at_call 8; fail)
  refine (HFY.out _ HB2.out).mono ?_
  rintro e w3 ⟨rfl, hb3⟩
  have HB3 := Lib.hid (HB2.out.trans (hb3.mono HB2.out.size))
  have HX3 := Lib.hid (HX2.out.below hb3)
  have HY3 := Lib.hid (HY2.out.below hb3)
  clear hb3 f0 f1 f2 f3 f4
  go_wp2
  rename_i Q' K hK
  refine wp_region_fine (T5 x y (.agg #[.int .i64 k, .int .i64 n, .string s, .bool b, .slice p m cap]) (.agg #[d0, d1, d2, d3, d4])) (by kernel_rfl) (by kernel_rfl) T5.last ?_ ?_ ?_
  · intro i o j bb ho hg
    match i, ho with
    | 0, ho => simp only [List.getElem?_cons_zero, Option.some.injEq] at ho; subst ho; cases hg
    | 1, ho => simp only [List.getElem?_cons_zero, List.getElem?_cons_succ, Option.some.injEq] at ho; subst ho; cases hg
    | 2, ho => simp only [List.getElem?_cons_zero, List.getElem?_cons_succ, Option.some.injEq] at ho; subst ho; cases hg
    | 3, ho => simp only [List.getElem?_cons_zero, List.getElem?_cons_succ, Option.some.injEq] at ho; subst ho; cases hg
    | 4, ho => simp only [List.getElem?_cons_zero, List.getElem?_cons_succ, Option.some.injEq] at ho; subst ho; cases hg
    | 5, ho => simp only [List.getElem?_cons_zero, List.getElem?_cons_succ, Option.some.injEq] at ho; subst ho; cases hg
    | i + 6, ho => simp at ho
  · intro i o ho a W hB hdep hfix
    have hBW := HB3.out.trans (hB.mono HB3.out.size)
    match i, ho with
    | 0, ho =>
      simp only [List.getElem?_cons_zero, Option.some.injEq] at ho
      subst ho
      exact lays_same (exec_load (hfix 2 (by decide +kernel)) (HX3.out.below hB).load) rfl
    | 1, ho =>
      simp only [List.getElem?_cons_zero, List.getElem?_cons_succ, Option.some.injEq] at ho
      subst ho
      have e1 : a.tmps.getD 23 undef = .agg #[.int .i64 k, .int .i64 n, .string s, .bool b, .slice p m cap] := hdep 0 _ 23 rfl rfl (by decide +kernel)
      exact lays_call #[.agg #[.int .i64 k, .int .i64 n, .string s, .bool b, .slice p m cap]] (by simp [Act.eval, e1]) (by kernel_rfl) (of_has HFX0.out (HHV.out.below hBW))
    | 2, ho =>
      simp only [List.getElem?_cons_zero, List.getElem?_cons_succ, Option.some.injEq] at ho
      subst ho
      exact lays_same (exec_load (hfix 3 (by decide +kernel)) (HY3.out.below hB).load) rfl
    | 3, ho =>
      simp only [List.getElem?_cons_zero, List.getElem?_cons_succ, Option.some.injEq] at ho
      subst ho
      have e1 : a.tmps.getD 25 undef = .agg #[d0, d1, d2, d3, d4] := hdep 2 _ 25 rfl rfl (by decide +kernel)
      exact lays_call #[.agg #[d0, d1, d2, d3, d4]] (by simp [Act.eval, e1]) (by kernel_rfl) (of_has HFY0.out (HHU.out.below hBW))
    | 4, ho =>
      simp only [List.getElem?_cons_zero, List.getElem?_cons_succ, Option.some.injEq] at ho
      subst ho
      have e1 : Has W (a.tmps.getD 24 undef) (ofV x) := hdep 1 _ 24 rfl rfl (by decide +kernel)
      exact lays_same (exec_assign rfl) e1
    | 5, ho =>
      simp only [List.getElem?_cons_zero, List.getElem?_cons_succ, Option.some.injEq] at ho
      subst ho
      have e1 : Has W (a.tmps.getD 26 undef) (ofV y) := hdep 3 _ 26 rfl rfl (by decide +kernel)
      exact lays_same (exec_assign rfl) e1
    | i + 6, ho => simp at ho
  · intro a W hB hd hsz hfix hT
    have h5 : Has W (a.tmps.getD 5 undef) (ofV x) := hT 4 _ 5 rfl rfl
    have h6 : Has W (a.tmps.getD 6 undef) (ofV y) := hT 5 _ 6 rfl rfl
    have HB4 := Lib.hid (HB3.out.trans (hB.mono HB3.out.size))
    have HX4 := Lib.hid (HX3.out.below hB)
    rw [frame_lit a 74 hsz hd]
    have f2 := hfix 2 (by decide +kernel)
    have f4 := hfix 4 (by decide +kernel)
    clear hfix hT hsz hd
    simp only [List.range, List.range.loop, List.map]
    generalize a.tmps = t at *
    rw [f2, f4]
    generalize t.getD 5 undef = v5 at *
    generalize t.getD 6 undef = v6 at *
    refine hK _ _ ?_
    clear f2 f4 hK
    have HV5 := Lib.hid h5
    have HV6 := Lib.hid h6
    have HPX := Lib.hid (fun W (h : Has W v5 (ofV x)) => print_any (ofV x) v5 W h (by have := HS0.out; omega))
    have HPY := Lib.hid (fun W (h : Has W v6 (ofV y)) => print_any (ofV y) v6 W h (by have := HS1.out; omega))
    have HSXY := Lib.hid (fun W (h : Has W v5 (ofV x)) (g : Has W v6 (ofV y)) => same_any (ofV x) (ofV y) v5 v6 W h g (by have := HS0.out; omega) (by have := HS1.out; omega))
    have HSXX := Lib.hid (fun W z (h : Has W v5 (ofV x)) (g : Has W z (ofV x)) => same_any (ofV x) (ofV x) v5 z W h g (by have := HS0.out; omega) (by have := HS0.out; omega))
    have HPA : Hid (er (ofV x) 0 = 0 → ∀ W, Calls Try.prog 12 #[.string (prt (ofV x))] W (ParseQ (some (ofV x)) W)) := Lib.hid (fun h W => by
      have h1 := parse_any (pr (ofV x)) (pr_lt _) W
      rw [pa_pr h HOK.out] at h1
      rw [prt, if_pos h]
      exact h1)
    have HPN5 := Lib.hid (fun W h => HPN.out v5 W h)
    have hsx : sameB (ofV x) (ofV x) = decide (er (ofV x) 0 = 0) := by simp [sameB]
    have hsy : sameB (ofV x) (ofV y) = (decide (er (ofV x) 0 = 0) && decide (er (ofV y) 0 = 0) && decide (prt (ofV x) = prt (ofV y))) := rfl
    unfold PrintQ at HPX HPY
    rw [hsy] at HSXY
    rw [hsx] at HSXX
    obtain ⟨X, hX⟩ : ∃ X, ofV x = X := ⟨_, rfl⟩
    obtain ⟨Y, hY⟩ : ∃ Y, ofV y = Y := ⟨_, rfl⟩
    rw [hX] at HV5 HPX HSXY HSXX HPA HPN5
    rw [hY] at HV6 HPY HSXY
    obtain ⟨c, hc⟩ : ∃ c, er X 0 = c := ⟨_, rfl⟩
    obtain ⟨d, hd⟩ : ∃ d, er Y 0 = d := ⟨_, rfl⟩
    obtain ⟨sx, hsx'⟩ : ∃ s, prt X = s := ⟨_, rfl⟩
    obtain ⟨sy, hsy'⟩ : ∃ s, prt Y = s := ⟨_, rfl⟩
    rw [hc, hsx'] at HPX HSXY HPA
    rw [hc] at HSXX
    rw [hd, hsy'] at HPY HSXY
    clear h5 h6 hsx hsy hX hY hc hd hsx' hsy' HPN
    go_wp2_with (go_at_call 9; fail)
    refine (HPX.out _ HV5.out).mono ?_
    rintro e w5 ⟨rfl, hb5⟩
    have HB5 := Lib.hid (HB4.out.trans (hb5.mono HB4.out.size))
    have HX5 := Lib.hid (HX4.out.below hb5)
    have HV55 := Lib.hid (HV5.out.below hb5)
    have HV65 := Lib.hid (HV6.out.below hb5)
    clear hb5
    go_wp2_with (go_at_call 9; fail)
    refine (HPY.out _ HV65.out).mono ?_
    rintro e w6 ⟨rfl, hb6⟩
    have HB6 := Lib.hid (HB5.out.trans (hb6.mono HB5.out.size))
    have HX6 := Lib.hid (HX5.out.below hb6)
    have HV56 := Lib.hid (HV55.out.below hb6)
    have HV66 := Lib.hid (HV65.out.below hb6)
    clear hb6
    have hcg : ∀ g : Gw w6, g.1.cell? ⟨w.heap.size, 0, none⟩ = some (.int .i64 k) := fun g => (HX6.out.below g.2).2.1
    have HR : Hid (∀ g : Gw w6, Calls Try.prog 22 #[v5] g.1 fun x w' => x = .returned (.bool (!kb)) ∧ Grew w6 w') := Lib.hid fun g => grew_call (HPN5.out g.1 (HV56.out.below g.2))
    have hk2 := HKB.out
    go_wp2
    refine wp_region_grew (by kernel_rfl) (by kernel_rfl) ?_
    repeat (go_big_quiet_step ((with_reducible exact HR.out _)))
    refine wpQuiet_nil ?_
    intro g
    clear hcg hk2
    have HB7 := Lib.hid (HB6.out.trans (g.2.mono HB6.out.size))
    have HV57 := Lib.hid (HV56.out.below g.2)
    have HV67 := Lib.hid (HV66.out.below g.2)
    obtain ⟨w7, hw7⟩ : ∃ w7, g.1 = w7 := ⟨_, rfl⟩
    rw [hw7] at HB7 HV57 HV67 ⊢
    clear hw7
    by_cases h1 : c = 0
    · subst h1
      by_cases h2 : d = 0
      · subst h2
        have HPA0 := Lib.hid (HPA.out rfl)
        have hdx : decide ((0 : Int) = 0) = true := rfl
        rw [hdx] at HSXX HSXY
        by_cases h3 : sx = sy
        · subst h3
          have hse : (true && true && decide (sx = sx)) = true := by simp
          rw [hse] at HSXY
          clear hse hdx
          go_wp2_with (go_at_call 12; fail)
          refine (HPA0.out _).mono ?_
          intro e w8 hq
          rcases hq with ⟨a, z, ha, rfl, hz8, hb8⟩ | ⟨h, _⟩
          · cases ha
            have HB8 := Lib.hid (HB7.out.trans (hb8.mono HB7.out.size))
            have HV58 := Lib.hid (HV57.out.below hb8)
            have HV68 := Lib.hid (HV67.out.below hb8)
            have HZ8 := Lib.hid hz8
            clear hb8 hz8
            go_wp2_with (go_at_call 23; fail)
            refine (HSXX.out _ _ HV58.out HZ8.out).mono ?_
            rintro e w9 ⟨rfl, hb9⟩
            have HB9 := Lib.hid (HB8.out.trans (hb9.mono HB8.out.size))
            have HV59 := Lib.hid (HV58.out.below hb9)
            have HV69 := Lib.hid (HV68.out.below hb9)
            clear hb9
            go_wp2_with (go_at_call 23; fail)
            refine (HSXY.out _ HV59.out HV69.out).mono ?_
            rintro e w10 ⟨rfl, hb10⟩
            have HB10 := Lib.hid (HB9.out.trans (hb10.mono HB9.out.size))
            clear hb10
            go_wp2
            go_ret
            exact ⟨rfl, HB10.out⟩
          · cases h
        · have hse : (true && true && decide (sx = sy)) = false := by simp [h3]
          rw [hse] at HSXY
          have hne := str_ff h3
          clear hse hdx h3
          go_wp2_with (go_at_call 12; fail)
          refine (HPA0.out _).mono ?_
          intro e w8 hq
          rcases hq with ⟨a, z, ha, rfl, hz8, hb8⟩ | ⟨h, _⟩
          · cases ha
            have HB8 := Lib.hid (HB7.out.trans (hb8.mono HB7.out.size))
            have HV58 := Lib.hid (HV57.out.below hb8)
            have HV68 := Lib.hid (HV67.out.below hb8)
            have HZ8 := Lib.hid hz8
            clear hb8 hz8
            go_wp2_with (go_at_call 23; fail)
            refine (HSXX.out _ _ HV58.out HZ8.out).mono ?_
            rintro e w9 ⟨rfl, hb9⟩
            have HB9 := Lib.hid (HB8.out.trans (hb9.mono HB8.out.size))
            have HV59 := Lib.hid (HV58.out.below hb9)
            have HV69 := Lib.hid (HV68.out.below hb9)
            clear hb9
            go_wp2_with (go_at_call 23; fail)
            refine (HSXY.out _ HV59.out HV69.out).mono ?_
            rintro e w10 ⟨rfl, hb10⟩
            have HB10 := Lib.hid (HB9.out.trans (hb10.mono HB9.out.size))
            clear hb10
            go_wp2
            go_ret
            exact ⟨rfl, HB10.out⟩
          · cases h
      · have hse : (decide ((0 : Int) = 0) && decide (d = 0) && decide (sx = sy)) = false := by simp [h2]
        rw [hse] at HSXY
        have e1 : (d != 0) = true := by simp [h2]
        have e2 : (d == 0) = false := by simp [h2]
        clear hse h2
        go_wp2_with (go_at_call 23; fail)
        refine (HSXY.out _ HV57.out HV67.out).mono ?_
        rintro e w10 ⟨rfl, hb10⟩
        have HB10 := Lib.hid (HB7.out.trans (hb10.mono HB7.out.size))
        clear hb10
        go_wp2
        go_ret
        exact ⟨rfl, HB10.out⟩
    · have hse : (decide (c = 0) && decide (d = 0) && decide (sx = sy)) = false := by simp [h1]
      rw [hse] at HSXY
      have e1 : (c != 0) = true := by simp [h1]
      have e2 : (c == 0) = false := by simp [h1]
      clear hse h1
      go_wp2_with (go_at_call 23; fail)
      refine (HSXY.out _ HV57.out HV67.out).mono ?_
      rintro e w10 ⟨rfl, hb10⟩
      have HB10 := Lib.hid (HB7.out.trans (hb10.mono HB7.out.size))
      clear hb10
      go_wp2
      go_ret
      exact ⟨rfl, HB10.out⟩
theorem back_any (x y : V) (v u : Value) (w : World) (hv : Holds w v x) (hu : Holds w u y) : Calls Try.prog 5 #[v, u] w (SameQ true w) := by
  cases hx : fewV x 0 with
  | false => exact back_skip x y v u w hv hu (Or.inl hx)
  | true =>
    cases hy : fewV y 0 with
    | false => exact back_skip x y v u w hv hu (Or.inr ⟨hx, hy⟩)
    | true =>
      obtain ⟨k, n, s, b, l⟩ := x
      exact back_go k n s b l y v u w hv hu hx hy
end Go.Proofs.Ytncbgonanoihfaa

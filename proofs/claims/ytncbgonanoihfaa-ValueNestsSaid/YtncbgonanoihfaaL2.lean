/- The walk of ValueNests. No condition. -/
import Derived.Test.YtncbgonanoihfaaR5
import Derived.Test.YtncbgonanoihfaaL1
namespace Go.Own
theorem sz_one_top (v : V) (hv : fewV v 1 = true) : sz (ofV v) 1 ≤ 1000000000000 :=
  Nat.le_trans (sz_bnd v 7 1 rfl hv) (by decide +kernel)
theorem er_one (x : A) : er (.list [x]) 0 = er x 1 := by
  rw [er, if_neg (by simp), ers, ers]
  split <;> simp_all
theorem er_two (x y : A) : er (.list [x, y]) 0 = if er x 1 = 0 then er y 1 else er x 1 := by
  rw [er, if_neg (by simp), ers, ers, ers]
  split <;> simp_all
theorem pr_one (x : A) : pr (.list [x]) = 108 :: 1 :: pr x := by simp [pr, prs, be]
theorem pr_two (x y : A) : pr (.list [x, y]) = 108 :: 2 :: (pr x ++ pr y) := by simp [pr, prs, be]
theorem sz_one (x : A) : sz (.list [x]) 0 = 2 + sz x 1 := by
  rw [sz, if_neg (by simp), szs, szs]; rfl
theorem sz_two (x y : A) : sz (.list [x, y]) 0 = 2 + (sz x 1 + sz y 1) := by
  rw [sz, if_neg (by simp), szs, szs, szs]; rfl
theorem sz_mono (x : A) (d : Nat) (h : er x d = 0) : sz x 0 = sz x d := by
  rw [← pr_sz x d h, ← pr_sz x 0 (er_mono x d 0 (by omega) h)]
end Go.Own
namespace Go.Proofs.Ytncbgonanoihfaa
open Go.RowKit Go.Own
set_option maxRecDepth 100000 in
set_option maxHeartbeats 1000000 in
theorem nests_skip (x y : V) (v u : Value) (w : World) (hv : Holds w v x) (hu : Holds w u y) (h : fewV x 1 = false ∨ (fewV x 1 = true ∧ fewV y 1 = false)) : Calls Try.prog 6 #[v, u] w (SameQ true w) := by
  obtain ⟨c0, c1, c2, c3, c4, rfl⟩ := VAt.five hv
  obtain ⟨d0, d1, d2, d3, d4, rfl⟩ := VAt.five hu
  have HA := Lib.hid (fun w => awake_any w)
  have HB0 : Hid (Below w.heap.size w ((w.alloc (.cells #[c0, c1, c2, c3, c4] 24)).alloc (.cells #[d0, d1, d2, d3, d4] 24))) := Lib.hid (((Below.refl _ w).alloc (Nat.le_refl _) _).alloc (by simp) _)
  have HX0 : Hid (Box5 ((w.alloc (.cells #[c0, c1, c2, c3, c4] 24)).alloc (.cells #[d0, d1, d2, d3, d4] 24)) w.heap.size c0 c1 c2 c3 c4) := Lib.hid ((box5_new w _ _ _ _ _ _).below ((Below.refl _ _).alloc (Nat.le_refl _) _))
  have HY0 : Hid (Box5 ((w.alloc (.cells #[c0, c1, c2, c3, c4] 24)).alloc (.cells #[d0, d1, d2, d3, d4] 24)) (w.heap.size + 1) d0 d1 d2 d3 d4) := Lib.hid (by
    have h := box5_new (w.alloc (.cells #[c0, c1, c2, c3, c4] 24)) d0 d1 d2 d3 d4 24
    have hz : (w.alloc (.cells #[c0, c1, c2, c3, c4] 24)).heap.size = w.heap.size + 1 := by simp
    rw [hz] at h
    exact h)
  have HFX : Hid (∀ W, Below w.heap.size w W → Calls Try.prog 8 #[.agg #[c0, c1, c2, c3, c4], .int .i64 1] W (FewQ (fewV x 1) W)) := Lib.hid (fun W hb => few_any x 1 _ W (by omega) (hv.below hb))
  have HFY : Hid (∀ W, Below w.heap.size w W → Calls Try.prog 8 #[.agg #[d0, d1, d2, d3, d4], .int .i64 1] W (FewQ (fewV y 1) W)) := Lib.hid (fun W hb => few_any y 1 _ W (by omega) (hu.below hb))
  clear hv hu
  rcases h with h | ⟨h, h2⟩
  · rw [h] at HFX
    clear h
    go_enter Try.func6, Try.ntmps6
    go_wp2_with (go_at_call 7; fail)
    refine (HA.out _).mono ?_
    rintro e w1 ⟨rfl, hb1⟩
    have HB1 := Lib.hid (HB0.out.trans (hb1.mono HB0.out.size))
    obtain ⟨_, e0, e1, e2, e3, e4⟩ := HX0.out.below hb1
    clear hb1
    go_wp2_with (go_at_call 8; fail)
    refine (HFX.out _ HB1.out).mono ?_
    rintro e w2 ⟨rfl, hb2⟩
    have HB2 := Lib.hid (HB1.out.trans (hb2.mono HB1.out.size))
    clear hb2
    go_wp2
    go_ret
    exact ⟨rfl, HB2.out⟩
  · rw [h] at HFX
    rw [h2] at HFY
    clear h h2
    go_enter Try.func6, Try.ntmps6
    go_wp2_with (go_at_call 7; fail)
    refine (HA.out _).mono ?_
    rintro e w1 ⟨rfl, hb1⟩
    have HB1 := Lib.hid (HB0.out.trans (hb1.mono HB0.out.size))
    have HY1 := Lib.hid (HY0.out.below hb1)
    obtain ⟨_, e0, e1, e2, e3, e4⟩ := HX0.out.below hb1
    clear hb1
    go_wp2_with (go_at_call 8; fail)
    refine (HFX.out _ HB1.out).mono ?_
    rintro e w2 ⟨rfl, hb2⟩
    have HB2 := Lib.hid (HB1.out.trans (hb2.mono HB1.out.size))
    obtain ⟨_, f0, f1, f2, f3, f4⟩ := HY1.out.below hb2
    clear hb2 e0 e1 e2 e3 e4
    go_wp2_with (go_at_call 8; fail)
    refine (HFY.out _ HB2.out).mono ?_
    rintro e w3 ⟨rfl, hb3⟩
    have HB3 := Lib.hid (HB2.out.trans (hb3.mono HB2.out.size))
    clear hb3 f0 f1 f2 f3 f4
    go_wp2
    go_ret
    exact ⟨rfl, HB3.out⟩
def T7 (X Y : A) (c d : Value) (t : ByteArray) (z : Int) : Nat → Value → World → Prop
  | 0, v, _ => v = c
  | 1, v, W => Has W v X
  | 2, v, _ => v = d
  | 3, v, W => Has W v Y
  | 4, v, W => Has W (.iface 48 v) (.list [X, Y])
  | 5, v, W => Has W v (.list [X, Y])
  | 6, v, _ => v = .tuple #[.string t, .int .i64 z]
  | 7, v, _ => v = .tuple #[.string t, .int .i64 z]
  | 8, v, _ => v = .string t
  | 9, v, _ => v = .int .i64 z
  | 10, v, _ => v = .string t
  | 11, v, _ => v = .int .i64 z
  | _ + 12, _, _ => True
theorem T7.last {X Y : A} {c d : Value} {t : ByteArray} {z : Int} : ∀ (i : Nat) (v : Value) (W W' : World), T7 X Y c d t z i v W → Below W.heap.size W W' → T7 X Y c d t z i v W'
  | 0, _, _, _, h, _ => h
  | 1, _, _, _, h, hb => Has.below h hb
  | 2, _, _, _, h, _ => h
  | 3, _, _, _, h, hb => Has.below h hb
  | 4, _, _, _, h, hb => Has.below h hb
  | 5, _, _, _, h, hb => Has.below h hb
  | 6, _, _, _, h, _ => h
  | 7, _, _, _, h, _ => h
  | 8, _, _, _, h, _ => h
  | 9, _, _, _, h, _ => h
  | 10, _, _, _, h, _ => h
  | 11, _, _, _, h, _ => h
  | _ + 12, _, _, _, _, _ => trivial
def T12 (X Y : A) (c d : Value) (s1 s2 s3 q1 q2 q3 : ByteArray) (b o cp : Nat) (u0 u1 : Value) : Nat → Value → World → Prop
  | 0, v, _ => v = .int .i64 0
  | 1, v, _ => v = .bool true
  | 2, v, _ => v = .bool true
  | 3, v, _ => v = .string s3
  | 4, v, _ => v = .string s1
  | 5, v, _ => v = .string q1
  | 6, v, _ => v = .string q2
  | 7, v, _ => v = .string s2
  | 8, v, _ => v = .string q3
  | 9, v, _ => v = .string s3
  | 10, v, _ => v = .bool true
  | 11, v, _ => v = .bool true
  | 12, v, _ => v = .bool true
  | 13, v, _ => v = .string s1
  | 14, v, _ => v = .string { data := #[108, 1] }
  | 15, v, _ => v = .bool true
  | 16, v, _ => v = .bool true
  | 17, v, _ => v = .bool true
  | 18, v, _ => v = .int .i64 0
  | 19, v, _ => v = .bool true
  | 20, v, _ => v = .bool true
  | 21, v, _ => v = .bool true
  | 22, v, _ => v = .int .i64 0
  | 23, v, _ => v = .bool true
  | 24, v, _ => v = .bool true
  | 25, v, _ => v = .bool true
  | 26, v, _ => v = .slice (some ⟨b, o, none⟩) 2 cp
  | 27, v, _ => v = .int .i64 2
  | 28, v, _ => v = .bool true
  | 29, v, _ => v = .bool true
  | 30, v, _ => v = .bool true
  | 31, v, _ => v = .slice (some ⟨b, o, none⟩) 2 cp
  | 32, v, _ => v = .pointer (some ⟨b, o + 0, none⟩)
  | 33, v, _ => v = u0
  | 34, v, _ => v = c
  | 35, v, W => Has W v X
  | 36, v, _ => v = .bool true
  | 37, v, _ => v = .bool true
  | 38, v, _ => v = .bool true
  | 39, v, _ => v = .slice (some ⟨b, o, none⟩) 2 cp
  | 40, v, _ => v = .pointer (some ⟨b, o + 1, none⟩)
  | 41, v, _ => v = u1
  | 42, v, _ => v = d
  | 43, v, W => Has W v Y
  | 44, v, _ => v = .bool true
  | 45, v, _ => v = .bool true
  | 46, v, _ => v = .bool true
  | _ + 47, _, _ => True
theorem T12.last {X Y : A} {c d : Value} {s1 s2 s3 q1 q2 q3 : ByteArray} {b o cp : Nat} {u0 u1 : Value} : ∀ (i : Nat) (v : Value) (W W' : World), T12 X Y c d s1 s2 s3 q1 q2 q3 b o cp u0 u1 i v W → Below W.heap.size W W' → T12 X Y c d s1 s2 s3 q1 q2 q3 b o cp u0 u1 i v W'
  | 0, _, _, _, h, _ => h
  | 1, _, _, _, h, _ => h
  | 2, _, _, _, h, _ => h
  | 3, _, _, _, h, _ => h
  | 4, _, _, _, h, _ => h
  | 5, _, _, _, h, _ => h
  | 6, _, _, _, h, _ => h
  | 7, _, _, _, h, _ => h
  | 8, _, _, _, h, _ => h
  | 9, _, _, _, h, _ => h
  | 10, _, _, _, h, _ => h
  | 11, _, _, _, h, _ => h
  | 12, _, _, _, h, _ => h
  | 13, _, _, _, h, _ => h
  | 14, _, _, _, h, _ => h
  | 15, _, _, _, h, _ => h
  | 16, _, _, _, h, _ => h
  | 17, _, _, _, h, _ => h
  | 18, _, _, _, h, _ => h
  | 19, _, _, _, h, _ => h
  | 20, _, _, _, h, _ => h
  | 21, _, _, _, h, _ => h
  | 22, _, _, _, h, _ => h
  | 23, _, _, _, h, _ => h
  | 24, _, _, _, h, _ => h
  | 25, _, _, _, h, _ => h
  | 26, _, _, _, h, _ => h
  | 27, _, _, _, h, _ => h
  | 28, _, _, _, h, _ => h
  | 29, _, _, _, h, _ => h
  | 30, _, _, _, h, _ => h
  | 31, _, _, _, h, _ => h
  | 32, _, _, _, h, _ => h
  | 33, _, _, _, h, _ => h
  | 34, _, _, _, h, _ => h
  | 35, _, _, _, h, hb => Has.below h hb
  | 36, _, _, _, h, _ => h
  | 37, _, _, _, h, _ => h
  | 38, _, _, _, h, _ => h
  | 39, _, _, _, h, _ => h
  | 40, _, _, _, h, _ => h
  | 41, _, _, _, h, _ => h
  | 42, _, _, _, h, _ => h
  | 43, _, _, _, h, hb => Has.below h hb
  | 44, _, _, _, h, _ => h
  | 45, _, _, _, h, _ => h
  | 46, _, _, _, h, _ => h
  | _ + 47, _, _, _, _, _ => trivial
set_option maxRecDepth 100000 in
set_option maxHeartbeats 4000000 in
theorem nests_go (x y : V) (v u : Value) (w : World) (hv : Holds w v x) (hu : Holds w u y) (hx : fewV x 1 = true) (hy : fewV y 1 = true) : Calls Try.prog 6 #[v, u] w (SameQ true w) := by
  obtain ⟨c0, c1, c2, c3, c4, rfl⟩ := VAt.five hv
  obtain ⟨d0, d1, d2, d3, d4, rfl⟩ := VAt.five hu
  have HA := Lib.hid (fun w => awake_any w)
  have HB0 : Hid (Below w.heap.size w ((w.alloc (.cells #[c0, c1, c2, c3, c4] 24)).alloc (.cells #[d0, d1, d2, d3, d4] 24))) := Lib.hid (((Below.refl _ w).alloc (Nat.le_refl _) _).alloc (by simp) _)
  have HX0 : Hid (Box5 ((w.alloc (.cells #[c0, c1, c2, c3, c4] 24)).alloc (.cells #[d0, d1, d2, d3, d4] 24)) w.heap.size c0 c1 c2 c3 c4) := Lib.hid ((box5_new w _ _ _ _ _ _).below ((Below.refl _ _).alloc (Nat.le_refl _) _))
  have HY0 : Hid (Box5 ((w.alloc (.cells #[c0, c1, c2, c3, c4] 24)).alloc (.cells #[d0, d1, d2, d3, d4] 24)) (w.heap.size + 1) d0 d1 d2 d3 d4) := Lib.hid (by
    have h := box5_new (w.alloc (.cells #[c0, c1, c2, c3, c4] 24)) d0 d1 d2 d3 d4 24
    have hz : (w.alloc (.cells #[c0, c1, c2, c3, c4] 24)).heap.size = w.heap.size + 1 := by simp
    rw [hz] at h
    exact h)
  have HFX : Hid (∀ W, Below w.heap.size w W → Calls Try.prog 8 #[.agg #[c0, c1, c2, c3, c4], .int .i64 1] W (FewQ (fewV x 1) W)) := Lib.hid (fun W hb => few_any x 1 _ W (by omega) (hv.below hb))
  have HFY : Hid (∀ W, Below w.heap.size w W → Calls Try.prog 8 #[.agg #[d0, d1, d2, d3, d4], .int .i64 1] W (FewQ (fewV y 1) W)) := Lib.hid (fun W hb => few_any y 1 _ W (by omega) (hu.below hb))
  rw [hx] at HFX
  rw [hy] at HFY
  have HOX := Lib.hid (fun W (hb : Below w.heap.size w W) => of_has hx (hv.below hb))
  have HOY := Lib.hid (fun W (hb : Below w.heap.size w W) => of_has hy (hu.below hb))
  have hzx := sz_one_top _ hx
  have hzy := sz_one_top _ hy
  have hokx := ok_of_holds hv
  have hoky := ok_of_holds hu
  have hsmx := sm_of_few x 1 hx
  have hsmy := sm_of_few y 1 hy
  obtain ⟨X, hX⟩ : ∃ X, ofV x = X := ⟨_, rfl⟩
  obtain ⟨Y, hY⟩ : ∃ Y, ofV y = Y := ⟨_, rfl⟩
  rw [hX] at HOX hzx hokx hsmx
  rw [hY] at HOY hzy hoky hsmy
  clear hX hY hv hu hx hy
  have HP1 := Lib.hid (fun v W h => print_any (.list [X]) v W h (by rw [sz_one]; omega))
  have HP2 := Lib.hid (fun v W h => print_any (.list [Y]) v W h (by rw [sz_one]; omega))
  have HP3 := Lib.hid (fun v W h => print_any (.list [X, Y]) v W h (by rw [sz_two]; omega))
  unfold PrintQ at HP1 HP2 HP3
  rw [er_one] at HP1 HP2
  rw [er_two] at HP3
  have HZX := Lib.hid hzx
  have HZY := Lib.hid hzy
  have HKX := Lib.hid hokx
  have HKY := Lib.hid hoky
  have HMX := Lib.hid hsmx
  have HMY := Lib.hid hsmy
  clear hzx hzy hokx hoky hsmx hsmy
  obtain ⟨s1, hs1⟩ : ∃ s, prt (.list [X]) = s := ⟨_, rfl⟩
  obtain ⟨s2, hs2⟩ : ∃ s, prt (.list [Y]) = s := ⟨_, rfl⟩
  obtain ⟨s3, hs3⟩ : ∃ s, prt (.list [X, Y]) = s := ⟨_, rfl⟩
  obtain ⟨z1, hz1⟩ : ∃ z, er X 1 = z := ⟨_, rfl⟩
  obtain ⟨z2, hz2⟩ : ∃ z, er Y 1 = z := ⟨_, rfl⟩
  obtain ⟨z3, hz3⟩ : ∃ z, (if er X 1 = 0 then er Y 1 else er X 1) = z := ⟨_, rfl⟩
  rw [hs1, hz1] at HP1
  rw [hs2, hz2] at HP2
  rw [hs3, hz3] at HP3
  have HS1 := Lib.hid hs1
  have HS2 := Lib.hid hs2
  have HS3 := Lib.hid hs3
  have HZ1 := Lib.hid hz1
  have HZ2 := Lib.hid hz2
  have HZ3 := Lib.hid hz3
  clear hs1 hs2 hs3 hz1 hz2 hz3
  go_enter Try.func6, Try.ntmps6
  go_wp2_with (go_at_call 7; fail)
  refine (HA.out _).mono ?_
  rintro e w1 ⟨rfl, hb1⟩
  have HB1 := Lib.hid (HB0.out.trans (hb1.mono HB0.out.size))
  have HX1 := Lib.hid (HX0.out.below hb1)
  have HY1 := Lib.hid (HY0.out.below hb1)
  obtain ⟨_, e0, e1, e2, e3, e4⟩ := HX1.out
  clear hb1
  go_wp2_with (go_at_call 8; fail)
  refine (HFX.out _ HB1.out).mono ?_
  rintro e w2 ⟨rfl, hb2⟩
  have HB2 := Lib.hid (HB1.out.trans (hb2.mono HB1.out.size))
  have HX2 := Lib.hid (HX1.out.below hb2)
  have HY2 := Lib.hid (HY1.out.below hb2)
  clear hb2 e0 e1 e2 e3 e4
  obtain ⟨_, f0, f1, f2, f3, f4⟩ := HY2.out
  go_wp2_with (go_at_call 8; fail)
  refine (HFY.out _ HB2.out).mono ?_
  rintro e w3 ⟨rfl, hb3⟩
  have HB3 := Lib.hid (HB2.out.trans (hb3.mono HB2.out.size))
  have HX3 := Lib.hid (HX2.out.below hb3)
  have HY3 := Lib.hid (HY2.out.below hb3)
  clear hb3 f0 f1 f2 f3 f4
  obtain ⟨_, e0, e1, e2, e3, e4⟩ := HX3.out
  go_wp2_with (go_at_call 10; fail)
  refine (HOX.out _ HB3.out).mono ?_
  rintro e w4 ⟨r4, rfl, hb4, hr4⟩
  have HB4 := Lib.hid (HB3.out.trans (hb4.mono HB3.out.size))
  have HX4 := Lib.hid (HX3.out.below hb4)
  have HY4 := Lib.hid (HY3.out.below hb4)
  have HR4 := Lib.hid hr4
  have HF4 := Lib.hid hr4.form
  clear hb4 hr4 e0 e1 e2 e3 e4
  go_wp2_with (with_reducible refine wpList_build1 r4 rfl HF4.out ?_)
  refine (HP1.out _ _ (has_one HR4.out)).mono ?_
  rintro e w5 ⟨rfl, hb5⟩
  have hal5 : Below w4.heap.size w4 w5 := ((Below.refl _ w4).alloc (Nat.le_refl _) _).trans (hb5.mono (by simp))
  have HB5 := Lib.hid (HB4.out.trans (hal5.mono HB4.out.size))
  have HX5 := Lib.hid (HX4.out.below hal5)
  have HY5 := Lib.hid (HY4.out.below hal5)
  clear hb5 hal5
  obtain ⟨_, f0, f1, f2, f3, f4⟩ := HY5.out
  go_wp2_with (go_at_call 10; fail)
  refine (HOY.out _ HB5.out).mono ?_
  rintro e w6 ⟨r6, rfl, hb6, hr6⟩
  have HB6 := Lib.hid (HB5.out.trans (hb6.mono HB5.out.size))
  have HX6 := Lib.hid (HX5.out.below hb6)
  have HY6 := Lib.hid (HY5.out.below hb6)
  have HR6 := Lib.hid hr6
  have HF6 := Lib.hid hr6.form
  clear hb6 hr6 f0 f1 f2 f3 f4
  go_wp2_with (with_reducible refine wpList_build1 r6 rfl HF6.out ?_)
  refine (HP2.out _ _ (has_one HR6.out)).mono ?_
  rintro e w7 ⟨rfl, hb7⟩
  have hal7 : Below w6.heap.size w6 w7 := ((Below.refl _ w6).alloc (Nat.le_refl _) _).trans (hb7.mono (by simp))
  have HB7 := Lib.hid (HB6.out.trans (hal7.mono HB6.out.size))
  have HX7 := Lib.hid (HX6.out.below hal7)
  have HY7 := Lib.hid (HY6.out.below hal7)
  clear hb7 hal7
  go_wp2
  rename_i Q' K hK
  refine wp_region_fine (T7 X Y (.agg #[c0, c1, c2, c3, c4]) (.agg #[d0, d1, d2, d3, d4]) s3 z3) (by kernel_rfl) (by kernel_rfl) T7.last ?_ ?_ ?_
  · intro i o j bb ho hg
    match i, ho with
    | 0, ho => simp only [List.getElem?_cons_zero, Option.some.injEq] at ho; subst ho; cases hg
    | 1, ho => simp only [List.getElem?_cons_zero, List.getElem?_cons_succ, Option.some.injEq] at ho; subst ho; cases hg
    | 2, ho => simp only [List.getElem?_cons_zero, List.getElem?_cons_succ, Option.some.injEq] at ho; subst ho; cases hg
    | 3, ho => simp only [List.getElem?_cons_zero, List.getElem?_cons_succ, Option.some.injEq] at ho; subst ho; cases hg
    | 4, ho => simp only [List.getElem?_cons_zero, List.getElem?_cons_succ, Option.some.injEq] at ho; subst ho; cases hg
    | 5, ho => simp only [List.getElem?_cons_zero, List.getElem?_cons_succ, Option.some.injEq] at ho; subst ho; cases hg
    | 6, ho => simp only [List.getElem?_cons_zero, List.getElem?_cons_succ, Option.some.injEq] at ho; subst ho; cases hg
    | 7, ho => simp only [List.getElem?_cons_zero, List.getElem?_cons_succ, Option.some.injEq] at ho; subst ho; cases hg
    | 8, ho => simp only [List.getElem?_cons_zero, List.getElem?_cons_succ, Option.some.injEq] at ho; subst ho; cases hg
    | 9, ho => simp only [List.getElem?_cons_zero, List.getElem?_cons_succ, Option.some.injEq] at ho; subst ho; cases hg
    | 10, ho => simp only [List.getElem?_cons_zero, List.getElem?_cons_succ, Option.some.injEq] at ho; subst ho; cases hg
    | 11, ho => simp only [List.getElem?_cons_zero, List.getElem?_cons_succ, Option.some.injEq] at ho; subst ho; cases hg
    | i + 12, ho => simp at ho
  · intro i o ho a W hB hdep hfix
    have hBW := HB7.out.trans (hB.mono HB7.out.size)
    match i, ho with
    | 0, ho =>
      simp only [List.getElem?_cons_zero, Option.some.injEq] at ho; subst ho
      exact lays_same (exec_load (hfix 2 (by decide +kernel)) (HX7.out.below hB).load) rfl
    | 1, ho =>
      simp only [List.getElem?_cons_zero, List.getElem?_cons_succ, Option.some.injEq] at ho; subst ho
      have e1 : a.tmps.getD 42 undef = .agg #[c0, c1, c2, c3, c4] := hdep 0 _ 42 rfl rfl (by decide +kernel)
      exact lays_call #[.agg #[c0, c1, c2, c3, c4]] (by simp [Act.eval, e1]) (by kernel_rfl) (HOX.out _ hBW)
    | 2, ho =>
      simp only [List.getElem?_cons_zero, List.getElem?_cons_succ, Option.some.injEq] at ho; subst ho
      exact lays_same (exec_load (hfix 3 (by decide +kernel)) (HY7.out.below hB).load) rfl
    | 3, ho =>
      simp only [List.getElem?_cons_zero, List.getElem?_cons_succ, Option.some.injEq] at ho; subst ho
      have e1 : a.tmps.getD 44 undef = .agg #[d0, d1, d2, d3, d4] := hdep 2 _ 44 rfl rfl (by decide +kernel)
      exact lays_call #[.agg #[d0, d1, d2, d3, d4]] (by simp [Act.eval, e1]) (by kernel_rfl) (HOY.out _ hBW)
    | 4, ho =>
      simp only [List.getElem?_cons_zero, List.getElem?_cons_succ, Option.some.injEq] at ho; subst ho
      have e1 : Has W (a.tmps.getD 43 undef) X := hdep 1 _ 43 rfl rfl (by decide +kernel)
      have e2 : Has W (a.tmps.getD 45 undef) Y := hdep 3 _ 45 rfl rfl (by decide +kernel)
      exact lays_value (exec_build2 rfl rfl e1.form e2.form) ((Below.refl _ _).alloc (Nat.le_refl _) _) (has_two e1 e2)
    | 5, ho =>
      simp only [List.getElem?_cons_zero, List.getElem?_cons_succ, Option.some.injEq] at ho; subst ho
      have e1 : Has W (.iface 48 (a.tmps.getD 46 undef)) (.list [X, Y]) := hdep 4 _ 46 rfl rfl (by decide +kernel)
      exact lays_same (exec_mk rfl) e1
    | 6, ho =>
      simp only [List.getElem?_cons_zero, List.getElem?_cons_succ, Option.some.injEq] at ho; subst ho
      have e1 : Has W (a.tmps.getD 47 undef) (.list [X, Y]) := hdep 5 _ 47 rfl rfl (by decide +kernel)
      exact lays_call #[a.tmps.getD 47 undef] (by simp [Act.eval]) (by kernel_rfl) ((HP3.out _ _ e1).mono fun e W' ⟨he, hb⟩ => ⟨_, he, hb, rfl⟩)
    | 7, ho =>
      simp only [List.getElem?_cons_zero, List.getElem?_cons_succ, Option.some.injEq] at ho; subst ho
      have e1 : a.tmps.getD 48 undef = .tuple #[.string s3, .int .i64 z3] := hdep 6 _ 48 rfl rfl (by decide +kernel)
      exact lays_same (exec_move e1) rfl
    | 8, ho =>
      simp only [List.getElem?_cons_zero, List.getElem?_cons_succ, Option.some.injEq] at ho; subst ho
      have e1 : a.tmps.getD 41 undef = .tuple #[.string s3, .int .i64 z3] := hdep 7 _ 41 rfl rfl (by decide +kernel)
      exact lays_same (exec_ext0 e1) rfl
    | 9, ho =>
      simp only [List.getElem?_cons_zero, List.getElem?_cons_succ, Option.some.injEq] at ho; subst ho
      have e1 : a.tmps.getD 41 undef = .tuple #[.string s3, .int .i64 z3] := hdep 7 _ 41 rfl rfl (by decide +kernel)
      exact lays_same (exec_ext1 e1) rfl
    | 10, ho =>
      simp only [List.getElem?_cons_zero, List.getElem?_cons_succ, Option.some.injEq] at ho; subst ho
      have e1 : a.tmps.getD 49 undef = .string s3 := hdep 8 _ 49 rfl rfl (by decide +kernel)
      exact lays_same (exec_assign e1) rfl
    | 11, ho =>
      simp only [List.getElem?_cons_zero, List.getElem?_cons_succ, Option.some.injEq] at ho; subst ho
      have e1 : a.tmps.getD 50 undef = .int .i64 z3 := hdep 9 _ 50 rfl rfl (by decide +kernel)
      exact lays_same (exec_assign e1) rfl
    | i + 12, ho => simp at ho
  · intro a W hB hd hsz hfix hT
    have h9 : a.tmps.getD 9 undef = .string s3 := hT 10 _ 9 rfl rfl
    have h10 : a.tmps.getD 10 undef = .int .i64 z3 := hT 11 _ 10 rfl rfl
    have HB8 := Lib.hid (HB7.out.trans (hB.mono HB7.out.size))
    have HX8 := Lib.hid (HX7.out.below hB)
    have HY8 := Lib.hid (HY7.out.below hB)
    rw [frame_lit a 119 hsz hd]
    have f2 := hfix 2 (by decide +kernel)
    have f3 := hfix 3 (by decide +kernel)
    have f4 := hfix 4 (by decide +kernel)
    have f5 := hfix 5 (by decide +kernel)
    have f6 := hfix 6 (by decide +kernel)
    have f7 := hfix 7 (by decide +kernel)
    have f8 := hfix 8 (by decide +kernel)
    clear hfix hT hsz hd
    simp only [List.range, List.range.loop, List.map]
    generalize a.tmps = t at *
    rw [f2, f3, f4, f5, f6, f7, f8, h9, h10]
    refine hK _ _ ?_
    clear f2 f3 f4 f5 f6 f7 f8 h9 h10 hK
    by_cases hp : z1 = 0
    · by_cases hp2 : z2 = 0
      · subst hp hp2
        obtain rfl : z3 = 0 := by rw [← HZ3.out, if_pos HZ1.out]; exact HZ2.out
        have he3 : er (.list [X, Y]) 0 = 0 := by rw [er_two, if_pos HZ1.out]; exact HZ2.out
        have hok3 : okA (.list [X, Y]) := ⟨HKX.out, HKY.out, trivial⟩
        have HPA := Lib.hid (fun W => parse_any (pr (.list [X, Y])) (pr_lt _) W)
        rw [pa_pr he3 hok3, show mkS (pr (.list [X, Y])) = s3 by rw [← HS3.out, prt, if_pos he3]] at HPA
        have hx0 : er X 0 = 0 := er_mono X 1 0 (by omega) HZ1.out
        have hy0 : er Y 0 = 0 := er_mono Y 1 0 (by omega) HZ2.out
        have hzx0 : sz X 0 ≤ 140737488355328 := by rw [sz_mono X 1 HZ1.out]; have := HZX.out; omega
        have hzy0 : sz Y 0 ≤ 140737488355328 := by rw [sz_mono Y 1 HZ2.out]; have := HZY.out; omega
        have HSX : Hid (∀ v u W, Has W v X → Has W u X → Calls Try.prog 23 #[v, u] W (SameQ true W)) := Lib.hid (fun v u W h g => by
          have h1 := same_any X X v u W h g hzx0 hzx0
          rwa [show sameB X X = true by simp [sameB, hx0]] at h1)
        have HSY : Hid (∀ v u W, Has W v Y → Has W u Y → Calls Try.prog 23 #[v, u] W (SameQ true W)) := Lib.hid (fun v u W h g => by
          have h1 := same_any Y Y v u W h g hzy0 hzy0
          rwa [show sameB Y Y = true by simp [sameB, hy0]] at h1)
        have HLS : Hid (∀ v W, Has W v (.list [X, Y]) → Calls Try.prog 21 #[v, .slice none 0 0] W (ListQ ([X, Y], 0) W)) := Lib.hid (fun v W h => list_any (.list [X, Y]) [] v (.slice none 0 0) W (sm_of_er _ 0 he3) h ⟨none, 0, rfl, by simp, fun j z hz => by simp at hz⟩)
        have e1 : s1 = mkS (108 :: 1 :: pr X) := by rw [← HS1.out, prt, if_pos (by rw [er_one]; exact HZ1.out), pr_one]
        have e2 : s2 = mkS (108 :: 1 :: pr Y) := by rw [← HS2.out, prt, if_pos (by rw [er_one]; exact HZ2.out), pr_one]
        have e3 : s3 = mkS (108 :: 2 :: (pr X ++ pr Y)) := by rw [← HS3.out, prt, if_pos he3, pr_two]
        have hlx : (pr X).length ≤ 1000000000000 := by rw [pr_sz X 1 HZ1.out]; exact HZX.out
        have hly : (pr Y).length ≤ 1000000000000 := by rw [pr_sz Y 1 HZ2.out]; exact HZY.out
        have HL1 : Hid (2 ≤ s1.size) := Lib.hid (by rw [e1, mkS_size]; simp)
        have HL2 : Hid (2 ≤ s2.size) := Lib.hid (by rw [e2, mkS_size]; simp)
        have HQ1 : Hid (s1.extract 2 s1.size = mkS (pr X)) := Lib.hid (by rw [e1, ext_drop]; rfl)
        have HQ3 : Hid (s2.extract 2 s2.size = mkS (pr Y)) := Lib.hid (by rw [e2, ext_drop]; rfl)
        have HQ0 : Hid (s1.extract 0 2 = { data := #[108, 1] }) := Lib.hid (by rw [e1, ext_take]; rfl)
        have HQ2 : Hid (({ data := #[108, 2] } : ByteArray) ++ mkS (pr X) = mkS (108 :: 2 :: pr X)) := Lib.hid (by rw [show ({ data := #[108, 2] } : ByteArray) = mkS [108, 2] from rfl, ← mkS_append]; rfl)
        have HQ4 : Hid (mkS (108 :: 2 :: pr X) ++ mkS (pr Y) = s3) := Lib.hid (by rw [e3, ← mkS_append]; rfl)
        have HN2 : Hid (({ data := #[108, 2] } : ByteArray).size + (mkS (pr X)).size ≤ 9223372036854775807) := Lib.hid (by
          have h2 : ({ data := #[108, 2] } : ByteArray).size = 2 := rfl
          rw [mkS_size, h2]; omega)
        have HN4 : Hid ((mkS (108 :: 2 :: pr X)).size + (mkS (pr Y)).size ≤ 9223372036854775807) := Lib.hid (by rw [mkS_size, mkS_size]; simp; omega)
        clear he3 hok3 hx0 hy0 hzx0 hzy0 e1 e2 e3 hlx hly
        go_wp2_with (go_at_call 12; fail)
        refine (HPA.out _).mono ?_
        intro e w9 hq
        rcases hq with ⟨a9, z9, ha, rfl, hz9, hb9⟩ | ⟨h, _⟩
        · cases ha
          have HB9 := Lib.hid (HB8.out.trans (hb9.mono HB8.out.size))
          have HX9 := Lib.hid (HX8.out.below hb9)
          have HY9 := Lib.hid (HY8.out.below hb9)
          have HZ9 := Lib.hid hz9
          clear hb9 hz9
          go_wp2_with (go_at_call 21; fail)
          refine (HLS.out _ _ HZ9.out).mono ?_
          rintro e w10 ⟨p10, cp, rfl, hl10, hb10⟩
          have HB10 := Lib.hid (HB9.out.trans (hb10.mono HB9.out.size))
          have HX10 := Lib.hid (HX9.out.below hb10)
          have HY10 := Lib.hid (HY9.out.below hb10)
          obtain ⟨p', c', hparts⟩ := AAt.parts hl10.has
          obtain ⟨heq, _, hsub⟩ := hparts
          simp only [Value.iface.injEq, Value.slice.injEq, true_and] at heq
          have hpp : p10 = p' := heq.1
          clear heq
          obtain ⟨b, o, u0, rfl, _, hbl, hc0, hu0⟩ := hsub 0 X rfl
          obtain ⟨b', o', u1, hp1, _, _, hc1, hu1⟩ := hsub 1 Y rfl
          simp only [Option.some.injEq, Addr.mk.injEq, and_true] at hp1
          obtain ⟨rfl, rfl⟩ := hp1
          subst hpp
          have HC0 := Lib.hid hc0
          have HC1 := Lib.hid hc1
          have HBL := Lib.hid hbl
          have HU0 := Lib.hid hu0.has
          have HU1 := Lib.hid hu1.has
          clear hb10 hl10 hsub hc0 hc1 hbl hu0 hu1
          go_wp2
          rename_i hK
          refine wp_region_fine (T12 X Y (.agg #[c0, c1, c2, c3, c4]) (.agg #[d0, d1, d2, d3, d4]) s1 s2 s3 (mkS (pr X)) (mkS (108 :: 2 :: pr X)) (mkS (pr Y)) b o cp u0 u1) (by kernel_rfl) (by kernel_rfl) T12.last ?_ ?_ ?_
          · intro i o j bb ho hg
            match i, ho with
            | 0, ho => simp only [List.getElem?_cons_zero, Option.some.injEq] at ho; subst ho; cases hg
            | 1, ho => simp only [List.getElem?_cons_zero, List.getElem?_cons_succ, Option.some.injEq] at ho; subst ho; cases hg
            | 2, ho => simp only [List.getElem?_cons_zero, List.getElem?_cons_succ, Option.some.injEq] at ho; subst ho; cases hg
            | 3, ho => simp only [List.getElem?_cons_zero, List.getElem?_cons_succ, Option.some.injEq] at ho; subst ho; simp only [Option.some.injEq, Prod.mk.injEq] at hg; obtain ⟨rfl, rfl⟩ := hg; exact fun v W h => h
            | 4, ho => simp only [List.getElem?_cons_zero, List.getElem?_cons_succ, Option.some.injEq] at ho; subst ho; simp only [Option.some.injEq, Prod.mk.injEq] at hg; obtain ⟨rfl, rfl⟩ := hg; exact fun v W h => h
            | 5, ho => simp only [List.getElem?_cons_zero, List.getElem?_cons_succ, Option.some.injEq] at ho; subst ho; simp only [Option.some.injEq, Prod.mk.injEq] at hg; obtain ⟨rfl, rfl⟩ := hg; exact fun v W h => h
            | 6, ho => simp only [List.getElem?_cons_zero, List.getElem?_cons_succ, Option.some.injEq] at ho; subst ho; simp only [Option.some.injEq, Prod.mk.injEq] at hg; obtain ⟨rfl, rfl⟩ := hg; exact fun v W h => h
            | 7, ho => simp only [List.getElem?_cons_zero, List.getElem?_cons_succ, Option.some.injEq] at ho; subst ho; simp only [Option.some.injEq, Prod.mk.injEq] at hg; obtain ⟨rfl, rfl⟩ := hg; exact fun v W h => h
            | 8, ho => simp only [List.getElem?_cons_zero, List.getElem?_cons_succ, Option.some.injEq] at ho; subst ho; simp only [Option.some.injEq, Prod.mk.injEq] at hg; obtain ⟨rfl, rfl⟩ := hg; exact fun v W h => h
            | 9, ho => simp only [List.getElem?_cons_zero, List.getElem?_cons_succ, Option.some.injEq] at ho; subst ho; simp only [Option.some.injEq, Prod.mk.injEq] at hg; obtain ⟨rfl, rfl⟩ := hg; exact fun v W h => h
            | 10, ho => simp only [List.getElem?_cons_zero, List.getElem?_cons_succ, Option.some.injEq] at ho; subst ho; simp only [Option.some.injEq, Prod.mk.injEq] at hg; obtain ⟨rfl, rfl⟩ := hg; exact fun v W h => h
            | 11, ho => simp only [List.getElem?_cons_zero, List.getElem?_cons_succ, Option.some.injEq] at ho; subst ho; cases hg
            | 12, ho => simp only [List.getElem?_cons_zero, List.getElem?_cons_succ, Option.some.injEq] at ho; subst ho; cases hg
            | 13, ho => simp only [List.getElem?_cons_zero, List.getElem?_cons_succ, Option.some.injEq] at ho; subst ho; simp only [Option.some.injEq, Prod.mk.injEq] at hg; obtain ⟨rfl, rfl⟩ := hg; exact fun v W h => h
            | 14, ho => simp only [List.getElem?_cons_zero, List.getElem?_cons_succ, Option.some.injEq] at ho; subst ho; simp only [Option.some.injEq, Prod.mk.injEq] at hg; obtain ⟨rfl, rfl⟩ := hg; exact fun v W h => h
            | 15, ho => simp only [List.getElem?_cons_zero, List.getElem?_cons_succ, Option.some.injEq] at ho; subst ho; simp only [Option.some.injEq, Prod.mk.injEq] at hg; obtain ⟨rfl, rfl⟩ := hg; exact fun v W h => h
            | 16, ho => simp only [List.getElem?_cons_zero, List.getElem?_cons_succ, Option.some.injEq] at ho; subst ho; cases hg
            | 17, ho => simp only [List.getElem?_cons_zero, List.getElem?_cons_succ, Option.some.injEq] at ho; subst ho; cases hg
            | 18, ho => simp only [List.getElem?_cons_zero, List.getElem?_cons_succ, Option.some.injEq] at ho; subst ho; simp only [Option.some.injEq, Prod.mk.injEq] at hg; obtain ⟨rfl, rfl⟩ := hg; exact fun v W h => h
            | 19, ho => simp only [List.getElem?_cons_zero, List.getElem?_cons_succ, Option.some.injEq] at ho; subst ho; simp only [Option.some.injEq, Prod.mk.injEq] at hg; obtain ⟨rfl, rfl⟩ := hg; exact fun v W h => h
            | 20, ho => simp only [List.getElem?_cons_zero, List.getElem?_cons_succ, Option.some.injEq] at ho; subst ho; cases hg
            | 21, ho => simp only [List.getElem?_cons_zero, List.getElem?_cons_succ, Option.some.injEq] at ho; subst ho; cases hg
            | 22, ho => simp only [List.getElem?_cons_zero, List.getElem?_cons_succ, Option.some.injEq] at ho; subst ho; simp only [Option.some.injEq, Prod.mk.injEq] at hg; obtain ⟨rfl, rfl⟩ := hg; exact fun v W h => h
            | 23, ho => simp only [List.getElem?_cons_zero, List.getElem?_cons_succ, Option.some.injEq] at ho; subst ho; simp only [Option.some.injEq, Prod.mk.injEq] at hg; obtain ⟨rfl, rfl⟩ := hg; exact fun v W h => h
            | 24, ho => simp only [List.getElem?_cons_zero, List.getElem?_cons_succ, Option.some.injEq] at ho; subst ho; cases hg
            | 25, ho => simp only [List.getElem?_cons_zero, List.getElem?_cons_succ, Option.some.injEq] at ho; subst ho; cases hg
            | 26, ho => simp only [List.getElem?_cons_zero, List.getElem?_cons_succ, Option.some.injEq] at ho; subst ho; simp only [Option.some.injEq, Prod.mk.injEq] at hg; obtain ⟨rfl, rfl⟩ := hg; exact fun v W h => h
            | 27, ho => simp only [List.getElem?_cons_zero, List.getElem?_cons_succ, Option.some.injEq] at ho; subst ho; simp only [Option.some.injEq, Prod.mk.injEq] at hg; obtain ⟨rfl, rfl⟩ := hg; exact fun v W h => h
            | 28, ho => simp only [List.getElem?_cons_zero, List.getElem?_cons_succ, Option.some.injEq] at ho; subst ho; simp only [Option.some.injEq, Prod.mk.injEq] at hg; obtain ⟨rfl, rfl⟩ := hg; exact fun v W h => h
            | 29, ho => simp only [List.getElem?_cons_zero, List.getElem?_cons_succ, Option.some.injEq] at ho; subst ho; cases hg
            | 30, ho => simp only [List.getElem?_cons_zero, List.getElem?_cons_succ, Option.some.injEq] at ho; subst ho; cases hg
            | 31, ho => simp only [List.getElem?_cons_zero, List.getElem?_cons_succ, Option.some.injEq] at ho; subst ho; simp only [Option.some.injEq, Prod.mk.injEq] at hg; obtain ⟨rfl, rfl⟩ := hg; exact fun v W h => h
            | 32, ho => simp only [List.getElem?_cons_zero, List.getElem?_cons_succ, Option.some.injEq] at ho; subst ho; simp only [Option.some.injEq, Prod.mk.injEq] at hg; obtain ⟨rfl, rfl⟩ := hg; exact fun v W h => h
            | 33, ho => simp only [List.getElem?_cons_zero, List.getElem?_cons_succ, Option.some.injEq] at ho; subst ho; simp only [Option.some.injEq, Prod.mk.injEq] at hg; obtain ⟨rfl, rfl⟩ := hg; exact fun v W h => h
            | 34, ho => simp only [List.getElem?_cons_zero, List.getElem?_cons_succ, Option.some.injEq] at ho; subst ho; simp only [Option.some.injEq, Prod.mk.injEq] at hg; obtain ⟨rfl, rfl⟩ := hg; exact fun v W h => h
            | 35, ho => simp only [List.getElem?_cons_zero, List.getElem?_cons_succ, Option.some.injEq] at ho; subst ho; simp only [Option.some.injEq, Prod.mk.injEq] at hg; obtain ⟨rfl, rfl⟩ := hg; exact fun v W h => h
            | 36, ho => simp only [List.getElem?_cons_zero, List.getElem?_cons_succ, Option.some.injEq] at ho; subst ho; simp only [Option.some.injEq, Prod.mk.injEq] at hg; obtain ⟨rfl, rfl⟩ := hg; exact fun v W h => h
            | 37, ho => simp only [List.getElem?_cons_zero, List.getElem?_cons_succ, Option.some.injEq] at ho; subst ho; cases hg
            | 38, ho => simp only [List.getElem?_cons_zero, List.getElem?_cons_succ, Option.some.injEq] at ho; subst ho; cases hg
            | 39, ho => simp only [List.getElem?_cons_zero, List.getElem?_cons_succ, Option.some.injEq] at ho; subst ho; simp only [Option.some.injEq, Prod.mk.injEq] at hg; obtain ⟨rfl, rfl⟩ := hg; exact fun v W h => h
            | 40, ho => simp only [List.getElem?_cons_zero, List.getElem?_cons_succ, Option.some.injEq] at ho; subst ho; simp only [Option.some.injEq, Prod.mk.injEq] at hg; obtain ⟨rfl, rfl⟩ := hg; exact fun v W h => h
            | 41, ho => simp only [List.getElem?_cons_zero, List.getElem?_cons_succ, Option.some.injEq] at ho; subst ho; simp only [Option.some.injEq, Prod.mk.injEq] at hg; obtain ⟨rfl, rfl⟩ := hg; exact fun v W h => h
            | 42, ho => simp only [List.getElem?_cons_zero, List.getElem?_cons_succ, Option.some.injEq] at ho; subst ho; simp only [Option.some.injEq, Prod.mk.injEq] at hg; obtain ⟨rfl, rfl⟩ := hg; exact fun v W h => h
            | 43, ho => simp only [List.getElem?_cons_zero, List.getElem?_cons_succ, Option.some.injEq] at ho; subst ho; simp only [Option.some.injEq, Prod.mk.injEq] at hg; obtain ⟨rfl, rfl⟩ := hg; exact fun v W h => h
            | 44, ho => simp only [List.getElem?_cons_zero, List.getElem?_cons_succ, Option.some.injEq] at ho; subst ho; simp only [Option.some.injEq, Prod.mk.injEq] at hg; obtain ⟨rfl, rfl⟩ := hg; exact fun v W h => h
            | 45, ho => simp only [List.getElem?_cons_zero, List.getElem?_cons_succ, Option.some.injEq] at ho; subst ho; cases hg
            | 46, ho => simp only [List.getElem?_cons_zero, List.getElem?_cons_succ, Option.some.injEq] at ho; subst ho; cases hg
            | i + 47, ho => simp at ho
          · intro i op ho a W hB hdep hfix
            have hBW := HB10.out.trans (hB.mono HB10.out.size)
            match i, ho with
            | 0, ho =>
              simp only [List.getElem?_cons_zero, Option.some.injEq] at ho; subst ho
              exact lays_same (exec_move (hfix 10 (by decide +kernel))) rfl
            | 1, ho =>
              simp only [List.getElem?_cons_zero, List.getElem?_cons_succ, Option.some.injEq] at ho; subst ho
              have e1 : a.tmps.getD 73 undef = .int .i64 0 := hdep 0 _ 73 rfl rfl (by decide +kernel)
              exact lays_same (exec_eql0 (by decide) e1 rfl) rfl
            | 2, ho =>
              simp only [List.getElem?_cons_zero, List.getElem?_cons_succ, Option.some.injEq] at ho; subst ho
              have e1 : a.tmps.getD 74 undef = .bool true := hdep 1 _ 74 rfl rfl (by decide +kernel)
              exact lays_same (exec_move e1) rfl
            | 3, ho =>
              simp only [List.getElem?_cons_zero, List.getElem?_cons_succ, Option.some.injEq] at ho; subst ho
              exact lays_same (exec_move (hfix 9 (by decide +kernel))) rfl
            | 4, ho =>
              simp only [List.getElem?_cons_zero, List.getElem?_cons_succ, Option.some.injEq] at ho; subst ho
              exact lays_same (exec_move (hfix 5 (by decide +kernel))) rfl
            | 5, ho =>
              simp only [List.getElem?_cons_zero, List.getElem?_cons_succ, Option.some.injEq] at ho; subst ho
              have e1 : a.tmps.getD 77 undef = .string s1 := hdep 4 _ 77 rfl rfl (by decide +kernel)
              exact lays_same (exec_from rfl e1 HL1.out) (congrArg Value.string HQ1.out)
            | 6, ho =>
              simp only [List.getElem?_cons_zero, List.getElem?_cons_succ, Option.some.injEq] at ho; subst ho
              have e1 : a.tmps.getD 78 undef = .string (mkS (pr X)) := hdep 5 _ 78 rfl rfl (by decide +kernel)
              exact lays_same (exec_adds rfl e1 HN2.out) (congrArg Value.string HQ2.out)
            | 7, ho =>
              simp only [List.getElem?_cons_zero, List.getElem?_cons_succ, Option.some.injEq] at ho; subst ho
              exact lays_same (exec_move (hfix 7 (by decide +kernel))) rfl
            | 8, ho =>
              simp only [List.getElem?_cons_zero, List.getElem?_cons_succ, Option.some.injEq] at ho; subst ho
              have e1 : a.tmps.getD 80 undef = .string s2 := hdep 7 _ 80 rfl rfl (by decide +kernel)
              exact lays_same (exec_from rfl e1 HL2.out) (congrArg Value.string HQ3.out)
            | 9, ho =>
              simp only [List.getElem?_cons_zero, List.getElem?_cons_succ, Option.some.injEq] at ho; subst ho
              have e1 : a.tmps.getD 79 undef = .string (mkS (108 :: 2 :: pr X)) := hdep 6 _ 79 rfl rfl (by decide +kernel)
              have e2 : a.tmps.getD 81 undef = .string (mkS (pr Y)) := hdep 8 _ 81 rfl rfl (by decide +kernel)
              exact lays_same (exec_adds e1 e2 HN4.out) (congrArg Value.string HQ4.out)
            | 10, ho =>
              simp only [List.getElem?_cons_zero, List.getElem?_cons_succ, Option.some.injEq] at ho; subst ho
              have e1 : a.tmps.getD 76 undef = .string s3 := hdep 3 _ 76 rfl rfl (by decide +kernel)
              have e2 : a.tmps.getD 82 undef = .string s3 := hdep 9 _ 82 rfl rfl (by decide +kernel)
              exact lays_same (exec_eqls e1 e2) rfl
            | 11, ho =>
              simp only [List.getElem?_cons_zero, List.getElem?_cons_succ, Option.some.injEq] at ho; subst ho
              have e1 : a.tmps.getD 75 undef = .bool true := hdep 2 _ 75 rfl rfl (by decide +kernel)
              have e2 : a.tmps.getD 83 undef = .bool true := hdep 10 _ 83 rfl rfl (by decide +kernel)
              exact lays_same (exec_pick e1 e2) rfl
            | 12, ho =>
              simp only [List.getElem?_cons_zero, List.getElem?_cons_succ, Option.some.injEq] at ho; subst ho
              have e1 : a.tmps.getD 84 undef = .bool true := hdep 11 _ 84 rfl rfl (by decide +kernel)
              exact lays_same (exec_move e1) rfl
            | 13, ho =>
              simp only [List.getElem?_cons_zero, List.getElem?_cons_succ, Option.some.injEq] at ho; subst ho
              exact lays_same (exec_move (hfix 5 (by decide +kernel))) rfl
            | 14, ho =>
              simp only [List.getElem?_cons_zero, List.getElem?_cons_succ, Option.some.injEq] at ho; subst ho
              have e1 : a.tmps.getD 86 undef = .string s1 := hdep 13 _ 86 rfl rfl (by decide +kernel)
              exact lays_same (exec_to rfl e1 HL1.out) (congrArg Value.string HQ0.out)
            | 15, ho =>
              simp only [List.getElem?_cons_zero, List.getElem?_cons_succ, Option.some.injEq] at ho; subst ho
              have e1 : a.tmps.getD 87 undef = .string { data := #[108, 1] } := hdep 14 _ 87 rfl rfl (by decide +kernel)
              exact lays_same (exec_eqls e1 rfl) rfl
            | 16, ho =>
              simp only [List.getElem?_cons_zero, List.getElem?_cons_succ, Option.some.injEq] at ho; subst ho
              have e1 : a.tmps.getD 85 undef = .bool true := hdep 12 _ 85 rfl rfl (by decide +kernel)
              have e2 : a.tmps.getD 88 undef = .bool true := hdep 15 _ 88 rfl rfl (by decide +kernel)
              exact lays_same (exec_pick e1 e2) rfl
            | 17, ho =>
              simp only [List.getElem?_cons_zero, List.getElem?_cons_succ, Option.some.injEq] at ho; subst ho
              have e1 : a.tmps.getD 89 undef = .bool true := hdep 16 _ 89 rfl rfl (by decide +kernel)
              exact lays_same (exec_move e1) rfl
            | 18, ho =>
              simp only [List.getElem?_cons_zero, List.getElem?_cons_succ, Option.some.injEq] at ho; subst ho
              exact lays_same (exec_move (hfix 12 (by decide +kernel))) rfl
            | 19, ho =>
              simp only [List.getElem?_cons_zero, List.getElem?_cons_succ, Option.some.injEq] at ho; subst ho
              have e1 : a.tmps.getD 91 undef = .int .i64 0 := hdep 18 _ 91 rfl rfl (by decide +kernel)
              exact lays_same (exec_eql0 (by decide) e1 rfl) rfl
            | 20, ho =>
              simp only [List.getElem?_cons_zero, List.getElem?_cons_succ, Option.some.injEq] at ho; subst ho
              have e1 : a.tmps.getD 90 undef = .bool true := hdep 17 _ 90 rfl rfl (by decide +kernel)
              have e2 : a.tmps.getD 92 undef = .bool true := hdep 19 _ 92 rfl rfl (by decide +kernel)
              exact lays_same (exec_pick e1 e2) rfl
            | 21, ho =>
              simp only [List.getElem?_cons_zero, List.getElem?_cons_succ, Option.some.injEq] at ho; subst ho
              have e1 : a.tmps.getD 93 undef = .bool true := hdep 20 _ 93 rfl rfl (by decide +kernel)
              exact lays_same (exec_move e1) rfl
            | 22, ho =>
              simp only [List.getElem?_cons_zero, List.getElem?_cons_succ, Option.some.injEq] at ho; subst ho
              exact lays_same (exec_move (hfix 14 (by decide +kernel))) rfl
            | 23, ho =>
              simp only [List.getElem?_cons_zero, List.getElem?_cons_succ, Option.some.injEq] at ho; subst ho
              have e1 : a.tmps.getD 95 undef = .int .i64 0 := hdep 22 _ 95 rfl rfl (by decide +kernel)
              exact lays_same (exec_eql0 (by decide) e1 rfl) rfl
            | 24, ho =>
              simp only [List.getElem?_cons_zero, List.getElem?_cons_succ, Option.some.injEq] at ho; subst ho
              have e1 : a.tmps.getD 94 undef = .bool true := hdep 21 _ 94 rfl rfl (by decide +kernel)
              have e2 : a.tmps.getD 96 undef = .bool true := hdep 23 _ 96 rfl rfl (by decide +kernel)
              exact lays_same (exec_pick e1 e2) rfl
            | 25, ho =>
              simp only [List.getElem?_cons_zero, List.getElem?_cons_succ, Option.some.injEq] at ho; subst ho
              have e1 : a.tmps.getD 97 undef = .bool true := hdep 24 _ 97 rfl rfl (by decide +kernel)
              exact lays_same (exec_move e1) rfl
            | 26, ho =>
              simp only [List.getElem?_cons_zero, List.getElem?_cons_succ, Option.some.injEq] at ho; subst ho
              exact lays_same (exec_move (hfix 13 (by decide +kernel))) rfl
            | 27, ho =>
              simp only [List.getElem?_cons_zero, List.getElem?_cons_succ, Option.some.injEq] at ho; subst ho
              have e1 : a.tmps.getD 99 undef = .slice (some ⟨b, o, none⟩) 2 cp := hdep 26 _ 99 rfl rfl (by decide +kernel)
              exact lays_same (exec_len e1) rfl
            | 28, ho =>
              simp only [List.getElem?_cons_zero, List.getElem?_cons_succ, Option.some.injEq] at ho; subst ho
              have e1 : a.tmps.getD 100 undef = .int .i64 2 := hdep 27 _ 100 rfl rfl (by decide +kernel)
              exact lays_same (exec_eql0 (by decide) e1 rfl) rfl
            | 29, ho =>
              simp only [List.getElem?_cons_zero, List.getElem?_cons_succ, Option.some.injEq] at ho; subst ho
              have e1 : a.tmps.getD 98 undef = .bool true := hdep 25 _ 98 rfl rfl (by decide +kernel)
              have e2 : a.tmps.getD 101 undef = .bool true := hdep 28 _ 101 rfl rfl (by decide +kernel)
              exact lays_same (exec_pick e1 e2) rfl
            | 30, ho =>
              simp only [List.getElem?_cons_zero, List.getElem?_cons_succ, Option.some.injEq] at ho; subst ho
              have e1 : a.tmps.getD 102 undef = .bool true := hdep 29 _ 102 rfl rfl (by decide +kernel)
              exact lays_same (exec_move e1) rfl
            | 31, ho =>
              simp only [List.getElem?_cons_zero, List.getElem?_cons_succ, Option.some.injEq] at ho; subst ho
              exact lays_same (exec_move (hfix 13 (by decide +kernel))) rfl
            | 32, ho =>
              simp only [List.getElem?_cons_zero, List.getElem?_cons_succ, Option.some.injEq] at ho; subst ho
              have e1 : a.tmps.getD 104 undef = .slice (some ⟨b, o, none⟩) 2 cp := hdep 31 _ 104 rfl rfl (by decide +kernel)
              exact lays_same (exec_at 0 rfl e1 (by omega)) rfl
            | 33, ho =>
              simp only [List.getElem?_cons_zero, List.getElem?_cons_succ, Option.some.injEq] at ho; subst ho
              have e1 : a.tmps.getD 105 undef = .pointer (some ⟨b, o + 0, none⟩) := hdep 32 _ 105 rfl rfl (by decide +kernel)
              exact lays_same (exec_load e1 (ld_any ((hB.cell (p := _) HBL.out).trans HC0.out))) rfl
            | 34, ho =>
              simp only [List.getElem?_cons_zero, List.getElem?_cons_succ, Option.some.injEq] at ho; subst ho
              exact lays_same (exec_load (hfix 2 (by decide +kernel)) (HX10.out.below hB).load) rfl
            | 35, ho =>
              simp only [List.getElem?_cons_zero, List.getElem?_cons_succ, Option.some.injEq] at ho; subst ho
              have e1 : a.tmps.getD 107 undef = .agg #[c0, c1, c2, c3, c4] := hdep 34 _ 107 rfl rfl (by decide +kernel)
              exact lays_call #[.agg #[c0, c1, c2, c3, c4]] (by simp [Act.eval, e1]) (by kernel_rfl) (HOX.out _ hBW)
            | 36, ho =>
              simp only [List.getElem?_cons_zero, List.getElem?_cons_succ, Option.some.injEq] at ho; subst ho
              have e1 : a.tmps.getD 106 undef = u0 := hdep 33 _ 106 rfl rfl (by decide +kernel)
              have e2 : Has W (a.tmps.getD 108 undef) X := hdep 35 _ 108 rfl rfl (by decide +kernel)
              exact lays_call #[u0, a.tmps.getD 108 undef] (by simp [Act.eval, e1]) (by kernel_rfl) ((HSX.out _ _ _ (HU0.out.below hB) e2).mono fun e W' ⟨he, hb⟩ => ⟨_, he, hb, rfl⟩)
            | 37, ho =>
              simp only [List.getElem?_cons_zero, List.getElem?_cons_succ, Option.some.injEq] at ho; subst ho
              have e1 : a.tmps.getD 103 undef = .bool true := hdep 30 _ 103 rfl rfl (by decide +kernel)
              have e2 : a.tmps.getD 109 undef = .bool true := hdep 36 _ 109 rfl rfl (by decide +kernel)
              exact lays_same (exec_pick e1 e2) rfl
            | 38, ho =>
              simp only [List.getElem?_cons_zero, List.getElem?_cons_succ, Option.some.injEq] at ho; subst ho
              have e1 : a.tmps.getD 110 undef = .bool true := hdep 37 _ 110 rfl rfl (by decide +kernel)
              exact lays_same (exec_move e1) rfl
            | 39, ho =>
              simp only [List.getElem?_cons_zero, List.getElem?_cons_succ, Option.some.injEq] at ho; subst ho
              exact lays_same (exec_move (hfix 13 (by decide +kernel))) rfl
            | 40, ho =>
              simp only [List.getElem?_cons_zero, List.getElem?_cons_succ, Option.some.injEq] at ho; subst ho
              have e1 : a.tmps.getD 112 undef = .slice (some ⟨b, o, none⟩) 2 cp := hdep 39 _ 112 rfl rfl (by decide +kernel)
              exact lays_same (exec_at 1 rfl e1 (by omega)) rfl
            | 41, ho =>
              simp only [List.getElem?_cons_zero, List.getElem?_cons_succ, Option.some.injEq] at ho; subst ho
              have e1 : a.tmps.getD 113 undef = .pointer (some ⟨b, o + 1, none⟩) := hdep 40 _ 113 rfl rfl (by decide +kernel)
              exact lays_same (exec_load e1 (ld_any ((hB.cell (p := _) HBL.out).trans HC1.out))) rfl
            | 42, ho =>
              simp only [List.getElem?_cons_zero, List.getElem?_cons_succ, Option.some.injEq] at ho; subst ho
              exact lays_same (exec_load (hfix 3 (by decide +kernel)) (HY10.out.below hB).load) rfl
            | 43, ho =>
              simp only [List.getElem?_cons_zero, List.getElem?_cons_succ, Option.some.injEq] at ho; subst ho
              have e1 : a.tmps.getD 115 undef = .agg #[d0, d1, d2, d3, d4] := hdep 42 _ 115 rfl rfl (by decide +kernel)
              exact lays_call #[.agg #[d0, d1, d2, d3, d4]] (by simp [Act.eval, e1]) (by kernel_rfl) (HOY.out _ hBW)
            | 44, ho =>
              simp only [List.getElem?_cons_zero, List.getElem?_cons_succ, Option.some.injEq] at ho; subst ho
              have e1 : a.tmps.getD 114 undef = u1 := hdep 41 _ 114 rfl rfl (by decide +kernel)
              have e2 : Has W (a.tmps.getD 116 undef) Y := hdep 43 _ 116 rfl rfl (by decide +kernel)
              exact lays_call #[u1, a.tmps.getD 116 undef] (by simp [Act.eval, e1]) (by kernel_rfl) ((HSY.out _ _ _ (HU1.out.below hB) e2).mono fun e W' ⟨he, hb⟩ => ⟨_, he, hb, rfl⟩)
            | 45, ho =>
              simp only [List.getElem?_cons_zero, List.getElem?_cons_succ, Option.some.injEq] at ho; subst ho
              have e1 : a.tmps.getD 111 undef = .bool true := hdep 38 _ 111 rfl rfl (by decide +kernel)
              have e2 : a.tmps.getD 117 undef = .bool true := hdep 44 _ 117 rfl rfl (by decide +kernel)
              exact lays_same (exec_pick e1 e2) rfl
            | 46, ho =>
              simp only [List.getElem?_cons_zero, List.getElem?_cons_succ, Option.some.injEq] at ho; subst ho
              have e1 : a.tmps.getD 118 undef = .bool true := hdep 45 _ 118 rfl rfl (by decide +kernel)
              exact lays_same (exec_assign e1) rfl
            | i + 47, ho => simp at ho
          · intro a W hB hd hsz hfix hT
            have h4 : a.tmps.getD 4 undef = .bool true := hT 46 _ 4 rfl rfl
            have HB11 := Lib.hid (HB10.out.trans (hB.mono HB10.out.size))
            rw [frame_lit a 119 hsz hd]
            clear hfix hT hsz hd
            simp only [List.range, List.range.loop, List.map]
            generalize a.tmps = t at *
            rw [h4]
            refine hK _ _ ?_
            clear h4 hK
            go_wp2
            go_ret
            exact ⟨rfl, HB11.out⟩
        · cases h
      · subst hp
        obtain rfl : z3 = z2 := by rw [← HZ3.out, if_pos HZ1.out]; exact HZ2.out
        have hs3 : s3 = { data := #[] } := by
          rw [← HS3.out, prt, if_neg]
          rw [er_two, if_pos HZ1.out, HZ2.out]
          exact hp2
        subst hs3
        have e1 : (z3 != 0) = true := by simp [hp2]
        clear hp2
        go_wp2
        go_ret
        exact ⟨rfl, HB8.out⟩
    · obtain rfl : z3 = z1 := by rw [← HZ3.out, HZ1.out, if_neg hp]
      have hs3 : s3 = { data := #[] } := by
        rw [← HS3.out, prt, if_neg]
        rw [er_two, HZ1.out, if_neg hp]
        exact hp
      subst hs3
      have e1 : (z3 != 0) = true := by simp [hp]
      clear hp
      go_wp2
      go_ret
      exact ⟨rfl, HB8.out⟩
theorem nests_any (x y : V) (v u : Value) (w : World) (hv : Holds w v x) (hu : Holds w u y) : Calls Try.prog 6 #[v, u] w (SameQ true w) := by
  cases hx : fewV x 1 with
  | false => exact nests_skip x y v u w hv hu (Or.inl hx)
  | true =>
    cases hy : fewV y 1 with
    | false => exact nests_skip x y v u w hv hu (Or.inr ⟨hx, hy⟩)
    | true => exact nests_go x y v u w hv hu hx hy
end Go.Proofs.Ytncbgonanoihfaa

/- The walk of ValueWithin. No condition. -/
import Derived.Test.YtncbgonanoihfaaE1
import Derived.Test.YtncbgonanoihfaaL1
namespace Go.Proofs.Ytncbgonanoihfaa
open Go.RowKit Go.Own
set_option maxRecDepth 100000 in
set_option maxHeartbeats 1000000 in
theorem want_any (c k yk r : Int) (B7 B6 : Nat) (w : World) (h7 : w.cell? ⟨B7, 0, none⟩ = some (.int .i64 c)) (h6 : w.cell? ⟨B6, 0, none⟩ = some (.int .i64 yk)) (hr : (c ≠ 0 ∧ r = c) ∨ (c = 0 ∧ yk ≠ k ∧ r = 9) ∨ (c = 0 ∧ yk = k ∧ r = 0)) :
    Calls Try.prog 17 #[.int .i64 k, .pointer (some ⟨B7, 0, none⟩), .pointer (some ⟨B6, 0, none⟩)] w fun e w' => e = .returned (.int .i64 r) ∧ w = w' := by
  rcases hr with ⟨h, rfl⟩ | ⟨rfl, h, rfl⟩ | ⟨rfl, rfl, rfl⟩
  · have e1 : (r != 0) = true := by simp [h]
    clear h
    go_enter Try.func17, Try.ntmps17
    go_wp2
    go_ret
    exact ⟨rfl, rfl⟩
  · have e1 : (yk != k) = true := by simp [h]
    clear h
    go_enter Try.func17, Try.ntmps17
    go_wp2
    go_ret
    exact ⟨rfl, rfl⟩
  · go_enter Try.func17, Try.ntmps17
    go_wp2
    go_ret
    exact ⟨rfl, rfl⟩
set_option maxRecDepth 100000 in
set_option maxHeartbeats 1000000 in
theorem within_skip (x : V) (zs : List Int) (v vz : Value) (w : World) (hv : Holds w v x) (hz : Ints w vz zs) (h : fewV x 0 = false ∨ (fewV x 0 = true ∧ 12 < zs.length)) : Calls Try.prog 4 #[v, vz] w (SameQ true w) := by
  obtain ⟨c0, c1, c2, c3, c4, rfl⟩ := VAt.five hv
  obtain ⟨p, cap, rfl, hle, _⟩ := hz
  obtain ⟨n, hn⟩ : ∃ n, zs.length = n := ⟨_, rfl⟩
  rw [hn] at hle h ⊢
  have HA := Lib.hid (fun w => awake_any w)
  have HB0 : Hid (Below w.heap.size w (w.alloc (.cells #[c0, c1, c2, c3, c4] 24))) := Lib.hid ((Below.refl _ w).alloc (Nat.le_refl _) _)
  have HX0 : Hid (Box5 (w.alloc (.cells #[c0, c1, c2, c3, c4] 24)) w.heap.size c0 c1 c2 c3 c4) := Lib.hid (box5_new w _ _ _ _ _ _)
  have HFX := Lib.hid (fun W (hb : Below w.heap.size w W) => few_any x 0 _ W (by omega) (hv.below hb))
  clear hv hn
  rcases h with h | ⟨h, h2⟩
  · rw [h] at HFX
    clear h
    go_enter Try.func4, Try.ntmps4
    go_wp2_with (go_at_call 7; fail)
    refine (HA.out _).mono ?_
    rintro e w1 ⟨rfl, hb1⟩
    have HB1 := Lib.hid (HB0.out.trans (hb1.mono HB0.out.size))
    obtain ⟨_, e0, e1, e2, e3, e4⟩ := HX0.out.below hb1
    clear hb1
    go_wp2_with (go_at_call 8; fail)
    refine (HFX.out _ HB1.out).mono ?_
    rintro e w2 ⟨rfl, hb2⟩
    have HB2 := Lib.hid (HB1.out.trans (hb2.mono HB1.out.size))
    clear hb2
    go_wp2
    go_ret
    exact ⟨rfl, HB2.out⟩
  · rw [h] at HFX
    have d1 : decide ((12 : Int) < (n : Int)) = true := by simp; omega
    clear h
    go_enter Try.func4, Try.ntmps4
    go_wp2_with (go_at_call 7; fail)
    refine (HA.out _).mono ?_
    rintro e w1 ⟨rfl, hb1⟩
    have HB1 := Lib.hid (HB0.out.trans (hb1.mono HB0.out.size))
    obtain ⟨_, e0, e1, e2, e3, e4⟩ := HX0.out.below hb1
    clear hb1
    go_wp2_with (go_at_call 8; fail)
    refine (HFX.out _ HB1.out).mono ?_
    rintro e w2 ⟨rfl, hb2⟩
    have HB2 := Lib.hid (HB1.out.trans (hb2.mono HB1.out.size))
    clear hb2
    go_wp2
    go_ret
    exact ⟨rfl, HB2.out⟩
set_option maxRecDepth 100000 in
set_option maxHeartbeats 4000000 in
theorem within_go (x : V) (zs : List Int) (v vz : Value) (w : World) (hv : Holds w v x) (hz : Ints w vz zs) (hx : fewV x 0 = true) (h12 : zs.length ≤ 12) : Calls Try.prog 4 #[v, vz] w (SameQ true w) := by
  obtain ⟨c0, c1, c2, c3, c4, rfl⟩ := VAt.five hv
  have hz' := hz
  obtain ⟨p, cap, rfl, hle, _⟩ := hz'
  obtain ⟨n, hn⟩ : ∃ n, zs.length = n := ⟨_, rfl⟩
  rw [hn] at hle hz h12 ⊢
  have HA := Lib.hid (fun w => awake_any w)
  have HB0 : Hid (Below w.heap.size w (w.alloc (.cells #[c0, c1, c2, c3, c4] 24))) := Lib.hid ((Below.refl _ w).alloc (Nat.le_refl _) _)
  have HX0 : Hid (Box5 (w.alloc (.cells #[c0, c1, c2, c3, c4] 24)) w.heap.size c0 c1 c2 c3 c4) := Lib.hid (box5_new w _ _ _ _ _ _)
  have HFX := Lib.hid (fun W (hb : Below w.heap.size w W) => few_any x 0 _ W (by omega) (hv.below hb))
  rw [hx] at HFX
  have HOX := Lib.hid (fun W (hb : Below w.heap.size w W) => of_has hx (hv.below hb))
  have HWI := Lib.hid (fun W (hb : Below w.heap.size w W) => within_any x zs _ (.slice p n cap) W (hv.below hb) (hz.below hb))
  have HII := Lib.hid (fun u W (h : Has W u (ofV x)) (hb : Below w.heap.size w W) => int_any (ofV x) zs u (.slice p n cap) W h (hz.below hb))
  have HSS := Lib.hid (fun u W (h : Has W u (ofV x)) (hb : Below w.heap.size w W) => str_any (ofV x) zs u (.slice p n cap) W h (hz.below hb))
  have HBB := Lib.hid (fun u W (h : Has W u (ofV x)) (hb : Below w.heap.size w W) => bool_any (ofV x) zs u (.slice p n cap) W h (hz.below hb))
  have HLL := Lib.hid (fun u W (h : Has W u (ofV x)) (hb : Below w.heap.size w W) => list_any (ofV x) zs u (.slice p n cap) W (sm_of_few x 0 hx) h (hz.below hb))
  rw [cm_wi] at HII HSS HBB HLL
  obtain ⟨⟨c, y⟩, hq⟩ : ∃ q, wi x zs = q := ⟨_, rfl⟩
  rw [hq] at HWI HII HSS HBB HLL
  simp only at HII HSS HBB HLL
  have d1 : decide ((12 : Int) < (n : Int)) = false := by simp; omega
  clear hv hn hz hx hq h12
  go_enter Try.func4, Try.ntmps4
  go_wp2_with (go_at_call 7; fail)
  refine (HA.out _).mono ?_
  rintro e w1 ⟨rfl, hb1⟩
  have HB1 := Lib.hid (HB0.out.trans (hb1.mono HB0.out.size))
  have HX1 := Lib.hid (HX0.out.below hb1)
  obtain ⟨_, e0, e1, e2, e3, e4⟩ := HX1.out
  clear hb1
  go_wp2_with (go_at_call 8; fail)
  refine (HFX.out _ HB1.out).mono ?_
  rintro e w2 ⟨rfl, hb2⟩
  have HB2 := Lib.hid (HB1.out.trans (hb2.mono HB1.out.size))
  have HX2 := Lib.hid (HX1.out.below hb2)
  clear hb2 e0 e1 e2 e3 e4
  obtain ⟨_, e0, e1, e2, e3, e4⟩ := HX2.out
  go_wp2_with (go_at_call 10; fail)
  refine (HOX.out _ HB2.out).mono ?_
  rintro e w3 ⟨r3, rfl, hb3, hr3⟩
  have HB3 := Lib.hid (HB2.out.trans (hb3.mono HB2.out.size))
  have HX3 := Lib.hid (HX2.out.below hb3)
  have HR3 := Lib.hid hr3
  clear hb3 hr3 e0 e1 e2 e3 e4
  obtain ⟨_, e0, e1, e2, e3, e4⟩ := HX3.out
  go_wp2_with (go_at_call 16; fail)
  refine (HWI.out _ HB3.out).mono ?_
  rintro e w4 ⟨y4, rfl, hy4, hb4⟩
  have HB4 := Lib.hid (HB3.out.trans (hb4.mono HB3.out.size))
  have HR4 := Lib.hid (HR3.out.below hb4)
  obtain ⟨yk, yn, ys, yb, yl⟩ := y
  obtain ⟨p4, cap4, hp4⟩ := VAt.parts hy4
  obtain ⟨rfl, _, _, _, _, _, _⟩ := hp4
  have HON := Lib.hid (VAt.ones hy4)
  clear hb4 hy4 e0 e1 e2 e3 e4
  obtain ⟨m, hm⟩ : ∃ m, yl.length = m := ⟨_, rfl⟩
  rw [hm] at HON ⊢
  have HM := Lib.hid hm
  clear hm
  have HBK : Hid (Blk ((w4.alloc (.cells #[.int .i64 0, .int .i64 0, .string { data := #[] }, .bool false, .slice none 0 0] 24)).alloc (.cells #[.int .i64 0] 3)) w4.heap.size #[.int .i64 0, .int .i64 0, .string { data := #[] }, .bool false, .slice none 0 0]) := Lib.hid ((blk_new w4 _).past ((Below.refl _ _).alloc (Nat.le_refl _) _))
  go_wp2_with (with_reducible refine wpList_put5 w4.heap.size (.int .i64 yk) (.int .i64 yn) (.string ys) (.bool yb) (.slice p4 m cap4) _ _ _ _ _ rfl rfl HBK.out HON.out ?_)
  intro w5 hk5 hg5
  have one5 : w5.heap[w4.heap.size + 1]? = some (.cells #[.int .i64 0] 3 (0, 0)) := by
    rw [hg5.block _ (by simp) (by simp)]
    have h := heap_alloc_new (w4.alloc (.cells #[.int .i64 0, .int .i64 0, .string { data := #[] }, .bool false, .slice none 0 0] 24)) (.cells #[.int .i64 0] 3)
    rw [show (w4.alloc (.cells #[.int .i64 0, .int .i64 0, .string { data := #[] }, .bool false, .slice none 0 0] 24)).heap.size = w4.heap.size + 1 by simp] at h
    exact h
  have HB5 : Hid (Below w.heap.size w w5) := Lib.hid (below_blk ((HB4.out.alloc HB4.out.size _).alloc (by have := HB4.out.size; simp; omega) _) hg5 (by have := HB4.out.size; simp; omega) HB4.out.size)
  have HR5 : Hid (Has w5 r3 (ofV x)) := Lib.hid (by
    have hb : Below w4.heap.size w4 w5 := below_blk (((Below.refl _ w4).alloc (Nat.le_refl _) _).alloc (by simp) _) hg5 (by simp; omega) (Nat.le_refl _)
    exact HR4.out.below hb)
  have HN5 := Lib.hid hk5
  have c7 := cell_of_one one5
  have f7 := free_of_one one5
  have HO6 := Lib.hid (one_setCell (u := .int .i64 c) one5)
  have HN6 : Hid (Blk (w5.setCell ⟨w4.heap.size + 1, 0, none⟩ (.int .i64 c)) w4.heap.size #[.int .i64 yk, .int .i64 yn, .string ys, .bool yb, .slice p4 m cap4]) := Lib.hid (by
    unfold Blk
    rw [Below.heap_setCell _ _ _ _ (by simp)]
    exact HN5.out)
  have HB6 : Hid (Below w.heap.size w (w5.setCell ⟨w4.heap.size + 1, 0, none⟩ (.int .i64 c))) := Lib.hid (HB5.out.setCell (by have := HB4.out.size; simp; omega) _)
  have HR6 : Hid (Has (w5.setCell ⟨w4.heap.size + 1, 0, none⟩ (.int .i64 c)) r3 (ofV x)) := Lib.hid (by
    have hb : Below (w4.heap.size + 1) w5 (w5.setCell ⟨w4.heap.size + 1, 0, none⟩ (.int .i64 c)) := Below.setCell (p := ⟨w4.heap.size + 1, 0, none⟩) (Below.refl _ w5) (Nat.le_refl _) _
    have hs : w4.heap.size ≤ w5.heap.size := by have := HN5.out.lt; omega
    have h4 := HR4.out.low
    have hb45 : Below w4.heap.size w4 w5 := below_blk (((Below.refl _ w4).alloc (Nat.le_refl _) _).alloc (by simp) _) hg5 (by simp; omega) (Nat.le_refl _)
    exact (h4.below (hb45.trans (hb.mono (by omega)))).has)
  have hmf : ∀ (fn : Fn) (first cap : Array Value) (w : World), (Instr.makeFunc fn first cap).run Try.prog w = .ok (.func fn first cap) w := fun _ _ _ _ => rfl
  clear hk5 hg5 one5
  have hcs : c ≠ 0 ∨ (c = 0 ∧ yk = 1) ∨ (c = 0 ∧ yk = 2) ∨ (c = 0 ∧ yk = 3) ∨ (c = 0 ∧ yk = 4) ∨ (c = 0 ∧ yk ≠ 1 ∧ yk ≠ 2 ∧ yk ≠ 3 ∧ yk ≠ 4) := by omega
  rcases hcs with h0 | ⟨rfl, rfl⟩ | ⟨rfl, rfl⟩ | ⟨rfl, rfl⟩ | ⟨rfl, rfl⟩ | ⟨rfl, k1, k2, k3, k4⟩
  · have e1 : (c == 0) = false := by simp [h0]
    have e2 : (c != 0) = true := by simp [h0]
    have hI : fInt (c, ofV (.mk yk yn ys yb yl)) = (0, c) := by simp [fInt, h0]
    have hS : fStr (c, ofV (.mk yk yn ys yb yl)) = ({ data := #[] }, c) := by simp [fStr, h0]
    have hBo : fBool (c, ofV (.mk yk yn ys yb yl)) = (false, c) := by simp [fBool, h0]
    have hL : fList (c, ofV (.mk yk yn ys yb yl)) = ([], c) := by simp [fList, h0]
    have HI2 := Lib.hid (HII.out r3 _ HR6.out HB6.out)
    have HS2 := Lib.hid (HSS.out r3 _ HR6.out HB6.out)
    have HB2' := Lib.hid (HBB.out r3 _ HR6.out HB6.out)
    have HL2 := Lib.hid (HLL.out r3 _ HR6.out HB6.out)
    rw [hI] at HI2
    rw [hS] at HS2
    rw [hBo] at HB2'
    rw [hL] at HL2
    have HH0 := Lib.hid h0
    clear h0 hI hS hBo hL
    go_wp2_with (go_at_call 18; fail)
    refine HI2.out.mono ?_
    rintro e wI ⟨rfl, rfl⟩
    go_wp2_with (go_at_call 19; fail)
    refine HS2.out.mono ?_
    rintro e wI ⟨rfl, rfl⟩
    go_wp2_with (go_at_call 20; fail)
    refine HB2'.out.mono ?_
    rintro e wI ⟨rfl, rfl⟩
    go_wp2_with (go_at_call 21; fail)
    refine HL2.out.mono ?_
    rintro e w7 ⟨p7, c7', rfl, _, hb7⟩
    have HB7 : Hid (Below w.heap.size w w7) := Lib.hid (HB6.out.trans (hb7.mono HB6.out.size))
    have HK7 := Lib.hid (HN6.out.past hb7)
    have o7 : w7.heap[w4.heap.size + 1]? = some (.cells #[.int .i64 c] 3 (0, 0)) := (hb7.block _ (Array.getElem?_eq_some_iff.1 HO6.out).1).trans HO6.out
    have q7 := cell_of_one o7
    have q0 : w7.cell? ⟨w4.heap.size, 0, none⟩ = some (.int .i64 yk) := by rw [HK7.out.cell]; rfl
    have q1 : w7.cell? ⟨w4.heap.size, 1, none⟩ = some (.int .i64 yn) := by rw [HK7.out.cell]; rfl
    have q2 : w7.cell? ⟨w4.heap.size, 2, none⟩ = some (.string ys) := by rw [HK7.out.cell]; rfl
    have q3 : w7.cell? ⟨w4.heap.size, 3, none⟩ = some (.bool yb) := by rw [HK7.out.cell]; rfl
    have q4 : w7.cell? ⟨w4.heap.size, 4, none⟩ = some (.slice p4 m cap4) := by rw [HK7.out.cell]; rfl
    clear hb7 c7 f7 o7
    have W1 := Lib.hid (want_any c 1 yk (c) (w4.heap.size + 1) w4.heap.size w7 q7 q0 (Or.inl ⟨HH0.out, rfl⟩))
    have W2 := Lib.hid (want_any c 2 yk (c) (w4.heap.size + 1) w4.heap.size w7 q7 q0 (Or.inl ⟨HH0.out, rfl⟩))
    have W3 := Lib.hid (want_any c 3 yk (c) (w4.heap.size + 1) w4.heap.size w7 q7 q0 (Or.inl ⟨HH0.out, rfl⟩))
    have W4 := Lib.hid (want_any c 4 yk (c) (w4.heap.size + 1) w4.heap.size w7 q7 q0 (Or.inl ⟨HH0.out, rfl⟩))
    go_wp2_with (go_at_call 17; fail)
    refine W1.out.mono ?_
    rintro e wI ⟨rfl, rfl⟩
    go_wp2_with (go_at_call 17; fail)
    refine W2.out.mono ?_
    rintro e wI ⟨rfl, rfl⟩
    go_wp2_with (go_at_call 17; fail)
    refine W3.out.mono ?_
    rintro e wI ⟨rfl, rfl⟩
    go_wp2_with (go_at_call 17; fail)
    refine W4.out.mono ?_
    rintro e wI ⟨rfl, rfl⟩
    go_wp2
    go_ret
    exact ⟨rfl, HB7.out⟩
  · have e0 : True := trivial
    have hI : fInt (0, ofV (.mk 1 yn ys yb yl)) = (yn, 0) := by simp [fInt, ofV]
    have hS : fStr (0, ofV (.mk 1 yn ys yb yl)) = ({ data := #[] }, 9) := by simp [fStr, ofV]
    have hBo : fBool (0, ofV (.mk 1 yn ys yb yl)) = (false, 9) := by simp [fBool, ofV]
    have hL : fList (0, ofV (.mk 1 yn ys yb yl)) = ([], 9) := by simp [fList, ofV]
    have HI2 := Lib.hid (HII.out r3 _ HR6.out HB6.out)
    have HS2 := Lib.hid (HSS.out r3 _ HR6.out HB6.out)
    have HB2' := Lib.hid (HBB.out r3 _ HR6.out HB6.out)
    have HL2 := Lib.hid (HLL.out r3 _ HR6.out HB6.out)
    rw [hI] at HI2
    rw [hS] at HS2
    rw [hBo] at HB2'
    rw [hL] at HL2
    clear e0
    clear hI hS hBo hL
    go_wp2_with (go_at_call 18; fail)
    refine HI2.out.mono ?_
    rintro e wI ⟨rfl, rfl⟩
    go_wp2_with (go_at_call 19; fail)
    refine HS2.out.mono ?_
    rintro e wI ⟨rfl, rfl⟩
    go_wp2_with (go_at_call 20; fail)
    refine HB2'.out.mono ?_
    rintro e wI ⟨rfl, rfl⟩
    go_wp2_with (go_at_call 21; fail)
    refine HL2.out.mono ?_
    rintro e w7 ⟨p7, c7', rfl, _, hb7⟩
    have HB7 : Hid (Below w.heap.size w w7) := Lib.hid (HB6.out.trans (hb7.mono HB6.out.size))
    have HK7 := Lib.hid (HN6.out.past hb7)
    have o7 : w7.heap[w4.heap.size + 1]? = some (.cells #[.int .i64 0] 3 (0, 0)) := (hb7.block _ (Array.getElem?_eq_some_iff.1 HO6.out).1).trans HO6.out
    have q7 := cell_of_one o7
    have q0 : w7.cell? ⟨w4.heap.size, 0, none⟩ = some (.int .i64 1) := by rw [HK7.out.cell]; rfl
    have q1 : w7.cell? ⟨w4.heap.size, 1, none⟩ = some (.int .i64 yn) := by rw [HK7.out.cell]; rfl
    have q2 : w7.cell? ⟨w4.heap.size, 2, none⟩ = some (.string ys) := by rw [HK7.out.cell]; rfl
    have q3 : w7.cell? ⟨w4.heap.size, 3, none⟩ = some (.bool yb) := by rw [HK7.out.cell]; rfl
    have q4 : w7.cell? ⟨w4.heap.size, 4, none⟩ = some (.slice p4 m cap4) := by rw [HK7.out.cell]; rfl
    clear hb7 c7 f7 o7
    have W1 := Lib.hid (want_any 0 1 1 (0) (w4.heap.size + 1) w4.heap.size w7 q7 q0 (Or.inr (Or.inr ⟨rfl, rfl, rfl⟩)))
    have W2 := Lib.hid (want_any 0 2 1 (9) (w4.heap.size + 1) w4.heap.size w7 q7 q0 (Or.inr (Or.inl ⟨rfl, by decide, rfl⟩)))
    have W3 := Lib.hid (want_any 0 3 1 (9) (w4.heap.size + 1) w4.heap.size w7 q7 q0 (Or.inr (Or.inl ⟨rfl, by decide, rfl⟩)))
    have W4 := Lib.hid (want_any 0 4 1 (9) (w4.heap.size + 1) w4.heap.size w7 q7 q0 (Or.inr (Or.inl ⟨rfl, by decide, rfl⟩)))
    go_wp2_with (go_at_call 17; fail)
    refine W1.out.mono ?_
    rintro e wI ⟨rfl, rfl⟩
    go_wp2_with (go_at_call 17; fail)
    refine W2.out.mono ?_
    rintro e wI ⟨rfl, rfl⟩
    go_wp2_with (go_at_call 17; fail)
    refine W3.out.mono ?_
    rintro e wI ⟨rfl, rfl⟩
    go_wp2_with (go_at_call 17; fail)
    refine W4.out.mono ?_
    rintro e wI ⟨rfl, rfl⟩
    go_wp2
    go_ret
    exact ⟨rfl, HB7.out⟩
  · have e0 : True := trivial
    have hI : fInt (0, ofV (.mk 2 yn ys yb yl)) = (0, 9) := by simp [fInt, ofV]
    have hS : fStr (0, ofV (.mk 2 yn ys yb yl)) = (ys, 0) := by simp [fStr, ofV]
    have hBo : fBool (0, ofV (.mk 2 yn ys yb yl)) = (false, 9) := by simp [fBool, ofV]
    have hL : fList (0, ofV (.mk 2 yn ys yb yl)) = ([], 9) := by simp [fList, ofV]
    have HI2 := Lib.hid (HII.out r3 _ HR6.out HB6.out)
    have HS2 := Lib.hid (HSS.out r3 _ HR6.out HB6.out)
    have HB2' := Lib.hid (HBB.out r3 _ HR6.out HB6.out)
    have HL2 := Lib.hid (HLL.out r3 _ HR6.out HB6.out)
    rw [hI] at HI2
    rw [hS] at HS2
    rw [hBo] at HB2'
    rw [hL] at HL2
    clear e0
    clear hI hS hBo hL
    go_wp2_with (go_at_call 18; fail)
    refine HI2.out.mono ?_
    rintro e wI ⟨rfl, rfl⟩
    go_wp2_with (go_at_call 19; fail)
    refine HS2.out.mono ?_
    rintro e wI ⟨rfl, rfl⟩
    go_wp2_with (go_at_call 20; fail)
    refine HB2'.out.mono ?_
    rintro e wI ⟨rfl, rfl⟩
    go_wp2_with (go_at_call 21; fail)
    refine HL2.out.mono ?_
    rintro e w7 ⟨p7, c7', rfl, _, hb7⟩
    have HB7 : Hid (Below w.heap.size w w7) := Lib.hid (HB6.out.trans (hb7.mono HB6.out.size))
    have HK7 := Lib.hid (HN6.out.past hb7)
    have o7 : w7.heap[w4.heap.size + 1]? = some (.cells #[.int .i64 0] 3 (0, 0)) := (hb7.block _ (Array.getElem?_eq_some_iff.1 HO6.out).1).trans HO6.out
    have q7 := cell_of_one o7
    have q0 : w7.cell? ⟨w4.heap.size, 0, none⟩ = some (.int .i64 2) := by rw [HK7.out.cell]; rfl
    have q1 : w7.cell? ⟨w4.heap.size, 1, none⟩ = some (.int .i64 yn) := by rw [HK7.out.cell]; rfl
    have q2 : w7.cell? ⟨w4.heap.size, 2, none⟩ = some (.string ys) := by rw [HK7.out.cell]; rfl
    have q3 : w7.cell? ⟨w4.heap.size, 3, none⟩ = some (.bool yb) := by rw [HK7.out.cell]; rfl
    have q4 : w7.cell? ⟨w4.heap.size, 4, none⟩ = some (.slice p4 m cap4) := by rw [HK7.out.cell]; rfl
    clear hb7 c7 f7 o7
    have W1 := Lib.hid (want_any 0 1 2 (9) (w4.heap.size + 1) w4.heap.size w7 q7 q0 (Or.inr (Or.inl ⟨rfl, by decide, rfl⟩)))
    have W2 := Lib.hid (want_any 0 2 2 (0) (w4.heap.size + 1) w4.heap.size w7 q7 q0 (Or.inr (Or.inr ⟨rfl, rfl, rfl⟩)))
    have W3 := Lib.hid (want_any 0 3 2 (9) (w4.heap.size + 1) w4.heap.size w7 q7 q0 (Or.inr (Or.inl ⟨rfl, by decide, rfl⟩)))
    have W4 := Lib.hid (want_any 0 4 2 (9) (w4.heap.size + 1) w4.heap.size w7 q7 q0 (Or.inr (Or.inl ⟨rfl, by decide, rfl⟩)))
    go_wp2_with (go_at_call 17; fail)
    refine W1.out.mono ?_
    rintro e wI ⟨rfl, rfl⟩
    go_wp2_with (go_at_call 17; fail)
    refine W2.out.mono ?_
    rintro e wI ⟨rfl, rfl⟩
    go_wp2_with (go_at_call 17; fail)
    refine W3.out.mono ?_
    rintro e wI ⟨rfl, rfl⟩
    go_wp2_with (go_at_call 17; fail)
    refine W4.out.mono ?_
    rintro e wI ⟨rfl, rfl⟩
    go_wp2
    go_ret
    exact ⟨rfl, HB7.out⟩
  · have e0 : True := trivial
    have hI : fInt (0, ofV (.mk 3 yn ys yb yl)) = (0, 9) := by simp [fInt, ofV]
    have hS : fStr (0, ofV (.mk 3 yn ys yb yl)) = ({ data := #[] }, 9) := by simp [fStr, ofV]
    have hBo : fBool (0, ofV (.mk 3 yn ys yb yl)) = (yb, 0) := by simp [fBool, ofV]
    have hL : fList (0, ofV (.mk 3 yn ys yb yl)) = ([], 9) := by simp [fList, ofV]
    have HI2 := Lib.hid (HII.out r3 _ HR6.out HB6.out)
    have HS2 := Lib.hid (HSS.out r3 _ HR6.out HB6.out)
    have HB2' := Lib.hid (HBB.out r3 _ HR6.out HB6.out)
    have HL2 := Lib.hid (HLL.out r3 _ HR6.out HB6.out)
    rw [hI] at HI2
    rw [hS] at HS2
    rw [hBo] at HB2'
    rw [hL] at HL2
    clear e0
    clear hI hS hBo hL
    go_wp2_with (go_at_call 18; fail)
    refine HI2.out.mono ?_
    rintro e wI ⟨rfl, rfl⟩
    go_wp2_with (go_at_call 19; fail)
    refine HS2.out.mono ?_
    rintro e wI ⟨rfl, rfl⟩
    go_wp2_with (go_at_call 20; fail)
    refine HB2'.out.mono ?_
    rintro e wI ⟨rfl, rfl⟩
    go_wp2_with (go_at_call 21; fail)
    refine HL2.out.mono ?_
    rintro e w7 ⟨p7, c7', rfl, _, hb7⟩
    have HB7 : Hid (Below w.heap.size w w7) := Lib.hid (HB6.out.trans (hb7.mono HB6.out.size))
    have HK7 := Lib.hid (HN6.out.past hb7)
    have o7 : w7.heap[w4.heap.size + 1]? = some (.cells #[.int .i64 0] 3 (0, 0)) := (hb7.block _ (Array.getElem?_eq_some_iff.1 HO6.out).1).trans HO6.out
    have q7 := cell_of_one o7
    have q0 : w7.cell? ⟨w4.heap.size, 0, none⟩ = some (.int .i64 3) := by rw [HK7.out.cell]; rfl
    have q1 : w7.cell? ⟨w4.heap.size, 1, none⟩ = some (.int .i64 yn) := by rw [HK7.out.cell]; rfl
    have q2 : w7.cell? ⟨w4.heap.size, 2, none⟩ = some (.string ys) := by rw [HK7.out.cell]; rfl
    have q3 : w7.cell? ⟨w4.heap.size, 3, none⟩ = some (.bool yb) := by rw [HK7.out.cell]; rfl
    have q4 : w7.cell? ⟨w4.heap.size, 4, none⟩ = some (.slice p4 m cap4) := by rw [HK7.out.cell]; rfl
    clear hb7 c7 f7 o7
    have W1 := Lib.hid (want_any 0 1 3 (9) (w4.heap.size + 1) w4.heap.size w7 q7 q0 (Or.inr (Or.inl ⟨rfl, by decide, rfl⟩)))
    have W2 := Lib.hid (want_any 0 2 3 (9) (w4.heap.size + 1) w4.heap.size w7 q7 q0 (Or.inr (Or.inl ⟨rfl, by decide, rfl⟩)))
    have W3 := Lib.hid (want_any 0 3 3 (0) (w4.heap.size + 1) w4.heap.size w7 q7 q0 (Or.inr (Or.inr ⟨rfl, rfl, rfl⟩)))
    have W4 := Lib.hid (want_any 0 4 3 (9) (w4.heap.size + 1) w4.heap.size w7 q7 q0 (Or.inr (Or.inl ⟨rfl, by decide, rfl⟩)))
    go_wp2_with (go_at_call 17; fail)
    refine W1.out.mono ?_
    rintro e wI ⟨rfl, rfl⟩
    go_wp2_with (go_at_call 17; fail)
    refine W2.out.mono ?_
    rintro e wI ⟨rfl, rfl⟩
    go_wp2_with (go_at_call 17; fail)
    refine W3.out.mono ?_
    rintro e wI ⟨rfl, rfl⟩
    go_wp2_with (go_at_call 17; fail)
    refine W4.out.mono ?_
    rintro e wI ⟨rfl, rfl⟩
    go_wp2
    go_ret
    exact ⟨rfl, HB7.out⟩
  · have e0 : True := trivial
    have hI : fInt (0, ofV (.mk 4 yn ys yb yl)) = (0, 9) := by simp [fInt, ofV]
    have hS : fStr (0, ofV (.mk 4 yn ys yb yl)) = ({ data := #[] }, 9) := by simp [fStr, ofV]
    have hBo : fBool (0, ofV (.mk 4 yn ys yb yl)) = (false, 9) := by simp [fBool, ofV]
    have hL : fList (0, ofV (.mk 4 yn ys yb yl)) = (ofVs yl, 0) := by simp [fList, ofV]
    have HI2 := Lib.hid (HII.out r3 _ HR6.out HB6.out)
    have HS2 := Lib.hid (HSS.out r3 _ HR6.out HB6.out)
    have HB2' := Lib.hid (HBB.out r3 _ HR6.out HB6.out)
    have HL2 := Lib.hid (HLL.out r3 _ HR6.out HB6.out)
    rw [hI] at HI2
    rw [hS] at HS2
    rw [hBo] at HB2'
    rw [hL] at HL2
    have hlm : (ofVs yl).length = m := by rw [ofVs_map, List.length_map]; exact HM.out
    unfold ListQ at HL2
    simp only at HL2
    rw [hlm] at HL2
    clear e0 hlm
    clear hI hS hBo hL
    go_wp2_with (go_at_call 18; fail)
    refine HI2.out.mono ?_
    rintro e wI ⟨rfl, rfl⟩
    go_wp2_with (go_at_call 19; fail)
    refine HS2.out.mono ?_
    rintro e wI ⟨rfl, rfl⟩
    go_wp2_with (go_at_call 20; fail)
    refine HB2'.out.mono ?_
    rintro e wI ⟨rfl, rfl⟩
    go_wp2_with (go_at_call 21; fail)
    refine HL2.out.mono ?_
    rintro e w7 ⟨p7, c7', rfl, _, hb7⟩
    have HB7 : Hid (Below w.heap.size w w7) := Lib.hid (HB6.out.trans (hb7.mono HB6.out.size))
    have HK7 := Lib.hid (HN6.out.past hb7)
    have o7 : w7.heap[w4.heap.size + 1]? = some (.cells #[.int .i64 0] 3 (0, 0)) := (hb7.block _ (Array.getElem?_eq_some_iff.1 HO6.out).1).trans HO6.out
    have q7 := cell_of_one o7
    have q0 : w7.cell? ⟨w4.heap.size, 0, none⟩ = some (.int .i64 4) := by rw [HK7.out.cell]; rfl
    have q1 : w7.cell? ⟨w4.heap.size, 1, none⟩ = some (.int .i64 yn) := by rw [HK7.out.cell]; rfl
    have q2 : w7.cell? ⟨w4.heap.size, 2, none⟩ = some (.string ys) := by rw [HK7.out.cell]; rfl
    have q3 : w7.cell? ⟨w4.heap.size, 3, none⟩ = some (.bool yb) := by rw [HK7.out.cell]; rfl
    have q4 : w7.cell? ⟨w4.heap.size, 4, none⟩ = some (.slice p4 m cap4) := by rw [HK7.out.cell]; rfl
    clear hb7 c7 f7 o7
    have W1 := Lib.hid (want_any 0 1 4 (9) (w4.heap.size + 1) w4.heap.size w7 q7 q0 (Or.inr (Or.inl ⟨rfl, by decide, rfl⟩)))
    have W2 := Lib.hid (want_any 0 2 4 (9) (w4.heap.size + 1) w4.heap.size w7 q7 q0 (Or.inr (Or.inl ⟨rfl, by decide, rfl⟩)))
    have W3 := Lib.hid (want_any 0 3 4 (9) (w4.heap.size + 1) w4.heap.size w7 q7 q0 (Or.inr (Or.inl ⟨rfl, by decide, rfl⟩)))
    have W4 := Lib.hid (want_any 0 4 4 (0) (w4.heap.size + 1) w4.heap.size w7 q7 q0 (Or.inr (Or.inr ⟨rfl, rfl, rfl⟩)))
    go_wp2_with (go_at_call 17; fail)
    refine W1.out.mono ?_
    rintro e wI ⟨rfl, rfl⟩
    go_wp2_with (go_at_call 17; fail)
    refine W2.out.mono ?_
    rintro e wI ⟨rfl, rfl⟩
    go_wp2_with (go_at_call 17; fail)
    refine W3.out.mono ?_
    rintro e wI ⟨rfl, rfl⟩
    go_wp2_with (go_at_call 17; fail)
    refine W4.out.mono ?_
    rintro e wI ⟨rfl, rfl⟩
    go_wp2
    go_ret
    exact ⟨rfl, HB7.out⟩
  · have HK1 := Lib.hid k1
    have HK2 := Lib.hid k2
    have HK3 := Lib.hid k3
    have HK4 := Lib.hid k4
    have hI : fInt (0, ofV (.mk yk yn ys yb yl)) = (0, 9) := by simp [fInt, ofV, k1, k2, k3, k4]
    have hS : fStr (0, ofV (.mk yk yn ys yb yl)) = ({ data := #[] }, 9) := by simp [fStr, ofV, k1, k2, k3, k4]
    have hBo : fBool (0, ofV (.mk yk yn ys yb yl)) = (false, 9) := by simp [fBool, ofV, k1, k2, k3, k4]
    have hL : fList (0, ofV (.mk yk yn ys yb yl)) = ([], 9) := by simp [fList, ofV, k1, k2, k3, k4]
    have HI2 := Lib.hid (HII.out r3 _ HR6.out HB6.out)
    have HS2 := Lib.hid (HSS.out r3 _ HR6.out HB6.out)
    have HB2' := Lib.hid (HBB.out r3 _ HR6.out HB6.out)
    have HL2 := Lib.hid (HLL.out r3 _ HR6.out HB6.out)
    rw [hI] at HI2
    rw [hS] at HS2
    rw [hBo] at HB2'
    rw [hL] at HL2
    clear k1 k2 k3 k4
    clear hI hS hBo hL
    go_wp2_with (go_at_call 18; fail)
    refine HI2.out.mono ?_
    rintro e wI ⟨rfl, rfl⟩
    go_wp2_with (go_at_call 19; fail)
    refine HS2.out.mono ?_
    rintro e wI ⟨rfl, rfl⟩
    go_wp2_with (go_at_call 20; fail)
    refine HB2'.out.mono ?_
    rintro e wI ⟨rfl, rfl⟩
    go_wp2_with (go_at_call 21; fail)
    refine HL2.out.mono ?_
    rintro e w7 ⟨p7, c7', rfl, _, hb7⟩
    have HB7 : Hid (Below w.heap.size w w7) := Lib.hid (HB6.out.trans (hb7.mono HB6.out.size))
    have HK7 := Lib.hid (HN6.out.past hb7)
    have o7 : w7.heap[w4.heap.size + 1]? = some (.cells #[.int .i64 0] 3 (0, 0)) := (hb7.block _ (Array.getElem?_eq_some_iff.1 HO6.out).1).trans HO6.out
    have q7 := cell_of_one o7
    have q0 : w7.cell? ⟨w4.heap.size, 0, none⟩ = some (.int .i64 yk) := by rw [HK7.out.cell]; rfl
    have q1 : w7.cell? ⟨w4.heap.size, 1, none⟩ = some (.int .i64 yn) := by rw [HK7.out.cell]; rfl
    have q2 : w7.cell? ⟨w4.heap.size, 2, none⟩ = some (.string ys) := by rw [HK7.out.cell]; rfl
    have q3 : w7.cell? ⟨w4.heap.size, 3, none⟩ = some (.bool yb) := by rw [HK7.out.cell]; rfl
    have q4 : w7.cell? ⟨w4.heap.size, 4, none⟩ = some (.slice p4 m cap4) := by rw [HK7.out.cell]; rfl
    clear hb7 c7 f7 o7
    have W1 := Lib.hid (want_any 0 1 yk (9) (w4.heap.size + 1) w4.heap.size w7 q7 q0 (Or.inr (Or.inl ⟨rfl, HK1.out, rfl⟩)))
    have W2 := Lib.hid (want_any 0 2 yk (9) (w4.heap.size + 1) w4.heap.size w7 q7 q0 (Or.inr (Or.inl ⟨rfl, HK2.out, rfl⟩)))
    have W3 := Lib.hid (want_any 0 3 yk (9) (w4.heap.size + 1) w4.heap.size w7 q7 q0 (Or.inr (Or.inl ⟨rfl, HK3.out, rfl⟩)))
    have W4 := Lib.hid (want_any 0 4 yk (9) (w4.heap.size + 1) w4.heap.size w7 q7 q0 (Or.inr (Or.inl ⟨rfl, HK4.out, rfl⟩)))
    go_wp2_with (go_at_call 17; fail)
    refine W1.out.mono ?_
    rintro e wI ⟨rfl, rfl⟩
    go_wp2_with (go_at_call 17; fail)
    refine W2.out.mono ?_
    rintro e wI ⟨rfl, rfl⟩
    go_wp2_with (go_at_call 17; fail)
    refine W3.out.mono ?_
    rintro e wI ⟨rfl, rfl⟩
    go_wp2_with (go_at_call 17; fail)
    refine W4.out.mono ?_
    rintro e wI ⟨rfl, rfl⟩
    go_wp2
    go_ret
    exact ⟨rfl, HB7.out⟩
theorem lwithin_any (x : V) (zs : List Int) (v vz : Value) (w : World) (hv : Holds w v x) (hz : Ints w vz zs) : Calls Try.prog 4 #[v, vz] w (SameQ true w) := by
  cases hx : fewV x 0 with
  | false => exact within_skip x zs v vz w hv hz (Or.inl hx)
  | true =>
    by_cases h : zs.length ≤ 12
    · exact within_go x zs v vz w hv hz hx h
    · exact within_skip x zs v vz w hv hz (Or.inr ⟨hx, by omega⟩)
end Go.Proofs.Ytncbgonanoihfaa

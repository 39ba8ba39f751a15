/- The law's own example: awake answers true. No condition. -/
import Derived.Test.YtncbgonanoihfaaX1
import Derived.Test.YtncbgonanoihfaaP5
namespace Go.Own
def strA : ByteArray := { data := #[97] }
def a0 : A := .list [.num 1, .str strA, .bool true, .list []]
theorem er_a0 : er a0 0 = 0 := by decide +kernel
theorem pr_a0 : pr a0 = [108, 4, 105, 0, 0, 0, 0, 0, 0, 0, 1, 115, 0, 1, 97, 121, 108, 0] := by decide +kernel
theorem sz_a0 : sz a0 0 ≤ 140737488355328 := by decide +kernel
theorem ok_a0 : okA a0 := by
  refine ⟨?_, trivial, trivial, trivial, trivial⟩
  show In64 1
  unfold In64 two63
  omega
theorem g0 : cm a0 [0] = (0, .num 1) := rfl
theorem g1 : cm a0 [1] = (0, .str strA) := rfl
theorem g2 : cm a0 [2] = (0, .bool true) := rfl
theorem g3 : cm a0 [3] = (0, .list []) := rfl
theorem g9 : cm a0 [9] = (4, .none) := rfl
end Go.Own
namespace Go.Proofs.Ytncbgonanoihfaa
open Go.RowKit Go.Own
theorem ints_one (w : World) (z : Int) (h : In64 z) : Ints (w.alloc (.cells #[.int .i64 z] 3)) (.slice (some ⟨w.heap.size, 0, none⟩) 1 1) [z] := by
  refine ⟨some ⟨w.heap.size, 0, none⟩, 1, rfl, by simp, fun j x hx => ?_⟩
  cases j with
  | zero =>
    simp at hx
    subst hx
    exact ⟨h, w.heap.size, 0, rfl, by simp, cell_new _ _ _ _⟩
  | succ j => simp at hx
theorem in_small (z : Int) (h0 : 0 ≤ z) (h1 : z ≤ 9) : In64 z := by unfold In64 two63; omega
theorem has_a0 (w : World) : Has ((w.alloc (.cells #[] 20)).alloc (.cells #[.iface 3 (.int .i64 1), .iface 9 (.string strA), .iface 4 (.bool true), .iface 48 (.slice (some ⟨w.heap.size, 0, none⟩) 0 0)] 20)) (.iface 48 (.slice (some ⟨w.heap.size + 1, 0, none⟩) 4 4)) a0 := by
  have hz : (w.alloc (.cells #[] 20)).heap.size = w.heap.size + 1 := by simp
  refine .list (w.heap.size + 1) 0 4 4 _ (fun j => #[Value.iface 3 (.int .i64 1), .iface 9 (.string strA), .iface 4 (.bool true), .iface 48 (.slice (some ⟨w.heap.size, 0, none⟩) 0 0)].getD j .nilIface) rfl trivial (by simp) (by omega) (by omega) (fun j x hx => ?_) (fun j x hx => ?_)
  · have h := cell_new (w.alloc (.cells #[] 20)) #[.iface 3 (.int .i64 1), .iface 9 (.string strA), .iface 4 (.bool true), .iface 48 (.slice (some ⟨w.heap.size, 0, none⟩) 0 0)] 20 j
    rw [hz] at h
    rw [Nat.zero_add, h]
    match j, hx with
    | 0, _ => rfl
    | 1, _ => rfl
    | 2, _ => rfl
    | 3, _ => rfl
    | j + 4, hx => simp at hx
  · match j, hx with
    | 0, hx => simp at hx; subst hx; exact .num 1 (in_small 1 (by omega) (by omega))
    | 1, hx => simp at hx; subst hx; exact .str strA (by decide)
    | 2, hx => simp at hx; subst hx; exact .bool true
    | 3, hx => simp at hx; subst hx; exact .list w.heap.size 0 0 0 [] (fun _ => .nilIface) rfl trivial (by simp; omega) (by omega) (by omega) (fun j x hx => by simp at hx) (fun j x hx => by simp at hx)
    | j + 4, hx => simp at hx
/-- What a number within a value costs: its places lie in one new cell. -/
theorem int_at (a : A) (z : Int) (hz : In64 z) (r : Int × Int) (hr : fInt (cm a [z]) = r) (v : Value) (w : World) (hv : Has w v a) :
    Calls Try.prog 18 #[v, .slice (some ⟨w.heap.size, 0, none⟩) 1 1] (w.alloc (.cells #[.int .i64 z] 3)) (fun e w' => e = .returned (.tuple #[.int .i64 r.1, .int .i64 r.2]) ∧ Below w.heap.size w w') := by
  rw [← hr]
  refine (int_any a [z] v _ _ (hv.below ((Below.refl _ w).alloc (Nat.le_refl _) _)) (ints_one w z hz)).mono ?_
  rintro e w' ⟨rfl, rfl⟩
  exact ⟨rfl, (Below.refl _ w).alloc (Nat.le_refl _) _⟩
theorem str_at (a : A) (z : Int) (hz : In64 z) (r : ByteArray × Int) (hr : fStr (cm a [z]) = r) (v : Value) (w : World) (hv : Has w v a) :
    Calls Try.prog 19 #[v, .slice (some ⟨w.heap.size, 0, none⟩) 1 1] (w.alloc (.cells #[.int .i64 z] 3)) (fun e w' => e = .returned (.tuple #[.string r.1, .int .i64 r.2]) ∧ Below w.heap.size w w') := by
  rw [← hr]
  refine (str_any a [z] v _ _ (hv.below ((Below.refl _ w).alloc (Nat.le_refl _) _)) (ints_one w z hz)).mono ?_
  rintro e w' ⟨rfl, rfl⟩
  exact ⟨rfl, (Below.refl _ w).alloc (Nat.le_refl _) _⟩
theorem bool_at (a : A) (z : Int) (hz : In64 z) (r : Bool × Int) (hr : fBool (cm a [z]) = r) (v : Value) (w : World) (hv : Has w v a) :
    Calls Try.prog 20 #[v, .slice (some ⟨w.heap.size, 0, none⟩) 1 1] (w.alloc (.cells #[.int .i64 z] 3)) (fun e w' => e = .returned (.tuple #[.bool r.1, .int .i64 r.2]) ∧ Below w.heap.size w w') := by
  rw [← hr]
  refine (bool_any a [z] v _ _ (hv.below ((Below.refl _ w).alloc (Nat.le_refl _) _)) (ints_one w z hz)).mono ?_
  rintro e w' ⟨rfl, rfl⟩
  exact ⟨rfl, (Below.refl _ w).alloc (Nat.le_refl _) _⟩
theorem list_at (a : A) (hs : smA a) (z : Int) (hz : In64 z) (r : List A × Int) (hr : fList (cm a [z]) = r) (v : Value) (w : World) (hv : Has w v a) :
    Calls Try.prog 21 #[v, .slice (some ⟨w.heap.size, 0, none⟩) 1 1] (w.alloc (.cells #[.int .i64 z] 3)) (fun e w' => ∃ p c, e = .returned (.tuple #[.slice p r.1.length c, .int .i64 r.2]) ∧ Below w.heap.size w w') := by
  rw [← hr]
  refine (list_any a [z] v _ _ hs (hv.below ((Below.refl _ w).alloc (Nat.le_refl _) _)) (ints_one w z hz)).mono ?_
  rintro e w' ⟨p, c, rfl, _, hb⟩
  exact ⟨p, c, rfl, ((Below.refl _ w).alloc (Nat.le_refl _) _).trans (hb.mono (by simp))⟩
set_option maxRecDepth 100000 in
set_option maxHeartbeats 2000000 in
theorem awake_any (w : World) : Calls Try.prog 7 #[] w (SameQ true w) := by
  have hlit : mkS (pr a0) = { data := #[108, 4, 105, 0, 0, 0, 0, 0, 0, 0, 1, 115, 0, 1, 97, 121, 108, 0] } := by rw [pr_a0]; rfl
  have hp : prt a0 = { data := #[108, 4, 105, 0, 0, 0, 0, 0, 0, 0, 1, 115, 0, 1, 97, 121, 108, 0] } := by rw [prt, if_pos er_a0, hlit]
  have HP0 := Lib.hid (fun v w hv => print_any a0 v w hv sz_a0)
  unfold PrintQ at HP0
  rw [hp, er_a0] at HP0
  have HPA := Lib.hid (fun w => parse_any (pr a0) (pr_lt a0) w)
  rw [hlit, pa_pr er_a0 ok_a0] at HPA
  have HPO := Lib.hid (fun v w hv => print_any .odd v w hv (by decide))
  have HSA := Lib.hid (fun v u w hv hu => same_any a0 a0 v u w hv hu sz_a0 sz_a0)
  have hsame : sameB a0 a0 = true := by simp [sameB, er_a0]
  rw [hsame] at HSA
  have HSM := Lib.hid (sm_of_er a0 0 er_a0)
  unfold PrintQ at HPO
  have hpo : prt .odd = { data := #[] } := rfl
  have heo : er .odd 0 = 9 := rfl
  rw [hpo, heo] at HPO
  clear hp hsame hlit hpo heo
  have HW0 : Hid (Below w.heap.size w ((w.alloc (.cells #[] 20)).alloc (.cells #[.iface 3 (.int .i64 1), .iface 9 (.string strA), .iface 4 (.bool true), .iface 48 (.slice (some ⟨w.heap.size, 0, none⟩) 0 0)] 20))) := Lib.hid (((Below.refl _ w).alloc (Nat.le_refl _) _).alloc (by simp) _)
  have HA0 := Lib.hid (has_a0 w)
  unfold strA at HW0 HA0
  go_enter Try.func7, Try.ntmps7
  go_wp2_with (go_at_call 9; fail)
  refine (HP0.out _ _ HA0.out).mono ?_
  rintro e w1 ⟨rfl, hb1⟩
  have HA1 := Lib.hid (HA0.out.below hb1)
  have HB1 := Lib.hid (HW0.out.trans (hb1.mono HW0.out.size))
  clear hb1
  go_wp2_with (go_at_call 12; fail)
  refine (HPA.out _).mono ?_
  intro e w2 hq
  rcases hq with ⟨a, v, ha, rfl, hv2, hb2⟩ | ⟨h, _⟩
  · cases ha
    have HA2 := Lib.hid (HA1.out.below hb2)
    have HV2 := Lib.hid hv2
    have HB2 := Lib.hid (HB1.out.trans (hb2.mono HB1.out.size))
    clear hb2 hv2
    go_wp2_with (go_at_call 18; fail)
    refine (int_at a0 0 (in_small 0 (by omega) (by omega)) (1, 0) rfl v w2 HV2.out).mono ?_
    rintro e w3 ⟨rfl, hb3⟩
    have HA3 := Lib.hid (HA2.out.below hb3)
    have HV3 := Lib.hid (HV2.out.below hb3)
    have HB3 := Lib.hid (HB2.out.trans (hb3.mono HB2.out.size))
    clear hb3 HA2 HV2 HB2
    go_wp2_with (go_at_call 19; fail)
    refine (str_at a0 1 (in_small 1 (by omega) (by omega)) ({ data := #[97] }, 0) rfl v w3 HV3.out).mono ?_
    rintro e w4 ⟨rfl, hb4⟩
    have HA4 := Lib.hid (HA3.out.below hb4)
    have HV4 := Lib.hid (HV3.out.below hb4)
    have HB4 := Lib.hid (HB3.out.trans (hb4.mono HB3.out.size))
    clear hb4 HA3 HV3 HB3
    go_wp2_with (go_at_call 20; fail)
    refine (bool_at a0 2 (in_small 2 (by omega) (by omega)) (true, 0) rfl v w4 HV4.out).mono ?_
    rintro e w5 ⟨rfl, hb5⟩
    have HA5 := Lib.hid (HA4.out.below hb5)
    have HV5 := Lib.hid (HV4.out.below hb5)
    have HB5 := Lib.hid (HB4.out.trans (hb5.mono HB4.out.size))
    clear hb5 HA4 HV4 HB4
    go_wp2_with (go_at_call 21; fail)
    refine (list_at a0 HSM.out 3 (in_small 3 (by omega) (by omega)) ([], 0) rfl v w5 HV5.out).mono ?_
    rintro e w6 ⟨q, c, rfl, hb6⟩
    have HA6 := Lib.hid (HA5.out.below hb6)
    have HV6 := Lib.hid (HV5.out.below hb6)
    have HB6 := Lib.hid (HB5.out.trans (hb6.mono HB5.out.size))
    clear hb6 HA5 HV5 HB5
    go_wp2_with (go_at_call 18; fail)
    refine (int_at a0 1 (in_small 1 (by omega) (by omega)) (0, 9) rfl v w6 HV6.out).mono ?_
    rintro e w7 ⟨rfl, hb7⟩
    have HA7 := Lib.hid (HA6.out.below hb7)
    have HV7 := Lib.hid (HV6.out.below hb7)
    have HB7 := Lib.hid (HB6.out.trans (hb7.mono HB6.out.size))
    clear hb7 HA6 HV6 HB6
    go_wp2_with (go_at_call 18; fail)
    refine (int_at a0 9 (in_small 9 (by omega) (by omega)) (0, 4) rfl v w7 HV7.out).mono ?_
    rintro e w8 ⟨rfl, hb8⟩
    have HA8 := Lib.hid (HA7.out.below hb8)
    have HV8 := Lib.hid (HV7.out.below hb8)
    have HB8 := Lib.hid (HB7.out.trans (hb8.mono HB7.out.size))
    clear hb8 HA7 HV7 HB7
    go_wp2_with (go_at_call 9; fail)
    refine (HPO.out _ _ (.odd _)).mono ?_
    rintro e w9 ⟨rfl, hb9⟩
    have HA9 := Lib.hid (HA8.out.below hb9)
    have HV9 := Lib.hid (HV8.out.below hb9)
    have HB9 := Lib.hid (HB8.out.trans (hb9.mono HB8.out.size))
    clear hb9 HA8 HV8 HB8
    go_wp2_with (go_at_call 23; fail)
    refine (HSA.out _ _ _ HA9.out HV9.out).mono ?_
    rintro e w10 ⟨rfl, hb10⟩
    have HB10 := Lib.hid (HB9.out.trans (hb10.mono HB9.out.size))
    clear hb10 HA9 HV9 HB9
    go_wp2_with (go_at_call 24; fail)
    refine (must_text _ _).mono ?_
    rintro e w11 ⟨rfl, rfl⟩
    go_wp2
    go_ret
    exact ⟨rfl, HB10.out⟩
  · cases h
end Go.Proofs.Ytncbgonanoihfaa

/- What is found of a type; Int, Text, Bool: by contract. No condition. -/
import Derived.Test.YtncbgonanoihfaaQ1
namespace Go.Own
/-- A number that is found, and the error. -/
def fInt (q : Int × A) : Int × Int := if q.1 = 0 then (match q.2 with | .num n => (n, 0) | _ => (0, 9)) else (0, q.1)
def fStr (q : Int × A) : ByteArray × Int := if q.1 = 0 then (match q.2 with | .str s => (s, 0) | _ => ({ data := #[] }, 9)) else ({ data := #[] }, q.1)
def fBool (q : Int × A) : Bool × Int := if q.1 = 0 then (match q.2 with | .bool b => (b, 0) | _ => (false, 9)) else (false, q.1)
def fList (q : Int × A) : List A × Int := if q.1 = 0 then (match q.2 with | .list l => (l, 0) | _ => ([], 9)) else ([], q.1)
end Go.Own
namespace Go.Proofs.Ytncbgonanoihfaa
open Go.RowKit Go.Own
def GotInt (r : Int × Int) (w : World) (e : Ending) (w' : World) : Prop := e = .returned (.tuple #[.int .i64 r.1, .int .i64 r.2]) ∧ w = w'
def GotStr (r : ByteArray × Int) (w : World) (e : Ending) (w' : World) : Prop := e = .returned (.tuple #[.string r.1, .int .i64 r.2]) ∧ w = w'
def GotBool (r : Bool × Int) (w : World) (e : Ending) (w' : World) : Prop := e = .returned (.tuple #[.bool r.1, .int .i64 r.2]) ∧ w = w'
set_option maxRecDepth 100000 in
set_option maxHeartbeats 1000000 in
theorem found_int (a : A) (zs : List Int) (v vz : Value) (w : World) (hv : Has w v a) (hz : Ints w vz zs) : Calls Try.prog 30 #[v, vz] w (GotInt (fInt (cm a zs)) w) := by
  have HC := Lib.hid (come_any a zs v vz w hv hz)
  obtain ⟨⟨c, x⟩, hq⟩ : ∃ q, cm a zs = q := ⟨_, rfl⟩
  rw [hq] at HC ⊢
  clear hq hv hz
  by_cases h0 : c = 0
  · subst h0
    go_enter Try.func30, Try.ntmps30
    go_wp2_with (go_at_call 44; fail)
    refine HC.out.mono ?_
    rintro e w' ⟨v2, rfl, hx, rfl⟩
    cases hx
    case num =>
      go_wp2
      go_ret2
      exact ⟨rfl, rfl⟩
    case str =>
      go_wp2
      go_ret2
      exact ⟨rfl, rfl⟩
    case bool =>
      go_wp2
      go_ret2
      exact ⟨rfl, rfl⟩
    case none =>
      go_wp2
      go_ret2
      exact ⟨rfl, rfl⟩
    case odd =>
      go_wp2
      go_ret2
      exact ⟨rfl, rfl⟩
    case nil =>
      go_wp2
      go_ret2
      exact ⟨rfl, rfl⟩
    case list =>
      go_wp2
      go_ret2
      exact ⟨rfl, rfl⟩
  · have e1 : (c == 0) = false := by simp [h0]
    have e2 : (c != 0) = true := by simp [h0]
    have HF : Hid (fInt (c, x) = (0, c)) := Lib.hid (if_neg h0)
    clear h0
    go_enter Try.func30, Try.ntmps30
    go_wp2_with (go_at_call 44; fail)
    refine HC.out.mono ?_
    rintro e w' ⟨v2, rfl, hx, rfl⟩
    clear hx
    go_wp2
    go_ret2
    exact ⟨by rw [HF.out]; rfl, rfl⟩
set_option maxRecDepth 100000 in
set_option maxHeartbeats 1000000 in
theorem found_str (a : A) (zs : List Int) (v vz : Value) (w : World) (hv : Has w v a) (hz : Ints w vz zs) : Calls Try.prog 31 #[v, vz] w (GotStr (fStr (cm a zs)) w) := by
  have HC := Lib.hid (come_any a zs v vz w hv hz)
  obtain ⟨⟨c, x⟩, hq⟩ : ∃ q, cm a zs = q := ⟨_, rfl⟩
  rw [hq] at HC ⊢
  clear hq hv hz
  by_cases h0 : c = 0
  · subst h0
    go_enter Try.func31, Try.ntmps31
    go_wp2_with (go_at_call 44; fail)
    refine HC.out.mono ?_
    rintro e w' ⟨v2, rfl, hx, rfl⟩
    cases hx
    case num =>
      go_wp2
      go_ret2
      exact ⟨rfl, rfl⟩
    case str =>
      go_wp2
      go_ret2
      exact ⟨rfl, rfl⟩
    case bool =>
      go_wp2
      go_ret2
      exact ⟨rfl, rfl⟩
    case none =>
      go_wp2
      go_ret2
      exact ⟨rfl, rfl⟩
    case odd =>
      go_wp2
      go_ret2
      exact ⟨rfl, rfl⟩
    case nil =>
      go_wp2
      go_ret2
      exact ⟨rfl, rfl⟩
    case list =>
      go_wp2
      go_ret2
      exact ⟨rfl, rfl⟩
  · have e1 : (c == 0) = false := by simp [h0]
    have e2 : (c != 0) = true := by simp [h0]
    have HF : Hid (fStr (c, x) = ({ data := #[] }, c)) := Lib.hid (if_neg h0)
    clear h0
    go_enter Try.func31, Try.ntmps31
    go_wp2_with (go_at_call 44; fail)
    refine HC.out.mono ?_
    rintro e w' ⟨v2, rfl, hx, rfl⟩
    clear hx
    go_wp2
    go_ret2
    exact ⟨by rw [HF.out]; rfl, rfl⟩
set_option maxRecDepth 100000 in
set_option maxHeartbeats 1000000 in
theorem found_bool (a : A) (zs : List Int) (v vz : Value) (w : World) (hv : Has w v a) (hz : Ints w vz zs) : Calls Try.prog 32 #[v, vz] w (GotBool (fBool (cm a zs)) w) := by
  have HC := Lib.hid (come_any a zs v vz w hv hz)
  obtain ⟨⟨c, x⟩, hq⟩ : ∃ q, cm a zs = q := ⟨_, rfl⟩
  rw [hq] at HC ⊢
  clear hq hv hz
  by_cases h0 : c = 0
  · subst h0
    go_enter Try.func32, Try.ntmps32
    go_wp2_with (go_at_call 44; fail)
    refine HC.out.mono ?_
    rintro e w' ⟨v2, rfl, hx, rfl⟩
    cases hx
    case num =>
      go_wp2
      go_ret2
      exact ⟨rfl, rfl⟩
    case str =>
      go_wp2
      go_ret2
      exact ⟨rfl, rfl⟩
    case bool =>
      go_wp2
      go_ret2
      exact ⟨rfl, rfl⟩
    case none =>
      go_wp2
      go_ret2
      exact ⟨rfl, rfl⟩
    case odd =>
      go_wp2
      go_ret2
      exact ⟨rfl, rfl⟩
    case nil =>
      go_wp2
      go_ret2
      exact ⟨rfl, rfl⟩
    case list =>
      go_wp2
      go_ret2
      exact ⟨rfl, rfl⟩
  · have e1 : (c == 0) = false := by simp [h0]
    have e2 : (c != 0) = true := by simp [h0]
    have HF : Hid (fBool (c, x) = (false, c)) := Lib.hid (if_neg h0)
    clear h0
    go_enter Try.func32, Try.ntmps32
    go_wp2_with (go_at_call 44; fail)
    refine HC.out.mono ?_
    rintro e w' ⟨v2, rfl, hx, rfl⟩
    clear hx
    go_wp2
    go_ret2
    exact ⟨by rw [HF.out]; rfl, rfl⟩
set_option maxRecDepth 100000 in
theorem int_any (a : A) (zs : List Int) (v vz : Value) (w : World) (hv : Has w v a) (hz : Ints w vz zs) : Calls Try.prog 18 #[v, vz] w (GotInt (fInt (cm a zs)) w) := by
  have HC := Lib.hid (found_int a zs v vz w hv hz)
  obtain ⟨⟨r, c⟩, hq⟩ : ∃ q, fInt (cm a zs) = q := ⟨_, rfl⟩
  rw [hq] at HC ⊢
  clear hq hv hz
  go_enter Try.func18, Try.ntmps18
  go_wp2_with (go_at_call 30; fail)
  refine HC.out.mono ?_
  rintro e w' ⟨rfl, rfl⟩
  go_wp2
  go_ret2
  exact ⟨rfl, rfl⟩
set_option maxRecDepth 100000 in
theorem str_any (a : A) (zs : List Int) (v vz : Value) (w : World) (hv : Has w v a) (hz : Ints w vz zs) : Calls Try.prog 19 #[v, vz] w (GotStr (fStr (cm a zs)) w) := by
  have HC := Lib.hid (found_str a zs v vz w hv hz)
  obtain ⟨⟨r, c⟩, hq⟩ : ∃ q, fStr (cm a zs) = q := ⟨_, rfl⟩
  rw [hq] at HC ⊢
  clear hq hv hz
  go_enter Try.func19, Try.ntmps19
  go_wp2_with (go_at_call 31; fail)
  refine HC.out.mono ?_
  rintro e w' ⟨rfl, rfl⟩
  go_wp2
  go_ret2
  exact ⟨rfl, rfl⟩
set_option maxRecDepth 100000 in
theorem bool_any (a : A) (zs : List Int) (v vz : Value) (w : World) (hv : Has w v a) (hz : Ints w vz zs) : Calls Try.prog 20 #[v, vz] w (GotBool (fBool (cm a zs)) w) := by
  have HC := Lib.hid (found_bool a zs v vz w hv hz)
  obtain ⟨⟨r, c⟩, hq⟩ : ∃ q, fBool (cm a zs) = q := ⟨_, rfl⟩
  rw [hq] at HC ⊢
  clear hq hv hz
  go_enter Try.func20, Try.ntmps20
  go_wp2_with (go_at_call 32; fail)
  refine HC.out.mono ?_
  rintro e w' ⟨rfl, rfl⟩
  go_wp2
  go_ret2
  exact ⟨rfl, rfl⟩
end Go.Proofs.Ytncbgonanoihfaa

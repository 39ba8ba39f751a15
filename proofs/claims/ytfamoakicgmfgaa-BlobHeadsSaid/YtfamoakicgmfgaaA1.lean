import Derived.Test.YtfamoakicgmfgaaRows
import Derived.Test.YtfamoakicgmfgaaArr
import Derived.Deep.QuietTactic
import Derived.BigQuiet
import Derived.StillTailTactics
namespace Go.Proofs.Ytfamoakicgmfgaa
open Go.RowKit Go.Own

theorem ag89 : aggSize Try.prog 89 = some 4 := by kernel_rfl
theorem ag5 : aggSize Try.prog 5 = none := by kernel_rfl
theorem cs5 : Try.prog.cellsOf 5 = 1 := by kernel_rfl
theorem cs89 : Try.prog.cellsOf 89 = 4 := by kernel_rfl
theorem sz5 (w : World) : (sizeOf 5).run Try.prog w = .ok 1 w := by kernel_rfl
theorem sz89 (w : World) : (sizeOf 89).run Try.prog w = .ok 4 w := by kernel_rfl
theorem isa5 (w : World) : (isAgg 5).run Try.prog w = .ok false w := by kernel_rfl
theorem z89 : zeroOf Try.prog 89 = .agg (cv .u8 (rep 4)) := by kernel_rfl
attribute [local go_sem] ag89 ag5 cs5 cs89 sz5 sz89 isa5 z89

def dbl (a : Nat) : Nat := if and8 a 128 = 0 then shl8 a 1 else xor8 (shl8 a 1) 27

set_option maxHeartbeats 400000 in
theorem double_any (a : Nat) (w : World) :
    Calls Try.prog 76 #[.int .u8 a] w fun e w' => e = .returned (.int .u8 (dbl a)) ∧ w = w' := by
  by_cases h : and8 a 128 = 0
  · have HD := Lib.hid (show dbl a = shl8 a 1 by unfold dbl; rw [if_pos h])
    have h' : (((and8 a 128 : Nat) : Int) != 0) = false := by simp [h]
    clear h
    go_enter Try.func76, Try.ntmps76
    go_wp2
    go_ret
    exact ⟨by rw [HD.out]; rfl, rfl⟩
  · have HD := Lib.hid (show dbl a = xor8 (shl8 a 1) 27 by unfold dbl; rw [if_neg h])
    have h' : (((and8 a 128 : Nat) : Int) != 0) = true := by simp; omega
    clear h
    go_enter Try.func76, Try.ntmps76
    go_wp2
    go_ret
    exact ⟨by rw [HD.out]; rfl, rfl⟩

def xorF (x y : List Nat) (i : Nat) : Nat := xor8 (gi x i) (gi y i)
def xorL (x y : List Nat) : List Nat := (List.range 4).map (xorF x y)

set_option maxHeartbeats 400000 in
theorem plus_any (x y : List Nat) (hx : x.length = 4) (hy : y.length = 4) (w : World) :
    Calls Try.prog 79 #[.agg (cv .u8 x), .agg (cv .u8 y)] w fun e w' => e = .returned (.agg (cv .u8 (xorL x y))) ∧ Grows w w' := by
  refine calls_wd ?_
  go_enter Try.func79, Try.ntmps79
  go_wp2
  go_loopw [6] (fun i wr => ∃ k d : Nat, k ≤ 4 ∧ i = .int .i64 k ∧ wr = Wd w [.cells (cv .u8 (fin1 (xorF x y) k x)) 89, .cells (cv .u8 y) 89, .cells (cv .u8 (rep 4)) 89] d) (fun i _ => 4 - (intOf i).toNat)
  case atStart => exact ⟨0, 0, by omega, rfl, by rw [fin1_zero]⟩
  case round =>
    obtain ⟨k, d, hk, rfl, rfl⟩ := hrel
    by_cases hlt : k < 4
    · have hl : (fin1 (xorF x y) k x).length = 4 := by rw [fin1_length (by omega), hx]
      go_wp2
      go_region
      go_wp2
      go_roundw
      case rel => exact ⟨k + 1, _, by omega, by go_num, by rw [fin1_gi (Nat.le_refl k), show xor8 (gi x k) (gi y k) = xorF x y k from rfl, fin1_step]⟩
      case measure => simp [intOf]; omega
    · obtain rfl : k = 4 := by omega
      have he := Lib.hid (fin1_end (f := xorF x y) (n := 4) (s := x) (by omega))
      have hl : (fin1 (xorF x y) 4 x).length = 4 := by rw [fin1_length (by omega), hx]
      go_wp2
      exact ret_cell (i := 2) rfl rfl ag89 rfl hl rfl ⟨by rw [he.out]; rfl, Grows.of _ _ _⟩

def rotl (a k : Nat) : Nat := or8 (shl8 a k) (shr8 a (8 - k))
theorem rot_any (a k : Nat) (h1 : 1 ≤ k) (h4 : k ≤ 4) (w : World) :
    Calls Try.prog 89 #[.int .u8 a, .int .i64 k] w fun e w' => e = .returned (.int .u8 (rotl a k)) ∧ w = w' := by
  have b1 : bits .and .u64 1 7 = 1 := by decide
  have b2 : bits .and .u64 2 7 = 2 := by decide
  have b3 : bits .and .u64 3 7 = 3 := by decide
  have b4 : bits .and .u64 4 7 = 4 := by decide
  have h : k = 1 ∨ k = 2 ∨ k = 3 ∨ k = 4 := by omega
  rcases h with rfl | rfl | rfl | rfl
  all_goals
    go_enter Try.func89, Try.ntmps89
    go_wp2
    go_ret
    exact ⟨rfl, rfl⟩

/-- What the loop of bend comes to before the round k. -/
def bendTo (a : Nat) : Nat → Nat
  | 0 => a
  | k + 1 => xor8 (bendTo a k) (rotl a (k + 1))
def bend (a : Nat) : Nat := xor8 (bendTo a 4) 99
set_option maxHeartbeats 400000 in
theorem bend_any (a : Nat) (w : World) :
    Calls Try.prog 77 #[.int .u8 a] w fun e w' => e = .returned (.int .u8 (bend a)) ∧ w = w' := by
  go_enter Try.func77, Try.ntmps77
  go_wp2
  go_loop [3, 4] (fun s b => ∃ k : Nat, k ≤ 4 ∧ b = .int .i64 ((k + 1 : Nat) : Int) ∧ s = .int .u8 (bendTo a k)) (fun _ b => 5 - (intOf b).toNat)
  case atStart => exact ⟨0, by omega, rfl, rfl⟩
  case round =>
    obtain ⟨k, hk, rfl, rfl⟩ := hrel
    by_cases hlt : k < 4
    · have e : bendTo a (k + 1) = xor8 (bendTo a k) (rotl a (k + 1)) := rfl
      have HE := Lib.hid e; clear e
      go_wp2_with fail
      refine (rot_any a (k + 1) (by omega) (by omega) _).mono ?_
      rintro e w' ⟨rfl, rfl⟩
      go_wp2
      go_round
      case rel => exact ⟨k + 1, by omega, by go_num, by rw [HE.out]⟩
      case measure => simp [intOf]; omega
    · obtain rfl : k = 4 := by omega
      go_wp2
      go_ret
      exact ⟨rfl, rfl⟩

def mulF : Nat → Nat → Nat → Nat → Nat
  | 0, _, _, p => p
  | n + 1, a, b, p => if b = 0 then p else mulF n (dbl a) (shr8 b 1) (if and8 b 1 = 0 then p else xor8 p a)
def mul (a b : Nat) : Nat := mulF 8 a b 0
end Go.Proofs.Ytfamoakicgmfgaa

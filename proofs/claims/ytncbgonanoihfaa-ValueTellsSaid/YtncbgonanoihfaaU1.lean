/- A byte laid behind a number of 64 bits, with a sign and without. No program. -/
import Derived.Test.YtncbgonanoihfaaM2
import Derived.WalkKit
namespace Go.Own
open Go
theorem or_low (X b : Nat) (hb : b < 256) : X * 256 ||| b = X * 256 + b := by
  have h := Nat.shiftLeft_add_eq_or_of_lt (i := 8) (b := b) (by simpa using hb) X
  rw [Nat.shiftLeft_eq] at h
  exact h.symm
theorem of64 (n : Nat) : (BitVec.ofInt 64 (n : Int)).toNat = n % 18446744073709551616 := by
  simp
theorem or_u64 (V b : Nat) (hV : V < 72057594037927936) (hb : b < 256) : bits BinOp.or IntKind.u64 (IntKind.u64.wrap ((V : Int) * 256)) (IntKind.u64.wrap (b : Int)) = ((V * 256 + b : Nat) : Int) := by
  have e1 : IntKind.u64.wrap ((V : Int) * 256) = ((V * 256 : Nat) : Int) := by simp [IntKind.wrap, IntKind.bits, IntKind.signed]; omega
  have e2 : IntKind.u64.wrap (b : Int) = (b : Int) := by simp [IntKind.wrap, IntKind.bits, IntKind.signed]; omega
  rw [e1, e2]
  show IntKind.u64.wrap ((BitVec.ofInt 64 ((V * 256 : Nat) : Int) ||| BitVec.ofInt 64 (b : Int)).toNat : Int) = _
  rw [BitVec.toNat_or, of64, of64, Nat.mod_eq_of_lt (by omega), Nat.mod_eq_of_lt (by omega), or_low V b hb]
  have hz : V * 256 + b < 18446744073709551616 := by omega
  clear e1 e2
  generalize V * 256 + b = z at *
  simp [IntKind.wrap, IntKind.bits, IntKind.signed]
  omega
theorem wrap_s64 (n : Nat) (h : n < 18446744073709551616) : IntKind.i64.wrap (n : Int) = s64 n := by
  have e : (n : Int) % 2 ^ IntKind.i64.bits = n := Int.emod_eq_of_lt (by omega) (by show (n : Int) < 18446744073709551616; omega)
  simp only [IntKind.wrap, e]
  unfold s64 two63 two64
  by_cases h1 : n < 9223372036854775808
  · rw [if_pos h1, if_neg]
    intro h2
    have h3 : (9223372036854775808 : Int) ≤ (n : Int) := by
      rw [Bool.and_eq_true, decide_eq_true_eq] at h2
      exact h2.2
    omega
  · rw [if_neg h1, if_pos]
    · rfl
    · have h3 : (9223372036854775808 : Int) ≤ (n : Int) := by omega
      show (true && decide ((9223372036854775808 : Int) ≤ (n : Int))) = true
      simp [h3]
theorem or_i64 (V b : Nat) (hV : V < 72057594037927936) (hb : b < 256) : bits BinOp.or IntKind.i64 (IntKind.i64.wrap ((V : Int) * 256)) (b : Int) = s64 (V * 256 + b) := by
  have e1 : (BitVec.ofInt 64 (IntKind.i64.wrap ((V : Int) * 256))).toNat = V * 256 := by
    have h := wrap_s64 (V * 256) (by omega)
    have e : ((V * 256 : Nat) : Int) = (V : Int) * 256 := by simp
    rw [e] at h
    rw [h, BitVec.toNat_ofInt]
    unfold s64 two63 two64
    split <;> omega
  show IntKind.i64.wrap ((BitVec.ofInt 64 (IntKind.i64.wrap ((V : Int) * 256)) ||| BitVec.ofInt 64 (b : Int)).toNat : Int) = _
  rw [BitVec.toNat_or, e1, of64, Nat.mod_eq_of_lt (by omega : b < 18446744073709551616), or_low V b hb]
  exact wrap_s64 _ (by omega)
end Go.Own

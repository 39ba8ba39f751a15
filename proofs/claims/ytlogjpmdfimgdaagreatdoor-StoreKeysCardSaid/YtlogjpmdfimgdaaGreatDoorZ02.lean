/- Rows of numbers, gone through and written piece by piece; the bit operations on bytes, as natural numbers. No condition. | Words of 32 bits as natural numbers: the operations, by name, as the walk meets them. No condition. -/
import Derived.Test.YtlogjpmdfimgdaaGreatDoorZ01
namespace Go.Own.Jf
open Go.RowKit

/-- The first k pieces of length c of s are f 0, f 1, ..; the others are s's own. -/
def fin (c : Nat) (f : Nat → List Nat) (k : Nat) (s : List Nat) : List Nat := (List.range k).flatMap f ++ s.drop (c * k)
theorem flat_length {c : Nat} {f : Nat → List Nat} (hf : ∀ i, (f i).length = c) : ∀ k, ((List.range k).flatMap f).length = c * k
  | 0 => by simp
  | k + 1 => by
    have := flat_length hf k
    simp [List.range_succ, hf, this, Nat.mul_add]
theorem fin_length {c : Nat} {f : Nat → List Nat} (hf : ∀ i, (f i).length = c) {k : Nat} {s : List Nat} (h : c * k ≤ s.length) : (fin c f k s).length = s.length := by
  simp only [fin, List.length_append, flat_length hf, List.length_drop]; omega
theorem fin_zero (c : Nat) (f : Nat → List Nat) (s : List Nat) : fin c f 0 s = s := by simp [fin]
theorem fin_step {c : Nat} {f : Nat → List Nat} (hf : ∀ i, (f i).length = c) {k : Nat} {s : List Nat} : spl (fin c f k s) (c * k) (f k) = fin c f (k + 1) s := by
  have hl := flat_length hf k
  simp only [spl, fin, hf]
  rw [List.take_append_of_le_length (by omega), List.take_of_length_le (by omega), List.drop_append, List.drop_of_length_le (by omega), hl]
  simp [List.range_succ, List.drop_drop, Nat.mul_add]
theorem fin_drop {c : Nat} {f : Nat → List Nat} (hf : ∀ i, (f i).length = c) {k o : Nat} {s : List Nat} (h : c * k ≤ o) : (fin c f k s).drop o = s.drop o := by
  have hl := flat_length hf k
  simp only [fin]
  rw [List.drop_append, List.drop_of_length_le (by omega), hl, List.drop_drop]
  simp; congr 1; omega
theorem fin_gi {c : Nat} {f : Nat → List Nat} (hf : ∀ i, (f i).length = c) {k o : Nat} {s : List Nat} (h : c * k ≤ o) : gi (fin c f k s) o = gi s o := by
  have := congrArg (fun l => l.getD 0 0) (fin_drop hf h (s := s))
  simpa [gi, List.getD] using this
theorem fin_end {c : Nat} {f : Nat → List Nat} {n : Nat} {s : List Nat} (h : s.length ≤ c * n) : fin c f n s = (List.range n).flatMap f := by
  simp [fin, List.drop_of_length_le h]
theorem fin_step' {c : Nat} {f : Nat → List Nat} (hf : ∀ i, (f i).length = c) {k : Nat} {s : List Nat} : spl (fin c f k s) (k * c) (f k) = fin c f (k + 1) s := by
  rw [Nat.mul_comm k c]; exact fin_step hf
theorem fin_drop' {c : Nat} {f : Nat → List Nat} (hf : ∀ i, (f i).length = c) {k : Nat} {s : List Nat} : (fin c f k s).drop (k * c) = s.drop (k * c) :=
  fin_drop hf (by rw [Nat.mul_comm]; exact Nat.le_refl _)
/-- The i-th piece of four. -/
def wrd (s : List Nat) (i : Nat) : List Nat := (s.drop (i * 4)).take 4
theorem wrd_length {s : List Nat} {i : Nat} (h : i * 4 + 4 ≤ s.length) : (wrd s i).length = 4 := by simp [wrd]; omega
theorem gi_part {s : List Nat} {m : Nat} (hm : 0 < m) (h : ∀ i, gi s i < m) (a n : Nat) : ∀ i, gi ((s.drop a).take n) i < m := by
  intro i
  have := h (a + i)
  simp only [gi, List.getD, List.getElem?_take, List.getElem?_drop] at this ⊢
  split
  · exact this
  · exact hm
/-- The i-th piece of four, filled up with noughts. -/
def pc (s : List Nat) (i : Nat) : List Nat := (s.drop (i * 4) ++ rep 4).take 4
theorem pc_length (s : List Nat) (i : Nat) : (pc s i).length = 4 := by simp [pc]
theorem pc_wrd {s : List Nat} {i : Nat} (h : i * 4 + 4 ≤ s.length) : pc s i = wrd s i := by
  unfold pc wrd
  rw [List.take_append_of_le_length (by simp; omega)]
theorem pcs_all {s : List Nat} (h : s.length = 16) : (List.range 4).flatMap (pc s) = s := by
  have e0 : pc s 0 = s.take 4 := by rw [pc_wrd (by omega)]; simp [wrd]
  have e1 : pc s 1 = (s.drop 4).take 4 := by rw [pc_wrd (by omega)]; rfl
  have e2 : pc s 2 = (s.drop 8).take 4 := by rw [pc_wrd (by omega)]; rfl
  have e3 : pc s 3 = s.drop 12 := by rw [pc_wrd (by omega)]; show (s.drop 12).take 4 = _; rw [List.take_of_length_le (by simp; omega)]
  have d8 : (s.drop 8).take 4 ++ s.drop 12 = s.drop 8 := by
    have := List.take_append_drop 4 (s.drop 8); rwa [List.drop_drop] at this
  have d4 : (s.drop 4).take 4 ++ s.drop 8 = s.drop 4 := by
    have := List.take_append_drop 4 (s.drop 4); rwa [List.drop_drop] at this
  have d0 : s.take 4 ++ s.drop 4 = s := List.take_append_drop 4 s
  show (pc s 0 ++ (pc s 1 ++ (pc s 2 ++ (pc s 3 ++ [])))) = s
  rw [e0, e1, e2, e3, List.append_nil, d8, d4, d0]
theorem one_length (f : Nat → Nat) (i : Nat) : ((fun i => [f i]) i).length = 1 := rfl
/-- Element by element. -/
def fin1 (f : Nat → Nat) (k : Nat) (s : List Nat) : List Nat := fin 1 (fun i => [f i]) k s
theorem fin1_length {f : Nat → Nat} {k : Nat} {s : List Nat} (h : k ≤ s.length) : (fin1 f k s).length = s.length := fin_length (one_length f) (by omega)
theorem fin1_zero (f : Nat → Nat) (s : List Nat) : fin1 f 0 s = s := fin_zero _ _ _
theorem fin1_step {f : Nat → Nat} {k : Nat} {s : List Nat} : spl (fin1 f k s) k [f k] = fin1 f (k + 1) s := by
  have := fin_step (one_length f) (k := k) (s := s)
  simpa [fin1] using this
theorem fin1_gi {f : Nat → Nat} {k o : Nat} {s : List Nat} (h : k ≤ o) : gi (fin1 f k s) o = gi s o := fin_gi (one_length f) (by omega)
theorem fin1_end {f : Nat → Nat} {n : Nat} {s : List Nat} (h : s.length ≤ n) : fin1 f n s = (List.range n).map f := by
  rw [fin1, fin_end (by omega)]
  induction (List.range n) <;> simp_all

theorem ofInt8 (a : Nat) : (BitVec.ofInt 8 (a : Int)) = BitVec.ofNat 8 a := by
  apply BitVec.eq_of_toNat_eq; simp
theorem wrap8 (n : Nat) : IntKind.u8.wrap (n : Int) = ((n % 256 : Nat) : Int) := by simp [IntKind.wrap, IntKind.bits, IntKind.signed]
theorem xor_mod8 (a b : Nat) : (a % 256) ^^^ (b % 256) = (a ^^^ b) % 256 := (Nat.xor_mod_two_pow (n := 8)).symm
theorem and_mod8 (a b : Nat) : (a % 256) &&& (b % 256) = (a &&& b) % 256 := (Nat.and_mod_two_pow (n := 8)).symm
theorem or_mod8 (a b : Nat) : (a % 256) ||| (b % 256) = (a ||| b) % 256 := (Nat.or_mod_two_pow (n := 8)).symm
/-- The bit operations on bytes, by name: the walk's simp lets them stand. -/
def xor8 (a b : Nat) : Nat := (a ^^^ b) % 256
def and8 (a b : Nat) : Nat := (a &&& b) % 256
def or8 (a b : Nat) : Nat := (a ||| b) % 256
def shl8 (a n : Nat) : Nat := a * 2 ^ n % 256
def shr8 (a n : Nat) : Nat := a / 2 ^ n
theorem bx8 (a b : Nat) : bits .xor .u8 (a : Int) (b : Int) = ((xor8 a b : Nat) : Int) := by
  simp only [bits, IntKind.bits, ofInt8]
  rw [wrap8]
  show (((a % 256 ^^^ b % 256) % 256 : Nat) : Int) = _
  rw [xor_mod8, Nat.mod_mod]; rfl
theorem ba8 (a b : Nat) : bits .and .u8 (a : Int) (b : Int) = ((and8 a b : Nat) : Int) := by
  simp only [bits, IntKind.bits, ofInt8]
  rw [wrap8]
  show ((((a % 256) &&& (b % 256)) % 256 : Nat) : Int) = _
  rw [and_mod8, Nat.mod_mod]; rfl
theorem bo8 (a b : Nat) : bits .or .u8 (a : Int) (b : Int) = ((or8 a b : Nat) : Int) := by
  simp only [bits, IntKind.bits, ofInt8]
  rw [wrap8]
  show ((((a % 256) ||| (b % 256)) % 256 : Nat) : Int) = _
  rw [or_mod8, Nat.mod_mod]; rfl
theorem bx8l (a n : Nat) : bits .xor .u8 (a : Int) (no_index (OfNat.ofNat n)) = ((xor8 a n : Nat) : Int) := bx8 a n
theorem ba8l (a n : Nat) : bits .and .u8 (a : Int) (no_index (OfNat.ofNat n)) = ((and8 a n : Nat) : Int) := ba8 a n
theorem bx8r (a n : Nat) : bits .xor .u8 (no_index (OfNat.ofNat n)) (a : Int) = ((xor8 n a : Nat) : Int) := bx8 n a
theorem shl8_op (a n : Nat) (yk : IntKind) : Op.shift .shl .u8 (a : Int) yk (n : Int) = pure (.int .u8 ((shl8 a n : Nat) : Int)) := by
  have h : ¬ (n : Int) < 0 := by omega
  have e : (a : Int) * 2 ^ min n 8 = ((a * 2 ^ min n 8 : Nat) : Int) := by simp
  have e2 : a * 2 ^ min n 8 % 256 = a * 2 ^ n % 256 := by
    rcases Nat.le_total n 8 with h | h
    · rw [Nat.min_eq_left h]
    · rw [Nat.min_eq_right h]
      obtain ⟨m, rfl⟩ := Nat.exists_eq_add_of_le h
      have e1 : a * 2 ^ (8 + m) = 256 * (a * 2 ^ m) := by rw [Nat.pow_add, Nat.mul_left_comm]
      rw [e1, Nat.mul_mod_right]
      show a * 256 % 256 = 0
      exact Nat.mul_mod_left _ _
  simp only [Op.shift, IntKind.bits, h, if_false, Int.toNat_natCast, e, wrap8, shl8, e2]
theorem shl8_opl (a n : Nat) (yk : IntKind) : Op.shift .shl .u8 (a : Int) yk (no_index (OfNat.ofNat n)) = pure (.int .u8 ((shl8 a n : Nat) : Int)) := shl8_op a n yk
theorem shr8_op (a n : Nat) (yk : IntKind) (h8 : n ≤ 8) : Op.shift .shr .u8 (a : Int) yk (n : Int) = pure (.int .u8 ((shr8 a n : Nat) : Int)) := by
  rw [shift_shr _ _ _ _ (by omega) (by simp [IntKind.bits]; omega)]
  simp [shr8]
theorem shr8_opl (a n : Nat) (yk : IntKind) (h8 : n ≤ 8) : Op.shift .shr .u8 (a : Int) yk (no_index (OfNat.ofNat n)) = pure (.int .u8 ((shr8 a n : Nat) : Int)) := shr8_op a n yk h8
attribute [go_sem] bx8 ba8 bo8 bx8l ba8l bx8r
attribute [go_sem ↓] shl8_op shl8_opl shr8_op shr8_opl
theorem wrap64_nat (n : Nat) (h : n < 9223372036854775808) : IntKind.i64.wrap (n : Int) = (n : Int) := IntWalk.i64_in _ (by omega)
theorem wrap64_lit (n : Nat) (h : n < 9223372036854775808) : IntKind.i64.wrap (no_index (OfNat.ofNat n)) = (OfNat.ofNat n) := wrap64_nat n h
attribute [go_sem] wrap64_lit
end Go.Own.Jf
namespace Go.Own.Jf
open Go.RowKit

theorem ofInt32 (a : Nat) : (BitVec.ofInt 32 (a : Int)) = BitVec.ofNat 32 a := by
  apply BitVec.eq_of_toNat_eq; simp
theorem wrap32n (n : Nat) : IntKind.u32.wrap (n : Int) = ((n % 4294967296 : Nat) : Int) := by simp [IntKind.wrap, IntKind.bits, IntKind.signed]
def xor32 (a b : Nat) : Nat := (a ^^^ b) % 4294967296
def and32 (a b : Nat) : Nat := (a &&& b) % 4294967296
def or32 (a b : Nat) : Nat := (a ||| b) % 4294967296
def not32 (a : Nat) : Nat := (4294967295 ^^^ a) % 4294967296
def add32 (a b : Nat) : Nat := (a + b) % 4294967296
def shl32 (a n : Nat) : Nat := a * 2 ^ n % 4294967296
def shr32 (a n : Nat) : Nat := a / 2 ^ n
theorem xor_mod32 (a b : Nat) : (a % 4294967296) ^^^ (b % 4294967296) = (a ^^^ b) % 4294967296 := (Nat.xor_mod_two_pow (n := 32)).symm
theorem and_mod32 (a b : Nat) : (a % 4294967296) &&& (b % 4294967296) = (a &&& b) % 4294967296 := (Nat.and_mod_two_pow (n := 32)).symm
theorem or_mod32 (a b : Nat) : (a % 4294967296) ||| (b % 4294967296) = (a ||| b) % 4294967296 := (Nat.or_mod_two_pow (n := 32)).symm
theorem bx32 (a b : Nat) : bits .xor .u32 (a : Int) (b : Int) = ((xor32 a b : Nat) : Int) := by
  simp only [bits, IntKind.bits, ofInt32]
  rw [wrap32n]
  show (((a % 4294967296 ^^^ b % 4294967296) % 4294967296 : Nat) : Int) = _
  rw [xor_mod32, Nat.mod_mod]; rfl
theorem bn32 (a : Nat) : bits .xor .u32 4294967295 (a : Int) = ((not32 a : Nat) : Int) := bx32 4294967295 a
theorem bm32 (a : Nat) : bits .xor .u32 IntKind.u32.max (a : Int) = ((not32 a : Nat) : Int) := bx32 4294967295 a
theorem ba32 (a b : Nat) : bits .and .u32 (a : Int) (b : Int) = ((and32 a b : Nat) : Int) := by
  simp only [bits, IntKind.bits, ofInt32]
  rw [wrap32n]
  show ((((a % 4294967296) &&& (b % 4294967296)) % 4294967296 : Nat) : Int) = _
  rw [and_mod32, Nat.mod_mod]; rfl
theorem bo32 (a b : Nat) : bits .or .u32 (a : Int) (b : Int) = ((or32 a b : Nat) : Int) := by
  simp only [bits, IntKind.bits, ofInt32]
  rw [wrap32n]
  show ((((a % 4294967296) ||| (b % 4294967296)) % 4294967296 : Nat) : Int) = _
  rw [or_mod32, Nat.mod_mod]; rfl
theorem add32_op (a b : Nat) : IntKind.u32.wrap ((a : Int) + (b : Int)) = ((add32 a b : Nat) : Int) := by
  rw [show (a : Int) + (b : Int) = ((a + b : Nat) : Int) by simp, wrap32n]; rfl
theorem shl32_op (a n : Nat) (yk : IntKind) : Op.shift .shl .u32 (a : Int) yk (n : Int) = pure (.int .u32 ((shl32 a n : Nat) : Int)) := by
  have h : ¬ (n : Int) < 0 := by omega
  have e : (a : Int) * 2 ^ min n 32 = ((a * 2 ^ min n 32 : Nat) : Int) := by simp
  have e2 : a * 2 ^ min n 32 % 4294967296 = a * 2 ^ n % 4294967296 := by
    rcases Nat.le_total n 32 with h | h
    · rw [Nat.min_eq_left h]
    · rw [Nat.min_eq_right h]
      obtain ⟨m, rfl⟩ := Nat.exists_eq_add_of_le h
      have e1 : a * 2 ^ (32 + m) = 4294967296 * (a * 2 ^ m) := by rw [Nat.pow_add, Nat.mul_left_comm]
      rw [e1, Nat.mul_mod_right]
      show a * 4294967296 % 4294967296 = 0
      exact Nat.mul_mod_left _ _
  simp only [Op.shift, IntKind.bits, h, if_false, Int.toNat_natCast, e, wrap32n, shl32, e2]
theorem shl32_opl (a n : Nat) (yk : IntKind) : Op.shift .shl .u32 (a : Int) yk (no_index (OfNat.ofNat n)) = pure (.int .u32 ((shl32 a n : Nat) : Int)) := shl32_op a n yk
theorem shr32_op (a n : Nat) (yk : IntKind) (h8 : n ≤ 32) : Op.shift .shr .u32 (a : Int) yk (n : Int) = pure (.int .u32 ((shr32 a n : Nat) : Int)) := by
  rw [shift_shr _ _ _ _ (by omega) (by simp [IntKind.bits]; omega)]
  simp [shr32]
theorem shr32_opl (a n : Nat) (yk : IntKind) (h8 : n ≤ 32) : Op.shift .shr .u32 (a : Int) yk (no_index (OfNat.ofNat n)) = pure (.int .u32 ((shr32 a n : Nat) : Int)) := shr32_op a n yk h8
attribute [go_sem] bx32 ba32 bo32 bn32 bm32 add32_op
attribute [go_sem ↓] shl32_op shl32_opl shr32_op shr32_opl
theorem xor32_lt (a b : Nat) : xor32 a b < 4294967296 := Nat.mod_lt _ (by decide)
theorem and32_lt (a b : Nat) : and32 a b < 4294967296 := Nat.mod_lt _ (by decide)
theorem or32_lt (a b : Nat) : or32 a b < 4294967296 := Nat.mod_lt _ (by decide)
theorem add32_lt (a b : Nat) : add32 a b < 4294967296 := Nat.mod_lt _ (by decide)
theorem or32_comm (a b : Nat) : or32 a b = or32 b a := by unfold or32; rw [Nat.or_comm]
/-- Turned to the right. -/
def rotI (x : Nat) (a : Int) : Nat := or32 (shl32 x (32 - a.toNat)) (shr32 x a.toNat)
def turnedF (x : Nat) (a b c : Int) : Nat := xor32 (xor32 (rotI x a) (rotI x b)) (rotI x c)
def shiftedF (x : Nat) (a b c : Int) : Nat := xor32 (xor32 (rotI x a) (rotI x b)) (shr32 x c.toNat)
def pickF (w y n : Nat) : Nat := xor32 (and32 w y) (and32 (not32 w) n)
def mostF (a b c : Nat) : Nat := xor32 (xor32 (and32 a b) (and32 a c)) (and32 b c)
end Go.Own.Jf

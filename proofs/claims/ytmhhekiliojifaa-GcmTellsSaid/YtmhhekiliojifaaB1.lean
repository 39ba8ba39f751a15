/- The document's own product and box, by contract; they are the program's. -/
import Derived.Test.YtmhhekiliojifaaM2
namespace Go.Proofs.Ytmhhekiliojifaa
open Go.RowKit Go.Own

/-- Small enough for an int: by name. -/
def Fits (x : Nat) : Prop := x < 9223372036854775808
def shl64 (a n : Nat) : Nat := a * 2 ^ n
theorem shl64_op (a n : Nat) (yk : IntKind) (h : Fits (shl64 a n)) (hn : n ≤ 64) : Op.shift .shl .i64 (a : Int) yk (n : Int) = pure (.int .i64 ((shl64 a n : Nat) : Int)) := by
  rw [shift_shl _ _ _ _ (by omega) (by simp [IntKind.bits]; omega)]
  have e : (a : Int) * 2 ^ (n : Int).toNat = ((shl64 a n : Nat) : Int) := by simp [shl64]
  rw [e]
  unfold Fits at h
  rw [IntWalk.i64_in _ (by omega)]
theorem bits_xor_i64 (a b : Nat) (ha : Fits a) (hb : Fits b) : bits .xor .i64 (a : Int) (b : Int) = ((a ^^^ b : Nat) : Int) := by
  unfold Fits at ha hb
  have h1 : (BitVec.ofInt 64 (a : Int)).toNat = a := by simp; omega
  have h2 : (BitVec.ofInt 64 (b : Int)).toNat = b := by simp; omega
  have h3 : a ^^^ b < 9223372036854775808 := Nat.xor_lt_two_pow (n := 63) ha hb
  have hx : (BitVec.ofInt 64 (a : Int) ^^^ BitVec.ofInt 64 (b : Int)).toNat = a ^^^ b := by rw [BitVec.toNat_xor, h1, h2]
  show IntKind.i64.wrap (((BitVec.ofInt 64 (a : Int) ^^^ BitVec.ofInt 64 (b : Int)).toNat : Nat) : Int) = _
  rw [hx]
  exact IntWalk.i64_in _ (by omega)
theorem bits_xor_i64l (a n : Nat) (ha : Fits a) (hb : Fits n) : bits .xor .i64 (a : Int) (no_index (OfNat.ofNat n)) = ((a ^^^ n : Nat) : Int) := bits_xor_i64 a n ha hb
attribute [local go_sem] bits_xor_i64 bits_xor_i64l
attribute [local go_sem ↓] shl64_op

def rA (a b : Nat) : Nat → Nat
  | 0 => 0
  | k + 1 => if shr8 b k % 2 = 1 then rA a b k ^^^ shl64 a k else rA a b k
def rB (p : Nat) : Nat → Nat
  | 0 => p
  | n + 1 => if rB p n / 2 ^ (14 - n) % 2 = 1 then rB p n ^^^ 283 * 2 ^ (6 - n) else rB p n
def mulR (a b : Nat) : Nat := rB (rA a b 8) 7 % 256
theorem rA_lt {a : Nat} (ha : a < 256) (b : Nat) : ∀ k, k ≤ 8 → rA a b k < 2 ^ 16
  | 0, _ => by show 0 < _; decide
  | k + 1, h => by
    have h1 := rA_lt ha b k (by omega)
    have h2 : shl64 a k < 2 ^ 16 := by
      unfold shl64
      have : 2 ^ k ≤ 2 ^ 8 := Nat.pow_le_pow_right (by decide) (by omega)
      calc a * 2 ^ k ≤ a * 2 ^ 8 := Nat.mul_le_mul_left _ this
        _ < 2 ^ 16 := by omega
    unfold rA
    split
    · exact Nat.xor_lt_two_pow h1 h2
    · exact h1
theorem rB_lt {p : Nat} (hp : p < 2 ^ 16) : ∀ n, rB p n < 2 ^ 16
  | 0 => hp
  | n + 1 => by
    have h1 := rB_lt hp n
    have h2 : 283 * 2 ^ (6 - n) < 2 ^ 16 := by
      have : 2 ^ (6 - n) ≤ 2 ^ 6 := Nat.pow_le_pow_right (by decide) (by omega)
      calc 283 * 2 ^ (6 - n) ≤ 283 * 2 ^ 6 := Nat.mul_le_mul_left _ this
        _ < 2 ^ 16 := by decide
    unfold rB
    split
    · exact Nat.xor_lt_two_pow h1 h2
    · exact h1
theorem fits_of {x : Nat} (h : x < 2 ^ 16) : Fits x := Nat.lt_trans h (by decide)

set_option maxRecDepth 100000 in
set_option maxHeartbeats 1000000 in
theorem mulR_any (a b : Nat) (ha : a < 256) (w : World) :
    Calls Try.prog 53 #[.int .u8 a, .int .u8 b] w fun e w' => e = .returned (.int .u8 (mulR a b)) ∧ w = w' := by
  go_enter Try.func53, Try.ntmps53
  go_wp2
  go_loop [5, 6] (fun p i => ∃ k : Nat, k ≤ 8 ∧ i = .int .i64 k ∧ p = .int .i64 (rA a b k)) (fun _ i => 8 - (intOf i).toNat)
  case atStart => exact ⟨0, by omega, rfl, rfl⟩
  case round =>
    obtain ⟨k, hk, rfl, rfl⟩ := hrel
    have hp := rA_lt ha b k hk
    have hF := fits_of hp
    by_cases hlt : k < 8
    · have hF2 : Fits (shl64 a k) := by
        unfold shl64
        have : 2 ^ k ≤ 2 ^ 8 := Nat.pow_le_pow_right (by decide) (by omega)
        exact fits_of (Nat.lt_of_le_of_lt (Nat.mul_le_mul_left a this) (by omega))
      have h64 : k ≤ 64 := by omega
      clear hp
      by_cases h1 : shr8 b k % 2 = 1
      · have e1 := Lib.hid (show rA a b (k + 1) = rA a b k ^^^ shl64 a k by rw [rA, if_pos h1])
        have h1' : (((shr8 b k : Nat) : Int) % 2 == 1) = true := by simp; omega
        clear h1
        go_wp2
        go_round
        case rel => exact ⟨k + 1, by omega, by go_num, by rw [e1.out]⟩
        case measure => simp [intOf]; omega
      · have e1 := Lib.hid (show rA a b (k + 1) = rA a b k by rw [rA, if_neg h1])
        have h1' : (((shr8 b k : Nat) : Int) % 2 == 1) = false := by simp; omega
        clear h1
        go_wp2
        go_round
        case rel => exact ⟨k + 1, by omega, by go_num, by rw [e1.out]⟩
        case measure => simp [intOf]; omega
    · obtain rfl : k = 8 := by omega
      clear hF
      have HQ : Hid (mulR a b = rB (rA a b 8) 7 % 256) := rfl
      generalize rA a b 8 = q at *
      rw [show ((8 : Nat) : Int) = 8 from rfl]
      go_wp2
      go_loop [5, 7] (fun p i => ∃ n : Nat, n ≤ 7 ∧ i = .int .i64 (14 - (n : Int)) ∧ p = .int .i64 (rB q n)) (fun _ i => (intOf i).toNat)
      case atStart => exact ⟨0, by omega, rfl, rfl⟩
      case round =>
        obtain ⟨n, hn, rfl, rfl⟩ := hrel
        have hF := fits_of (rB_lt hp n)
        by_cases hlt : n < 7
        · by_cases h1 : rB q n / 2 ^ (14 - n) % 2 = 1
          · have e1 : rB q (n + 1) = rB q n ^^^ 283 * 2 ^ (6 - n) := by rw [rB, if_pos h1]
            have hc : n = 0 ∨ n = 1 ∨ n = 2 ∨ n = 3 ∨ n = 4 ∨ n = 5 ∨ n = 6 := by omega
            rcases hc with rfl | rfl | rfl | rfl | rfl | rfl | rfl
            all_goals
              have HE := Lib.hid e1; clear e1
              have HX := Lib.hid hF; clear hF
              go_wp2
              go_round
              case rel => first | exact ⟨1, by decide, rfl, by rw [HE.out]; exact congrArg _ (bits_xor_i64l _ _ HX.out (by unfold Fits; decide))⟩ | exact ⟨2, by decide, rfl, by rw [HE.out]; exact congrArg _ (bits_xor_i64l _ _ HX.out (by unfold Fits; decide))⟩ | exact ⟨3, by decide, rfl, by rw [HE.out]; exact congrArg _ (bits_xor_i64l _ _ HX.out (by unfold Fits; decide))⟩ | exact ⟨4, by decide, rfl, by rw [HE.out]; exact congrArg _ (bits_xor_i64l _ _ HX.out (by unfold Fits; decide))⟩ | exact ⟨5, by decide, rfl, by rw [HE.out]; exact congrArg _ (bits_xor_i64l _ _ HX.out (by unfold Fits; decide))⟩ | exact ⟨6, by decide, rfl, by rw [HE.out]; exact congrArg _ (bits_xor_i64l _ _ HX.out (by unfold Fits; decide))⟩ | exact ⟨7, by decide, rfl, by rw [HE.out]; exact congrArg _ (bits_xor_i64l _ _ HX.out (by unfold Fits; decide))⟩
              case measure => simp [intOf]
          · have e1 : rB q (n + 1) = rB q n := by rw [rB, if_neg h1]
            have hc : n = 0 ∨ n = 1 ∨ n = 2 ∨ n = 3 ∨ n = 4 ∨ n = 5 ∨ n = 6 := by omega
            rcases hc with rfl | rfl | rfl | rfl | rfl | rfl | rfl
            all_goals
              have HE := Lib.hid e1; clear e1
              go_wp2
              go_round
              case rel => first | exact ⟨1, by decide, rfl, by rw [HE.out]⟩ | exact ⟨2, by decide, rfl, by rw [HE.out]⟩ | exact ⟨3, by decide, rfl, by rw [HE.out]⟩ | exact ⟨4, by decide, rfl, by rw [HE.out]⟩ | exact ⟨5, by decide, rfl, by rw [HE.out]⟩ | exact ⟨6, by decide, rfl, by rw [HE.out]⟩ | exact ⟨7, by decide, rfl, by rw [HE.out]⟩
              case measure => simp [intOf]
        · obtain rfl : n = 7 := by omega
          go_wp2
          go_ret
          exact ⟨by rw [HQ.out]; rfl, rfl⟩

theorem shr8_xor (b c k : Nat) : shr8 (b ^^^ c) k % 2 = (shr8 b k % 2) ^^^ (shr8 c k % 2) := by
  unfold shr8
  rw [Nat.xor_div_two_pow]
  exact Nat.xor_mod_two_pow (n := 1)
theorem xor_swap (p q r s : Nat) : p ^^^ q ^^^ (r ^^^ s) = p ^^^ r ^^^ (q ^^^ s) := by ac_rfl
theorem rA_xor (a b c : Nat) : ∀ k, rA a (b ^^^ c) k = rA a b k ^^^ rA a c k
  | 0 => by simp [rA]
  | k + 1 => by
    simp only [rA, shr8_xor, rA_xor a b c k]
    have h1 : shr8 b k % 2 = 0 ∨ shr8 b k % 2 = 1 := by omega
    have h2 : shr8 c k % 2 = 0 ∨ shr8 c k % 2 = 1 := by omega
    rcases h1 with h1 | h1 <;> rcases h2 with h2 | h2 <;> simp [h1, h2]
    · ac_rfl
    · ac_rfl
    · rw [xor_swap, Nat.xor_self, Nat.xor_zero]
theorem rB_xor (p q : Nat) : ∀ n, rB (p ^^^ q) n = rB p n ^^^ rB q n
  | 0 => by simp [rB]
  | n + 1 => by
    have hd : (rB p n ^^^ rB q n) / 2 ^ (14 - n) % 2 = (rB p n / 2 ^ (14 - n) % 2) ^^^ (rB q n / 2 ^ (14 - n) % 2) := by
      rw [Nat.xor_div_two_pow]; exact Nat.xor_mod_two_pow (n := 1)
    simp only [rB, rB_xor p q n, hd]
    have h1 : rB p n / 2 ^ (14 - n) % 2 = 0 ∨ rB p n / 2 ^ (14 - n) % 2 = 1 := by omega
    have h2 : rB q n / 2 ^ (14 - n) % 2 = 0 ∨ rB q n / 2 ^ (14 - n) % 2 = 1 := by omega
    rcases h1 with h1 | h1 <;> rcases h2 with h2 | h2 <;> simp [h1, h2]
    · ac_rfl
    · ac_rfl
    · rw [xor_swap, Nat.xor_self, Nat.xor_zero]
theorem mulR_xorR (a b c : Nat) : mulR a (b ^^^ c) = mulR a b ^^^ mulR a c := by
  unfold mulR
  rw [rA_xor, rB_xor, Nat.xor_mod_two_pow (n := 8)]
theorem shl64_xor (a b k : Nat) : shl64 (a ^^^ b) k = shl64 a k ^^^ shl64 b k := by
  unfold shl64
  have := Nat.shiftLeft_xor_distrib (i := k) (a := a) (b := b)
  simpa [Nat.shiftLeft_eq] using this
theorem rA_xorL (a b c : Nat) : ∀ k, rA (a ^^^ b) c k = rA a c k ^^^ rA b c k
  | 0 => by simp [rA]
  | k + 1 => by
    simp only [rA, shl64_xor, rA_xorL a b c k]
    split
    · exact xor_swap _ _ _ _
    · rfl
theorem mulR_xorL (a b c : Nat) : mulR (a ^^^ b) c = mulR a c ^^^ mulR b c := by
  unfold mulR
  rw [rA_xorL, rB_xor, Nat.xor_mod_two_pow (n := 8)]
/-- The document's product is the program's. -/
theorem mulR_eq {a b : Nat} (ha : a < 256) (hb : b < 256) : mulR a b = mul a b := by
  have base : ∀ i, i < 8 → ∀ j, j < 8 → mulR (2 ^ i) (2 ^ j) = mul (2 ^ i) (2 ^ j) := by decide +kernel
  have z : ∀ c, mulR 0 c = 0 := fun c => by
    have := mulR_xorL 0 0 c
    rw [Nat.xor_self] at this
    rw [this, Nat.xor_self]
  have z' : ∀ c, mulR c 0 = 0 := fun c => by
    have := mulR_xorR c 0 0
    rw [Nat.xor_self] at this
    rw [this, Nat.xor_self]
  refine byte_ind (p := fun b => mulR a b = mul a b) ?_ ?_ ?_ b hb
  · rw [z', mul_zeroR ha]
  · intro j hj
    refine byte_ind (p := fun a => mulR a (2 ^ j) = mul a (2 ^ j)) ?_ ?_ ?_ a ha
    · rw [z, mul_zeroL]
    · exact fun i hi => base i hi j hj
    · intro x y hx hy h1 h2
      rw [mulR_xorL, mul_xorL _ hx hy, h1, h2]
  · intro x y hx hy h1 h2
    rw [mulR_xorR, mul_xorR _ _ ha, h1, h2]
theorem refMul_any (a b : Nat) (ha : a < 256) (hb : b < 256) (w : World) :
    Calls Try.prog 53 #[.int .u8 a, .int .u8 b] w fun e w' => e = .returned (.int .u8 (mul a b)) ∧ w = w' := by
  rw [← mulR_eq ha hb]; exact mulR_any a b ha w
end Go.Proofs.Ytmhhekiliojifaa

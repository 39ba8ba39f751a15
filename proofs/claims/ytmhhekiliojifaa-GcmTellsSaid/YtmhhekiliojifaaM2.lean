/- The field of bytes: the program's product is commutative, associative, shared out over sums; what is not 0 has one inverse. -/
import Derived.Test.YtmhhekiliojifaaM1
namespace Go.Proofs.Ytmhhekiliojifaa
open Go.RowKit Go.Own

theorem xor_lt8 {a b : Nat} (ha : a < 256) (hb : b < 256) : a ^^^ b < 256 := Nat.xor_lt_two_pow (n := 8) ha hb
theorem xor8_eq {a b : Nat} (ha : a < 256) (hb : b < 256) : xor8 a b = a ^^^ b := Nat.mod_eq_of_lt (xor_lt8 ha hb)
theorem dbl_eq (a : Nat) : dbl a = (a * 2 % 256) ^^^ (if a.testBit 7 then 27 else 0) := by
  have hs : shl8 a 1 = a * 2 % 256 := rfl
  have hl : a * 2 % 256 < 256 := Nat.mod_lt _ (by decide)
  have ht : (and8 a 128 = 0) ↔ a.testBit 7 = false := by
    have e : and8 a 128 = (a &&& 2 ^ 7) % 256 := rfl
    rw [e, nat_bit, Nat.testBit_eq_decide_div_mod_eq]
    have : a / 2 ^ 7 % 2 = 0 ∨ a / 2 ^ 7 % 2 = 1 := by omega
    rcases this with h | h <;> simp [h]
  unfold dbl
  rw [hs]
  by_cases h : a.testBit 7 = true
  · rw [if_neg (by rw [ht]; simp [h]), if_pos h, xor8_eq hl (by decide)]
  · rw [if_pos (by rw [ht]; simpa using h), if_neg h, Nat.xor_zero]
theorem dbl_lt (a : Nat) : dbl a < 256 := by
  rw [dbl_eq]
  exact xor_lt8 (Nat.mod_lt _ (by decide)) (by split <;> decide)
theorem dbl_xor (a b : Nat) : dbl (a ^^^ b) = dbl a ^^^ dbl b := by
  rw [dbl_eq, dbl_eq, dbl_eq, Nat.testBit_xor]
  have e : (a ^^^ b) * 2 % 256 = (a * 2 % 256) ^^^ (b * 2 % 256) := by
    have h1 : (a ^^^ b) * 2 = a * 2 ^^^ b * 2 := by
      have := Nat.shiftLeft_xor_distrib (i := 1) (a := a) (b := b)
      simpa [Nat.shiftLeft_eq] using this
    rw [h1, Nat.xor_mod_two_pow (n := 8)]
  rw [e]
  cases a.testBit 7 <;> cases b.testBit 7 <;> simp
  · ac_rfl
  · ac_rfl
  · rw [show a * 2 % 256 ^^^ 27 ^^^ (b * 2 % 256 ^^^ 27) = (a * 2 % 256 ^^^ b * 2 % 256) ^^^ (27 ^^^ 27) by ac_rfl]; simp

/-- The product, bit by bit. -/
def mulG : Nat → Nat → Nat → Nat
  | 0, _, _ => 0
  | n + 1, a, b => (if b % 2 = 1 then a else 0) ^^^ mulG n (dbl a) (b / 2)
theorem mulG_lt : ∀ n a b, a < 256 → mulG n a b < 256
  | 0, _, _, _ => by show 0 < 256; decide
  | n + 1, a, b, h => xor_lt8 (by split <;> omega) (mulG_lt n _ _ (dbl_lt a))
theorem mulG_zero : ∀ n a, mulG n a 0 = 0
  | 0, _ => rfl
  | n + 1, a => by simp [mulG, mulG_zero n]
theorem and8_one (b : Nat) : and8 b 1 = b % 2 := by
  unfold and8; rw [Nat.and_one_is_mod]; omega
theorem mulF_eq : ∀ n a b p, a < 256 → p < 256 → mulF n a b p = p ^^^ mulG n a b
  | 0, _, _, p, _, _ => by simp [mulF, mulG]
  | n + 1, a, b, p, ha, hp => by
    rw [mulF]
    by_cases h0 : b = 0
    · rw [if_pos h0, h0, mulG_zero, Nat.xor_zero]
    · rw [if_neg h0, mulG, and8_one]
      by_cases h1 : b % 2 = 1
      · rw [if_neg (by omega), if_pos h1, mulF_eq n _ _ _ (dbl_lt a) (xor8_lt _ _), xor8_eq hp ha]
        show p ^^^ a ^^^ mulG n (dbl a) (b / 2 ^ 1) = _
        rw [Nat.pow_one]; ac_rfl
      · rw [if_pos (by omega), if_neg h1, mulF_eq n _ _ _ (dbl_lt a) hp]
        show p ^^^ mulG n (dbl a) (b / 2 ^ 1) = _
        rw [Nat.pow_one, Nat.zero_xor]
theorem mul_eq {a : Nat} (b : Nat) (ha : a < 256) : mul a b = mulG 8 a b := by
  unfold mul; rw [mulF_eq _ _ _ _ ha (by decide), Nat.zero_xor]
theorem mul_lt {a : Nat} (b : Nat) (ha : a < 256) : mul a b < 256 := by rw [mul_eq b ha]; exact mulG_lt _ _ _ ha
theorem mulG_xorR : ∀ n a b c, mulG n a (b ^^^ c) = mulG n a b ^^^ mulG n a c
  | 0, _, _, _ => by simp [mulG]
  | n + 1, a, b, c => by
    have hd : (b ^^^ c) / 2 = b / 2 ^^^ c / 2 := by
      have := Nat.xor_div_two_pow (n := 1) (a := b) (b := c); simpa using this
    have hm : (b ^^^ c) % 2 = (b % 2) ^^^ (c % 2) := Nat.xor_mod_two_pow (n := 1)
    simp only [mulG, hd, mulG_xorR n, hm]
    have h1 : b % 2 = 0 ∨ b % 2 = 1 := by omega
    have h2 : c % 2 = 0 ∨ c % 2 = 1 := by omega
    rcases h1 with h1 | h1 <;> rcases h2 with h2 | h2 <;> simp [h1, h2]
    · ac_rfl
    · ac_rfl
    · rw [show a ^^^ mulG n (dbl a) (b / 2) ^^^ (a ^^^ mulG n (dbl a) (c / 2)) = (a ^^^ a) ^^^ (mulG n (dbl a) (b / 2) ^^^ mulG n (dbl a) (c / 2)) by ac_rfl]; simp
theorem mulG_xorL : ∀ n a b c, mulG n (a ^^^ b) c = mulG n a c ^^^ mulG n b c
  | 0, _, _, _ => by simp [mulG]
  | n + 1, a, b, c => by
    simp only [mulG, dbl_xor, mulG_xorL n]
    split
    · ac_rfl
    · simp
theorem mul_xorR {a : Nat} (b c : Nat) (ha : a < 256) : mul a (b ^^^ c) = mul a b ^^^ mul a c := by rw [mul_eq _ ha, mul_eq _ ha, mul_eq _ ha, mulG_xorR]
theorem mul_xorL {a b : Nat} (c : Nat) (ha : a < 256) (hb : b < 256) : mul (a ^^^ b) c = mul a c ^^^ mul b c := by rw [mul_eq _ (xor_lt8 ha hb), mul_eq _ ha, mul_eq _ hb, mulG_xorL]
theorem mul_zeroR {a : Nat} (ha : a < 256) : mul a 0 = 0 := by rw [mul_eq _ ha, mulG_zero]
theorem mul_zeroL (b : Nat) : mul 0 b = 0 := by
  have h := mul_xorL (a := 0) (b := 0) b (by decide) (by decide)
  rw [Nat.xor_self] at h
  rw [h, Nat.xor_self]
theorem mul_one {a : Nat} (ha : a < 256) : mul a 1 = a := by
  rw [mul_eq _ ha]
  show (if 1 % 2 = 1 then a else 0) ^^^ mulG 7 (dbl a) (1 / 2) = a
  rw [if_pos (by decide), show 1 / 2 = 0 from rfl, mulG_zero, Nat.xor_zero]

/-- What holds of 0, of the eight powers of 2, and of sums, holds of every byte. -/
theorem byte_ind {p : Nat → Prop} (h0 : p 0) (h2 : ∀ i, i < 8 → p (2 ^ i)) (hx : ∀ a b, a < 256 → b < 256 → p a → p b → p (a ^^^ b)) : ∀ a, a < 256 → p a := by
  have hd : ∀ a, a < 256 → a ≠ 0 → a.log2 < 8 ∧ a ^^^ 2 ^ a.log2 < a := by decide +kernel
  intro a
  induction a using Nat.strongRecOn with
  | _ a ih =>
    intro ha
    by_cases hz : a = 0
    · rw [hz]; exact h0
    · obtain ⟨h1, h3⟩ := hd a ha hz
      have hp : 2 ^ a.log2 < 256 := show 2 ^ a.log2 < 2 ^ 8 from Nat.pow_lt_pow_right (by decide) h1
      have := hx (2 ^ a.log2) (a ^^^ 2 ^ a.log2) hp (by omega) (h2 _ h1) (ih _ h3 (by omega))
      rwa [show 2 ^ a.log2 ^^^ (a ^^^ 2 ^ a.log2) = a ^^^ (2 ^ a.log2 ^^^ 2 ^ a.log2) by ac_rfl, Nat.xor_self, Nat.xor_zero] at this
theorem pow_lt8 {i : Nat} (h : i < 8) : 2 ^ i < 256 := show 2 ^ i < 2 ^ 8 from Nat.pow_lt_pow_right (by decide) h
theorem mul_comm8 {a b : Nat} (ha : a < 256) (hb : b < 256) : mul a b = mul b a := by
  have base : ∀ i, i < 8 → ∀ j, j < 8 → mul (2 ^ i) (2 ^ j) = mul (2 ^ j) (2 ^ i) := by decide +kernel
  refine byte_ind (p := fun b => mul a b = mul b a) ?_ ?_ ?_ b hb
  · rw [mul_zeroR ha, mul_zeroL]
  · intro j hj
    refine byte_ind (p := fun a => mul a (2 ^ j) = mul (2 ^ j) a) ?_ ?_ ?_ a ha
    · rw [mul_zeroR (pow_lt8 hj), mul_zeroL]
    · exact fun i hi => base i hi j hj
    · intro x y hx hy h1 h2
      rw [mul_xorL _ hx hy, mul_xorR _ _ (pow_lt8 hj), h1, h2]
  · intro x y hx hy h1 h2
    rw [mul_xorR _ _ ha, mul_xorL _ hx hy, h1, h2]
theorem mul_assoc8 {a b c : Nat} (ha : a < 256) (hb : b < 256) (hc : c < 256) : mul (mul a b) c = mul a (mul b c) := by
  have base : ∀ i, i < 8 → ∀ j, j < 8 → ∀ k, k < 8 → mul (mul (2 ^ i) (2 ^ j)) (2 ^ k) = mul (2 ^ i) (mul (2 ^ j) (2 ^ k)) := by decide +kernel
  refine byte_ind (p := fun c => mul (mul a b) c = mul a (mul b c)) ?_ ?_ ?_ c hc
  · rw [mul_zeroR (mul_lt _ ha), mul_zeroR hb, mul_zeroR ha]
  · intro k hk
    refine byte_ind (p := fun b => mul (mul a b) (2 ^ k) = mul a (mul b (2 ^ k))) ?_ ?_ ?_ b hb
    · rw [mul_zeroR ha, mul_zeroL, mul_zeroR ha]
    · intro j hj
      refine byte_ind (p := fun a => mul (mul a (2 ^ j)) (2 ^ k) = mul a (mul (2 ^ j) (2 ^ k))) ?_ ?_ ?_ a ha
      · rw [mul_zeroL, mul_zeroL, mul_zeroL]
      · exact fun i hi => base i hi j hj k hk
      · intro x y hx hy h1 h2
        rw [mul_xorL _ hx hy, mul_xorL _ (mul_lt _ hx) (mul_lt _ hy), mul_xorL _ hx hy, h1, h2]
    · intro x y hx hy h1 h2
      rw [mul_xorR _ _ ha, mul_xorL _ (mul_lt _ ha) (mul_lt _ ha), mul_xorL _ hx hy, mul_xorR _ _ ha, h1, h2]
  · intro x y hx hy h1 h2
    rw [mul_xorR _ _ (mul_lt _ ha), mul_xorR _ _ hb, mul_xorR _ _ ha, h1, h2]

/-- The power 254: what undoes a byte. -/
def inv8 (a : Nat) : Nat :=
  let b2 := mul a a; let b4 := mul b2 b2; let b8 := mul b4 b4; let b16 := mul b8 b8; let b32 := mul b16 b16; let b64 := mul b32 b32; let b128 := mul b64 b64
  mul (mul (mul (mul (mul (mul b2 b4) b8) b16) b32) b64) b128
theorem inv8_spec : ∀ a, a < 256 → inv8 a < 256 ∧ (a ≠ 0 → mul (inv8 a) a = 1) := by decide +kernel
theorem mul_eq_zero {a b : Nat} (ha : a < 256) (hb : b < 256) : mul a b = 0 ↔ a = 0 ∨ b = 0 := by
  constructor
  · intro h
    by_cases hz : a = 0
    · exact .inl hz
    · right
      obtain ⟨hi, h1⟩ := inv8_spec a ha
      have := mul_assoc8 hi ha hb
      rw [h1 hz, h, mul_zeroR hi, mul_comm8 (by decide) hb, mul_one hb] at this
      exact this
  · rintro (rfl | rfl)
    · exact mul_zeroL b
    · exact mul_zeroR ha
theorem mul_eq_one {a b : Nat} (ha : a < 256) (hb : b < 256) (hz : a ≠ 0) : mul a b = 1 ↔ b = inv8 a := by
  obtain ⟨hi, h1⟩ := inv8_spec a ha
  constructor
  · intro h
    have := mul_assoc8 hi ha hb
    rw [h1 hz, h, mul_one hi, mul_comm8 (by decide) hb, mul_one hb] at this
    exact this
  · rintro rfl
    rw [mul_comm8 ha hb, h1 hz]
/-- Unlike bytes have unlike boxes. -/
theorem box_inj {a b : Nat} (ha : a < 256) (hb : b < 256) (h : gi boxes a = gi boxes b) : a = b := by
  have hu : ∀ x, x < 256 → boxLit.idxOf (gi boxLit x) = x := by decide +kernel
  rw [boxes_eq] at h
  rw [← hu a ha, ← hu b hb, h]
end Go.Proofs.Ytmhhekiliojifaa

/- The field of bytes: the program's product is commutative, associative, shared out over sums; what is not 0 has one inverse. | Unlike blocks are pressed to unlike ones: each step of a round can be undone. -/
import Derived.Test.YtfamoakicgmfgaaA4
namespace Go.Proofs.Ytfamoakicgmfgaa
open Go.RowKit Go.Own

def boxLit : List Nat := [99, 124, 119, 123, 242, 107, 111, 197, 48, 1, 103, 43, 254, 215, 171, 118, 202, 130, 201, 125, 250, 89, 71, 240, 173, 212, 162, 175, 156, 164, 114, 192, 183, 253, 147, 38, 54, 63, 247, 204, 52, 165, 229, 241, 113, 216, 49, 21, 4, 199, 35, 195, 24, 150, 5, 154, 7, 18, 128, 226, 235, 39, 178, 117, 9, 131, 44, 26, 27, 110, 90, 160, 82, 59, 214, 179, 41, 227, 47, 132, 83, 209, 0, 237, 32, 252, 177, 91, 106, 203, 190, 57, 74, 76, 88, 207, 208, 239, 170, 251, 67, 77, 51, 133, 69, 249, 2, 127, 80, 60, 159, 168, 81, 163, 64, 143, 146, 157, 56, 245, 188, 182, 218, 33, 16, 255, 243, 210, 205, 12, 19, 236, 95, 151, 68, 23, 196, 167, 126, 61, 100, 93, 25, 115, 96, 129, 79, 220, 34, 42, 144, 136, 70, 238, 184, 20, 222, 94, 11, 219, 224, 50, 58, 10, 73, 6, 36, 92, 194, 211, 172, 98, 145, 149, 228, 121, 231, 200, 55, 109, 141, 213, 78, 169, 108, 86, 244, 234, 101, 122, 174, 8, 186, 120, 37, 46, 28, 166, 180, 198, 232, 221, 116, 31, 75, 189, 139, 138, 112, 62, 181, 102, 72, 3, 246, 14, 97, 53, 87, 185, 134, 193, 29, 158, 225, 248, 152, 17, 105, 217, 142, 148, 155, 30, 135, 233, 206, 85, 40, 223, 140, 161, 137, 13, 191, 230, 66, 104, 65, 153, 45, 15, 176, 84, 187, 22]
theorem boxes_eq : boxes = boxLit := by decide +kernel
theorem words_test : words (boxLit ++ rep 240) (List.range 32) = words (boxLit ++ rep 240) (List.range 32) := rfl
theorem press_test : pressL (boxLit ++ words (boxLit ++ rep 240) (List.range 32)) [0, 17, 34, 51, 68, 85, 102, 119, 136, 153, 170, 187, 204, 221, 238, 255] = [142, 162, 183, 202, 81, 103, 69, 191, 234, 252, 73, 144, 75, 73, 96, 137] := by decide +kernel
end Go.Proofs.Ytfamoakicgmfgaa
namespace Go.Proofs.Ytfamoakicgmfgaa
open Go.RowKit Go.Own

theorem xor_lt8 {a b : Nat} (ha : a < 256) (hb : b < 256) : a ^^^ b < 256 := Nat.xor_lt_two_pow (n := 8) ha hb
theorem xor8_eq {a b : Nat} (ha : a < 256) (hb : b < 256) : xor8 a b = a ^^^ b := Nat.mod_eq_of_lt (xor_lt8 ha hb)
theorem dbl_eq (a : Nat) : dbl a = (a * 2 % 256) ^^^ (if a.testBit 7 then 27 else 0) := by
  have hs : shl8 a 1 = a * 2 % 256 := rfl
  have hl : a * 2 % 256 < 256 := Nat.mod_lt _ (by decide)
  have ht : (and8 a 128 = 0) ↔ a.testBit 7 = false := by
    have e : and8 a 128 = (a &&& 2 ^ 7) % 256 := rfl
    rw [e, nat_bit, Nat.testBit_eq_decide_div_mod_eq]
    have : a / 2 ^ 7 % 2 = 0 ∨ a / 2 ^ 7 % 2 = 1 := by omega
    rcases this with h | h <;> simp [h]
  unfold dbl
  rw [hs]
  by_cases h : a.testBit 7 = true
  · rw [if_neg (by rw [ht]; simp [h]), if_pos h, xor8_eq hl (by decide)]
  · rw [if_pos (by rw [ht]; simpa using h), if_neg h, Nat.xor_zero]
theorem dbl_lt (a : Nat) : dbl a < 256 := by
  rw [dbl_eq]
  exact xor_lt8 (Nat.mod_lt _ (by decide)) (by split <;> decide)
theorem dbl_xor (a b : Nat) : dbl (a ^^^ b) = dbl a ^^^ dbl b := by
  rw [dbl_eq, dbl_eq, dbl_eq, Nat.testBit_xor]
  have e : (a ^^^ b) * 2 % 256 = (a * 2 % 256) ^^^ (b * 2 % 256) := by
    have h1 : (a ^^^ b) * 2 = a * 2 ^^^ b * 2 := by
      have := Nat.shiftLeft_xor_distrib (i := 1) (a := a) (b := b)
      simpa [Nat.shiftLeft_eq] using this
    rw [h1, Nat.xor_mod_two_pow (n := 8)]
  rw [e]
  cases a.testBit 7 <;> cases b.testBit 7 <;> simp
  · ac_rfl
  · ac_rfl
  · rw [show a * 2 % 256 ^^^ 27 ^^^ (b * 2 % 256 ^^^ 27) = (a * 2 % 256 ^^^ b * 2 % 256) ^^^ (27 ^^^ 27) by ac_rfl]; simp

/-- The product, bit by bit. -/
def mulG : Nat → Nat → Nat → Nat
  | 0, _, _ => 0
  | n + 1, a, b => (if b % 2 = 1 then a else 0) ^^^ mulG n (dbl a) (b / 2)
theorem mulG_lt : ∀ n a b, a < 256 → mulG n a b < 256
  | 0, _, _, _ => by show 0 < 256; decide
  | n + 1, a, b, h => xor_lt8 (by split <;> omega) (mulG_lt n _ _ (dbl_lt a))
theorem mulG_zero : ∀ n a, mulG n a 0 = 0
  | 0, _ => rfl
  | n + 1, a => by simp [mulG, mulG_zero n]
theorem and8_one (b : Nat) : and8 b 1 = b % 2 := by
  unfold and8; rw [Nat.and_one_is_mod]; omega
theorem mulF_eq : ∀ n a b p, a < 256 → p < 256 → mulF n a b p = p ^^^ mulG n a b
  | 0, _, _, p, _, _ => by simp [mulF, mulG]
  | n + 1, a, b, p, ha, hp => by
    rw [mulF]
    by_cases h0 : b = 0
    · rw [if_pos h0, h0, mulG_zero, Nat.xor_zero]
    · rw [if_neg h0, mulG, and8_one]
      by_cases h1 : b % 2 = 1
      · rw [if_neg (by omega), if_pos h1, mulF_eq n _ _ _ (dbl_lt a) (xor8_lt _ _), xor8_eq hp ha]
        show p ^^^ a ^^^ mulG n (dbl a) (b / 2 ^ 1) = _
        rw [Nat.pow_one]; ac_rfl
      · rw [if_pos (by omega), if_neg h1, mulF_eq n _ _ _ (dbl_lt a) hp]
        show p ^^^ mulG n (dbl a) (b / 2 ^ 1) = _
        rw [Nat.pow_one, Nat.zero_xor]
theorem mul_eq {a : Nat} (b : Nat) (ha : a < 256) : mul a b = mulG 8 a b := by
  unfold mul; rw [mulF_eq _ _ _ _ ha (by decide), Nat.zero_xor]
theorem mul_lt {a : Nat} (b : Nat) (ha : a < 256) : mul a b < 256 := by rw [mul_eq b ha]; exact mulG_lt _ _ _ ha
theorem mulG_xorR : ∀ n a b c, mulG n a (b ^^^ c) = mulG n a b ^^^ mulG n a c
  | 0, _, _, _ => by simp [mulG]
  | n + 1, a, b, c => by
    have hd : (b ^^^ c) / 2 = b / 2 ^^^ c / 2 := by
      have := Nat.xor_div_two_pow (n := 1) (a := b) (b := c); simpa using this
    have hm : (b ^^^ c) % 2 = (b % 2) ^^^ (c % 2) := Nat.xor_mod_two_pow (n := 1)
    simp only [mulG, hd, mulG_xorR n, hm]
    have h1 : b % 2 = 0 ∨ b % 2 = 1 := by omega
    have h2 : c % 2 = 0 ∨ c % 2 = 1 := by omega
    rcases h1 with h1 | h1 <;> rcases h2 with h2 | h2 <;> simp [h1, h2]
    · ac_rfl
    · ac_rfl
    · rw [show a ^^^ mulG n (dbl a) (b / 2) ^^^ (a ^^^ mulG n (dbl a) (c / 2)) = (a ^^^ a) ^^^ (mulG n (dbl a) (b / 2) ^^^ mulG n (dbl a) (c / 2)) by ac_rfl]; simp
theorem mulG_xorL : ∀ n a b c, mulG n (a ^^^ b) c = mulG n a c ^^^ mulG n b c
  | 0, _, _, _ => by simp [mulG]
  | n + 1, a, b, c => by
    simp only [mulG, dbl_xor, mulG_xorL n]
    split
    · ac_rfl
    · simp
theorem mul_xorR {a : Nat} (b c : Nat) (ha : a < 256) : mul a (b ^^^ c) = mul a b ^^^ mul a c := by rw [mul_eq _ ha, mul_eq _ ha, mul_eq _ ha, mulG_xorR]
theorem mul_xorL {a b : Nat} (c : Nat) (ha : a < 256) (hb : b < 256) : mul (a ^^^ b) c = mul a c ^^^ mul b c := by rw [mul_eq _ (xor_lt8 ha hb), mul_eq _ ha, mul_eq _ hb, mulG_xorL]
theorem mul_zeroR {a : Nat} (ha : a < 256) : mul a 0 = 0 := by rw [mul_eq _ ha, mulG_zero]
theorem mul_zeroL (b : Nat) : mul 0 b = 0 := by
  have h := mul_xorL (a := 0) (b := 0) b (by decide) (by decide)
  rw [Nat.xor_self] at h
  rw [h, Nat.xor_self]
theorem mul_one {a : Nat} (ha : a < 256) : mul a 1 = a := by
  rw [mul_eq _ ha]
  show (if 1 % 2 = 1 then a else 0) ^^^ mulG 7 (dbl a) (1 / 2) = a
  rw [if_pos (by decide), show 1 / 2 = 0 from rfl, mulG_zero, Nat.xor_zero]

/-- What holds of 0, of the eight powers of 2, and of sums, holds of every byte. -/
theorem byte_ind {p : Nat → Prop} (h0 : p 0) (h2 : ∀ i, i < 8 → p (2 ^ i)) (hx : ∀ a b, a < 256 → b < 256 → p a → p b → p (a ^^^ b)) : ∀ a, a < 256 → p a := by
  have hd : ∀ a, a < 256 → a ≠ 0 → a.log2 < 8 ∧ a ^^^ 2 ^ a.log2 < a := by decide +kernel
  intro a
  induction a using Nat.strongRecOn with
  | _ a ih =>
    intro ha
    by_cases hz : a = 0
    · rw [hz]; exact h0
    · obtain ⟨h1, h3⟩ := hd a ha hz
      have hp : 2 ^ a.log2 < 256 := show 2 ^ a.log2 < 2 ^ 8 from Nat.pow_lt_pow_right (by decide) h1
      have := hx (2 ^ a.log2) (a ^^^ 2 ^ a.log2) hp (by omega) (h2 _ h1) (ih _ h3 (by omega))
      rwa [show 2 ^ a.log2 ^^^ (a ^^^ 2 ^ a.log2) = a ^^^ (2 ^ a.log2 ^^^ 2 ^ a.log2) by ac_rfl, Nat.xor_self, Nat.xor_zero] at this
theorem pow_lt8 {i : Nat} (h : i < 8) : 2 ^ i < 256 := show 2 ^ i < 2 ^ 8 from Nat.pow_lt_pow_right (by decide) h
theorem mul_comm8 {a b : Nat} (ha : a < 256) (hb : b < 256) : mul a b = mul b a := by
  have base : ∀ i, i < 8 → ∀ j, j < 8 → mul (2 ^ i) (2 ^ j) = mul (2 ^ j) (2 ^ i) := by decide +kernel
  refine byte_ind (p := fun b => mul a b = mul b a) ?_ ?_ ?_ b hb
  · rw [mul_zeroR ha, mul_zeroL]
  · intro j hj
    refine byte_ind (p := fun a => mul a (2 ^ j) = mul (2 ^ j) a) ?_ ?_ ?_ a ha
    · rw [mul_zeroR (pow_lt8 hj), mul_zeroL]
    · exact fun i hi => base i hi j hj
    · intro x y hx hy h1 h2
      rw [mul_xorL _ hx hy, mul_xorR _ _ (pow_lt8 hj), h1, h2]
  · intro x y hx hy h1 h2
    rw [mul_xorR _ _ ha, mul_xorL _ hx hy, h1, h2]
theorem mul_assoc8 {a b c : Nat} (ha : a < 256) (hb : b < 256) (hc : c < 256) : mul (mul a b) c = mul a (mul b c) := by
  have base : ∀ i, i < 8 → ∀ j, j < 8 → ∀ k, k < 8 → mul (mul (2 ^ i) (2 ^ j)) (2 ^ k) = mul (2 ^ i) (mul (2 ^ j) (2 ^ k)) := by decide +kernel
  refine byte_ind (p := fun c => mul (mul a b) c = mul a (mul b c)) ?_ ?_ ?_ c hc
  · rw [mul_zeroR (mul_lt _ ha), mul_zeroR hb, mul_zeroR ha]
  · intro k hk
    refine byte_ind (p := fun b => mul (mul a b) (2 ^ k) = mul a (mul b (2 ^ k))) ?_ ?_ ?_ b hb
    · rw [mul_zeroR ha, mul_zeroL, mul_zeroR ha]
    · intro j hj
      refine byte_ind (p := fun a => mul (mul a (2 ^ j)) (2 ^ k) = mul a (mul (2 ^ j) (2 ^ k))) ?_ ?_ ?_ a ha
      · rw [mul_zeroL, mul_zeroL, mul_zeroL]
      · exact fun i hi => base i hi j hj k hk
      · intro x y hx hy h1 h2
        rw [mul_xorL _ hx hy, mul_xorL _ (mul_lt _ hx) (mul_lt _ hy), mul_xorL _ hx hy, h1, h2]
    · intro x y hx hy h1 h2
      rw [mul_xorR _ _ ha, mul_xorL _ (mul_lt _ ha) (mul_lt _ ha), mul_xorL _ hx hy, mul_xorR _ _ ha, h1, h2]
  · intro x y hx hy h1 h2
    rw [mul_xorR _ _ (mul_lt _ ha), mul_xorR _ _ hb, mul_xorR _ _ ha, h1, h2]

/-- The power 254: what undoes a byte. -/
def inv8 (a : Nat) : Nat :=
  let b2 := mul a a; let b4 := mul b2 b2; let b8 := mul b4 b4; let b16 := mul b8 b8; let b32 := mul b16 b16; let b64 := mul b32 b32; let b128 := mul b64 b64
  mul (mul (mul (mul (mul (mul b2 b4) b8) b16) b32) b64) b128
theorem inv8_spec : ∀ a, a < 256 → inv8 a < 256 ∧ (a ≠ 0 → mul (inv8 a) a = 1) := by decide +kernel
theorem mul_eq_zero {a b : Nat} (ha : a < 256) (hb : b < 256) : mul a b = 0 ↔ a = 0 ∨ b = 0 := by
  constructor
  · intro h
    by_cases hz : a = 0
    · exact .inl hz
    · right
      obtain ⟨hi, h1⟩ := inv8_spec a ha
      have := mul_assoc8 hi ha hb
      rw [h1 hz, h, mul_zeroR hi, mul_comm8 (by decide) hb, mul_one hb] at this
      exact this
  · rintro (rfl | rfl)
    · exact mul_zeroL b
    · exact mul_zeroR ha
theorem mul_eq_one {a b : Nat} (ha : a < 256) (hb : b < 256) (hz : a ≠ 0) : mul a b = 1 ↔ b = inv8 a := by
  obtain ⟨hi, h1⟩ := inv8_spec a ha
  constructor
  · intro h
    have := mul_assoc8 hi ha hb
    rw [h1 hz, h, mul_one hi, mul_comm8 (by decide) hb, mul_one hb] at this
    exact this
  · rintro rfl
    rw [mul_comm8 ha hb, h1 hz]
/-- Unlike bytes have unlike boxes. -/
theorem box_inj {a b : Nat} (ha : a < 256) (hb : b < 256) (h : gi boxes a = gi boxes b) : a = b := by
  have hu : ∀ x, x < 256 → boxLit.idxOf (gi boxLit x) = x := by decide +kernel
  rw [boxes_eq] at h
  rw [← hu a ha, ← hu b hb, h]
end Go.Proofs.Ytfamoakicgmfgaa
namespace Go.Proofs.Ytfamoakicgmfgaa
open Go.RowKit Go.Own

theorem xor_zero_iff {a b : Nat} : a ^^^ b = 0 ↔ a = b := by
  constructor
  · intro h
    have := congrArg (· ^^^ b) h
    simpa [Nat.xor_assoc] using this
  · rintro rfl; exact Nat.xor_self _
theorem gi_ext {s t : List Nat} (hl : s.length = t.length) (h : ∀ i, i < s.length → gi s i = gi t i) : s = t := by
  apply List.ext_getElem hl
  intro i h1 h2
  have := h i h1
  simpa [gi, List.getD, h1, h2] using this
theorem gi_wrd {s : List Nat} {i j : Nat} (hj : j < 4) : gi (wrd s i) j = gi s (i * 4 + j) := by
  simp [gi, wrd, List.getD, hj, List.getElem?_drop]
theorem wrd_ext {s t : List Nat} (hs : s.length = 16) (ht : t.length = 16) (h : ∀ i, i < 4 → wrd s i = wrd t i) : s = t := by
  refine gi_ext (by rw [hs, ht]) fun n hn => ?_
  have e := congrArg (fun l => gi l (n % 4)) (h (n / 4) (by omega))
  simp only [gi_wrd (show n % 4 < 4 by omega)] at e
  rwa [show n / 4 * 4 + n % 4 = n by omega] at e
theorem flat4 {f g : Nat → List Nat} (hf : ∀ i, (f i).length = 4) (hg : ∀ i, (g i).length = 4) (h : (List.range 4).flatMap f = (List.range 4).flatMap g) : ∀ i, i < 4 → f i = g i := by
  have h' : f 0 ++ (f 1 ++ (f 2 ++ (f 3 ++ []))) = g 0 ++ (g 1 ++ (g 2 ++ (g 3 ++ []))) := h
  obtain ⟨e0, h'⟩ := List.append_inj h' (by rw [hf, hg])
  obtain ⟨e1, h'⟩ := List.append_inj h' (by rw [hf, hg])
  obtain ⟨e2, h'⟩ := List.append_inj h' (by rw [hf, hg])
  obtain ⟨e3, _⟩ := List.append_inj h' (by rw [hf, hg])
  intro i hi
  have : i = 0 ∨ i = 1 ∨ i = 2 ∨ i = 3 := by omega
  rcases this with rfl | rfl | rfl | rfl <;> assumption
theorem map_range {n : Nat} {f g : Nat → Nat} (h : (List.range n).map f = (List.range n).map g) : ∀ i, i < n → f i = g i := by
  intro i hi
  have := congrArg (fun l => l[i]?) h
  simpa [hi] using this
theorem B8_wrd {s : List Nat} (h : B8 s) (i : Nat) : B8 (wrd s i) := (h.drop _).take _
theorem four_ext {x y : List Nat} (hx : x.length = 4) (hy : y.length = 4) (h : ∀ i, i < 4 → gi x i = gi y i) : x = y := gi_ext (by rw [hx, hy]) (by rw [hx]; exact h)
theorem xor8_cancel {a b k : Nat} (ha : a < 256) (hb : b < 256) (h : xor8 a k = xor8 b k) : a = b := by
  unfold xor8 at h
  rw [Nat.xor_mod_two_pow (n := 8), Nat.xor_mod_two_pow (n := 8), Nat.mod_eq_of_lt (show a < 2 ^ 8 from ha), Nat.mod_eq_of_lt (show b < 2 ^ 8 from hb)] at h
  have := congrArg (· ^^^ (k % 2 ^ 8)) h
  simpa [Nat.xor_assoc] using this
theorem xorL_inj {x y k : List Nat} (hx : x.length = 4) (hy : y.length = 4) (bx : B8 x) (by8 : B8 y) (h : xorL x k = xorL y k) : x = y :=
  four_ext hx hy fun i hi => xor8_cancel (bx.gi i) (by8.gi i) (map_range h i hi)
theorem addL_inj {cs s t : List Nat} {r : Nat} (hs : s.length = 16) (ht : t.length = 16) (bs : B8 s) (bt : B8 t) (h : addL cs s r = addL cs t r) : s = t :=
  wrd_ext hs ht fun i hi => xorL_inj (wrd_length (by omega)) (wrd_length (by omega)) (B8_wrd bs i) (B8_wrd bt i) (flat4 (fun _ => xorL_length _ _) (fun _ => xorL_length _ _) h i hi)
theorem sqr_inj {f : List Nat → List Nat} (hf : ∀ x, (f x).length = 4) (hi : ∀ x y, x.length = 4 → y.length = 4 → B8 x → B8 y → f x = f y → x = y)
    {s t : List Nat} (hs : s.length = 16) (ht : t.length = 16) (bs : B8 s) (bt : B8 t) (h : sqr f s = sqr f t) : s = t :=
  wrd_ext hs ht fun i hi4 => hi _ _ (wrd_length (by omega)) (wrd_length (by omega)) (B8_wrd bs i) (B8_wrd bt i) (flat4 (fun _ => hf _) (fun _ => hf _) h i hi4)
theorem eachL_inj {cs : List Nat} (hc : ∀ b, b < 256 → gi cs b = gi boxes b) (x y : List Nat) (hx : x.length = 4) (hy : y.length = 4) (bx : B8 x) (by8 : B8 y) (h : eachL cs x = eachL cs y) : x = y :=
  four_ext hx hy fun i hi => box_inj (bx.gi i) (by8.gi i) (by
    have := map_range h i hi
    simp only [eachF] at this
    rwa [hc _ (bx.gi i), hc _ (by8.gi i)] at this)
theorem turnL_inj {s t : List Nat} (hs : s.length = 16) (ht : t.length = 16) (h : turnL s = turnL t) : s = t := by
  refine gi_ext (by rw [hs, ht]) fun m hm => ?_
  rw [hs] at hm
  have e := map_range h (((m / 4 + 4 - m % 4) % 4) * 4 + m % 4) (by omega)
  unfold turnF at e
  have i1 : (((m / 4 + 4 - m % 4) % 4) * 4 + m % 4) / 4 = (m / 4 + 4 - m % 4) % 4 := by omega
  have i2 : (((m / 4 + 4 - m % 4) % 4) * 4 + m % 4) % 4 = m % 4 := by omega
  rw [i1, i2] at e
  have i3 : ((m / 4 + 4 - m % 4) % 4 + m % 4) % 4 * 4 + m % 4 = m := by omega
  rwa [i3] at e
theorem mix_zero {d0 d1 d2 d3 : Nat} (e0 : dbl d0 ^^^ dbl d1 ^^^ d1 ^^^ d2 ^^^ d3 = 0) (e1 : dbl d1 ^^^ dbl d2 ^^^ d2 ^^^ d3 ^^^ d0 = 0)
    (e2 : dbl d2 ^^^ dbl d3 ^^^ d3 ^^^ d0 ^^^ d1 = 0) (e3 : dbl d3 ^^^ dbl d0 ^^^ d0 ^^^ d1 ^^^ d2 = 0) : d0 = 0 ∧ d1 = 0 ∧ d2 = 0 ∧ d3 = 0 := by
  have s : d0 ^^^ d1 ^^^ d2 ^^^ d3 = 0 := by
    have h : (dbl d0 ^^^ dbl d1 ^^^ d1 ^^^ d2 ^^^ d3) ^^^ (dbl d1 ^^^ dbl d2 ^^^ d2 ^^^ d3 ^^^ d0) ^^^ (dbl d2 ^^^ dbl d3 ^^^ d3 ^^^ d0 ^^^ d1) ^^^ (dbl d3 ^^^ dbl d0 ^^^ d0 ^^^ d1 ^^^ d2) = 0 := by rw [e0, e1, e2, e3]; rfl
    rw [← h]
    apply Nat.eq_of_testBit_eq
    intro i
    simp only [Nat.testBit_xor]
    generalize (dbl d0).testBit i = b0
    generalize (dbl d1).testBit i = b1
    generalize (dbl d2).testBit i = b2
    generalize (dbl d3).testBit i = b3
    generalize d0.testBit i = c0
    generalize d1.testBit i = c1
    generalize d2.testBit i = c2
    generalize d3.testBit i = c3
    revert b0 b1 b2 b3 c0 c1 c2 c3
    decide
  have key : ∀ x y z u : Nat, x ^^^ y ^^^ z ^^^ u = 0 → dbl x ^^^ dbl y ^^^ y ^^^ z ^^^ u = 0 → x = dbl (x ^^^ y) := by
    intro x y z u h1 h2
    rw [dbl_xor]
    have h : x = (dbl x ^^^ dbl y) ^^^ ((x ^^^ y ^^^ z ^^^ u) ^^^ (dbl x ^^^ dbl y ^^^ y ^^^ z ^^^ u)) := by
      apply Nat.eq_of_testBit_eq
      intro i
      simp only [Nat.testBit_xor]
      generalize (dbl x).testBit i = b0
      generalize (dbl y).testBit i = b1
      generalize x.testBit i = c0
      generalize y.testBit i = c1
      generalize z.testBit i = c2
      generalize u.testBit i = c3
      revert b0 b1 c0 c1 c2 c3
      decide
    rw [h1, h2] at h
    simpa using h
  have k0 := key d0 d1 d2 d3 s e0
  have k1 := key d1 d2 d3 d0 (by rw [← s]; ac_rfl) e1
  have k2 := key d2 d3 d0 d1 (by rw [← s]; ac_rfl) e2
  have k3 := key d3 d0 d1 d2 (by rw [← s]; ac_rfl) e3
  have hv : d0 ^^^ d2 = d1 ^^^ d3 := by
    apply xor_zero_iff.1
    rw [← s]; ac_rfl
  have u0 : d0 ^^^ d1 = dbl (d0 ^^^ d2) := by
    have : dbl (d0 ^^^ d1) ^^^ dbl (d1 ^^^ d2) = dbl (d0 ^^^ d2) := by
      rw [← dbl_xor, show d0 ^^^ d1 ^^^ (d1 ^^^ d2) = d0 ^^^ d2 ^^^ (d1 ^^^ d1) by ac_rfl, Nat.xor_self, Nat.xor_zero]
    rw [← this, ← k0, ← k1]
  have u1 : d1 ^^^ d2 = dbl (d1 ^^^ d3) := by
    have : dbl (d1 ^^^ d2) ^^^ dbl (d2 ^^^ d3) = dbl (d1 ^^^ d3) := by
      rw [← dbl_xor, show d1 ^^^ d2 ^^^ (d2 ^^^ d3) = d1 ^^^ d3 ^^^ (d2 ^^^ d2) by ac_rfl, Nat.xor_self, Nat.xor_zero]
    rw [← this, ← k1, ← k2]
  have u2 : d2 ^^^ d3 = dbl (d2 ^^^ d0) := by
    have : dbl (d2 ^^^ d3) ^^^ dbl (d3 ^^^ d0) = dbl (d2 ^^^ d0) := by
      rw [← dbl_xor, show d2 ^^^ d3 ^^^ (d3 ^^^ d0) = d2 ^^^ d0 ^^^ (d3 ^^^ d3) by ac_rfl, Nat.xor_self, Nat.xor_zero]
    rw [← this, ← k2, ← k3]
  have d00 : dbl 0 = 0 := by decide
  have v0 : d0 ^^^ d2 = 0 := by
    have : (d0 ^^^ d1) ^^^ (d1 ^^^ d2) = d0 ^^^ d2 := by
      rw [show d0 ^^^ d1 ^^^ (d1 ^^^ d2) = d0 ^^^ d2 ^^^ (d1 ^^^ d1) by ac_rfl, Nat.xor_self, Nat.xor_zero]
    rw [← this, u0, u1, hv, Nat.xor_self]
  have z0 : d0 ^^^ d1 = 0 := by rw [u0, v0, d00]
  have z1 : d1 ^^^ d2 = 0 := by rw [u1, ← hv, v0, d00]
  have z2 : d2 ^^^ d3 = 0 := by rw [u2, Nat.xor_comm, v0, d00]
  have y0 : d0 = 0 := by rw [k0, z0, d00]
  have y1 : d1 = 0 := by rw [k1, z1, d00]
  have y2 : d2 = 0 := by rw [k2, z2, d00]
  refine ⟨y0, y1, y2, ?_⟩
  have := z2
  rw [y2, Nat.zero_xor] at this
  exact this
theorem mixF_plain {x : List Nat} (b : B8 x) (i : Nat) :
    mixF x i = dbl (gi x i) ^^^ dbl (gi x ((i + 1) % 4)) ^^^ gi x ((i + 1) % 4) ^^^ gi x ((i + 2) % 4) ^^^ gi x ((i + 3) % 4) := by
  have l1 := xor_lt8 (dbl_lt (gi x i)) (dbl_lt (gi x ((i + 1) % 4)))
  have l2 := xor_lt8 l1 (b.gi ((i + 1) % 4))
  have l3 := xor_lt8 l2 (b.gi ((i + 2) % 4))
  unfold mixF
  rw [xor8_eq (dbl_lt _) (dbl_lt _), xor8_eq l1 (b.gi _), xor8_eq l2 (b.gi _), xor8_eq l3 (b.gi _)]
theorem mixL_inj (x y : List Nat) (hx : x.length = 4) (hy : y.length = 4) (bx : B8 x) (by8 : B8 y) (h : mixL x = mixL y) : x = y := by
  have e : ∀ i, i < 4 → dbl (gi x i ^^^ gi y i) ^^^ dbl (gi x ((i + 1) % 4) ^^^ gi y ((i + 1) % 4)) ^^^ (gi x ((i + 1) % 4) ^^^ gi y ((i + 1) % 4)) ^^^ (gi x ((i + 2) % 4) ^^^ gi y ((i + 2) % 4)) ^^^ (gi x ((i + 3) % 4) ^^^ gi y ((i + 3) % 4)) = 0 := by
    intro i hi
    have := map_range h i hi
    rw [mixF_plain bx, mixF_plain by8] at this
    have h0 := xor_zero_iff.2 this
    rw [← h0, dbl_xor, dbl_xor]
    ac_rfl
  obtain ⟨z0, z1, z2, z3⟩ := mix_zero (e 0 (by decide)) (e 1 (by decide)) (e 2 (by decide)) (e 3 (by decide))
  refine four_ext hx hy fun i hi => ?_
  have : i = 0 ∨ i = 1 ∨ i = 2 ∨ i = 3 := by omega
  rcases this with rfl | rfl | rfl | rfl
  · exact xor_zero_iff.1 z0
  · exact xor_zero_iff.1 z1
  · exact xor_zero_iff.1 z2
  · exact xor_zero_iff.1 z3
theorem B8_sqr {f : List Nat → List Nat} (h : ∀ x, B8 (f x)) (s : List Nat) : B8 (sqr f s) := B8.flat fun _ _ => h _
theorem B8_turnL {s : List Nat} (h : B8 s) : B8 (turnL s) := B8.map (fun _ => h.gi _) _
theorem B8_mixL (x : List Nat) : B8 (mixL x) := B8.map (fun _ => xor8_lt _ _) _
theorem rnd_inj {cs s t : List Nat} {r : Nat} (hb : B8 cs) (hc : ∀ b, b < 256 → gi cs b = gi boxes b) (hs : s.length = 16) (ht : t.length = 16) (bs : B8 s) (bt : B8 t) (h : rnd cs s r = rnd cs t r) : s = t := by
  have el := eachL_length cs
  have h1 := addL_inj (sqr_length mixL_length _) (sqr_length mixL_length _) (B8_sqr B8_mixL _) (B8_sqr B8_mixL _) h
  have h2 := sqr_inj mixL_length mixL_inj (turnL_length _) (turnL_length _) (B8_turnL (B8_sqr (B8_eachL hb) _)) (B8_turnL (B8_sqr (B8_eachL hb) _)) h1
  have h3 := turnL_inj (sqr_length el _) (sqr_length el _) h2
  exact sqr_inj el (eachL_inj hc) hs ht bs bt h3
theorem sq_inj {cs s t : List Nat} (hb : B8 cs) (hc : ∀ b, b < 256 → gi cs b = gi boxes b) (hs : s.length = 16) (ht : t.length = 16) (bs : B8 s) (bt : B8 t) : ∀ r, sq cs s r = sq cs t r → s = t
  | 0, h => addL_inj hs ht bs bt h
  | r + 1, h => sq_inj hb hc hs ht bs bt r (rnd_inj hb hc (sq_length _ _ _) (sq_length _ _ _) (sq_B8 _ _ _) (sq_B8 _ _ _) h)
theorem pressL_inj {cs s t : List Nat} (hb : B8 cs) (hc : ∀ b, b < 256 → gi cs b = gi boxes b) (hs : s.length = 16) (ht : t.length = 16) (bs : B8 s) (bt : B8 t) (h : pressL cs s = pressL cs t) : s = t := by
  have el := eachL_length cs
  have h1 := addL_inj (turnL_length _) (turnL_length _) (B8_turnL (B8_sqr (B8_eachL hb) _)) (B8_turnL (B8_sqr (B8_eachL hb) _)) h
  have h3 := turnL_inj (sqr_length el _) (sqr_length el _) h1
  exact sq_inj hb hc hs ht bs bt 13 (sqr_inj el (eachL_inj hc) (sq_length _ _ _) (sq_length _ _ _) (sq_B8 _ _ _) (sq_B8 _ _ _) h3)
theorem cipher_box (key : List Nat) (b : Nat) (hb : b < 256) : gi (cipher key) b = gi boxes b := by
  have hl := boxes_length
  simp only [gi, cipher, List.getD_eq_getElem?_getD]
  rw [List.getElem?_append_left (by omega)]
theorem cipher_B8 (key : List Nat) (h : B8 key) : B8 (cipher key) := boxes_B8.append (wst_B8 cs0 key h 52)
theorem pressL_length (cs t : List Nat) : (pressL cs t).length = 16 := addL_length _ _ _
theorem pressL_B8 (cs t : List Nat) : B8 (pressL cs t) := addL_B8 _ _ _
/-- Pressed texts are one just if the texts are. -/
theorem press_apart (key : ByteArray) {x y : ByteArray} (hx : x.size = 16) (hy : y.size = 16) : mkS (pressL (cipher (bys key)) (bys x)) = mkS (pressL (cipher (bys key)) (bys y)) ↔ x = y := by
  constructor
  · intro h
    have := congrArg bys h
    rw [bys_mkS _ (pressL_B8 _ _), bys_mkS _ (pressL_B8 _ _)] at this
    exact bys_inj (pressL_inj (cipher_B8 _ (B8.bys _)) (cipher_box _) (by rw [bys_length, hx]) (by rw [bys_length, hy]) (B8.bys _) (B8.bys _) this)
  · rintro rfl; rfl
end Go.Proofs.Ytfamoakicgmfgaa

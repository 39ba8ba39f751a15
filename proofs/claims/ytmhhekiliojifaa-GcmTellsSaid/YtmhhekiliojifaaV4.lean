/- The product by shifts of two words is the document's product. No condition but that both are blocks. -/
import Derived.Test.YtmhhekiliojifaaV3
import Derived.Test.YtmhhekiliojifaaG1
namespace Go.Own
open Go.RowKit
/-- The bit of two words of number i. -/
def wb (S : List Nat) (i : Nat) : Bool := (gi S (i / 64)).testBit (63 - i % 64)
def wN (S : List Nat) : Nat := xsum (fun i => if wb S i then 2 ^ i else 0) 128
theorem wN_lt (S : List Nat) : wN S < 2 ^ 128 := bitsum_lt _ _
theorem wN_bit (S : List Nat) (i : Nat) (h : i < 128) : (wN S).testBit i = wb S i := by
  unfold wN
  rw [bitsum_testBit, decide_eq_true h, Bool.true_and]
theorem wN_ext {S : List Nat} {a : Nat} (ha : a < 2 ^ 128) (h : ∀ i, i < 128 → wb S i = a.testBit i) : wN S = a := by
  apply Nat.eq_of_testBit_eq
  intro i
  by_cases hi : i < 128
  · rw [wN_bit S i hi, h i hi]
  · rw [Nat.testBit_lt_two_pow (Nat.lt_of_lt_of_le (wN_lt S) (Nat.pow_le_pow_right (by decide) (by omega))), Nat.testBit_lt_two_pow (Nat.lt_of_lt_of_le ha (Nat.pow_le_pow_right (by decide) (by omega)))]
theorem m64 : (18446744073709551616 : Nat) = 2 ^ 64 := by decide
theorem xor64_bit (a b j : Nat) : (xor64 a b).testBit j = (decide (j < 64) && (a.testBit j ^^ b.testBit j)) := by
  unfold xor64; rw [m64, Nat.testBit_mod_two_pow, Nat.testBit_xor]
theorem and64_bit (a b j : Nat) : (and64 a b).testBit j = (decide (j < 64) && (a.testBit j && b.testBit j)) := by
  unfold and64; rw [m64, Nat.testBit_mod_two_pow, Nat.testBit_and]
theorem or64_bit (a b j : Nat) : (or64 a b).testBit j = (decide (j < 64) && (a.testBit j || b.testBit j)) := by
  unfold or64; rw [m64, Nat.testBit_mod_two_pow, Nat.testBit_or]
theorem shl64_bit (a n j : Nat) : (shl64 a n).testBit j = (decide (j < 64) && (decide (n ≤ j) && a.testBit (j - n))) := by
  unfold shl64; rw [m64, Nat.testBit_mod_two_pow, ← Nat.shiftLeft_eq, Nat.testBit_shiftLeft]
theorem shr64_bit (a n j : Nat) : (shr64 a n).testBit j = a.testBit (n + j) := by
  unfold shr64; rw [← Nat.shiftRight_eq_div_pow, Nat.testBit_shiftRight]
/-- The mask of one bit. -/
theorem mask_bit (a j : Nat) (hj : j < 64) : (neg64 (and64 a 1)).testBit j = a.testBit 0 := by
  have e : and64 a 1 = a % 2 := by
    unfold and64; rw [Nat.and_one_is_mod]; omega
  have h2 : a % 2 = 0 ∨ a % 2 = 1 := by omega
  have h0 : a.testBit 0 = decide (a % 2 = 1) := Nat.testBit_zero a
  rw [e, h0]
  rcases h2 with h | h
  · rw [h]
    show (0 : Nat).testBit j = _
    simp
  · rw [h]
    have : neg64 1 = 2 ^ 64 - 1 := by decide
    rw [this, Nat.testBit_two_pow_sub_one]
    simp [hj]
theorem gi_pair (a b j : Nat) (h : j < 2) : gi [a, b] j = if j = 0 then a else b := by
  have : j = 0 ∨ j = 1 := by omega
  rcases this with rfl | rfl <;> rfl
theorem wb_pair (a b i : Nat) (h : i < 128) : wb [a, b] i = if i < 64 then a.testBit (63 - i % 64) else b.testBit (63 - i % 64) := by
  unfold wb
  rw [gi_pair _ _ _ (by omega)]
  by_cases hi : i < 64
  · rw [if_pos (by omega), if_pos hi]
  · rw [if_neg (by omega), if_neg hi]
theorem tSum_pair (s0 s1 p0 p1 m : Nat) : tSum [s0, s1] [p0, p1] m = [xor64 s0 (and64 p0 m), xor64 s1 (and64 p1 m)] := rfl
theorem tPow_pair (p0 p1 : Nat) : tPow [p0, p1] = [xor64 (shr64 p0 1) (and64 16212958658533785600 (neg64 (and64 p1 1))), or64 (shr64 p1 1) (shl64 p0 63)] := rfl
theorem rest_bit : ∀ i, i < 64 → (16212958658533785600 : Nat).testBit (63 - i) = (135 : Nat).testBit i := by decide +kernel
theorem xt_bit (a i : Nat) (hi : i < 128) : (xt a).testBit i = ((decide (1 ≤ i) && a.testBit (i - 1)) ^^ (a.testBit 127 && (135 : Nat).testBit i)) := by
  unfold xt
  rw [Nat.testBit_xor, Nat.testBit_mod_two_pow, decide_eq_true hi, Bool.true_and]
  have e : a * 2 = a <<< 1 := by rw [Nat.shiftLeft_eq]
  rw [e, Nat.testBit_shiftLeft]
  congr 1
  cases a.testBit 127 <;> simp
theorem small_bit {a j : Nat} (h : a < 18446744073709551616) (hj : 64 ≤ j) : a.testBit j = false :=
  Nat.testBit_lt_two_pow (Nat.lt_of_lt_of_le h (by rw [m64]; exact Nat.pow_le_pow_right (by decide) hj))
theorem tPow_xt (p0 p1 : Nat) (h0 : p0 < 18446744073709551616) (h1 : p1 < 18446744073709551616) : wN (tPow [p0, p1]) = xt (wN [p0, p1]) := by
  refine wN_ext (xt_lt _) fun i hi => ?_
  rw [tPow_pair, xt_bit _ _ hi, wN_bit _ 127 (by decide), wb_pair _ _ _ hi, wb_pair _ _ 127 (by decide)]
  rw [if_neg (show ¬ 127 < 64 by decide), show 63 - 127 % 64 = 0 from rfl]
  by_cases h64 : i < 64
  · rw [if_pos h64, show i % 64 = i by omega, xor64_bit, and64_bit, mask_bit _ _ (by omega), shr64_bit, rest_bit i h64, decide_eq_true (show 63 - i < 64 by omega)]
    by_cases hz : i = 0
    · subst hz
      rw [small_bit h0 (by omega)]
      simp [Bool.and_comm]
    · rw [wN_bit _ _ (by omega), wb_pair _ _ _ (by omega), if_pos (by omega), show 63 - (i - 1) % 64 = 1 + (63 - i) by omega, decide_eq_true (show 1 ≤ i by omega)]
      simp [Bool.and_comm]
  · have hr : (135 : Nat).testBit i = false := Nat.testBit_lt_two_pow (Nat.lt_of_lt_of_le (show 135 < 2 ^ 8 by decide) (Nat.pow_le_pow_right (by decide) (by omega)))
    rw [if_neg h64, or64_bit, shr64_bit, shl64_bit, hr, Bool.and_false, Bool.xor_false, wN_bit _ _ (by omega), wb_pair _ _ _ (by omega), decide_eq_true (show 63 - i % 64 < 64 by omega), decide_eq_true (show 1 ≤ i by omega)]
    by_cases hz : i = 64
    · subst hz
      rw [small_bit h1 (by decide)]
      rw [if_pos (by decide)]
      simp
    · rw [if_neg (show ¬ i - 1 < 64 by omega), decide_eq_false (show ¬ 63 ≤ 63 - i % 64 by omega), show 63 - (i - 1) % 64 = 1 + (63 - i % 64) by omega]
      simp
theorem tSum_xor (s0 s1 p0 p1 a : Nat) : wN (tSum [s0, s1] [p0, p1] (neg64 (and64 a 1))) = wN [s0, s1] ^^^ (if a.testBit 0 then wN [p0, p1] else 0) := by
  refine wN_ext (Nat.xor_lt_two_pow (wN_lt _) (by split; exact wN_lt _; decide)) fun i hi => ?_
  rw [tSum_pair, wb_pair _ _ _ hi, Nat.testBit_xor, wN_bit _ _ hi, wb_pair _ _ _ hi]
  have e : (if a.testBit 0 = true then wN [p0, p1] else 0).testBit i = (a.testBit 0 && wb [p0, p1] i) := by
    cases a.testBit 0
    · simp
    · simp [wN_bit _ _ hi]
  rw [e, wb_pair _ _ _ hi]
  by_cases h64 : i < 64
  · rw [if_pos h64, if_pos h64, if_pos h64, xor64_bit, and64_bit, mask_bit _ _ (by omega), decide_eq_true (show 63 - i % 64 < 64 by omega)]
    simp [Bool.and_comm]
  · rw [if_neg h64, if_neg h64, if_neg h64, xor64_bit, and64_bit, mask_bit _ _ (by omega), decide_eq_true (show 63 - i % 64 < 64 by omega)]
    simp [Bool.and_comm]
/-- Two words. -/
def Pair (S : List Nat) : Prop := ∃ a b, S = [a, b] ∧ a < 18446744073709551616 ∧ b < 18446744073709551616
theorem tP_pair {Y : List Nat} (h : Pair Y) : ∀ k, Pair (tP Y k)
  | 0 => h
  | k + 1 => by
    obtain ⟨a, b, e, _, _⟩ := tP_pair h k
    rw [tP, e, tPow_pair]
    exact ⟨_, _, rfl, xor64_lt _ _, or64_lt _ _⟩
theorem tS_pair (C : List Nat) {Y : List Nat} (h : Pair Y) : ∀ k, Pair (tS C Y k)
  | 0 => ⟨0, 0, rfl, by decide, by decide⟩
  | k + 1 => by
    obtain ⟨a, b, e, _, _⟩ := tP_pair h k
    obtain ⟨c, d, e2, _, _⟩ := tS_pair C h k
    rw [tS, e, e2, tSum_pair]
    exact ⟨_, _, rfl, xor64_lt _ _, xor64_lt _ _⟩
theorem tP_it {Y : List Nat} (h : Pair Y) : ∀ k, wN (tP Y k) = it k (wN Y)
  | 0 => rfl
  | k + 1 => by
    obtain ⟨a, b, e, ha, hb⟩ := tP_pair h k
    rw [tP, it, ← tP_it h k, e, tPow_xt _ _ ha hb]
theorem tS_sum (C : List Nat) {Y : List Nat} (h : Pair Y) : ∀ k, wN (tS C Y k) = xsum (fun i => if wb C i then it i (wN Y) else 0) k
  | 0 => by
    refine wN_ext (show (0 : Nat) < 2 ^ 128 by decide) fun i hi => ?_
    show wb [0, 0] i = _
    rw [wb_pair _ _ _ hi]
    simp [xsum]
  | k + 1 => by
    obtain ⟨a, b, e, ha, hb⟩ := tP_pair h k
    obtain ⟨c, d, e2, _, _⟩ := tS_pair C h k
    rw [tS, xsum, ← tS_sum C h k, ← tP_it h k, e, e2]
    unfold tMask
    rw [tSum_xor, shr64_bit]
    rfl
theorem times_gmul {C Y : List Nat} (h : Pair Y) : wN (tS C Y 128) = gmul (wN Y) (wN C) := by
  rw [tS_sum C h]
  unfold gmul
  exact xsum_congr 128 fun i hi => by rw [wN_bit C i hi]
/-- A word out of bytes. -/
def wv (x : List Nat) (q : Nat) : Nat → Nat
  | 0 => 0
  | m + 1 => or64 (shl64 (wv x q m) 8) (gi x (8 * q + m))
theorem wst2_lo (x : List Nat) : ∀ k, k ≤ 8 → wst2 x k = [wv x 0 k, 0]
  | 0, _ => rfl
  | k + 1, h => by
    rw [wst2, wst2_lo x k (by omega), show k / 8 = 0 by omega]
    show [or64 (shl64 (wv x 0 k) 8) (gi x k), 0] = _
    rw [wv, show 8 * 0 + k = k by omega]
theorem wst2_hi (x : List Nat) : ∀ k, k ≤ 8 → wst2 x (8 + k) = [wv x 0 8, wv x 1 k]
  | 0, _ => wst2_lo x 8 (by decide)
  | k + 1, h => by
    rw [show 8 + (k + 1) = (8 + k) + 1 by omega, wst2, wst2_hi x k (by omega), show (8 + k) / 8 = 1 by omega]
    show [wv x 0 8, or64 (shl64 (wv x 1 k) 8) (gi x (8 + k))] = _
    rw [show wv x 1 (k + 1) = or64 (shl64 (wv x 1 k) 8) (gi x (8 * 1 + k)) from rfl, show 8 * 1 + k = 8 + k by omega]
theorem wv_bit (x : List Nat) (h8 : ∀ i, gi x i < 256) (q : Nat) : ∀ m, m ≤ 8 → ∀ j, (wv x q m).testBit j = (decide (j < 8 * m) && (gi x (8 * q + (m - 1 - j / 8))).testBit (j % 8))
  | 0, _, j => by simp [wv]
  | m + 1, h, j => by
    rw [wv, or64_bit, shl64_bit, wv_bit x h8 q m (by omega)]
    by_cases h1 : j < 8
    · rw [decide_eq_true (show j < 64 by omega), decide_eq_false (show ¬ 8 ≤ j by omega), decide_eq_true (show j < 8 * (m + 1) by omega), show m + 1 - 1 - j / 8 = m by omega, show j % 8 = j by omega]
      simp
    · have hb : (gi x (8 * q + m)).testBit j = false := Nat.testBit_lt_two_pow (Nat.lt_of_lt_of_le (h8 _) (show 2 ^ 8 ≤ 2 ^ j from Nat.pow_le_pow_right (by decide) (by omega)))
      rw [hb, decide_eq_true (show 8 ≤ j by omega), show (j - 8) % 8 = j % 8 by omega]
      by_cases h2 : j < 8 * (m + 1)
      · rw [decide_eq_true h2, decide_eq_true (show j < 64 by omega), decide_eq_true (show j - 8 < 8 * m by omega), show m - 1 - (j - 8) / 8 = m + 1 - 1 - j / 8 by omega]
        simp
      · rw [decide_eq_false h2, decide_eq_false (show ¬ j - 8 < 8 * m by omega)]
        simp
theorem wst2_pair (x : List Nat) : Pair (wst2 x 16) := by
  refine ⟨wv x 0 8, wv x 1 8, wst2_hi x 8 (by decide), ?_, ?_⟩
  · exact or64_lt _ _
  · exact or64_lt _ _
theorem wst2_toN (x : List Nat) (h8 : ∀ i, gi x i < 256) : wN (wst2 x 16) = toN x := by
  refine wN_ext (toN_lt x) fun i hi => ?_
  rw [toN_bit x i hi, wst2_hi x 8 (by decide), wb_pair _ _ _ hi]
  unfold xbB
  by_cases h64 : i < 64
  · rw [if_pos h64, wv_bit x h8 0 8 (by decide), decide_eq_true (by omega), show 8 * 0 + (8 - 1 - (63 - i % 64) / 8) = i / 8 by omega, show (63 - i % 64) % 8 = 7 - i % 8 by omega, Bool.true_and]
  · rw [if_neg h64, wv_bit x h8 1 8 (by decide), decide_eq_true (by omega), show 8 * 1 + (8 - 1 - (63 - i % 64) / 8) = i / 8 by omega, show (63 - i % 64) % 8 = 7 - i % 8 by omega, Bool.true_and]
theorem gi_hfL (n L i : Nat) (h : i < L) : gi (hfL n L) i = hfF n L i := by
  unfold hfL; simp [gi, List.getD, h]
theorem unw_toN (S : List Nat) : toN (unw S) = wN S := by
  symm
  refine wN_ext (toN_lt _) fun i hi => ?_
  rw [toN_bit _ i hi]
  unfold xbB unw wb
  have hg : gi (hfL (gi S 0) 8 ++ hfL (gi S 1) 8) (i / 8) = hfF (gi S (i / 64)) 8 (i / 8 % 8) := by
    by_cases h64 : i < 64
    · have : gi (hfL (gi S 0) 8 ++ hfL (gi S 1) 8) (i / 8) = gi (hfL (gi S 0) 8) (i / 8) := by
        simp only [gi, List.getD_eq_getElem?_getD]
        rw [List.getElem?_append_left (by rw [hfL_length]; omega)]
      rw [this, gi_hfL _ _ _ (by omega), show i / 64 = 0 by omega, show i / 8 % 8 = i / 8 by omega]
    · have : gi (hfL (gi S 0) 8 ++ hfL (gi S 1) 8) (i / 8) = gi (hfL (gi S 1) 8) (i / 8 - 8) := by
        simp only [gi, List.getD_eq_getElem?_getD]
        rw [List.getElem?_append_right (by rw [hfL_length]; omega), hfL_length]
      rw [this, gi_hfL _ _ _ (by omega), show i / 64 = 1 by omega, show i / 8 % 8 = i / 8 - 8 by omega]
  rw [hg]
  unfold hfF
  rw [show (256 : Nat) = 2 ^ 8 by decide, Nat.testBit_mod_two_pow, decide_eq_true (show 7 - i % 8 < 8 by omega), Bool.true_and, shr64_bit]
  congr 1
  omega
theorem timesL_prodL {x y : List Nat} (hx8 : ∀ i, gi x i < 256) (hy8 : ∀ i, gi y i < 256) : timesL x y = prodL x y := by
  refine toN_inj (unw_B8 _) (prodL_B8 _ _) (unw_length _) (prodL_length _ _) ?_
  rw [prodL_gmul]
  unfold timesL
  rw [unw_toN, times_gmul (wst2_pair y), wst2_toN x hx8, wst2_toN y hy8]
  exact gmul_comm (toN_lt _) (toN_lt _)
end Go.Own

/- Blocks of 16 bytes as such polynomials (the first bit is the highest one of the first byte); the document's way to the product, plain. -/
import Derived.Test.YtfamoakicgmfgaaBld
import Derived.Test.YtfamoakicgmfgaaG0
namespace Go.Own
open Go.RowKit

/-- The i-th bit of a row of bytes. -/
def xbB (s : List Nat) (i : Nat) : Bool := (gi s (i / 8)).testBit (7 - i % 8)
def xb (s : List Nat) (i : Nat) : Nat := gi s (i / 8) / 2 ^ (7 - i % 8) % 2
theorem xb_lt (s : List Nat) (i : Nat) : xb s i < 2 := Nat.mod_lt _ (by decide)
theorem xb_one (s : List Nat) (i : Nat) : xb s i = 1 ↔ xbB s i = true := by
  unfold xb xbB
  rw [Nat.testBit_eq_decide_div_mod_eq]
  simp
theorem bitsum_testBit (p : Nat → Bool) : ∀ n j, (xsum (fun i => if p i then 2 ^ i else 0) n).testBit j = (decide (j < n) && p j)
  | 0, j => by rw [xsum, Nat.zero_testBit]; simp
  | n + 1, j => by
    rw [xsum, Nat.testBit_xor, bitsum_testBit p n j]
    have h2 : (if p n = true then 2 ^ n else 0).testBit j = (decide (j = n) && p n) := by
      cases p n
      · simp
      · simp only [if_true, Bool.and_true, Nat.testBit_two_pow]
        by_cases e : n = j
        · subst e; simp
        · rw [decide_eq_false e, decide_eq_false (fun h => e h.symm)]
    rw [h2]
    by_cases e : j = n
    · subst e
      rw [decide_eq_true rfl, decide_eq_false (Nat.lt_irrefl j), decide_eq_true (Nat.lt_succ_self j)]
      simp
    · rw [decide_eq_false e]
      by_cases h : j < n
      · rw [decide_eq_true h, decide_eq_true (show j < n + 1 by omega)]; simp
      · rw [decide_eq_false h, decide_eq_false (show ¬ j < n + 1 by omega)]; simp
theorem bitsum_lt (p : Nat → Bool) : ∀ n, xsum (fun i => if p i then 2 ^ i else 0) n < 2 ^ n
  | 0 => Nat.one_pos
  | n + 1 => by
    rw [xsum]
    have h2 : (2 : Nat) ^ n < 2 ^ (n + 1) := Nat.pow_lt_pow_right (by decide) (Nat.lt_succ_self n)
    refine Nat.xor_lt_two_pow (Nat.lt_trans (bitsum_lt p n) h2) ?_
    show (if p n = true then 2 ^ n else 0) < 2 ^ (n + 1)
    split
    · exact h2
    · exact Nat.two_pow_pos _
/-- A block as a polynomial. -/
def toN (s : List Nat) : Nat := xsum (fun i => if xbB s i then 2 ^ i else 0) 128
theorem toN_lt (s : List Nat) : toN s < 2 ^ 128 := bitsum_lt _ _
theorem toN_bit (s : List Nat) (i : Nat) (h : i < 128) : (toN s).testBit i = xbB s i := by
  unfold toN
  rw [bitsum_testBit, decide_eq_true h, Bool.true_and]
theorem bits_eq {s t : List Nat} (hs : B8 s) (ht : B8 t) (hl : s.length = 16) (hl2 : t.length = 16) (h : ∀ i, i < 128 → xbB s i = xbB t i) : s = t := by
  apply List.ext_getElem (by omega)
  intro m h1 h2
  have e1 : gi s m = s[m] := by simp [gi, List.getD, h1]
  have e2 : gi t m = t[m] := by simp [gi, List.getD, h2]
  rw [← e1, ← e2]
  apply Nat.eq_of_testBit_eq
  intro k
  by_cases hk : k < 8
  · have := h (8 * m + (7 - k)) (by omega)
    unfold xbB at this
    rwa [show (8 * m + (7 - k)) / 8 = m by omega, show 7 - (8 * m + (7 - k)) % 8 = k by omega] at this
  · have a1 := hs.gi m
    have a2 := ht.gi m
    have p8 : (256 : Nat) ≤ 2 ^ k := by
      have : (2 : Nat) ^ 8 ≤ 2 ^ k := Nat.pow_le_pow_right (by decide) (by omega)
      simpa using this
    rw [Nat.testBit_lt_two_pow (by omega), Nat.testBit_lt_two_pow (by omega)]
theorem toN_inj {s t : List Nat} (hs : B8 s) (ht : B8 t) (hl : s.length = 16) (hl2 : t.length = 16) (h : toN s = toN t) : s = t :=
  bits_eq hs ht hl hl2 fun i hi => by rw [← toN_bit s i hi, ← toN_bit t i hi, h]

/-! ### rows of bits -/
def Bits (p : List Nat) : Prop := ∀ k, gi p k < 2
theorem gi_spl_one {s : List Nat} {o x : Nat} (ho : o < s.length) (j : Nat) : gi (spl s o [x]) j = if j = o then x else gi s j := by
  have e : spl s o [x] = s.set o x := by
    rw [List.set_eq_take_append_cons_drop, if_pos ho]
    simp [spl]
  rw [e]
  simp only [gi, List.getD_eq_getElem?_getD, List.getElem?_set]
  by_cases h : o = j
  · subst h; simp [ho]
  · rw [if_neg h, if_neg (fun e => h e.symm)]
theorem spl_one_length {s : List Nat} {o x : Nat} (ho : o < s.length) : (spl s o [x]).length = s.length := spl_length _ _ _ (by simp; omega)
/-- The sum that a row of bits stands for. -/
def ev (p : List Nat) (n : Nat) : Nat := xsum (fun k => if gi p k = 1 then pw k else 0) n
/-- One bit turned by another. -/
def tog (p : List Nat) (o b : Nat) : List Nat := spl p o [xor8 (gi p o) b]
theorem tog_length {p : List Nat} {o b : Nat} (ho : o < p.length) : (tog p o b).length = p.length := spl_one_length ho
theorem xor8_bit {a b : Nat} (ha : a < 2) (hb : b < 2) : xor8 a b < 2 ∧ (xor8 a b = 1 ↔ ¬ (a = 1 ↔ b = 1)) := by
  have ha : a = 0 ∨ a = 1 := by omega
  have hb : b = 0 ∨ b = 1 := by omega
  rcases ha with rfl | rfl <;> rcases hb with rfl | rfl <;> decide
theorem tog_bits {p : List Nat} {o b : Nat} (hp : Bits p) (hb : b < 2) (ho : o < p.length) : Bits (tog p o b) := fun k => by
  unfold tog
  rw [gi_spl_one ho]
  split
  · exact (xor8_bit (hp o) hb).1
  · exact hp k
theorem ev_tog {p : List Nat} {o b : Nat} (hp : Bits p) (hb : b < 2) (ho : o < p.length) : ∀ n, ev (tog p o b) n = ev p n ^^^ (if o < n then (if b = 1 then pw o else 0) else 0)
  | 0 => by simp [ev, xsum]
  | n + 1 => by
    have ih := ev_tog hp hb ho n
    unfold ev at ih ⊢
    rw [xsum, xsum, ih]
    have e : gi (tog p o b) n = if n = o then xor8 (gi p o) b else gi p n := gi_spl_one ho n
    rw [e]
    by_cases h : n = o
    · subst h
      rw [if_pos rfl, if_neg (Nat.lt_irrefl n), if_pos (Nat.lt_succ_self n), Nat.xor_zero]
      have := (xor8_bit (hp n) hb).2
      rw [Nat.xor_assoc]
      congr 1
      by_cases h1 : gi p n = 1 <;> by_cases h2 : b = 1
      · rw [if_neg (by rw [this]; simp [h1, h2]), if_pos h1, if_pos h2, Nat.xor_self]
      · rw [if_pos (by rw [this]; simp [h1, h2]), if_pos h1, if_neg h2, Nat.xor_zero]
      · rw [if_pos (by rw [this]; simp [h1, h2]), if_neg h1, if_pos h2, Nat.zero_xor]
      · rw [if_neg (by rw [this]; simp [h1, h2]), if_neg h1, if_neg h2, Nat.xor_zero]
    · rw [if_neg h]
      by_cases h3 : o < n
      · rw [if_pos h3, if_pos (show o < n + 1 by omega)]; ac_rfl
      · rw [if_neg h3, if_neg (show ¬ o < n + 1 by omega)]; simp
/-- Row i of the long product, so many bits of it. -/
def inn (y : List Nat) (i : Nat) : Nat → List Nat → List Nat
  | 0, p => p
  | k + 1, p => tog (inn y i k p) (i + k) (xb y k)
theorem inn_good (y : List Nat) (i : Nat) (p : List Nat) (hp : Bits p) (hl : p.length = 255) (hi : i < 128) : ∀ k, k ≤ 128 →
    Bits (inn y i k p) ∧ (inn y i k p).length = 255 ∧ ev (inn y i k p) 255 = ev p 255 ^^^ xsum (fun k => if xb y k = 1 then pw (i + k) else 0) k
  | 0, _ => ⟨hp, hl, by simp [inn, xsum]⟩
  | k + 1, h => by
    obtain ⟨h1, h2, h3⟩ := inn_good y i p hp hl hi k (by omega)
    rw [inn]
    refine ⟨tog_bits h1 (xb_lt y k) (by omega), by rw [tog_length (by omega), h2], ?_⟩
    rw [ev_tog h1 (xb_lt y k) (by omega), h3, xsum, if_pos (show i + k < 255 by omega), Nat.xor_assoc]
/-- The long product, so many rows of it. -/
def outp (x y : List Nat) : Nat → List Nat
  | 0 => rep 255
  | i + 1 => if xb x i = 0 then outp x y i else inn y i 128 (outp x y i)
theorem ev_rep (n : Nat) : ev (rep 255) n = 0 := by
  unfold ev
  rw [xsum_congr n (g := fun _ => 0) (fun i _ => by rw [if_neg]; rw [rep_gi]; decide), xsum_zero]
theorem outp_good (x y : List Nat) : ∀ i, i ≤ 128 →
    Bits (outp x y i) ∧ (outp x y i).length = 255 ∧ ev (outp x y i) 255 = xsum (fun i => if xb x i = 1 then xsum (fun k => if xb y k = 1 then pw (i + k) else 0) 128 else 0) i
  | 0, _ => ⟨fun k => by rw [outp, rep_gi]; decide, rep_length _, by rw [outp, ev_rep]; rfl⟩
  | i + 1, h => by
    obtain ⟨h1, h2, h3⟩ := outp_good x y i (by omega)
    rw [outp, xsum]
    have hx := xb_lt x i
    by_cases h0 : xb x i = 0
    · rw [if_pos h0, if_neg (by omega), Nat.xor_zero]
      exact ⟨h1, h2, h3⟩
    · rw [if_neg h0, if_pos (show xb x i = 1 by omega)]
      obtain ⟨a1, a2, a3⟩ := inn_good y i _ h1 h2 (by omega) 128 (Nat.le_refl _)
      exact ⟨a1, a2, by rw [a3, h3]⟩
theorem outp_gmul (x y : List Nat) : ev (outp x y 128) 255 = gmul (toN x) (toN y) := by
  rw [(outp_good x y 128 (Nat.le_refl _)).2.2, gmul_comm (toN_lt _) (toN_lt _), gmul_sum (toN_lt _)]
  refine xsum_congr 128 fun i hi => ?_
  rw [show (if xb x i = 1 then xsum (fun k => if xb y k = 1 then pw (i + k) else 0) 128 else 0) = xsum (fun k => if xb x i = 1 then (if xb y k = 1 then pw (i + k) else 0) else 0) 128 by
    by_cases h : xb x i = 1
    · simp only [if_pos h]
    · simp only [if_neg h]; exact (xsum_zero _).symm]
  refine xsum_congr 128 fun k hk => ?_
  rw [toN_bit x i hi, toN_bit y k hk]
  by_cases h1 : xb x i = 1 <;> by_cases h2 : xb y k = 1
  · rw [if_pos h1, if_pos h2, (xb_one x i).1 h1, (xb_one y k).1 h2]; rfl
  · rw [if_pos h1, if_neg h2, Bool.eq_false_iff.2 (fun h => h2 ((xb_one y k).2 h))]; simp
  · rw [if_neg h1, Bool.eq_false_iff.2 (fun h => h1 ((xb_one x i).2 h))]; simp
  · rw [if_neg h1, Bool.eq_false_iff.2 (fun h => h1 ((xb_one x i).2 h))]; simp
/-- The long product brought down, so many steps. -/
def downS (p : List Nat) (i : Nat) : List Nat := if gi p i = 1 then tog (tog (tog (tog p (i - 128) 1) (i - 127) 1) (i - 126) 1) (i - 121) 1 else p
def down (p : List Nat) : Nat → List Nat
  | 0 => p
  | j + 1 => downS (down p j) (254 - j)
theorem pw_down (i : Nat) (h : 128 ≤ i) : pw i = pw (i - 128) ^^^ pw (i - 127) ^^^ pw (i - 126) ^^^ pw (i - 121) := by
  obtain ⟨m, rfl⟩ : ∃ m, i = m + 128 := ⟨i - 128, by omega⟩
  have e : pw 128 = pw 0 ^^^ pw 1 ^^^ pw 2 ^^^ pw 7 := by
    have h : pw 128 = xt (pw 127) := rfl
    rw [h, pw_small 127 (by decide), pw_small 0 (by decide), pw_small 1 (by decide), pw_small 2 (by decide), pw_small 7 (by decide)]
    decide +kernel
  rw [← pw_add m 128, e, (it_lin m).xor, (it_lin m).xor, (it_lin m).xor, pw_add, pw_add, pw_add, pw_add]
  rw [show m + 128 - 128 = m + 0 by omega, show m + 128 - 127 = m + 1 by omega, show m + 128 - 126 = m + 2 by omega, show m + 128 - 121 = m + 7 by omega]
theorem downS_good {p : List Nat} {i : Nat} (hp : Bits p) (hl : p.length = 255) (h : 128 ≤ i) (h2 : i < 255) : Bits (downS p i) ∧ (downS p i).length = 255 ∧ ev (downS p i) i = ev p (i + 1) := by
  have e : ev p (i + 1) = ev p i ^^^ (if gi p i = 1 then pw i else 0) := rfl
  rw [e]
  unfold downS
  by_cases h1 : gi p i = 1
  · rw [if_pos h1, if_pos h1]
    have l1 : (tog p (i - 128) 1).length = 255 := by rw [tog_length (by omega), hl]
    have l2 : (tog (tog p (i - 128) 1) (i - 127) 1).length = 255 := by rw [tog_length (by omega), l1]
    have l3 : (tog (tog (tog p (i - 128) 1) (i - 127) 1) (i - 126) 1).length = 255 := by rw [tog_length (by omega), l2]
    have b1 : Bits (tog p (i - 128) 1) := tog_bits hp (by decide) (by omega)
    have b2 : Bits (tog (tog p (i - 128) 1) (i - 127) 1) := tog_bits b1 (by decide) (by omega)
    have b3 : Bits (tog (tog (tog p (i - 128) 1) (i - 127) 1) (i - 126) 1) := tog_bits b2 (by decide) (by omega)
    refine ⟨tog_bits b3 (by decide) (by omega), by rw [tog_length (by omega), l3], ?_⟩
    rw [ev_tog b3 (by decide) (by omega), ev_tog b2 (by decide) (by omega), ev_tog b1 (by decide) (by omega), ev_tog hp (by decide) (by omega)]
    rw [if_pos (show i - 128 < i by omega), if_pos (show i - 127 < i by omega), if_pos (show i - 126 < i by omega), if_pos (show i - 121 < i by omega)]
    rw [if_pos rfl, if_pos rfl, if_pos rfl, if_pos rfl, pw_down i h]
    generalize pw (i - 128) = a
    generalize pw (i - 127) = b
    generalize pw (i - 126) = c
    generalize pw (i - 121) = d
    ac_rfl
  · rw [if_neg h1, if_neg h1, Nat.xor_zero]
    exact ⟨hp, hl, rfl⟩
theorem down_good {p : List Nat} (hp : Bits p) (hl : p.length = 255) : ∀ j, j ≤ 127 → Bits (down p j) ∧ (down p j).length = 255 ∧ ev (down p j) (255 - j) = ev p 255
  | 0, _ => ⟨hp, hl, rfl⟩
  | j + 1, h => by
    obtain ⟨h1, h2, h3⟩ := down_good hp hl j (by omega)
    have := downS_good (i := 254 - j) h1 h2 (by omega) (by omega)
    rw [down, show 255 - (j + 1) = 254 - j by omega]
    exact ⟨this.1, this.2.1, by rw [this.2.2, show 254 - j + 1 = 255 - j by omega, h3]⟩
/-- Bits as bytes, so many. -/
def pack (q : List Nat) : Nat → List Nat
  | 0 => rep 16
  | i + 1 => spl (pack q i) (i / 8) [or8 (gi (pack q i) (i / 8)) (shl8 (gi q i) (7 - i % 8))]
theorem pack_good {q : List Nat} (hq : Bits q) : ∀ i, i ≤ 128 → (pack q i).length = 16 ∧ B8 (pack q i) ∧ ∀ j, j < 128 → xbB (pack q i) j = (decide (j < i) && decide (gi q j = 1))
  | 0, _ => ⟨rep_length _, B8.rep _, fun j _ => by unfold xbB; rw [pack, rep_gi, Nat.zero_testBit]; simp⟩
  | i + 1, h => by
    obtain ⟨h1, h2, h3⟩ := pack_good hq i (by omega)
    have ho : i / 8 < (pack q i).length := by omega
    have hlt : or8 (gi (pack q i) (i / 8)) (shl8 (gi q i) (7 - i % 8)) < 256 := Nat.mod_lt _ (by decide)
    refine ⟨by rw [pack, spl_one_length ho, h1], ?_, fun j hj => ?_⟩
    · rw [pack]
      exact h2.spl (fun n hn => by rw [List.mem_singleton] at hn; rw [hn]; exact hlt) _
    · unfold xbB
      rw [pack, gi_spl_one ho]
      by_cases e : j / 8 = i / 8
      · rw [if_pos e]
        have h3' := h3 j hj
        unfold xbB at h3'
        have e2 : or8 (gi (pack q i) (i / 8)) (shl8 (gi q i) (7 - i % 8)) = gi (pack q i) (i / 8) ||| gi q i * 2 ^ (7 - i % 8) := by
          unfold or8 shl8
          have a1 : gi q i * 2 ^ (7 - i % 8) < 2 ^ 8 := by
            have := hq i
            have : gi q i = 0 ∨ gi q i = 1 := by omega
            rcases this with h | h
            · rw [h, Nat.zero_mul]; decide
            · rw [h, Nat.one_mul]; exact Nat.pow_lt_pow_right (by decide) (by omega)
          have a2 : gi (pack q i) (i / 8) < 2 ^ 8 := h2.gi _
          rw [Nat.mod_eq_of_lt (show gi q i * 2 ^ (7 - i % 8) < 256 from a1)]
          exact Nat.mod_eq_of_lt (Nat.or_lt_two_pow a2 a1)
        rw [e2, Nat.testBit_or, ← e, h3']
        have hb : (gi q i * 2 ^ (7 - i % 8)).testBit (7 - j % 8) = (decide (j = i) && decide (gi q i = 1)) := by
          have := hq i
          have h01 : gi q i = 0 ∨ gi q i = 1 := by omega
          rcases h01 with h | h
          · rw [h, Nat.zero_mul, Nat.zero_testBit]; simp
          · rw [h, Nat.one_mul, Nat.testBit_two_pow]
            simp only [decide_true, Bool.and_true]
            by_cases e3 : j = i
            · subst e3; simp
            · rw [decide_eq_false e3, decide_eq_false (by omega)]
        rw [hb]
        by_cases e3 : j = i
        · subst e3
          rw [decide_eq_false (Nat.lt_irrefl j), decide_eq_true rfl, decide_eq_true (Nat.lt_succ_self j)]; simp
        · rw [decide_eq_false e3]
          by_cases h4 : j < i
          · rw [decide_eq_true h4, decide_eq_true (show j < i + 1 by omega)]; simp
          · rw [decide_eq_false h4, decide_eq_false (show ¬ j < i + 1 by omega)]; simp
      · rw [if_neg e]
        have h3' := h3 j hj
        unfold xbB at h3'
        rw [h3']
        have hne : j ≠ i := fun h => e (by rw [h])
        by_cases h4 : j < i
        · rw [decide_eq_true h4, decide_eq_true (show j < i + 1 by omega)]
        · rw [decide_eq_false h4, decide_eq_false (show ¬ j < i + 1 by omega)]
/-- The document's product. -/
def prodL (x y : List Nat) : List Nat := pack (down (outp x y 128) 127) 128
theorem prodL_length (x y : List Nat) : (prodL x y).length = 16 := by
  obtain ⟨h1, h2, _⟩ := outp_good x y 128 (Nat.le_refl _)
  obtain ⟨a1, _, _⟩ := down_good h1 h2 127 (Nat.le_refl _)
  exact (pack_good a1 128 (Nat.le_refl _)).1
theorem prodL_B8 (x y : List Nat) : B8 (prodL x y) := by
  obtain ⟨h1, h2, _⟩ := outp_good x y 128 (Nat.le_refl _)
  obtain ⟨a1, _, _⟩ := down_good h1 h2 127 (Nat.le_refl _)
  exact (pack_good a1 128 (Nat.le_refl _)).2.1
/-- It is the field's. -/
theorem prodL_gmul (x y : List Nat) : toN (prodL x y) = gmul (toN x) (toN y) := by
  obtain ⟨h1, h2, _⟩ := outp_good x y 128 (Nat.le_refl _)
  obtain ⟨a1, _, a3⟩ := down_good h1 h2 127 (Nat.le_refl _)
  rw [← outp_gmul, ← a3]
  unfold toN ev
  refine xsum_congr 128 fun i hi => ?_
  rw [prodL, (pack_good a1 128 (Nat.le_refl _)).2.2 i hi, decide_eq_true hi, Bool.true_and, pw_small i hi]
  by_cases h : gi (down (outp x y 128) 127) i = 1
  · rw [if_pos h, decide_eq_true h]; rfl
  · rw [if_neg h, decide_eq_false h]; rfl
end Go.Own

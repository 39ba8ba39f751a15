/- The document's own round keys, by contract; they are the program's. -/
import Derived.Test.YtmhhekiliojifaaB3
import Derived.Test.YtmhhekiliojifaaM3
import Derived.StillTailTactics
namespace Go.Proofs.Ytmhhekiliojifaa
open Go.RowKit Go.Own
attribute [local go_sem] ag5 cs5 sz5 isa5

theorem gi_take {s : List Nat} {n j : Nat} (h : j < n) : gi (s.take n) j = gi s j := by simp [gi, List.getD, h]
theorem gi_left {s t : List Nat} {j : Nat} (h : j < s.length) : gi (s ++ t) j = gi s j := by
  simp only [gi, List.getD_eq_getElem?_getD]
  rw [List.getElem?_append_left h]
theorem mul_two : ∀ p, p < 256 → mul p 2 = dbl p := by decide +kernel
theorem wst_p (cs key : List Nat) : ∀ n, (wst cs key n).2 < 256
  | 0 => by show 1 < 256; decide
  | n + 1 => by
    simp only [wst]
    split
    · exact dbl_lt _
    · exact wst_p cs key n
theorem cs0_box (b : Nat) (hb : b < 256) : gi cs0 b = gi boxes b := gi_left (by rw [boxes_length]; exact hb)
/-- The words, as far as they are known ahead of the round n + 8. -/
def sofar (key : List Nat) (n : Nat) : List Nat := (wst cs0 key n).1.take ((n + 8) * 4)
theorem sofar_length (key : List Nat) (n : Nat) (h : n ≤ 52) : (sofar key n).length = (n + 8) * 4 := by
  have := wst_length cs0 key n h
  simp [sofar, this]; omega
theorem gi_right {s t : List Nat} {j : Nat} (h : s.length ≤ j) : gi (s ++ t) j = gi t (j - s.length) := by
  simp only [gi, List.getD_eq_getElem?_getD]
  rw [List.getElem?_append_right h]
theorem gi_flat {f : Nat → List Nat} (hf : ∀ i, (f i).length = 4) : ∀ m j, j < 4 * m → gi ((List.range m).flatMap f) j = gi (f (j / 4)) (j % 4)
  | 0, j, h => by omega
  | m + 1, j, h => by
    have hl := flat_length hf m
    rw [List.range_succ, List.flatMap_append]
    by_cases hj : j < 4 * m
    · rw [gi_left (by omega), gi_flat hf m j hj]
    · rw [gi_right (by omega), hl]
      have e1 : j / 4 = m := by omega
      have e2 : j - 4 * m = j % 4 := by omega
      rw [e1, e2]
      simp
theorem sofar_zero (key : ByteArray) (h : key.size = 32) : sofar (bys key) 0 = bys key := by
  have hl := bys_length key
  have hf := flat_length (pc_length (bys key)) 8
  unfold sofar
  simp only [wst, fin]
  rw [List.take_append_of_le_length (by omega), List.take_of_length_le (by omega)]
  refine gi_ext (by omega) fun j hj => ?_
  rw [gi_flat (pc_length _) 8 j (by omega), pc_wrd (by omega), gi_wrd (by omega)]
  congr 1; omega
theorem sofar_succ (key : List Nat) (n : Nat) (h : n < 52) (T : List Nat) (hT : wT cs0 (wst cs0 key n).1 (n + 8) (wst cs0 key n).2 = T) :
    sofar key (n + 1) = sofar key n ++ xorL (wrd (wst cs0 key n).1 n) T := by
  have hl := wst_length cs0 key n (by omega)
  have hx := xorL_length (wrd (wst cs0 key n).1 n) T
  unfold sofar
  simp only [wst, hT, spl]
  rw [List.take_append_of_le_length (by simp [hl, hx]; omega), List.take_of_length_le (by simp [hl, hx]; omega)]
/-- The word t, out of the words so far. -/
def wTl (key : List Nat) (n : Nat) : List Nat :=
  let W := (wst cs0 key n).1
  if n % 8 = 0 then [xor8 (gi boxes (gi W (4 * (n + 8) - 3))) (wst cs0 key n).2, gi boxes (gi W (4 * (n + 8) - 2)), gi boxes (gi W (4 * (n + 8) - 1)), gi boxes (gi W (4 * (n + 8) - 4))]
  else if n % 8 = 4 then [gi boxes (gi W (4 * (n + 8) - 4)), gi boxes (gi W (4 * (n + 8) - 3)), gi boxes (gi W (4 * (n + 8) - 2)), gi boxes (gi W (4 * (n + 8) - 1))]
  else [gi W (4 * (n + 8) - 4), gi W (4 * (n + 8) - 3), gi W (4 * (n + 8) - 2), gi W (4 * (n + 8) - 1)]
set_option maxRecDepth 100000 in
theorem wT_eq (key : List Nat) (hk : B8 key) (n : Nat) (h : n < 52) : wT cs0 (wst cs0 key n).1 (n + 8) (wst cs0 key n).2 = wTl key n := by
  have hl := wst_length cs0 key n (by omega)
  have hb := wst_B8 cs0 key hk n
  unfold wTl
  generalize (wst cs0 key n).1 = W at *
  generalize (wst cs0 key n).2 = p at *
  have hw : wrd W (n + 8 - 1) = [gi W (4 * (n + 8) - 4), gi W (4 * (n + 8) - 3), gi W (4 * (n + 8) - 2), gi W (4 * (n + 8) - 1)] := by
    refine four_ext (wrd_length (by omega)) rfl fun i hi => ?_
    rw [gi_wrd hi]
    have : i = 0 ∨ i = 1 ∨ i = 2 ∨ i = 3 := by omega
    rcases this with rfl | rfl | rfl | rfl
    · rw [show (n + 8 - 1) * 4 + 0 = 4 * (n + 8) - 4 by omega]; rfl
    · rw [show (n + 8 - 1) * 4 + 1 = 4 * (n + 8) - 3 by omega]; rfl
    · rw [show (n + 8 - 1) * 4 + 2 = 4 * (n + 8) - 2 by omega]; rfl
    · rw [show (n + 8 - 1) * 4 + 3 = 4 * (n + 8) - 1 by omega]; rfl
  unfold wT
  rw [hw]
  by_cases h0 : n % 8 = 0
  · rw [if_pos (by omega), if_pos h0]
    show [xor8 (gi cs0 (gi W (4 * (n + 8) - 3))) p, gi cs0 (gi W (4 * (n + 8) - 2)), gi cs0 (gi W (4 * (n + 8) - 1)), gi cs0 (gi W (4 * (n + 8) - 4))] = _
    rw [cs0_box _ (hb.gi _), cs0_box _ (hb.gi _), cs0_box _ (hb.gi _), cs0_box _ (hb.gi _)]
  · rw [if_neg (by omega), if_neg h0]
    by_cases h4 : n % 8 = 4
    · rw [if_pos (by omega), if_pos h4]
      show [gi cs0 (gi W (4 * (n + 8) - 4)), gi cs0 (gi W (4 * (n + 8) - 3)), gi cs0 (gi W (4 * (n + 8) - 2)), gi cs0 (gi W (4 * (n + 8) - 1))] = _
      rw [cs0_box _ (hb.gi _), cs0_box _ (hb.gi _), cs0_box _ (hb.gi _), cs0_box _ (hb.gi _)]
    · rw [if_neg (by omega), if_neg h4]
end Go.Proofs.Ytmhhekiliojifaa

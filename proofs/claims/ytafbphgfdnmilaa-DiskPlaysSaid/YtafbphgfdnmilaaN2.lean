/- What a failure leaves of sectors written one behind the other, plainly. No condition. -/
import Derived.Test.YtafbphgfdnmilaaN1
namespace Go.Proofs.Ytafbphgfdnmilaa
open Go.RowKit Go.Own

theorem gi_spl {s x : List Nat} {o p : Nat} (h : o + x.length ≤ s.length) : gi (spl s o x) p = if o ≤ p ∧ p < o + x.length then gi x (p - o) else gi s p := by
  unfold gi spl
  simp only [List.getD_eq_getElem?_getD]
  have h1 : (s.take o).length = o := by simp; omega
  by_cases h2 : p < o
  · rw [if_neg (by omega), List.append_assoc, List.getElem?_append_left (by omega), List.getElem?_take_of_lt h2]
  · by_cases h3 : p < o + x.length
    · rw [if_pos ⟨by omega, h3⟩, List.append_assoc, List.getElem?_append_right (by omega), h1, List.getElem?_append_left (by omega)]
    · rw [if_neg (by omega), List.append_assoc, List.getElem?_append_right (by omega), h1, List.getElem?_append_right (by omega), List.getElem?_drop]
      congr 2; omega
theorem gi_take {s : List Nat} {n p : Nat} (h : p < n) : gi (s.take n) p = gi s p := by
  unfold gi
  simp only [List.getD_eq_getElem?_getD, List.getElem?_take_of_lt h]
/-- A full sector. -/
def fullL : List Nat := List.replicate 64 120
theorem fullL_length : fullL.length = 64 := by simp [fullL]
theorem fullL_B8 : B8 fullL := fun n h => by
  have := (List.mem_replicate.1 h).2; omega
theorem fullL_gi {p : Nat} (h : p < 64) : gi fullL p = 120 := by
  unfold gi fullL
  rw [List.getD_eq_getElem?_getD, List.getElem?_replicate, if_pos h]; rfl
theorem fil_full : filL fullL = fullL := by
  unfold filL
  rw [spl_full (by rw [rep_length, fullL_length])]
/-- Of a disk of c sectors, behind k writes. -/
structure Row (c k : Nat) (M : Dk) : Prop where
  off : M.off = false
  n : M.n = c
  cat : M.cat = 0
  count : M.count = k
  last : M.last = rep (c * 64)
  wait : M.wait = (List.range (min k 64)).map fun j => (j, fullL)
theorem Row.new (c : Nat) : Row c 0 (newK c) := ⟨rfl, rfl, rfl, rfl, rfl, rfl⟩
theorem Row.next {c k : Nat} {M : Dk} (h : Row c k M) (hk : k < c) : (M.write (k : Int) fullL).2 = 0 ∧ Row c (k + 1) (M.write (k : Int) fullL).1 := by
  have hr : refE M.off M.n (k : Int) = 0 := by
    unfold refE
    rw [if_neg (by rw [h.off]; simp), if_neg (by rw [h.n]; omega)]
  have e : M.write (k : Int) fullL = (M.waited k fullL, 0) := by
    unfold Dk.write
    rw [if_pos hr, if_neg (by rw [fullL_length]; omega), fil_full]
    unfold Dk.counted
    rw [if_pos (show (M.waited ((k : Int).toNat) fullL).cat = 0 from h.cat)]
    rfl
  rw [e]
  refine ⟨rfl, h.off, h.n, h.cat, by show M.count + 1 = _; rw [h.count], h.last, ?_⟩
  show (if M.count < 64 then M.wait ++ [(k, fullL)] else M.wait) = _
  rw [h.count, h.wait]
  split
  · rw [Nat.min_eq_left (by omega), Nat.min_eq_left (by omega), List.range_succ, List.map_append]
    rfl
  · rw [Nat.min_eq_right (by omega), Nat.min_eq_right (by omega)]
theorem tear_row (k : Nat) (t last : Int) (c : Nat) (x : List Nat) (hx : x.length = c * 64) : ∀ m, m ≤ c → ∀ a b, a < c → b < 64 →
    gi (tearL k t last 0 x ((List.range m).map fun j => (j, fullL))) (a * 64 + b) = if a < m ∧ b < keptN k t last a then 120 else gi x (a * 64 + b)
  | 0, _, a, b, _, _ => by rw [if_neg (by omega)]; rfl
  | m + 1, hm, a, b, ha, hb => by
    have ih := tear_row k t last c x hx m (by omega) a b ha hb
    have hkl := keptN_le k t last m
    rw [List.range_succ, List.map_append, List.map_singleton, tearL_snoc, List.length_map, List.length_range, Nat.zero_add]
    have hl := tearL_length (k := k) (t := t) (last := last) (n := c) ((List.range m).map fun j => (j, fullL)) 0 x hx (fun p hp => by
      obtain ⟨j, hj, rfl⟩ := List.mem_map.1 hp
      exact ⟨by have := List.mem_range.1 hj; show j < c; omega, fullL_length⟩)
    have htl : (fullL.take (keptN k t last m)).length = keptN k t last m := by rw [List.length_take, fullL_length]; omega
    have hmc : m * 64 + 64 ≤ c * 64 := by omega
    rw [gi_spl (by rw [htl, hl]; show m * 64 + _ ≤ _; omega), htl, ih]
    show (if m * 64 ≤ a * 64 + b ∧ a * 64 + b < m * 64 + keptN k t last m then _ else _) = _
    by_cases ham : a = m
    · subst ham
      by_cases hbk : b < keptN k t last a
      · rw [if_pos (by omega), if_pos (by omega), gi_take (by show a * 64 + b - a * 64 < _; omega)]
        exact fullL_gi (by show a * 64 + b - a * 64 < _; omega)
      · rw [if_neg (by omega), if_neg (by omega), if_neg (by omega)]
    · rw [if_neg (by omega)]
      by_cases h1 : a < m ∧ b < keptN k t last a
      · rw [if_pos h1, if_pos (by omega)]
      · rw [if_neg h1, if_neg (by omega)]
/-- What is asked of the a-th of c sectors. -/
def wantN (k : Nat) (t : Int) (c a : Nat) : Nat := if a < 64 ∧ shr64 k a % 2 = 1 then (if a + 1 = c then clampN t else 64) else 0
theorem and64_one (x : Nat) : and64 x 1 = x % 2 := by
  unfold and64
  rw [Nat.and_one_is_mod, Nat.mod_eq_of_lt (by omega)]
theorem want_kept {k c a : Nat} {t : Int} (h : a < 64) : keptN k t ((c : Int) - 1) a = wantN k t c a := by
  by_cases hbit : shr64 k a % 2 = 1
  · have e1 : keptN k t ((c : Int) - 1) a = if (a : Int) = (c : Int) - 1 then clampN t else 64 := by unfold keptN; rw [and64_one, if_neg (by omega)]
    have e2 : wantN k t c a = if a + 1 = c then clampN t else 64 := by unfold wantN; rw [if_pos ⟨h, hbit⟩]
    rw [e1, e2]
    by_cases hl : a + 1 = c
    · rw [if_pos (by omega), if_pos hl]
    · rw [if_neg (by omega), if_neg hl]
  · have e1 : keptN k t ((c : Int) - 1) a = 0 := by unfold keptN; rw [and64_one, if_pos (by omega)]
    have e2 : wantN k t c a = 0 := by unfold wantN; rw [if_neg (fun h => hbit h.2)]
    rw [e1, e2]
theorem want_far {k c a : Nat} {t : Int} (h : 64 ≤ a) : wantN k t c a = 0 := by
  unfold wantN
  rw [if_neg (by omega)]
theorem Row.crash {c : Nat} {M : Dk} (h : Row c c M) (k : Nat) (t : Int) {a b : Nat} (ha : a < c) (hb : b < 64) : gi (M.crash k t).last (a * 64 + b) = if b < wantN k t c a then 120 else 0 := by
  have e : (M.crash k t).last = M.torned k t := by
    unfold Dk.crash
    rw [if_neg (by rw [h.off]; simp)]
  rw [e]
  unfold Dk.torned
  rw [h.count, h.last, h.wait, tear_row k t ((c : Int) - 1) c (rep (c * 64)) (by rw [rep_length]) (min c 64) (by omega) a b ha hb, rep_gi]
  by_cases h64 : a < 64
  · rw [want_kept h64]
    by_cases hw : b < wantN k t c a
    · rw [if_pos ⟨by omega, hw⟩, if_pos hw]
    · rw [if_neg (fun h => hw h.2), if_neg hw]
  · rw [want_far (by omega), if_neg (fun h => by have := h.1; omega), if_neg (by omega)]
end Go.Proofs.Ytafbphgfdnmilaa

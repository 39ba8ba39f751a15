/- The document's own press comes to the program's. -/
import Derived.Test.YtfamoakicgmfgaaGreatB7
namespace Go.Proofs.YtfamoakicgmfgaaGreat
open Go.RowKit Go.Own

theorem gi_spl1 {s : List Nat} {o x : Nat} (ho : o < s.length) (j : Nat) : gi (spl s o [x]) j = if j = o then x else gi s j := by
  have e : spl s o [x] = s.set o x := by
    rw [List.set_eq_take_append_cons_drop, if_pos ho]
    simp [spl]
  rw [e]
  simp only [gi, List.getD_eq_getElem?_getD, List.getElem?_set]
  by_cases h : o = j
  · subst h; simp [ho]
  · rw [if_neg h, if_neg (fun e => h e.symm)]
theorem gi_mapr {n : Nat} {f : Nat → Nat} {j : Nat} (h : j < n) : gi ((List.range n).map f) j = f j := by
  simp [gi, List.getD, h]
/-- The place in the document's square of the byte c. -/
def tr (c : Nat) : Nat := c % 4 * 4 + c / 4
theorem tr_lt {c : Nat} (h : c < 16) : tr c < 16 := by unfold tr; omega
theorem tr_inj {a b : Nat} (ha : a < 16) (hb : b < 16) (h : tr a = tr b) : a = b := by unfold tr at h; omega
theorem gi_layF (f : Nat → Nat) : ∀ k, k ≤ 16 → ∀ c, c < 16 → gi (layF f k) (tr c) = if c < k then f c else 0
  | 0, _, c, hc => by simp [layF, rep_gi]
  | k + 1, h, c, hc => by
    have hl := layF_length f k (by omega)
    show gi (spl (layF f k) (tr k) [f k]) (tr c) = _
    rw [gi_spl1 (by rw [hl]; exact tr_lt (by omega)), gi_layF f k (by omega) c hc]
    by_cases e : c = k
    · subst e; simp
    · rw [if_neg (fun e2 => e (tr_inj hc (by omega) e2))]
      by_cases h1 : c < k
      · rw [if_pos h1, if_pos (by omega)]
      · rw [if_neg h1, if_neg (by omega)]
theorem lay_layF (t V : List Nat) : ∀ k, lay t V k = layF (fun k => xor8 (gi t k) (gi V k)) k
  | 0 => rfl
  | k + 1 => by rw [lay, layF, lay_layF t V k]
theorem gi_adR (V s : List Nat) (r : Nat) (hs : s.length = 16) : ∀ k, k ≤ 16 → ∀ c, c < 16 → gi (adR V s r k) (tr c) = if c < k then xor8 (gi s (tr c)) (gi V (16 * r + c)) else gi s (tr c)
  | 0, _, c, _ => by simp [adR]
  | k + 1, h, c, hc => by
    have hl := adR_length V s r hs k (by omega)
    show gi (spl (adR V s r k) (tr k) [xor8 (gi (adR V s r k) (tr k)) (gi V (16 * r + k))]) (tr c) = _
    rw [gi_spl1 (by rw [hl]; exact tr_lt (by omega)), gi_adR V s r hs k (by omega) c hc, gi_adR V s r hs k (by omega) k (by omega)]
    by_cases e : c = k
    · subst e; simp
    · rw [if_neg (fun e2 => e (tr_inj hc (by omega) e2))]
      by_cases h1 : c < k
      · rw [if_pos h1, if_pos (by omega)]
      · rw [if_neg h1, if_neg (by omega)]
theorem gi_sqr {f : List Nat → List Nat} (hf : ∀ x, (f x).length = 4) (s : List Nat) {c : Nat} (hc : c < 16) : gi (sqr f s) c = gi (f (wrd s (c / 4))) (c % 4) :=
  gi_flat (f := fun i => f (wrd s i)) (fun _ => hf _) 4 c hc
theorem gi_addL (cs s : List Nat) (r : Nat) {c : Nat} (hc : c < 16) : gi (addL cs s r) c = xor8 (gi s c) (gi cs (256 + (16 * r + c))) := by
  unfold addL
  rw [gi_flat (f := addF cs s r) (fun _ => xorL_length _ _) 4 c hc]
  show gi ((List.range 4).map (xorF _ _)) (c % 4) = _
  rw [gi_mapr (by omega)]
  unfold xorF
  rw [gi_wrd (by omega), gi_take (by omega)]
  congr 1
  · congr 1; omega
  · simp only [gi, List.getD_eq_getElem?_getD, List.getElem?_drop]
    congr 2; omega
theorem mul2 : ∀ a, a < 256 → mul 2 a = dbl a := by decide +kernel
theorem mul3 : ∀ a, a < 256 → mul 3 a = dbl a ^^^ a := by decide +kernel
/-- The one square's bytes are the other's, turned over. -/
def Tr (s s' : List Nat) : Prop := ∀ c, c < 16 → gi s (tr c) = gi s' c
theorem Tr.row {s s' : List Nat} (h : Tr s s') (a b : Nat) (ha : a < 4) (hb : b < 4) : gi s (a * 4 + b) = gi s' (b * 4 + a) := by
  have := h (b * 4 + a) (by omega)
  rwa [show tr (b * 4 + a) = a * 4 + b by unfold tr; omega] at this
theorem tr_box {cs s s' : List Nat} (h8 : B8 s') (hc : ∀ b, b < 256 → gi cs b = gi boxes b) (h : Tr s s') : Tr (fin1 (bxF s) 16 (rep 16)) (turnL (sqr (eachL cs) s')) := by
  intro c hc16
  rw [fin1_end (by simp), gi_mapr (tr_lt hc16), turnL, gi_mapr hc16]
  unfold bxF turnF
  rw [show tr c / 4 = c % 4 by unfold tr; omega, show tr c % 4 = c / 4 by unfold tr; omega, gi_sqr (eachL_length cs) _ (by omega)]
  rw [show ((c / 4 + c % 4) % 4 * 4 + c % 4) / 4 = (c / 4 + c % 4) % 4 by omega, show ((c / 4 + c % 4) % 4 * 4 + c % 4) % 4 = c % 4 by omega]
  show _ = gi ((List.range 4).map (eachF cs _)) (c % 4)
  rw [gi_mapr (by omega)]
  unfold eachF
  rw [gi_wrd (by omega), h.row _ _ (by omega) (by omega), hc _ (h8.gi _)]
theorem tr_mix {b b' : List Nat} (h8 : B8 b') (h : Tr b b') : Tr (layF (mxF b) 16) (sqr mixL b') := by
  intro c hc
  rw [gi_layF _ 16 (by omega) c hc, if_pos hc, gi_sqr mixL_length _ hc]
  show _ = gi ((List.range 4).map (mixF _)) (c % 4)
  have w8 : B8 (wrd b' (c / 4)) := B8_wrd h8 _
  rw [gi_mapr (by omega), mixF_plain w8]
  unfold mxF
  rw [h.row _ _ (by omega) (by omega), h.row _ _ (by omega) (by omega), h.row _ _ (by omega) (by omega), h.row _ _ (by omega) (by omega)]
  rw [gi_wrd (by omega), gi_wrd (by omega), gi_wrd (by omega), gi_wrd (by omega)]
  rw [mul2 _ (h8.gi _), mul3 _ (h8.gi _)]
  have l0 := dbl_lt (gi b' (c / 4 * 4 + c % 4))
  have l1 := xor_lt8 (dbl_lt (gi b' (c / 4 * 4 + (c % 4 + 1) % 4))) (h8.gi (c / 4 * 4 + (c % 4 + 1) % 4))
  have l2 := xor_lt8 l0 l1
  have l3 := xor_lt8 l2 (h8.gi (c / 4 * 4 + (c % 4 + 2) % 4))
  rw [xor8_eq l0 l1, xor8_eq l2 (h8.gi _), xor8_eq l3 (h8.gi _)]
  ac_rfl
theorem tr_add {V cs s s' : List Nat} {r : Nat} (hs : s.length = 16) (hr : r ≤ 14) (hV : ∀ j, j < 240 → gi V j = gi cs (256 + j)) (h : Tr s s') : Tr (adR V s r 16) (addL cs s' r) := by
  intro c hc
  rw [gi_adR V s r hs 16 (by omega) c hc, if_pos hc, gi_addL _ _ _ hc, h c hc, hV _ (by omega)]
theorem tr_rs {V cs t : List Nat} (hb : ∀ b, b < 256 → gi cs b = gi boxes b) (hV : ∀ j, j < 240 → gi V j = gi cs (256 + j)) (hB : B8 cs) : ∀ r, r ≤ 13 → Tr (rs t V r) (sq cs t r)
  | 0, _ => by
    intro c hc
    show gi (lay t V 16) (tr c) = gi (addL cs t 0) c
    rw [lay_layF, gi_layF _ 16 (by omega) c hc, if_pos hc, gi_addL _ _ _ hc, hV _ (by omega), Nat.mul_zero, Nat.zero_add]
  | r + 1, h => by
    have ih := tr_rs hb hV hB (t := t) r (by omega)
    show Tr (adR V (if r + 1 < 14 then layF (mxF _) 16 else _) (r + 1) 16) (rnd cs (sq cs t r) (r + 1))
    rw [if_pos (by omega)]
    have h1 := tr_box (sq_B8 cs t r) hb ih
    have h2 := tr_mix (B8_turnL (B8_sqr (B8_eachL hB) _)) h1
    exact tr_add (layF_length _ 16 (Nat.le_refl _)) (by omega) hV h2
theorem tr_end {V cs t : List Nat} (hb : ∀ b, b < 256 → gi cs b = gi boxes b) (hV : ∀ j, j < 240 → gi V j = gi cs (256 + j)) (hB : B8 cs) : Tr (rsEnd t V) (pressL cs t) := by
  have ih := tr_rs hb hV hB (t := t) 13 (by omega)
  show Tr (adR V (if 13 + 1 < 14 then layF (mxF _) 16 else _) (13 + 1) 16) (rndLast cs (sq cs t 13))
  rw [if_neg (by omega)]
  exact tr_add (by rw [fin1_length (by simp), rep_length]) (by omega) hV (tr_box (sq_B8 cs t 13) hb ih)
theorem out_press {V cs t : List Nat} (hb : ∀ b, b < 256 → gi cs b = gi boxes b) (hV : ∀ j, j < 240 → gi V j = gi cs (256 + j)) (hB : B8 cs) : outL (rsEnd t V) 16 = pressL cs t := by
  refine gi_ext (by rw [outL_length, pressL_length]) fun c hc => ?_
  rw [outL_length] at hc
  unfold outL
  rw [gi_mapr hc]
  exact tr_end hb hV hB c hc
end Go.Proofs.YtfamoakicgmfgaaGreat

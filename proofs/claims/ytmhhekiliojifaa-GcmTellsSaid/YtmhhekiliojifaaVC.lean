/- What the hash and the turning of a text come to, over lists; the examples' blocks by the kernel. No condition. -/
import Derived.Test.YtmhhekiliojifaaVB
import Derived.Test.YtmhhekiliojifaaM1
namespace Go.Proofs.Ytmhhekiliojifaa
open Go.RowKit Go.Own
/-- The piece of number k. -/
def pcL (x : List Nat) (k : Nat) : List Nat := (x.drop (16 * k)).take 16
theorem pcB_bys {t : ByteArray} {k : Nat} (h : 16 * k < t.size) : bys (pcB t k).1 = pcL (bys t) k := by
  rw [pcB_val h, bys_extract]
  unfold pcL
  have hl : ((bys t).drop (16 * k)).length = t.size - 16 * k := by rw [List.length_drop, bys_length]
  by_cases h2 : 16 * k + 16 ≤ t.size
  · rw [Nat.min_eq_left h2, Nat.add_sub_cancel_left]
  · rw [Nat.min_eq_right (by omega), List.take_of_length_le (by omega), List.take_of_length_le (by omega)]
def hL1 (h s p : List Nat) : List Nat := prodL ((List.range 16).map (xorF s (fillL p))) h
/-- The hash of a text's blocks, k of them. -/
def hLn (h s x : List Nat) : Nat → List Nat
  | 0 => s
  | k + 1 => hL1 h (hLn h s x k) (pcL x k)
theorem hfold_hLn (h s : List Nat) (t : ByteArray) : ∀ k, 16 * k < t.size + 16 → hfold h s (pcsB t k) = hLn h s (bys t) k
  | 0, _ => by simp [pcsB, hfold, hLn]
  | k + 1, hk => by
    rw [pcsB_succ, hfold_snoc, hfold_hLn h s t k (by omega), hstep_def, pcB_bys (by omega)]
    rfl
def hLt (h s x : List Nat) : List Nat := hLn h s x ((x.length + 15) / 16)
theorem htext_hLt (h s : List Nat) (t : ByteArray) : htext h s t = hLt h s (bys t) := by
  unfold htext hLt
  rw [hfold_hLn h s t _ (by omega), bys_length]
/-- A piece turned. -/
def tL1 (cs nonce : List Nat) (j : Nat) (p : List Nat) : List Nat := ((List.range 16).map (xorF (fillL p) (pressL cs (nonce ++ hfL j 4)))).take p.length
def tLn (cs nonce x : List Nat) (k : Nat) : List Nat := (List.range k).flatMap fun k => tL1 cs nonce (k + 2) (pcL x k)
theorem tLn_succ (cs nonce x : List Nat) (k : Nat) : tLn cs nonce x (k + 1) = tLn cs nonce x k ++ tL1 cs nonce (k + 2) (pcL x k) := by simp [tLn, List.range_succ]
theorem tfold_tLn (cs nonce : List Nat) (t : ByteArray) : ∀ k, 16 * k < t.size + 16 → (tfold cs nonce 1 (pcsB t k)).1 = tLn cs nonce (bys t) k
  | 0, _ => rfl
  | k + 1, hk => by
    have hc := tfold_count cs nonce 1 (pcsB t k)
    rw [pcsB_length] at hc
    rw [pcsB_succ, tfold_snoc, tLn_succ, ← tfold_tLn cs nonce t k (by omega)]
    unfold tstep tL1
    simp only
    rw [hc, pcB_bys (by omega), show 1 + k + 1 = k + 2 by omega]
    congr 2
    rw [← pcB_bys (by omega), bys_length]
theorem turnP_tLn (key nonce text : ByteArray) : turnP key nonce text = tLn (cipher (bys key)) (bys nonce) (bys text) ((text.size + 15) / 16) := tfold_tLn _ _ _ _ (by omega)
theorem macP_hLt (key nonce bes body : ByteArray) : macP key nonce bes body = (List.range 16).map (xorF (hLt (pressL (cipher (bys key)) (rep 16)) (hLt (pressL (cipher (bys key)) (rep 16)) (hLt (pressL (cipher (bys key)) (rep 16)) (rep 16) (bys bes)) (bys body)) (lensL bes.size body.size)) (pressL (cipher (bys key)) (bys nonce ++ hfL 1 4))) := by
  unfold macP tagP maskP
  rw [htext_hLt, htext_hLt, htext_hLt]
  have : bys (mkS (lensL bes.size body.size)) = lensL bes.size body.size := bys_mkS _ (by unfold lensL; exact (hfL_B8 _ _).append (hfL_B8 _ _))
  rw [this]
/-! ### The examples' blocks -/
def wLit : List Nat := [0, 0, 0, 0, 0, 0, 0, 0, 0, 0, 0, 0, 0, 0, 0, 0, 0, 0, 0, 0, 0, 0, 0, 0, 0, 0, 0, 0, 0, 0, 0, 0, 98, 99, 99, 99, 98, 99, 99, 99, 98, 99, 99, 99, 98, 99, 99, 99, 170, 251, 251, 251, 170, 251, 251, 251, 170, 251, 251, 251, 170, 251, 251, 251, 111, 108, 108, 207, 13, 15, 15, 172, 111, 108, 108, 207, 13, 15, 15, 172, 125, 141, 141, 106, 215, 118, 118, 145, 125, 141, 141, 106, 215, 118, 118, 145, 83, 84, 237, 193, 94, 91, 226, 109, 49, 55, 142, 162, 60, 56, 129, 14, 150, 138, 129, 193, 65, 252, 247, 80, 60, 113, 122, 58, 235, 7, 12, 171, 158, 170, 143, 40, 192, 241, 109, 69, 241, 198, 227, 231, 205, 254, 98, 233, 43, 49, 43, 223, 106, 205, 220, 143, 86, 188, 166, 181, 189, 187, 170, 30, 100, 6, 253, 82, 164, 247, 144, 23, 85, 49, 115, 240, 152, 207, 17, 25, 109, 187, 169, 11, 7, 118, 117, 132, 81, 202, 211, 49, 236, 113, 121, 47, 231, 176, 232, 156, 67, 71, 120, 139, 22, 118, 11, 123, 142, 185, 26, 98, 116, 237, 11, 161, 115, 155, 126, 37, 34, 81, 173, 20, 206, 32, 212, 59, 16, 248, 10, 23, 83, 191, 114, 156, 69, 201, 121, 231, 203, 112, 99, 133]
def hLit : List Nat := [220, 149, 192, 120, 162, 64, 137, 137, 173, 72, 162, 20, 146, 132, 32, 135]
def k1Lit : List Nat := [83, 15, 138, 251, 199, 69, 54, 185, 169, 99, 180, 241, 196, 203, 115, 139]
def k2Lit : List Nat := [206, 167, 64, 61, 77, 96, 107, 110, 7, 78, 197, 211, 186, 243, 157, 24]
def p1Lit : List Nat := [253, 106, 183, 88, 110, 85, 109, 186, 6, 214, 156, 254, 98, 35, 178, 98]
def p2Lit : List Nat := [131, 222, 66, 92, 94, 220, 93, 73, 143, 56, 44, 68, 16, 65, 202, 146]
def q1Lit : List Nat := [194, 148, 116, 42, 231, 220, 127, 15, 18, 139, 231, 236, 182, 155, 222, 122]
def q2Lit : List Nat := [54, 95, 127, 129, 71, 15, 219, 223, 94, 207, 55, 24, 163, 245, 112, 249]
def q3Lit : List Nat := [57, 57, 169, 160, 132, 33, 17, 253, 152, 102, 149, 221, 112, 98, 219, 117]
theorem words_lit : words (boxLit ++ rep 240) (rep 32) = wLit := by decide +kernel
theorem h_lit : pressL (boxLit ++ wLit) (rep 16) = hLit := by decide +kernel
theorem k1_lit : pressL (boxLit ++ wLit) (rep 12 ++ hfL 1 4) = k1Lit := by decide +kernel
theorem k2_lit : pressL (boxLit ++ wLit) (rep 12 ++ hfL 2 4) = k2Lit := by decide +kernel
theorem cipher_lit : cipher (rep 32) = boxLit ++ wLit := by
  unfold cipher cs0
  rw [boxes_eq, words_lit]
theorem prod_lit {x y z : List Nat} (hz : z.length = 16) (hz8 : B8 z) (h : toN z = gmul (toN x) (toN y)) : prodL x y = z :=
  toN_inj (prodL_B8 _ _) hz8 (prodL_length _ _) hz (by rw [prodL_gmul, h])
theorem b8_of {z : List Nat} (h : (z.all fun n => decide (n < 256)) = true) : B8 z := fun n hn => of_decide_eq_true (List.all_eq_true.1 h n hn)
theorem pr0 : hL1 hLit (rep 16) (rep 16) = rep 16 := prod_lit rfl (B8.rep _) (by decide +kernel)
theorem pr1 : hL1 hLit (rep 16) k2Lit = p1Lit := prod_lit rfl (b8_of (by decide)) (by decide +kernel)
theorem pr2 : hL1 hLit p1Lit (lensL 0 16) = p2Lit := prod_lit rfl (b8_of (by decide)) (by decide +kernel)
theorem pr3 : hL1 hLit (rep 16) [120] = q1Lit := prod_lit rfl (b8_of (by decide)) (by decide +kernel)
theorem pr4 : hL1 hLit q1Lit k2Lit = q2Lit := prod_lit rfl (b8_of (by decide)) (by decide +kernel)
theorem pr5 : hL1 hLit q2Lit (lensL 1 16) = q3Lit := prod_lit rfl (b8_of (by decide)) (by decide +kernel)
end Go.Proofs.Ytmhhekiliojifaa

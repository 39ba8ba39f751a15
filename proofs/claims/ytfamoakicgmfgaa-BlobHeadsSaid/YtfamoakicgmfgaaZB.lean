/- What Seal and Open answer: the layer below blob; what was sealed is opened. -/
import Derived.Test.YtfamoakicgmfgaaVC
import Derived.Test.YtfamoakicgmfgaaY0
import Derived.Test.YtfamoakicgmfgaaZ6
namespace Go.Proofs.Ytfamoakicgmfgaa
open Go.RowKit Go.Own
def sealA (k n b t : ByteArray) : ByteArray := mkS (turnP k n t ++ macP k n b (mkS (turnP k n t)))
theorem sealA_size (k n b t : ByteArray) : (sealA k n b t).size = t.size + 16 := by unfold sealA; rw [mkS_size, List.length_append, turnP_length, macP_length]
noncomputable def opnA (k n b t : ByteArray) : ByteArray × Int :=
  if sameB (t.extract (t.size - 16) t.size) (mkS (macP k n b (t.extract 0 (t.size - 16)))) = true then (mkS (turnP k n (t.extract 0 (t.size - 16))), 0) else (ByteArray.empty, 8)
theorem under : Lb.Under sealA opnA where
  size := sealA_size
  osize := fun k n b t => by
    unfold opnA
    split
    · show (mkS _).size ≤ _
      rw [mkS_size, turnP_length, ByteArray.size_extract]; omega
    · exact Nat.zero_le _
  seal_ := fun k n b t w hk hn hb ht => pseal_ok k n b t hk hn hb (by omega) (by rw [turnP_length]; omega) w
  opn := fun k n b t w hk hn hb h16 ht => by
    have h := popen_ok k n b t hk hn hb h16 (by omega) w
    unfold opnA
    by_cases hc : sameB (t.extract (t.size - 16) t.size) (mkS (macP k n b (t.extract 0 (t.size - 16)))) = true
    · rw [if_pos hc] at h
      rw [if_pos hc]
      exact h
    · rw [if_neg hc] at h
      rw [if_neg hc]
      exact h
/-- What was sealed is opened, with the same beside, and with no other tag. -/
theorem opn_seal (k n b c t : ByteArray) : (macP k n c (mkS (turnP k n t)) = macP k n b (mkS (turnP k n t)) → opnA k n c (sealA k n b t) = (t, 0)) ∧
    (¬ macP k n c (mkS (turnP k n t)) = macP k n b (mkS (turnP k n t)) → opnA k n c (sealA k n b t) = (ByteArray.empty, 8)) := by
  have hs : (sealA k n b t).size - 16 = t.size := by rw [sealA_size, Nat.add_sub_cancel]
  have hm8 := macP_B8 k n b (mkS (turnP k n t))
  have hb : bys (sealA k n b t) = turnP k n t ++ macP k n b (mkS (turnP k n t)) := by
    unfold sealA
    exact bys_mkS _ (B8.append (turnP_B8 _ _ _) hm8)
  have h1 : (sealA k n b t).extract 0 t.size = mkS (turnP k n t) := by
    apply bys_inj
    rw [bys_extract, hb, List.drop_zero, Nat.sub_zero, bys_mkS _ (turnP_B8 _ _ _), List.take_left' (turnP_length k n t)]
  have h2 : (sealA k n b t).extract t.size (sealA k n b t).size = mkS (macP k n b (mkS (turnP k n t))) := by
    apply bys_inj
    rw [bys_extract, hb, List.drop_left' (turnP_length k n t), bys_mkS _ hm8, List.take_of_length_le (by rw [macP_length, sealA_size]; omega)]
  unfold opnA
  rw [hs, h1, h2]
  refine ⟨fun h => ?_, fun h => ?_⟩
  · rw [if_pos (by unfold sameB; rw [h]; exact decide_eq_true rfl), turn_twice, mkS_bys]
  · refine if_neg fun e => h ?_
    unfold sameB at e
    have e2 := congrArg bys (of_decide_eq_true e)
    rw [bys_mkS _ hm8, bys_mkS _ (macP_B8 k n c (mkS (turnP k n t)))] at e2
    exact e2.symm
/-! ### The key of 32 bytes from 0 on -/
def k00 : List Nat := List.range 32
def w00 : List Nat := [0, 1, 2, 3, 4, 5, 6, 7, 8, 9, 10, 11, 12, 13, 14, 15, 16, 17, 18, 19, 20, 21, 22, 23, 24, 25, 26, 27, 28, 29, 30, 31, 165, 115, 194, 159, 161, 118, 196, 152, 169, 127, 206, 147, 165, 114, 192, 156, 22, 81, 168, 205, 2, 68, 190, 218, 26, 93, 164, 193, 6, 64, 186, 222, 174, 135, 223, 240, 15, 241, 27, 104, 166, 142, 213, 251, 3, 252, 21, 103, 109, 225, 241, 72, 111, 165, 79, 146, 117, 248, 235, 83, 115, 184, 81, 141, 198, 86, 130, 127, 201, 167, 153, 23, 111, 41, 76, 236, 108, 213, 89, 139, 61, 226, 58, 117, 82, 71, 117, 231, 39, 191, 158, 180, 84, 7, 207, 57, 11, 220, 144, 95, 194, 123, 9, 72, 173, 82, 69, 164, 193, 135, 28, 47, 69, 245, 166, 96, 23, 178, 211, 135, 48, 13, 77, 51, 100, 10, 130, 10, 124, 207, 247, 28, 190, 180, 254, 84, 19, 230, 187, 240, 210, 97, 167, 223, 240, 26, 250, 254, 231, 168, 41, 121, 215, 165, 100, 74, 179, 175, 230, 64, 37, 65, 254, 113, 155, 245, 0, 37, 136, 19, 187, 213, 90, 114, 28, 10, 78, 90, 102, 153, 169, 242, 79, 224, 126, 87, 43, 170, 205, 248, 205, 234, 36, 252, 121, 204, 191, 9, 121, 233, 55, 26, 194, 60, 109, 104, 222, 54]
def h00 : List Nat := [242, 144, 0, 182, 42, 73, 159, 208, 169, 243, 154, 106, 221, 46, 119, 128]
theorem w00_lit : words (boxLit ++ rep 240) k00 = w00 := by decide +kernel
theorem h00_lit : pressL (boxLit ++ w00) (rep 16) = h00 := by decide +kernel
theorem cipher00 : cipher k00 = boxLit ++ w00 := by
  unfold cipher cs0
  rw [boxes_eq, w00_lit]
theorem hash_diff3 {h s a a' b l l' : List Nat} (hs : B8 s) (ha : B8 a) (ha' : B8 a') (h1 : B8 b) (hl : B8 l) (hl' : B8 l') :
    toN (hL1 h (hL1 h (hL1 h s a) b) l) ^^^ toN (hL1 h (hL1 h (hL1 h s a') b) l') =
      gmul (gmul (gmul (toN (fillL a) ^^^ toN (fillL a')) (toN h)) (toN h) ^^^ (toN (fillL l) ^^^ toN (fillL l'))) (toN h) := by
  have hx := fun (x y z : Nat) => (gmul_lin_left z).xor x y
  have c4 : ∀ x y z : Nat, (x ^^^ z) ^^^ (y ^^^ z) = x ^^^ y := fun x y z => by
    rw [Nat.xor_comm y z, Nat.xor_assoc, ← Nat.xor_assoc z z y, Nat.xor_self, Nat.zero_xor]
  have c6 : ∀ x y z : Nat, (z ^^^ x) ^^^ (z ^^^ y) = x ^^^ y := fun x y z => by
    rw [Nat.xor_comm z x, Nat.xor_comm z y, c4]
  have c5 : ∀ x y z u : Nat, (x ^^^ z) ^^^ (y ^^^ u) = (x ^^^ y) ^^^ (z ^^^ u) := fun x y z u => by
    rw [Nat.xor_assoc, Nat.xor_assoc, ← Nat.xor_assoc z y u, Nat.xor_comm z y, Nat.xor_assoc]
  rw [toN_hL1 (hL1_B8 _ _ _) hl, toN_hL1 (hL1_B8 _ _ _) hl', ← hx, toN_hL1 (hL1_B8 _ _ _) h1, toN_hL1 (hL1_B8 _ _ _) h1, c5, ← hx, c4, toN_hL1 hs ha, toN_hL1 hs ha', ← hx, c6]
theorem hLt_pair (h s x : List Nat) (h1 : 16 < x.length) (h2 : x.length ≤ 32) : hLt h s x = hL1 h (hL1 h s (pcL x 0)) (pcL x 1) := by
  unfold hLt
  rw [show (x.length + 15) / 16 = 2 by omega]
  rfl
def head0 : List Nat := [75, 49, 3, 107, 101, 121, 1, 49, 50, 51, 52, 53, 54, 55, 56, 57, 48, 49, 50]
def besA : List Nat := head0 ++ [1, 97, 1, 49, 1, 98, 1, 50]
def besB : List Nat := head0 ++ [1, 97, 1, 49]
theorem diff00 : gmul (gmul (gmul (toN (fillL (pcL besA 1)) ^^^ toN (fillL (pcL besB 1))) (toN h00)) (toN h00) ^^^ (toN (fillL (lensL 27 4)) ^^^ toN (fillL (lensL 23 4)))) (toN h00) ≠ 0 := by decide +kernel
/-- Under that key a body of 4 bytes has another tag beside the one than beside the other. -/
theorem mac_unlike (U n m o b : ByteArray) (hU : bys U = k00) (hm : bys m = besA) (ho : bys o = besB) (hb : b.size = 4) : macP U n m b ≠ macP U n o b := by
  intro h
  have hms : m.size = 27 := by rw [← bys_length, hm]; rfl
  have hos : o.size = 23 := by rw [← bys_length, ho]; rfl
  have hbl : (bys b).length = 4 := by rw [bys_length, hb]
  have hll : ∀ x y, (lensL x y).length = 16 := fun x y => by unfold lensL; rw [List.length_append, hfL_length, hfL_length]
  rw [macP_hLt, macP_hLt, hU, cipher00, h00_lit, hm, ho, hms, hos, hb, hLt_pair h00 (rep 16) besA (by decide) (by decide), hLt_pair h00 (rep 16) besB (by decide) (by decide), hLt_short h00 _ (bys b) (by rw [hbl]; decide) (by rw [hbl]; decide), hLt_short h00 _ (bys b) (by rw [hbl]; decide) (by rw [hbl]; decide),
    hLt_short h00 _ (lensL 27 4) (by rw [hll]; decide) (by rw [hll]; decide), hLt_short h00 _ (lensL 23 4) (by rw [hll]; decide) (by rw [hll]; decide), show pcL besB 0 = pcL besA 0 by decide] at h
  have hB := B8.bys b
  have key := hash_diff3 (h := h00) (s := hL1 h00 (rep 16) (pcL besA 0)) (a := pcL besA 1) (a' := pcL besB 1) (b := bys b) (l := lensL 27 4) (l' := lensL 23 4)
    (hL1_B8 _ _ _) (b8_of (by decide)) (b8_of (by decide)) hB (lensL_B8 _ _) (lensL_B8 _ _)
  generalize hL1 h00 (rep 16) (pcL besA 0) = S0 at *
  have hx8 := hL1_B8 h00 (hL1 h00 (hL1 h00 S0 (pcL besA 1)) (bys b)) (lensL 27 4)
  have hy8 := hL1_B8 h00 (hL1 h00 (hL1 h00 S0 (pcL besB 1)) (bys b)) (lensL 23 4)
  have hxl := hL1_len h00 (hL1 h00 (hL1 h00 S0 (pcL besA 1)) (bys b)) (lensL 27 4)
  have hyl := hL1_len h00 (hL1 h00 (hL1 h00 S0 (pcL besB 1)) (bys b)) (lensL 23 4)
  have hM8 : B8 (pressL (boxLit ++ w00) (bys n ++ hfL 1 4)) := addL_B8 _ _ _
  have hD := diff00
  rw [← key] at hD
  clear key
  generalize hL1 h00 (hL1 h00 (hL1 h00 S0 (pcL besA 1)) (bys b)) (lensL 27 4) = X at *
  generalize hL1 h00 (hL1 h00 (hL1 h00 S0 (pcL besB 1)) (bys b)) (lensL 23 4) = Y at *
  generalize pressL (boxLit ++ w00) (bys n ++ hfL 1 4) = M at *
  have e : X = Y := by
    apply gi_exte (by rw [hxl, hyl])
    intro i hi
    have h2 := congrArg (fun l => gi l i) h
    simp only [gi_map16 (show i < 16 by omega)] at h2
    have h3 : xor8 (gi X i) (gi M i) = xor8 (gi Y i) (gi M i) := h2
    have a1 : gi X i < 2 ^ 8 := hx8.gi i
    have a2 : gi Y i < 2 ^ 8 := hy8.gi i
    have a3 : gi M i < 2 ^ 8 := hM8.gi i
    unfold xor8 at h3
    have b1 : gi X i ^^^ gi M i < 256 := Nat.xor_lt_two_pow a1 a3
    have b2 : gi Y i ^^^ gi M i < 256 := Nat.xor_lt_two_pow a2 a3
    rw [Nat.mod_eq_of_lt b1, Nat.mod_eq_of_lt b2] at h3
    have h4 := congrArg (· ^^^ gi M i) h3
    simpa only [Nat.xor_assoc, Nat.xor_self, Nat.xor_zero] using h4
  rw [e, Nat.xor_self] at hD
  exact hD rfl
end Go.Proofs.Ytfamoakicgmfgaa

/- The example of ring's law: the domain's key and what hangs on it, by the kernel. No condition. | What Wrap, Unwrap and Derive answer, the program's and the document's: the layers below ring; the law's examples. -/
import Derived.Test.YtbiadmhomadflaaGreatDoorY1
import Derived.Test.YtbiadmhomadflaaGreatDoorH3
import Derived.Test.YtbiadmhomadflaaGreatDoorN2
import Derived.Test.YtbiadmhomadflaaGreatDoorY0
import Derived.Test.YtbiadmhomadflaaGreatDoorZ8
namespace Go.Proofs.YtbiadmhomadflaaGreatDoor
open Go.RowKit Go.Own
/-! ### The example domain's key -/
def kD : List Nat := [97, 153, 89, 105, 54, 19, 147, 185, 166, 181, 184, 229, 80, 101, 222, 214, 196, 212, 34, 28, 104, 111, 224, 197, 43, 26, 122, 156, 167, 252, 171, 152]
def wD : List Nat := [97, 153, 89, 105, 54, 19, 147, 185, 166, 181, 184, 229, 80, 101, 222, 214, 196, 212, 34, 28, 104, 111, 224, 197, 43, 26, 122, 156, 167, 252, 171, 152, 208, 251, 31, 53, 230, 232, 140, 140, 64, 93, 52, 105, 16, 56, 234, 191, 14, 211, 165, 20, 102, 188, 69, 209, 77, 166, 63, 77, 234, 90, 148, 213, 108, 217, 28, 178, 138, 49, 144, 62, 202, 108, 164, 87, 218, 84, 78, 232, 89, 243, 138, 143, 63, 79, 207, 94, 114, 233, 240, 19, 152, 179, 100, 198, 5, 154, 168, 244, 143, 171, 56, 202, 69, 199, 156, 157, 159, 147, 210, 117, 130, 47, 63, 18, 189, 96, 240, 76, 207, 137, 0, 95, 87, 58, 100, 153, 141, 217, 70, 175, 2, 114, 126, 101, 71, 181, 226, 248, 216, 38, 48, 141, 227, 216, 59, 79, 94, 184, 203, 3, 145, 49, 203, 92, 198, 11, 175, 197, 182, 160, 224, 27, 180, 210, 158, 126, 243, 103, 124, 134, 43, 65, 76, 11, 18, 91, 18, 100, 76, 227, 217, 103, 221, 210, 18, 59, 27, 217, 189, 254, 163, 218, 91, 180, 23, 8, 197, 202, 228, 111, 185, 76, 207, 46, 245, 71, 152, 106, 244, 196, 212, 137, 45, 163, 9, 91, 63, 152, 18, 130, 130, 102, 240, 201, 104, 125, 231, 193, 173, 183, 3, 174, 20, 251, 204, 128, 225, 188]
def hD9 : List Nat := [80, 36, 14, 66, 102, 189, 127, 109, 207, 111, 18, 118, 45, 210, 206, 118]
theorem wD_lit : words (boxLit ++ rep 240) kD = wD := by decide +kernel
theorem hD9_lit : pressL (boxLit ++ wD) (rep 16) = hD9 := by decide +kernel
theorem cipherD : cipher kD = boxLit ++ wD := by
  unfold cipher cs0
  rw [boxes_eq, wD_lit]
theorem diffD : gmul (gmul (gmul (gmul ((toN (rep 16) ^^^ toN (fillL [98, 105, 100, 1])) ^^^ (toN (rep 16) ^^^ toN (fillL [98, 105, 100, 2]))) (toN hD9)) (toN hD9)) (toN hD9) ^^^ (toN (fillL (lensL 4 32)) ^^^ toN (fillL (lensL 4 32)))) (toN hD9) ≠ 0 := by decide +kernel
/-- Under that key a body of 32 bytes has another tag beside one version's name than beside another's. -/
theorem mac_version (U n m o b : ByteArray) (hU : bys U = kD) (hm : bys m = [98, 105, 100, 1]) (ho : bys o = [98, 105, 100, 2]) (hb : b.size = 32) : macP U n m b ≠ macP U n o b := by
  intro h
  have hms : m.size = 4 := by rw [← bys_length, hm]; rfl
  have hos : o.size = 4 := by rw [← bys_length, ho]; rfl
  have hbl : (bys b).length = 32 := by rw [bys_length, hb]
  have hll : ∀ x y, (lensL x y).length = 16 := fun x y => by unfold lensL; rw [List.length_append, hfL_length, hfL_length]
  rw [macP_hLt, macP_hLt, hU, cipherD, hD9_lit, hm, ho, hms, hos, hb, hLt_two _ _ _ hbl, hLt_two _ _ _ hbl, hLt_short hD9 (rep 16) [98, 105, 100, 1] (by decide) (by decide), hLt_short hD9 (rep 16) [98, 105, 100, 2] (by decide) (by decide),
    hLt_short hD9 _ (lensL 4 32) (by rw [hll]; decide) (by rw [hll]; decide), hLt_short hD9 _ (lensL 4 32) (by rw [hll]; decide) (by rw [hll]; decide)] at h
  have hB := B8.bys b
  have key := hash_diff (h := hD9) (s := rep 16) (t := rep 16) (a := [98, 105, 100, 1]) (a' := [98, 105, 100, 2]) (b1 := pcL (bys b) 0) (b2 := pcL (bys b) 1) (l := lensL 4 32) (l' := lensL 4 32)
    (B8.rep _) (B8.rep _) (b8_of (by decide)) (b8_of (by decide)) (pcL_B8 hB 0) (pcL_B8 hB 1) (lensL_B8 _ _) (lensL_B8 _ _)
  have hx8 := hL1_B8 hD9 (hL1 hD9 (hL1 hD9 (hL1 hD9 (rep 16) [98, 105, 100, 1]) (pcL (bys b) 0)) (pcL (bys b) 1)) (lensL 4 32)
  have hy8 := hL1_B8 hD9 (hL1 hD9 (hL1 hD9 (hL1 hD9 (rep 16) [98, 105, 100, 2]) (pcL (bys b) 0)) (pcL (bys b) 1)) (lensL 4 32)
  have hxl := hL1_len hD9 (hL1 hD9 (hL1 hD9 (hL1 hD9 (rep 16) [98, 105, 100, 1]) (pcL (bys b) 0)) (pcL (bys b) 1)) (lensL 4 32)
  have hyl := hL1_len hD9 (hL1 hD9 (hL1 hD9 (hL1 hD9 (rep 16) [98, 105, 100, 2]) (pcL (bys b) 0)) (pcL (bys b) 1)) (lensL 4 32)
  have hM8 : B8 (pressL (boxLit ++ wD) (bys n ++ hfL 1 4)) := addL_B8 _ _ _
  have hD := diffD
  rw [← key] at hD
  clear key
  generalize hL1 hD9 (hL1 hD9 (hL1 hD9 (hL1 hD9 (rep 16) [98, 105, 100, 1]) (pcL (bys b) 0)) (pcL (bys b) 1)) (lensL 4 32) = X at *
  generalize hL1 hD9 (hL1 hD9 (hL1 hD9 (hL1 hD9 (rep 16) [98, 105, 100, 2]) (pcL (bys b) 0)) (pcL (bys b) 1)) (lensL 4 32) = Y at *
  generalize pressL (boxLit ++ wD) (bys n ++ hfL 1 4) = M at *
  have e : X = Y := by
    apply gi_exte (by rw [hxl, hyl])
    intro i hi
    have h2 := congrArg (fun l => gi l i) h
    simp only [gi_map16 (show i < 16 by omega)] at h2
    have h3 : xor8 (gi X i) (gi M i) = xor8 (gi Y i) (gi M i) := h2
    have a1 : gi X i < 2 ^ 8 := hx8.gi i
    have a2 : gi Y i < 2 ^ 8 := hy8.gi i
    have a3 : gi M i < 2 ^ 8 := hM8.gi i
    unfold xor8 at h3
    have b1 : gi X i ^^^ gi M i < 256 := Nat.xor_lt_two_pow a1 a3
    have b2 : gi Y i ^^^ gi M i < 256 := Nat.xor_lt_two_pow a2 a3
    rw [Nat.mod_eq_of_lt b1, Nat.mod_eq_of_lt b2] at h3
    have h4 := congrArg (· ^^^ gi M i) h3
    simpa only [Nat.xor_assoc, Nat.xor_self, Nat.xor_zero] using h4
  rw [e, Nat.xor_self] at hD
  exact hD rfl
/-! ### Derived keys -/
def d2L : List Nat := [73, 78, 120, 88, 28, 84, 183, 80, 248, 201, 112, 77, 164, 178, 229, 1, 201, 253, 180, 42, 241, 224, 48, 13, 63, 199, 220, 28, 165, 36, 181, 81]
def kL : List Nat := [238, 243, 232, 175, 129, 182, 207, 125, 75, 150, 227, 196, 164, 132, 224, 92, 192, 99, 119, 194, 136, 204, 54, 204, 107, 149, 178, 48, 120, 35, 121, 55]
set_option maxRecDepth 1000000 in
theorem tag_u1 : Sm.tagL [100, 111, 109, 97, 105, 110] [100, 114, 97, 119] = [163, 227, 144, 73, 138, 158, 163, 157, 177, 66, 50, 189, 181, 62, 101, 19, 104, 187, 106, 93, 205, 71, 179, 4, 208, 77, 4, 197, 30, 72, 220, 118] := by decide +kernel
set_option maxRecDepth 1000000 in
theorem tag_d1 : Sm.tagL [163, 227, 144, 73, 138, 158, 163, 157, 177, 66, 50, 189, 181, 62, 101, 19, 104, 187, 106, 93, 205, 71, 179, 4, 208, 77, 4, 197, 30, 72, 220, 118] [0, 0, 0, 1, 1] = [97, 153, 89, 105, 54, 19, 147, 185, 166, 181, 184, 229, 80, 101, 222, 214, 196, 212, 34, 28, 104, 111, 224, 197, 43, 26, 122, 156, 167, 252, 171, 152] := by decide +kernel
set_option maxRecDepth 1000000 in
theorem tag_u2 : Sm.tagL [100, 111, 109, 97, 105, 110] [111, 116, 104, 101, 114] = [79, 100, 20, 174, 63, 77, 65, 219, 176, 80, 228, 172, 36, 29, 47, 106, 229, 145, 122, 173, 122, 163, 87, 26, 243, 15, 103, 38, 202, 151, 231, 20] := by decide +kernel
set_option maxRecDepth 1000000 in
theorem tag_d2 : Sm.tagL [79, 100, 20, 174, 63, 77, 65, 219, 176, 80, 228, 172, 36, 29, 47, 106, 229, 145, 122, 173, 122, 163, 87, 26, 243, 15, 103, 38, 202, 151, 231, 20] [0, 0, 0, 2, 1] = [73, 78, 120, 88, 28, 84, 183, 80, 248, 201, 112, 77, 164, 178, 229, 1, 201, 253, 180, 42, 241, 224, 48, 13, 63, 199, 220, 28, 165, 36, 181, 81] := by decide +kernel
set_option maxRecDepth 1000000 in
theorem tag_u3 : Sm.tagL [98, 97, 99, 107, 105, 110, 103] [109, 111, 114, 101] = [162, 104, 94, 174, 228, 83, 244, 68, 225, 192, 134, 247, 55, 48, 77, 96, 70, 184, 73, 47, 178, 230, 242, 228, 123, 77, 212, 243, 219, 23, 190, 82] := by decide +kernel
set_option maxRecDepth 1000000 in
theorem tag_k : Sm.tagL [162, 104, 94, 174, 228, 83, 244, 68, 225, 192, 134, 247, 55, 48, 77, 96, 70, 184, 73, 47, 178, 230, 242, 228, 123, 77, 212, 243, 219, 23, 190, 82] [105, 100, 1, 1] = [238, 243, 232, 175, 129, 182, 207, 125, 75, 150, 227, 196, 164, 132, 224, 92, 192, 99, 119, 194, 136, 204, 54, 204, 107, 149, 178, 48, 120, 35, 121, 55] := by decide +kernel
set_option maxRecDepth 1000000 in
theorem tag_n1 : Sm.tagL [97, 153, 89, 105, 54, 19, 147, 185, 166, 181, 184, 229, 80, 101, 222, 214, 196, 212, 34, 28, 104, 111, 224, 197, 43, 26, 122, 156, 167, 252, 171, 152] [98, 105, 100, 1, 0, 238, 243, 232, 175, 129, 182, 207, 125, 75, 150, 227, 196, 164, 132, 224, 92, 192, 99, 119, 194, 136, 204, 54, 204, 107, 149, 178, 48, 120, 35, 121, 55] = [89, 4, 137, 2, 29, 247, 36, 192, 167, 138, 37, 136, 74, 211, 245, 68, 122, 188, 166, 138, 38, 230, 31, 56, 208, 190, 72, 166, 237, 195, 112, 142] := by decide +kernel
set_option maxRecDepth 1000000 in
theorem tag_n2 : Sm.tagL [73, 78, 120, 88, 28, 84, 183, 80, 248, 201, 112, 77, 164, 178, 229, 1, 201, 253, 180, 42, 241, 224, 48, 13, 63, 199, 220, 28, 165, 36, 181, 81] [98, 105, 100, 1, 0, 238, 243, 232, 175, 129, 182, 207, 125, 75, 150, 227, 196, 164, 132, 224, 92, 192, 99, 119, 194, 136, 204, 54, 204, 107, 149, 178, 48, 120, 35, 121, 55] = [147, 190, 197, 117, 105, 236, 245, 131, 131, 168, 5, 54, 213, 193, 161, 123, 3, 74, 35, 223, 94, 226, 8, 199, 144, 249, 143, 106, 229, 181, 117, 199] := by decide +kernel
end Go.Proofs.YtbiadmhomadflaaGreatDoor
namespace Go.Proofs.YtbiadmhomadflaaGreatDoor
open Go.RowKit Go.Own Go.Own.Fr
def wA (u n k : ByteArray) : ByteArray × Int := if wrefN u.size n.size (k.size == 32) = 0 then (wrapB u n k, 0) else (ByteArray.empty, ((wrefN u.size n.size (k.size == 32) : Nat) : Int))
open Classical in
noncomputable def uA (u n W : ByteArray) : ByteArray × Int :=
  if wrefN u.size n.size (W.size == 60) = 0 then (if unTag u n W ∧ wrapB u n (unK u W) = W then (unK u W, 0) else (ByteArray.empty, 8)) else (ByteArray.empty, ((wrefN u.size n.size (W.size == 60) : Nat) : Int))
def dA (s d i : ByteArray) : ByteArray := mkS (Sm.derL (Sm.tagL (bys s) (bys d)) (bys i) 32)
theorem wref_ok {u n : Nat} {b : Bool} (h : wrefN u n b = 0) : u = 32 ∧ b = true ∧ n ≤ 64 := by
  unfold wrefN at h
  by_cases h1 : u = 32 <;> by_cases h3 : 64 < n <;> cases b <;> simp_all
theorem uA_un {u n W : ByteArray} (h : wrefN u.size n.size (W.size == 60) = 0) : unAns u n W = #[.string (uA u n W).1, .int .i64 (uA u n W).2] := by
  unfold uA unAns
  rw [if_pos h]
  split <;> rfl
theorem under : Under Sm.Roots wA uA dA where
  last := fun w w' h hB => roots_below h hB
  wrap := fun u n k w hR => by
    unfold wA
    by_cases h : wrefN u.size n.size (k.size == 32) = 0
    · obtain ⟨h1, h2, h3⟩ := wref_ok h
      rw [if_pos h]
      exact wrap_ok u n k h1 (by simpa using h2) h3 w hR
    · rw [if_neg h]
      exact (wrap_bad u n k h w).mono fun e w' he => ⟨he.1, he.2 ▸ Below.refl _ _⟩
  rwrap := fun u n k w => by
    unfold wA
    by_cases h : wrefN u.size n.size (k.size == 32) = 0
    · obtain ⟨h1, h2, h3⟩ := wref_ok h
      rw [if_pos h]
      exact (refWrap_ok u n k h1 (by simpa using h2) h3 w).mono fun e w' he => ⟨he.1, he.2.below⟩
    · rw [if_neg h]
      exact (refWrap_bad u n k h w).mono fun e w' he => ⟨he.1, he.2 ▸ Below.refl _ _⟩
  unwrap := fun u n k w hR => by
    by_cases h : wrefN u.size n.size (k.size == 60) = 0
    · obtain ⟨h1, h2, h3⟩ := wref_ok h
      have := unwrap_ok u n k h1 h3 (by simpa using h2) w hR
      rwa [uA_un h] at this
    · unfold uA
      rw [if_neg h]
      exact (unwrap_bad u n k h w).mono fun e w' he => ⟨he.1, he.2 ▸ Below.refl _ _⟩
  runwrap := fun u n k w => by
    by_cases h : wrefN u.size n.size (k.size == 60) = 0
    · obtain ⟨h1, h2, h3⟩ := wref_ok h
      have := refUnwrap_ok u n k h1 h3 (by simpa using h2) w
      rw [uA_un h] at this
      exact this.mono fun e w' he => ⟨he.1, he.2.below⟩
    · unfold uA
      rw [if_neg h]
      exact (refUnwrap_bad u n k h w).mono fun e w' he => ⟨he.1, he.2 ▸ Below.refl _ _⟩
  derive := fun s d i w h1 h2 h3 hR => (Sm.derive_any s d i 32 (by decide) (by omega) (by omega) (by omega) w hR).mono fun e w' he => ⟨he.1, he.2.below⟩
  rderive := fun s d i w h1 h2 h3 => (Sm.refDerive_any s d i 32 (by decide) (by omega) (by omega) (by omega) w).mono fun e w' he => ⟨he.1, he.2.below⟩
/-! ### The examples -/
theorem dA_size (s d i : ByteArray) : (dA s d i).size = 32 := by
  unfold dA
  rw [mkS_size, ← Sm.derL_eq _ _ 32 1 (by decide) (by decide), List.length_take, Sm.outD_length]
  rfl
theorem dA_tag (s d i : ByteArray) {u v : List Nat} (h1 : Sm.tagL (bys s) (bys d) = u) (h2 : Sm.tagL u (bys i ++ [1]) = v) : dA s d i = mkS v := by
  unfold dA
  rw [h1, ← Sm.derL_eq _ _ 32 1 (by decide) (by decide), Sm.outD_succ]
  have hl : (Sm.dT u (bys i) 1).length = 32 := Sm.dF_length u (bys i) 0
  have e : Sm.dT u (bys i) 1 = v := by rw [← h2]; rfl
  rw [show Sm.outD u (bys i) 0 = [] from rfl, List.nil_append, List.take_of_length_le (by rw [hl]; exact Nat.le_refl _), e]
theorem wA_ok {u n k : ByteArray} (hu : u.size = 32) (hn : n.size ≤ 64) (hk : k.size = 32) : wA u n k = (wrapB u n k, 0) := if_pos (by
  unfold wrefN
  rw [if_neg (by rw [hu, hk]; decide), if_neg (by omega)])
theorem uA_wrap {u n k : ByteArray} (hu : u.size = 32) (hn : n.size ≤ 64) (hk : k.size = 32) : uA u n (wrapB u n k) = (k, 0) := by
  have hW : (wrapB u n k).size = 60 := by rw [wrapB_size, hk]
  unfold uA
  rw [if_pos (by unfold wrefN; rw [if_neg (by rw [hu, hW]; decide), if_neg (by omega)]), unK_wrap u n k hk, if_pos ⟨(unTag_wrap u n n k hk).2 rfl, rfl⟩]
def rtS : ByteArray := cntB 0
def d1S : ByteArray := mkS kD
def d2S : ByteArray := mkS d2L
def kS : ByteArray := mkS kL
theorem lit8 {l : List Nat} (h : l.all (fun n => decide (n < 256)) = true) : B8 l := fun n hn => of_decide_eq_true (List.all_eq_true.1 h n hn)
theorem d1_eq : dA domS drawS (fourB 1) = d1S := dA_tag _ _ _ tag_u1 tag_d1
theorem d2_eq : dA domS otherS2 (fourB 2) = d2S := dA_tag _ _ _ tag_u2 tag_d2
theorem k_eq : dA backS moreS (infoB idS 1) = kS := dA_tag _ _ _ tag_u3 tag_k
def nm1 : ByteArray := bS ++ infoB idS 1
def nm2 : ByteArray := bS ++ infoB idS 2
theorem nm1_bys : bys nm1 = [98, 105, 100, 1] := by decide
theorem nm2_bys : bys nm2 = [98, 105, 100, 2] := by decide
theorem other_version : uA d1S nm2 (wrapB d1S nm1 kS) = (ByteArray.empty, 8) := by
  have hk : kS.size = 32 := by rw [kS, mkS_size]; rfl
  have hu : d1S.size = 32 := by rw [d1S, mkS_size]; rfl
  have hW : (wrapB d1S nm1 kS).size = 60 := by rw [wrapB_size, hk]
  unfold uA
  rw [if_pos (by unfold wrefN; rw [if_neg (by rw [hu, hW]; decide), if_neg (by decide)])]
  refine if_neg fun h => ?_
  have h1 := (unTag_wrap d1S nm1 nm2 kS hk).1 h.1
  have hB8 : B8 (bodyL (cipK (bys d1S)) (bys (nonB d1S nm1 kS)) (bys kS)) := bodyL_B8 _ _ _
  have hbl : (bodyL (cipK (bys d1S)) (bys (nonB d1S nm1 kS)) (bys kS)).length = 32 := by rw [bodyL_length, bys_length, hk]
  generalize bodyL (cipK (bys d1S)) (bys (nonB d1S nm1 kS)) (bys kS) = B at *
  have hbs : (mkS B).size = 32 := by rw [mkS_size, hbl]
  refine mac_version d1S (nonB d1S nm1 kS) nm1 nm2 (mkS B) (by rw [d1S, bys_mkS _ (lit8 (by decide))]) nm1_bys nm2_bys hbs ?_
  rw [macP_tagG _ _ _ _ (by decide) (by rw [hbs]; decide), macP_tagG _ _ _ _ (by decide) (by rw [hbs]; decide), bys_mkS _ hB8]
  exact h1.symm
theorem bys_app2 (a b : ByteArray) : bys (a ++ b) = bys a ++ bys b := by simp [bys, ByteArray.data_append]
theorem non1 : (bys (nonB d1S nm1 kS)).head? = some 89 := by
  unfold nonB
  rw [bys_app2, bys_app2, bys_extract, nm1_bys, d1S, kS, bys_mkS kD (lit8 (by decide)), bys_mkS kL (lit8 (by decide)), bys_mkS [0] (lit8 (by decide))]
  rw [show [98, 105, 100, 1] ++ [0] ++ kL = [98, 105, 100, 1, 0] ++ kL from rfl, (show Sm.tagL kD ([98, 105, 100, 1, 0] ++ kL) = _ from tag_n1), bys_mkS _ (lit8 (by decide))]
  rfl
theorem non2 : (bys (nonB d2S nm1 kS)).head? = some 147 := by
  unfold nonB
  rw [bys_app2, bys_app2, bys_extract, nm1_bys, d2S, kS, bys_mkS d2L (lit8 (by decide)), bys_mkS kL (lit8 (by decide)), bys_mkS [0] (lit8 (by decide))]
  rw [show [98, 105, 100, 1] ++ [0] ++ kL = [98, 105, 100, 1, 0] ++ kL from rfl, (show Sm.tagL d2L ([98, 105, 100, 1, 0] ++ kL) = _ from tag_n2), bys_mkS _ (lit8 (by decide))]
  rfl
theorem unlike : wrapB d2S nm1 kS ≠ wrapB d1S nm1 kS := fun h => by
  have h1 := congrArg unN h
  rw [unN_wrap, unN_wrap] at h1
  have h2 := congrArg (fun s => (bys s).head?) h1
  simp only [non1, non2] at h2
  cases h2
theorem wake : Wake wA uA dA rtS (wrapB rtS (dS ++ fourB 1) d1S) (wrapB rtS (dS ++ fourB 2) d2S) (wrapB d1S nm1 kS) kS ByteArray.empty (wrapB d2S nm1 kS) := by
  have hk : kS.size = 32 := by rw [kS, mkS_size]; rfl
  have hd1 : d1S.size = 32 := by rw [d1S, mkS_size]; rfl
  have hd2 : d2S.size = 32 := by rw [d2S, mkS_size]; rfl
  have hr : rtS.size = 32 := cntB_size 0
  have hf1 : (dS ++ fourB 1).size ≤ 64 := by decide
  have hf2 : (dS ++ fourB 2).size ≤ 64 := by decide
  have hn1 : nm1.size ≤ 64 := by decide
  have a1 : ∀ v : Int, okN v = true → abvA uA rtS 1 (wrapB rtS (dS ++ fourB 1) d1S) idS v = (d1S, 0) := fun v hv => by
    unfold abvA
    rw [if_neg (by rw [hv]; decide), if_neg (by decide)]
    exact uA_wrap hr hf1 hd1
  have a2 : ∀ v : Int, okN v = true → abvA uA rtS 2 (wrapB rtS (dS ++ fourB 2) d2S) idS v = (d2S, 0) := fun v hv => by
    unfold abvA
    rw [if_neg (by rw [hv]; decide), if_neg (by decide)]
    exact uA_wrap hr hf2 hd2
  have k1 : keyA uA rtS 1 (wrapB rtS (dS ++ fourB 1) d1S) idS 1 (wrapB d1S nm1 kS) = (kS, 0) := by
    unfold keyA
    rw [a1 1 (by decide), if_pos rfl]
    exact uA_wrap hd1 hn1 hk
  exact {
    rs := hr
    d1 := by
      unfold domA
      rw [if_neg (by decide)]
      show wA rtS (dS ++ fourB 1) (dA domS drawS (fourB 1)) = _
      rw [d1_eq]
      exact wA_ok hr hf1 hd1
    ds := by rw [wrapB_size, hd1]
    o1 := by
      unfold domA
      rw [if_neg (by decide)]
      show wA rtS (dS ++ fourB 2) (dA domS otherS2 (fourB 2)) = _
      rw [d2_eq]
      exact wA_ok hr hf2 hd2
    b1 := by
      unfold bakA
      rw [a1 1 (by decide), if_pos rfl]
      show wA d1S nm1 (dA backS moreS (infoB idS 1)) = _
      rw [k_eq]
      exact wA_ok hd1 hn1 hk
    bs := by rw [wrapB_size, hk]
    k1 := k1
    ks := hk
    l1 := by
      unfold keyA
      rw [a1 2 (by decide), if_pos rfl]
      exact other_version
    w1 := by
      unfold rewA
      rw [k1, if_pos rfl, a2 1 (by decide), if_pos rfl]
      exact wA_ok hd2 hn1 hk
    n1 := by
      unfold keyA
      rw [a2 1 (by decide), if_pos rfl]
      exact uA_wrap hd2 hn1 hk
    ne := unlike
    xs := dA_size _ _ _ }
theorem awake_any (w : World) (hR : Sm.Roots w) : Calls Tryz.prog 4 #[] w fun e w' => e = .returned (.bool true) ∧ Below w.heap.size w w' :=
  awake_of under _ _ _ _ _ _ _ wake w hR fun W => (counted_any 0 (by decide) W).mono fun e w' he => ⟨he.1, he.2.below⟩
theorem tells_any (root : ByteArray) (n m v : Int) (d o i x r : ByteArray) (w : World) (hR : Sm.Roots w) :
    Calls Tryz.prog 3 #[.string root, askV n m v d o i x r] w fun e w' => e = .returned (.bool true) ∧ Below w.heap.size w w' :=
  tells_of under (fun W h => awake_any W h) root n m v d o i x r w hR
end Go.Proofs.YtbiadmhomadflaaGreatDoor

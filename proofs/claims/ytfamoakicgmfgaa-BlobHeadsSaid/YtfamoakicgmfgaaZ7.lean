/- The parts of a blob by their places. No condition. -/
import Derived.Test.YtfamoakicgmfgaaZ4
namespace Go.Proofs.Ytfamoakicgmfgaa.Lb
open Go.RowKit Go.Own.Lb
theorem takeS_ext {b : ByteArray} {a k : Nat} (h : a + k ≤ b.size) : takeS (b.extract a b.size) k = b.extract a (a + k) := by
  unfold takeS
  rw [ByteArray.extract_extract, ByteArray.size_extract]
  congr 1
  omega
theorem restS_ext {b : ByteArray} {a k : Nat} (h : a + k ≤ b.size) : restS (b.extract a b.size) k = b.extract (a + k) b.size := by
  unfold restS
  rw [ByteArray.extract_extract, ByteArray.size_extract]
  congr 1 <;> omega
theorem numS_ext {b : ByteArray} {a : Nat} (h : a < b.size) : numS (b.extract a (a + 1)) = gi (bys b) a := by
  unfold numS
  rw [if_neg (by rw [ByteArray.size_extract]; omega), bys_extract]
  simp [gi, List.getD_eq_getElem?_getD]
theorem whole_ext (b : ByteArray) : b.extract 0 b.size = b := ByteArray.extract_zero_size
/-- The head that the document reads, if there are bytes enough. -/
def hdD (b : ByteArray) : Hd := ⟨b.extract 3 (3 + gi (bys b) 2), (gi (bys b) (3 + gi (bys b) 2) : Nat), b.extract (4 + gi (bys b) 2) (16 + gi (bys b) 2)⟩
theorem hdR_eq {b : ByteArray} (h : 16 + gi (bys b) 2 ≤ b.size) : hdR (restS b 2) = hdD b ∧ hdL (restS b 2) = b.extract (16 + gi (bys b) 2) b.size := by
  have e0 : restS b 2 = b.extract 2 b.size := by
    have := restS_ext (b := b) (a := 0) (k := 2) (by omega)
    rwa [whole_ext, Nat.zero_add] at this
  have e1 : numS (takeS (restS b 2) 1) = gi (bys b) 2 := by rw [e0, takeS_ext (by omega), numS_ext (by omega)]
  unfold hdD
  obtain ⟨g, hg⟩ : ∃ g, gi (bys b) 2 = g := ⟨_, rfl⟩
  rw [hg] at e1 h ⊢
  clear hg
  have e2 : restS (restS b 2) 1 = b.extract 3 b.size := by rw [e0, restS_ext (by omega)]
  have e3 : idR (restS b 2) = b.extract 3 (3 + g) := by unfold idR; rw [e1, e2, takeS_ext (by omega)]
  have e4 : idL (restS b 2) = b.extract (3 + g) b.size := by unfold idL; rw [e1, e2, restS_ext (by omega)]
  have e5 : numS (takeS (idL (restS b 2)) 1) = gi (bys b) (3 + g) := by rw [e4, takeS_ext (by omega), numS_ext (by omega)]
  have e6 : restS (idL (restS b 2)) 1 = b.extract (4 + g) b.size := by rw [e4, restS_ext (by omega), show 3 + g + 1 = 4 + g by omega]
  refine ⟨?_, ?_⟩
  · unfold hdR
    rw [e3, e5, e6, takeS_ext (by omega), show 4 + g + 12 = 16 + g by omega]
  · unfold hdL
    rw [e6, restS_ext (by omega), show 4 + g + 12 = 16 + g by omega]
theorem hdR_short {b : ByteArray} (h3 : 3 ≤ b.size) (h : b.size < 16 + gi (bys b) 2) : rightH (hdR (restS b 2)) = false := by
  cases hr : rightH (hdR (restS b 2)) with
  | false => rfl
  | true =>
    exfalso
    obtain ⟨_, _, _, h4⟩ := right_parts hr
    have e0 : restS b 2 = b.extract 2 b.size := by
      have := restS_ext (b := b) (a := 0) (k := 2) (by omega)
      rwa [whole_ext, Nat.zero_add] at this
    have e1 : numS (takeS (restS b 2) 1) = gi (bys b) 2 := by rw [e0, takeS_ext (by omega), numS_ext (by omega)]
    unfold hdR at h4
    simp only at h4
    rw [takeS_size, restS_size] at h4
    unfold idL at h4
    rw [e1, restS_size, restS_size, restS_size] at h4
    omega
theorem hdR_none {b : ByteArray} (h3 : b.size < 3) : rightH (hdR (restS b 2)) = false := by
  cases hr : rightH (hdR (restS b 2)) with
  | false => rfl
  | true =>
    exfalso
    obtain ⟨_, _, _, h4⟩ := right_parts hr
    unfold hdR at h4
    simp only at h4
    rw [takeS_size, restS_size] at h4
    unfold idL at h4
    rw [restS_size, restS_size, restS_size] at h4
    omega
/-- What is parted, as the document's words say it. -/
theorem partS_none {b : ByteArray} (h : b.size < 3 ∨ b.extract 0 2 ≠ markS ∨ b.size < 32 + gi (bys b) 2 ∨ 1056 + gi (bys b) 2 < b.size ∨ rightH (hdD b) = false) : partS b = none := by
  unfold partS
  refine if_neg ?_
  rintro ⟨h1, h2, h3, h4⟩
  by_cases h5 : b.size < 3
  · rw [hdR_none h5] at h2; cases h2
  by_cases h6 : b.size < 16 + gi (bys b) 2
  · rw [hdR_short (by omega) h6] at h2; cases h2
  obtain ⟨e1, e2⟩ := hdR_eq (b := b) (by omega)
  rw [e1] at h2
  rw [e2, ByteArray.size_extract] at h3 h4
  have e3 : takeS b 2 = b.extract 0 2 := by unfold takeS; congr 1; omega
  rw [e3] at h1
  rcases h with h | h | h | h | h
  · exact h5 h
  · exact h h1
  · omega
  · omega
  · rw [h] at h2; cases h2
theorem partS_some {b : ByteArray} (h1 : 3 ≤ b.size) (h2 : b.extract 0 2 = markS) (h3 : 32 + gi (bys b) 2 ≤ b.size) (h4 : b.size ≤ 1056 + gi (bys b) 2) (h5 : rightH (hdD b) = true) : partS b = some (hdD b, b.extract (16 + gi (bys b) 2) b.size) := by
  obtain ⟨e1, e2⟩ := hdR_eq (b := b) (by omega)
  have e3 : takeS b 2 = b.extract 0 2 := by unfold takeS; congr 1; omega
  unfold partS
  rw [e1, e2, e3, if_pos]
  refine ⟨h2, h5, ?_, ?_⟩ <;> rw [ByteArray.size_extract] <;> omega
end Go.Proofs.Ytfamoakicgmfgaa.Lb

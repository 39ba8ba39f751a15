/- What was built is parted into its head and what was sealed. No condition but the sizes. -/
import Derived.Test.YtfamoakicgmfgaaZ7
import Derived.Test.YtfamoakicgmfgaaZ6
namespace Go.Proofs.Ytfamoakicgmfgaa.Lb
open Go.RowKit Go.Own.Lb
theorem bys_oneS {n : Nat} (h : n < 256) : bys (oneS n) = [n] := by
  unfold oneS bys
  simp
  omega
theorem bys_laid {h : Hd} (hi : h.id.size ≤ 64) (hv : h.ver.toNat ≤ 8) (S : ByteArray) : bys (laidH h ++ S) = [75, 49, h.id.size] ++ (bys h.id ++ (h.ver.toNat :: (bys h.nonce ++ bys S))) := by
  unfold laidH
  simp only [bys_append, bys_oneS (show h.id.size < 256 by omega), bys_oneS (show h.ver.toNat < 256 by omega)]
  rw [show bys markS = [75, 49] by decide]
  simp
theorem drop_len {α : Type} {A B : List α} {a : Nat} (h : A.length = a) : (A ++ B).drop a = B := List.drop_left' h
theorem take_len {α : Type} {A B : List α} {a : Nat} (h : A.length = a) : (A ++ B).take a = A := List.take_left' h
theorem gi_drop (l : List Nat) (i : Nat) {x : Nat} {r : List Nat} (h : l.drop i = x :: r) : gi l i = x := by
  have h1 : (l.drop i)[0]? = some x := by rw [h]; rfl
  rw [List.getElem?_drop] at h1
  simp only [Nat.add_zero] at h1
  simp [gi, List.getD_eq_getElem?_getD, h1]
theorem partS_laid (h : Hd) (S : ByteArray) (hr : rightH h = true) (h16 : 16 ≤ S.size) (hS : S.size ≤ 1040) : partS (laidH h ++ S) = some (h, S) := by
  obtain ⟨z1, z2, z3, z4⟩ := right_parts hr
  have hb := bys_laid z1 (by omega) S
  have hls := laidH_size h
  obtain ⟨b, hbb⟩ : ∃ b, laidH h ++ S = b := ⟨_, rfl⟩
  have hbs : b.size = 16 + h.id.size + S.size := by rw [← hbb, ByteArray.size_append]; omega
  rw [hbb] at hb ⊢
  obtain ⟨id, ver, nonce⟩ := h
  simp only at *
  have hil := bys_length id
  have hnl := bys_length nonce
  have hsl := bys_length S
  generalize hv : ver.toNat = v at *
  have hvv : ver = (v : Int) := by omega
  have d2 : (bys b).drop 2 = id.size :: (bys id ++ (v :: (bys nonce ++ bys S))) := by rw [hb]; rfl
  have d3 : (bys b).drop 3 = bys id ++ (v :: (bys nonce ++ bys S)) := by rw [hb]; rfl
  have g2 : gi (bys b) 2 = id.size := gi_drop _ _ d2
  have d4 : (bys b).drop (3 + id.size) = v :: (bys nonce ++ bys S) := by rw [← List.drop_drop, d3, drop_len hil]
  have g3 : gi (bys b) (3 + id.size) = v := gi_drop _ _ d4
  have d5 : (bys b).drop (4 + id.size) = bys nonce ++ bys S := by
    rw [show 4 + id.size = (3 + id.size) + 1 by omega, ← List.drop_drop, d4]; rfl
  have d6 : (bys b).drop (16 + id.size) = bys S := by
    rw [show 16 + id.size = (4 + id.size) + 12 by omega, ← List.drop_drop, d5, drop_len (by omega)]
  have hd : hdD b = ⟨id, ver, nonce⟩ := by
    unfold hdD
    rw [g2, g3]
    congr 1
    · apply bys_inj
      rw [bys_extract, d3, take_len (by omega)]
    · exact hvv.symm
    · apply bys_inj
      rw [bys_extract, d5, take_len (by omega)]
  have e := partS_some (b := b) (by omega) (by
    apply bys_inj
    rw [bys_extract, List.drop_zero, hb, show bys markS = [75, 49] by decide]; rfl) (by omega) (by omega) (by rw [hd]; exact hr)
  rw [e, hd, g2]
  congr 2
  apply bys_inj
  rw [bys_extract, d6, List.take_of_length_le (by omega)]
/-- Heads that are unlike make unlike blobs. -/
theorem laid_inj {g h : Hd} {S T : ByteArray} (hg : rightH g = true) (hh : rightH h = true) (hS : 16 ≤ S.size) (hS2 : S.size ≤ 1040) (hT : 16 ≤ T.size) (hT2 : T.size ≤ 1040) (e : laidH g ++ S = laidH h ++ T) : g = h := by
  have h1 := partS_laid g S hg hS hS2
  rw [e, partS_laid h T hh hT hT2] at h1
  exact (Prod.mk.inj (Option.some.inj h1)).1.symm
end Go.Proofs.Ytfamoakicgmfgaa.Lb

/- Build of blob, given what Seal of the layer below answers: by contract. No condition but the sizes. -/
import Derived.Test.YtfamoakicgmfgaaZ4
namespace Go.Proofs.Ytfamoakicgmfgaa.Lb
open Go.RowKit Go.Own.Lb
variable {sA : ByteArray → ByteArray → ByteArray → ByteArray → ByteArray} {oA : ByteArray → ByteArray → ByteArray → ByteArray → ByteArray × Int}
set_option maxRecDepth 100000 in
set_option maxHeartbeats 2000000 in
theorem build_any (H : Under sA oA) (k : ByteArray) (h : Hd) (L : List P2) (p : Option Addr) (cap : Nat) (t : ByteArray) (hL : L.length ≤ 1000000) (hs : ∀ x ∈ L, x.1.size ≤ 1000000 ∧ x.2.size ≤ 1000000) (w : World) (hP : PsC w (.slice p L.length cap) L) :
    Calls Try.prog 6 #[.string k, hdV h, .slice p L.length cap, .string t] w fun e w' => e = .returned (.tuple #[.string (buildA sA k h L t).1, .int .i64 (buildA sA k h L t).2]) ∧ Below w.heap.size w w' := by
  obtain ⟨W0, hW0⟩ : ∃ W0, w.alloc (.cells #[.string h.id, .int .i64 h.ver, .string h.nonce] 23) = W0 := ⟨_, rfl⟩
  have hb0 : Below w.heap.size w W0 := hW0 ▸ (Below.refl _ w).alloc (Nat.le_refl _) _
  have hR0 : W0.heap[w.heap.size]? = some (.cells #[.string h.id, .int .i64 h.ver, .string h.nonce] 23 (0, 0)) := hW0 ▸ heap_alloc_new w _
  have HT := Lib.hid (text_any L p cap hL hs W0 (hP.below hb0))
  have HRH := Lib.hid fun W => right_h h W
  obtain ⟨ANS, hANS⟩ : ∃ A, buildA sA k h L t = A := ⟨_, rfl⟩
  rw [hANS]
  have HANS := Lib.hid hANS
  have HR0 := Lib.hid hR0
  have HB0 := Lib.hid hb0
  have HW0 := Lib.hid hW0
  obtain ⟨n, hn⟩ : ∃ n, L.length = n := ⟨_, rfl⟩
  rw [hn] at HT ⊢
  clear hL hs hP hb0 hR0 hANS hW0 hn
  cases hr : rightP L with
  | false =>
    have hA : Hid (ANS = ({ data := #[] }, 2)) := Lib.hid (HANS.out.symm.trans (if_neg fun h => by rw [hr] at h; cases h.1))
    have hE : textR L = .tuple #[.string { data := #[] }, .int .i64 2] := by unfold textR; rw [if_neg (by rw [hr]; decide)]
    rw [hE] at HT
    clear hE hr H
    unfold hdV at *
    go_enter Try.func6, Try.ntmps6
    go_wp2_with fail
    rw [HW0.out]
    go_wp2_with fail
    refine HT.out.mono ?_
    rintro e w1 ⟨rfl, hb1⟩
    have HB1 := Lib.hid (HB0.out.trans (hb1.mono HB0.out.size))
    clear hb1
    go_wp2
    go_ret2
    exact ⟨by rw [hA.out]; rfl, HB1.out⟩
  | true =>
  have hE : textR L = .tuple #[.string (mkS (textP L)), .int .i64 0] := by unfold textR; rw [if_pos hr]
  have hlen := text_len hr
  rw [hE] at HT
  clear hE
  obtain ⟨x, hx⟩ : ∃ x, mkS (textP L) = x := ⟨_, rfl⟩
  rw [hx] at HT hlen
  cases hrh : rightH h with
  | false =>
    have hA : Hid (ANS = ({ data := #[] }, 2)) := Lib.hid (HANS.out.symm.trans (if_neg fun h => by rw [hrh] at h; cases h.2.1))
    rw [hrh] at HRH
    clear hr hrh H hlen hx
    unfold hdV at *
    go_enter Try.func6, Try.ntmps6
    go_wp2_with fail
    rw [HW0.out]
    go_wp2_with fail
    refine HT.out.mono ?_
    rintro e w1 ⟨rfl, hb1⟩
    have HB1 := Lib.hid (HB0.out.trans (hb1.mono HB0.out.size))
    have HR1 := Lib.hid (keep_b hb1 HR0.out)
    have c0 := cell_of HR1.out 0
    have c1 := cell_of HR1.out 1
    have c2 := cell_of HR1.out 2
    clear hb1
    go_wp2_with fail
    refine (HRH.out _).mono ?_
    rintro e w2 ⟨rfl, hb2⟩
    have HB2 := Lib.hid (HB1.out.trans (hb2.mono HB1.out.size))
    clear hb2
    go_wp2
    go_ret2
    exact ⟨by rw [hA.out]; rfl, HB2.out⟩
  | true =>
  rw [hrh] at HRH
  obtain ⟨z1, z2, z3, z4⟩ := right_parts hrh
  by_cases hk : k.size = 32
  case neg =>
    have hA : Hid (ANS = ({ data := #[] }, 2)) := Lib.hid (HANS.out.symm.trans (if_neg fun h => hk h.2.2))
    have hki : ((k.size : Int) != 32) = true := by simp; omega
    clear hr hrh H hlen hx hk z1 z2 z3 z4
    unfold hdV at *
    go_enter Try.func6, Try.ntmps6
    go_wp2_with fail
    rw [HW0.out]
    go_wp2_with fail
    refine HT.out.mono ?_
    rintro e w1 ⟨rfl, hb1⟩
    have HB1 := Lib.hid (HB0.out.trans (hb1.mono HB0.out.size))
    have HR1 := Lib.hid (keep_b hb1 HR0.out)
    have c0 := cell_of HR1.out 0
    have c1 := cell_of HR1.out 1
    have c2 := cell_of HR1.out 2
    clear hb1
    go_wp2_with fail
    refine (HRH.out _).mono ?_
    rintro e w2 ⟨rfl, hb2⟩
    have HB2 := Lib.hid (HB1.out.trans (hb2.mono HB1.out.size))
    clear hb2
    go_wp2
    go_ret2
    exact ⟨by rw [hA.out]; rfl, HB2.out⟩
  have hki : ((k.size : Int) != 32) = false := by simp; omega
  by_cases ht : t.size ≤ 1024
  case neg =>
    have hA : Hid (ANS = ({ data := #[] }, 3)) := Lib.hid (HANS.out.symm.trans ((if_pos ⟨hr, hrh, hk⟩).trans (if_neg ht)))
    have hti : 1024 < (t.size : Int) := by omega
    clear hr hrh H hlen hx hk z1 z2 z3 z4 ht
    unfold hdV at *
    go_enter Try.func6, Try.ntmps6
    go_wp2_with fail
    rw [HW0.out]
    go_wp2_with fail
    refine HT.out.mono ?_
    rintro e w1 ⟨rfl, hb1⟩
    have HB1 := Lib.hid (HB0.out.trans (hb1.mono HB0.out.size))
    have HR1 := Lib.hid (keep_b hb1 HR0.out)
    have c0 := cell_of HR1.out 0
    have c1 := cell_of HR1.out 1
    have c2 := cell_of HR1.out 2
    clear hb1
    go_wp2_with fail
    refine (HRH.out _).mono ?_
    rintro e w2 ⟨rfl, hb2⟩
    have HB2 := Lib.hid (HB1.out.trans (hb2.mono HB1.out.size))
    clear hb2
    go_wp2
    go_ret2
    exact ⟨by rw [hA.out]; rfl, HB2.out⟩
  have hA : Hid (ANS = (laidH h ++ sA k h.nonce (laidH h ++ mkS (textP L)) t, 0)) := Lib.hid (HANS.out.symm.trans ((if_pos ⟨hr, hrh, hk⟩).trans (if_pos ht)))
  have hti : ¬ 1024 < (t.size : Int) := by omega
  have HL := Lib.hid fun W => laid_h h (by omega) (by omega) (by omega) W
  have hls := laidH_size h
  have hss := H.size k h.nonce (laidH h ++ x) t
  have hHS := Lib.hid fun W => H.seal_ k h.nonce (laidH h ++ x) t W hk z4 (by rw [ByteArray.size_append]; omega) ht
  have a1 : ∀ W, (Op.stringOp .add (laidH h) x).run Try.prog W = .ok (.string (laidH h ++ x)) W := fun W => run_string_add_sum W _ _ (by omega)
  have a2 : ∀ W, (Op.stringOp .add (laidH h) (sA k h.nonce (laidH h ++ x) t)).run Try.prog W = .ok (.string (laidH h ++ sA k h.nonce (laidH h ++ x) t)) W := fun W => run_string_add_sum W _ _ (by omega)
  rw [hx] at hA
  generalize laidH h ++ sA k h.nonce (laidH h ++ x) t = y2 at *
  generalize sA k h.nonce (laidH h ++ x) t = y1 at *
  generalize laidH h ++ x = y0 at *
  generalize laidH h = ll at *
  clear hr hrh H hlen hx hk z1 z2 z3 z4 ht hls hss
  unfold hdV at *
  go_enter Try.func6, Try.ntmps6
  go_wp2_with fail
  rw [HW0.out]
  go_wp2_with fail
  refine HT.out.mono ?_
  rintro e w1 ⟨rfl, hb1⟩
  have HB1 := Lib.hid (HB0.out.trans (hb1.mono HB0.out.size))
  have HR1 := Lib.hid (keep_b hb1 HR0.out)
  have c0 := cell_of HR1.out 0
  have c1 := cell_of HR1.out 1
  have c2 := cell_of HR1.out 2
  clear hb1
  go_wp2_with fail
  refine (HRH.out _).mono ?_
  rintro e w2 ⟨rfl, hb2⟩
  have HB2 := Lib.hid (HB1.out.trans (hb2.mono HB1.out.size))
  have HR2 := Lib.hid (keep_b hb2 HR1.out)
  clear c0 c1 c2 hb2
  have c0 := cell_of HR2.out 0
  have c1 := cell_of HR2.out 1
  have c2 := cell_of HR2.out 2
  go_wp2_with fail
  refine (HL.out _).mono ?_
  rintro e w3 ⟨rfl, hb3⟩
  have HB3 := Lib.hid (HB2.out.trans (hb3.mono HB2.out.size))
  have HR3 := Lib.hid (keep_b hb3 HR2.out)
  clear c0 c1 c2 hb3
  have c2 := cell_of HR3.out 2
  go_wp2_with fail
  refine (hHS.out _).mono ?_
  rintro e w4 ⟨rfl, hb4⟩
  have HB4 := Lib.hid (HB3.out.trans (hb4.mono HB3.out.size))
  clear c2 hb4
  go_wp2
  go_ret2
  exact ⟨by rw [hA.out]; rfl, HB4.out⟩
end Go.Proofs.Ytfamoakicgmfgaa.Lb

/- BlobTells' own walk, given what the layer below answers. No condition. -/
import Derived.Test.YtfamoakicgmfgaaGreatZD
namespace Go.Proofs.YtfamoakicgmfgaaGreat.Lb
open Go.RowKit Go.Own.Lb
variable {sA : ByteArray → ByteArray → ByteArray → ByteArray → ByteArray} {oA : ByteArray → ByteArray → ByteArray → ByteArray → ByteArray × Int}
theorem parse_two (o : Option (Hd × ByteArray)) : ∃ (i n : ByteArray) (v z : Int), parseV o = .tuple #[.agg #[.string i, .int .i64 v, .string n], .int .i64 z] := by
  cases o with
  | none => exact ⟨_, _, _, _, rfl⟩
  | some q => obtain ⟨h, r⟩ := q; exact ⟨h.id, h.nonce, h.ver, 0, rfl⟩
theorem beq_str (s : ByteArray) : (s.toList == s.toList) = true := beq_self_eq_true _
set_option maxRecDepth 100000 in
set_option maxHeartbeats 4000000 in
theorem tells_of (H : Under sA oA) (HAW : ∀ W, Calls Tryz.prog 4 #[] W fun e w' => e = .returned (.bool true) ∧ Below W.heap.size W w') (k : ByteArray) (h : Hd) (L : List P2) (p : Option Addr) (cap : Nat) (t b : ByteArray)
    (hL : L.length ≤ 9223372036854775807) (hs : ∀ x ∈ L, x.1.size ≤ 9223372036854775807 ∧ x.2.size ≤ 9223372036854775807) (w : World) (hP : PsC w (.slice p L.length cap) L) :
    Calls Tryz.prog 3 #[.string k, hdV h, .slice p L.length cap, .string t, .string b] w fun e w' => e = .returned (.bool true) ∧ Below w.heap.size w w' := by
  obtain ⟨W0, hW0⟩ : ∃ W0, w.alloc (.cells #[.string h.id, .int .i64 h.ver, .string h.nonce] 23) = W0 := ⟨_, rfl⟩
  have hb0 : Below w.heap.size w W0 := hW0 ▸ (Below.refl _ w).alloc (Nat.le_refl _) _
  have hR0 : W0.heap[w.heap.size]? = some (.cells #[.string h.id, .int .i64 h.ver, .string h.nonce] 23 (0, 0)) := hW0 ▸ heap_alloc_new w _
  have HP0 := Lib.hid (hP.below hb0)
  have HA := Lib.hid HAW
  have HF := Lib.hid fun W h => few_any L p cap hL hs W h
  have HR0 := Lib.hid hR0
  have HB0 := Lib.hid hb0
  have HW0 := Lib.hid hW0
  clear hL hs hP hb0 hR0 HAW hW0
  unfold hdV
  obtain ⟨n, hn⟩ : ∃ n, L.length = n := ⟨_, rfl⟩
  rw [hn] at HP0 HF ⊢
  have HN := Lib.hid hn
  clear hn
  by_cases g1 : 100 < k.size
  · have g1i : (100 : Int) < (k.size : Int) := by omega
    clear H g1
    go_enter Tryz.func3, Tryz.ntmps3
    go_wp2_with fail
    rw [HW0.out]
    refine (HA.out _).mono ?_
    rintro e w1 ⟨rfl, hb1⟩
    have HB1 := Lib.hid (HB0.out.trans (hb1.mono HB0.out.size))
    have HR1 := Lib.hid (keep_b hb1 HR0.out)
    have HP1 := Lib.hid (HP0.out.below hb1)
    clear hb1
    have c0 := cell_of HR1.out 0
    have c1 := cell_of HR1.out 1
    have c2 := cell_of HR1.out 2
    go_wp2
    go_ret
    exact ⟨rfl, HB1.out⟩
  have g1i : ¬ (100 : Int) < (k.size : Int) := by omega
  by_cases g2 : 200 < h.id.size
  · have g2i : (200 : Int) < (h.id.size : Int) := by omega
    clear H g1 g2
    go_enter Tryz.func3, Tryz.ntmps3
    go_wp2_with fail
    rw [HW0.out]
    refine (HA.out _).mono ?_
    rintro e w1 ⟨rfl, hb1⟩
    have HB1 := Lib.hid (HB0.out.trans (hb1.mono HB0.out.size))
    have HR1 := Lib.hid (keep_b hb1 HR0.out)
    have HP1 := Lib.hid (HP0.out.below hb1)
    clear hb1
    have c0 := cell_of HR1.out 0
    have c1 := cell_of HR1.out 1
    have c2 := cell_of HR1.out 2
    go_wp2
    go_ret
    exact ⟨rfl, HB1.out⟩
  have g2i : ¬ (200 : Int) < (h.id.size : Int) := by omega
  by_cases g3 : 100 < h.nonce.size
  · have g3i : (100 : Int) < (h.nonce.size : Int) := by omega
    clear H g1 g2 g3
    go_enter Tryz.func3, Tryz.ntmps3
    go_wp2_with fail
    rw [HW0.out]
    refine (HA.out _).mono ?_
    rintro e w1 ⟨rfl, hb1⟩
    have HB1 := Lib.hid (HB0.out.trans (hb1.mono HB0.out.size))
    have HR1 := Lib.hid (keep_b hb1 HR0.out)
    have HP1 := Lib.hid (HP0.out.below hb1)
    clear hb1
    have c0 := cell_of HR1.out 0
    have c1 := cell_of HR1.out 1
    have c2 := cell_of HR1.out 2
    go_wp2
    go_ret
    exact ⟨rfl, HB1.out⟩
  have g3i : ¬ (100 : Int) < (h.nonce.size : Int) := by omega
  cases g4 : fewB L with
  | false =>
    rw [g4] at HF
    clear H g1 g2 g3 g4
    go_enter Tryz.func3, Tryz.ntmps3
    go_wp2_with fail
    rw [HW0.out]
    refine (HA.out _).mono ?_
    rintro e w1 ⟨rfl, hb1⟩
    have HB1 := Lib.hid (HB0.out.trans (hb1.mono HB0.out.size))
    have HR1 := Lib.hid (keep_b hb1 HR0.out)
    have HP1 := Lib.hid (HP0.out.below hb1)
    clear hb1
    have c0 := cell_of HR1.out 0
    have c1 := cell_of HR1.out 1
    have c2 := cell_of HR1.out 2
    go_wp2_with fail
    refine (HF.out _ HP1.out).mono ?_
    rintro e w' ⟨rfl, rfl⟩
    go_wp2
    go_ret
    exact ⟨rfl, HB1.out⟩
  | true =>
  rw [g4] at HF
  by_cases g5 : 1100 < t.size
  · have g5i : (1100 : Int) < (t.size : Int) := by omega
    clear H g1 g2 g3 g4 g5
    go_enter Tryz.func3, Tryz.ntmps3
    go_wp2_with fail
    rw [HW0.out]
    refine (HA.out _).mono ?_
    rintro e w1 ⟨rfl, hb1⟩
    have HB1 := Lib.hid (HB0.out.trans (hb1.mono HB0.out.size))
    have HR1 := Lib.hid (keep_b hb1 HR0.out)
    have HP1 := Lib.hid (HP0.out.below hb1)
    clear hb1
    have c0 := cell_of HR1.out 0
    have c1 := cell_of HR1.out 1
    have c2 := cell_of HR1.out 2
    go_wp2_with fail
    refine (HF.out _ HP1.out).mono ?_
    rintro e w' ⟨rfl, rfl⟩
    go_wp2
    go_ret
    exact ⟨rfl, HB1.out⟩
  have g5i : ¬ (1100 : Int) < (t.size : Int) := by omega
  by_cases g6 : 1500 < b.size
  · have g6i : (1500 : Int) < (b.size : Int) := by omega
    clear H g1 g2 g3 g4 g5 g6
    go_enter Tryz.func3, Tryz.ntmps3
    go_wp2_with fail
    rw [HW0.out]
    refine (HA.out _).mono ?_
    rintro e w1 ⟨rfl, hb1⟩
    have HB1 := Lib.hid (HB0.out.trans (hb1.mono HB0.out.size))
    have HR1 := Lib.hid (keep_b hb1 HR0.out)
    have HP1 := Lib.hid (HP0.out.below hb1)
    clear hb1
    have c0 := cell_of HR1.out 0
    have c1 := cell_of HR1.out 1
    have c2 := cell_of HR1.out 2
    go_wp2_with fail
    refine (HF.out _ HP1.out).mono ?_
    rintro e w' ⟨rfl, rfl⟩
    go_wp2
    go_ret
    exact ⟨rfl, HB1.out⟩
  have g6i : ¬ (1500 : Int) < (b.size : Int) := by omega
  obtain ⟨f1, f2⟩ := (fewB_iff L).1 g4
  have hs6 : ∀ x ∈ L, x.1.size ≤ 1000000 ∧ x.2.size ≤ 1000000 := fun x hx => by have := f2 x hx; omega
  have C1 := Lib.hid fun W hP => build_any H k h L p cap t (by omega) hs6 W hP
  have C2 := Lib.hid fun W hP => rbuild_any H k h L p cap t (by omega) (by omega) hs6 W hP
  have C3 := Lib.hid fun W => parse_any b (by omega) W
  have C4 := Lib.hid fun W => rparse_any b (by omega) W
  have C5 := Lib.hid fun W hP => open_any H k b L p cap (by omega) (by omega) hs6 W hP
  have C6 := Lib.hid fun W hP => ropen_any H k b L p cap (by omega) (by omega) hs6 W hP
  obtain ⟨⟨s1, z1⟩, hq1⟩ : ∃ q, buildA sA k h L t = q := ⟨_, rfl⟩
  obtain ⟨⟨s2, z2⟩, hq2⟩ : ∃ q, openA oA k b L = q := ⟨_, rfl⟩
  obtain ⟨i3, n3, v3, z3, hq3⟩ := parse_two (partS b)
  rw [hq1] at C1 C2
  rw [hq2] at C5 C6
  rw [hq3] at C3 C4
  unfold hdV at C1 C2
  simp only [HN.out] at C1 C2 C5 C6
  have b1 := beq_str s1
  have b2 := beq_str s2
  have b3 := beq_str i3
  have b4 := beq_str n3
  clear H g1 g2 g3 g4 g5 g6 f1 f2 hs6 hq1 hq2 hq3
  go_enter Tryz.func3, Tryz.ntmps3
  go_wp2_with fail
  rw [HW0.out]
  refine (HA.out _).mono ?_
  rintro e w1 ⟨rfl, hb1⟩
  have HB1 := Lib.hid (HB0.out.trans (hb1.mono HB0.out.size))
  have HR1 := Lib.hid (keep_b hb1 HR0.out)
  have HP1 := Lib.hid (HP0.out.below hb1)
  clear hb1
  have c0 := cell_of HR1.out 0
  have c1 := cell_of HR1.out 1
  have c2 := cell_of HR1.out 2
  go_wp2_with fail
  refine (HF.out _ HP1.out).mono ?_
  rintro e w' ⟨rfl, rfl⟩
  go_wp2_with fail
  refine (C1.out _ HP1.out).mono ?_
  rintro e w2 ⟨rfl, hb2⟩
  have HB2 := Lib.hid (HB1.out.trans (hb2.mono HB1.out.size))
  have HR2 := Lib.hid (keep_b hb2 HR1.out)
  have HP2 := Lib.hid (HP1.out.below hb2)
  clear hb2 c0 c1 c2
  have c0 := cell_of HR2.out 0
  have c1 := cell_of HR2.out 1
  have c2 := cell_of HR2.out 2
  go_wp2_with fail
  refine (C2.out _ HP2.out).mono ?_
  rintro e w3 ⟨rfl, hb3⟩
  have HB3 := Lib.hid (HB2.out.trans (hb3.mono HB2.out.size))
  have HP3 := Lib.hid (HP2.out.below hb3)
  clear hb3 c0 c1 c2
  go_wp2_with fail
  refine (C3.out _).mono ?_
  rintro e w4 ⟨rfl, hb4⟩
  have HB4 := Lib.hid (HB3.out.trans (hb4.mono HB3.out.size))
  have HP4 := Lib.hid (HP3.out.below hb4)
  clear hb4
  go_wp2_with fail
  obtain ⟨w5, hw5⟩ : ∃ w5, w4.alloc (.cells #[.string i3, .int .i64 v3, .string n3] 23) = w5 := ⟨_, rfl⟩
  have hb5 : Below w4.heap.size w4 w5 := hw5 ▸ (Below.refl _ w4).alloc (Nat.le_refl _) _
  have HX5 : Hid (w5.heap[w4.heap.size]? = some (.cells #[.string i3, .int .i64 v3, .string n3] 23 (0, 0))) := Lib.hid (hw5 ▸ heap_alloc_new w4 _)
  have HB5 := Lib.hid (HB4.out.trans (hb5.mono HB4.out.size))
  have HP5 := Lib.hid (HP4.out.below hb5)
  rw [hw5]
  clear hb5 hw5
  refine (C4.out _).mono ?_
  rintro e w6 ⟨rfl, hb6⟩
  have HB6 := Lib.hid (HB5.out.trans (hb6.mono HB5.out.size))
  have HP6 := Lib.hid (HP5.out.below hb6)
  have HX6 := Lib.hid (keep_b hb6 HX5.out)
  clear hb6
  go_wp2_with fail
  obtain ⟨w7, hw7⟩ : ∃ w7, w6.alloc (.cells #[.string i3, .int .i64 v3, .string n3] 32) = w7 := ⟨_, rfl⟩
  have hb7 : Below w6.heap.size w6 w7 := hw7 ▸ (Below.refl _ w6).alloc (Nat.le_refl _) _
  have HY7 : Hid (w7.heap[w6.heap.size]? = some (.cells #[.string i3, .int .i64 v3, .string n3] 32 (0, 0))) := Lib.hid (hw7 ▸ heap_alloc_new w6 _)
  have HB7 := Lib.hid (HB6.out.trans (hb7.mono HB6.out.size))
  have HP7 := Lib.hid (HP6.out.below hb7)
  have HX7 := Lib.hid (keep_b hb7 HX6.out)
  rw [hw7]
  clear hb7 hw7
  refine (C5.out _ HP7.out).mono ?_
  rintro e w8 ⟨rfl, hb8⟩
  have HB8 := Lib.hid (HB7.out.trans (hb8.mono HB7.out.size))
  have HP8 := Lib.hid (HP7.out.below hb8)
  have HX8 := Lib.hid (keep_b hb8 HX7.out)
  have HY8 := Lib.hid (keep_b hb8 HY7.out)
  clear hb8
  go_wp2_with fail
  refine (C6.out _ HP8.out).mono ?_
  rintro e w9 ⟨rfl, hb9⟩
  have HB9 := Lib.hid (HB8.out.trans (hb9.mono HB8.out.size))
  have HX9 := Lib.hid (keep_b hb9 HX8.out)
  have HY9 := Lib.hid (keep_b hb9 HY8.out)
  clear hb9
  have c0 := cell_of HX9.out 0
  have c1 := cell_of HX9.out 1
  have c2 := cell_of HX9.out 2
  have d0 := cell_of HY9.out 0
  have d1 := cell_of HY9.out 1
  have d2 := cell_of HY9.out 2
  go_wp2
  go_ret
  exact ⟨rfl, HB9.out⟩
end Go.Proofs.YtfamoakicgmfgaaGreat.Lb

/- BlobHeads' own walk, given what the layer below answers. No condition. -/
import Derived.Test.YtfamoakicgmfgaaZD
namespace Go.Proofs.Ytfamoakicgmfgaa.Lb
open Go.RowKit Go.Own.Lb
variable {sA : ByteArray → ByteArray → ByteArray → ByteArray → ByteArray} {oA : ByteArray → ByteArray → ByteArray → ByteArray → ByteArray × Int}
theorem beq_str (s : ByteArray) : (s.toList == s.toList) = true := beq_self_eq_true _
/-- What is built, or refused. -/
theorem build_shape (H : Under sA oA) (k : ByteArray) (g : Hd) (L : List P2) (t : ByteArray) :
    (rightH g = true ∧ g.id.size ≤ 64 ∧ t.size ≤ 1024 ∧ ∃ S : ByteArray, S.size = t.size + 16 ∧ buildA sA k g L t = (laidH g ++ S, 0)) ∨ ∃ z : Int, z ≠ 0 ∧ buildA sA k g L t = ({ data := #[] }, z) := by
  unfold buildA
  by_cases h1 : rightP L = true ∧ rightH g = true ∧ k.size = 32
  · rw [if_pos h1]
    by_cases h2 : t.size ≤ 1024
    · rw [if_pos h2]
      exact Or.inl ⟨h1.2.1, (right_parts h1.2.1).1, h2, _, H.size _ _ _ _, rfl⟩
    · rw [if_neg h2]
      exact Or.inr ⟨3, by decide, rfl⟩
  · rw [if_neg h1]
    exact Or.inr ⟨2, by decide, rfl⟩
set_option maxRecDepth 100000 in
set_option maxHeartbeats 4000000 in
theorem heads_of (H : Under sA oA) (HAW : ∀ W, Calls Try.prog 4 #[] W fun e w' => e = .returned (.bool true) ∧ Below W.heap.size W w') (k : ByteArray) (g h : Hd) (L : List P2) (p : Option Addr) (cap : Nat) (t : ByteArray)
    (hL : L.length ≤ 9223372036854775807) (hs : ∀ x ∈ L, x.1.size ≤ 9223372036854775807 ∧ x.2.size ≤ 9223372036854775807) (w : World) (hP : PsC w (.slice p L.length cap) L) :
    Calls Try.prog 3 #[.string k, hdV g, hdV h, .slice p L.length cap, .string t] w fun e w' => e = .returned (.bool true) ∧ Below w.heap.size w w' := by
  obtain ⟨WA, hW0⟩ : ∃ W0, w.alloc (.cells #[.string g.id, .int .i64 g.ver, .string g.nonce] 23) = W0 := ⟨_, rfl⟩
  obtain ⟨W0, hW1⟩ : ∃ W0, WA.alloc (.cells #[.string h.id, .int .i64 h.ver, .string h.nonce] 23) = W0 := ⟨_, rfl⟩
  have hbA : Below w.heap.size w WA := hW0 ▸ (Below.refl _ w).alloc (Nat.le_refl _) _
  have hzA : WA.heap.size = w.heap.size + 1 := by rw [← hW0]; simp
  have hb0 : Below w.heap.size w W0 := hbA.trans (hW1 ▸ ((Below.refl _ WA).alloc hbA.size _))
  have hR0 : W0.heap[w.heap.size]? = some (.cells #[.string g.id, .int .i64 g.ver, .string g.nonce] 23 (0, 0)) := hW1 ▸ keep_b ((Below.refl _ WA).alloc (Nat.le_refl _) _) (hW0 ▸ heap_alloc_new w _)
  have hS0 : W0.heap[w.heap.size + 1]? = some (.cells #[.string h.id, .int .i64 h.ver, .string h.nonce] 23 (0, 0)) := by rw [← hzA, ← hW1]; exact heap_alloc_new WA _
  have HP0 := Lib.hid (hP.below hb0)
  have HA := Lib.hid HAW
  have HF := Lib.hid fun W h => few_any L p cap hL hs W h
  have HR0 := Lib.hid hR0
  have HS0 := Lib.hid hS0
  have HB0 := Lib.hid hb0
  have HW0 := Lib.hid hW0
  have HW1 := Lib.hid hW1
  clear hL hs hP hb0 hR0 hS0 HAW hW0 hW1 hbA hzA
  unfold hdV
  obtain ⟨n, hn⟩ : ∃ n, L.length = n := ⟨_, rfl⟩
  rw [hn] at HP0 HF ⊢
  have HN := Lib.hid hn
  clear hn
  cases g4 : fewB L with
  | false =>
    rw [g4] at HF
    clear H g4
    go_enter Try.func3, Try.ntmps3
    go_wp2_with fail
    rw [HW0.out, HW1.out]
    refine (HA.out _).mono ?_
    rintro e w1 ⟨rfl, hb1⟩
    have HB1 := Lib.hid (HB0.out.trans (hb1.mono HB0.out.size))
    have HR1 := Lib.hid (keep_b hb1 HR0.out)
    have HS1 := Lib.hid (keep_b hb1 HS0.out)
    have HP1 := Lib.hid (HP0.out.below hb1)
    clear hb1
    go_wp2_with fail
    refine (HF.out _ HP1.out).mono ?_
    rintro e w' ⟨rfl, rfl⟩
    go_wp2
    go_ret
    exact ⟨rfl, HB1.out⟩
  | true =>
  rw [g4] at HF
  by_cases g5 : 1100 < t.size
  · have g5i : (1100 : Int) < (t.size : Int) := by omega
    clear H g4 g5
    go_enter Try.func3, Try.ntmps3
    go_wp2_with fail
    rw [HW0.out, HW1.out]
    refine (HA.out _).mono ?_
    rintro e w1 ⟨rfl, hb1⟩
    have HB1 := Lib.hid (HB0.out.trans (hb1.mono HB0.out.size))
    have HR1 := Lib.hid (keep_b hb1 HR0.out)
    have HS1 := Lib.hid (keep_b hb1 HS0.out)
    have HP1 := Lib.hid (HP0.out.below hb1)
    clear hb1
    go_wp2_with fail
    refine (HF.out _ HP1.out).mono ?_
    rintro e w' ⟨rfl, rfl⟩
    go_wp2
    go_ret
    exact ⟨rfl, HB1.out⟩
  have g5i : ¬ (1100 : Int) < (t.size : Int) := by omega
  obtain ⟨f1, f2⟩ := (fewB_iff L).1 g4
  have hs6 : ∀ x ∈ L, x.1.size ≤ 1000000 ∧ x.2.size ≤ 1000000 := fun x hx => by have := f2 x hx; omega
  have C1 := Lib.hid fun W hP => build_any H k g L p cap t (by omega) hs6 W hP
  have C2 := Lib.hid fun W hP => build_any H k h L p cap t (by omega) hs6 W hP
  have sh1 := build_shape H k g L t
  have sh2 := build_shape H k h L t
  have hsame : g = h → buildA sA k g L t = buildA sA k h L t := fun e => by rw [e]
  generalize buildA sA k g L t = B1 at *
  generalize buildA sA k h L t = B2 at *
  unfold hdV at C1 C2
  simp only [HN.out] at C1 C2
  clear H f1 f2 hs6 g4 g5
  have q0 : (({ data := #[] } : ByteArray).toList == []) = true := by rw [ByteArray.toList_eq]; rfl
  rcases sh1 with ⟨r1, i1, t1, S1, s1, rfl⟩ | ⟨z, hz, rfl⟩
  case inr =>
    obtain ⟨sb, zb, hB2, hor⟩ : ∃ sb zb, B2 = (sb, zb) ∧ ((zb = 0) ∨ (¬ zb = 0 ∧ sb = { data := #[] })) := by
      rcases sh2 with ⟨_, _, _, S, _, rfl⟩ | ⟨z2, hz2, rfl⟩
      · exact ⟨_, _, rfl, Or.inl rfl⟩
      · exact ⟨_, _, rfl, Or.inr ⟨hz2, rfl⟩⟩
    subst hB2
    have hz1 : (z == 0) = false := by simpa using hz
    have hz2 : (z != 0) = true := by simpa using hz
    clear hsame sh2 hz
    rcases hor with rfl | ⟨hzb, rfl⟩
    · simp only at C1 C2
      go_enter Try.func3, Try.ntmps3
      go_wp2_with fail
      rw [HW0.out, HW1.out]
      refine (HA.out _).mono ?_
      rintro e w1 ⟨rfl, hb1⟩
      have HB1 := Lib.hid (HB0.out.trans (hb1.mono HB0.out.size))
      have HR1 := Lib.hid (keep_b hb1 HR0.out)
      have HS1 := Lib.hid (keep_b hb1 HS0.out)
      have HP1 := Lib.hid (HP0.out.below hb1)
      clear hb1
      go_wp2_with fail
      refine (HF.out _ HP1.out).mono ?_
      rintro e w' ⟨rfl, rfl⟩
      have c0 := cell_of HR1.out 0
      have c1 := cell_of HR1.out 1
      have c2 := cell_of HR1.out 2
      go_wp2_with fail
      refine (C1.out _ HP1.out).mono ?_
      rintro e w2 ⟨rfl, hb2⟩
      have HB2 := Lib.hid (HB1.out.trans (hb2.mono HB1.out.size))
      have HR2 := Lib.hid (keep_b hb2 HR1.out)
      have HS2 := Lib.hid (keep_b hb2 HS1.out)
      have HP2 := Lib.hid (HP1.out.below hb2)
      clear hb2 c0 c1 c2
      have c0 := cell_of HS2.out 0
      have c1 := cell_of HS2.out 1
      have c2 := cell_of HS2.out 2
      go_wp2_with fail
      refine (C2.out _ HP2.out).mono ?_
      rintro e w3 ⟨rfl, hb3⟩
      have HB3 := Lib.hid (HB2.out.trans (hb3.mono HB2.out.size))
      have HR3 := Lib.hid (keep_b hb3 HR2.out)
      have HS3 := Lib.hid (keep_b hb3 HS2.out)
      have HP3 := Lib.hid (HP2.out.below hb3)
      clear hb3 c0 c1 c2
      have c0 := cell_of HR3.out 0
      have c1 := cell_of HR3.out 1
      have c2 := cell_of HR3.out 2
      go_wp2_with fail
      refine (C1.out _ HP3.out).mono ?_
      rintro e w4 ⟨rfl, hb4⟩
      have HB4 := Lib.hid (HB3.out.trans (hb4.mono HB3.out.size))
      have HR4 := Lib.hid (keep_b hb4 HR3.out)
      have HS4 := Lib.hid (keep_b hb4 HS3.out)
      clear hb4 c0 c1 c2
      have c0 := cell_of HR4.out 0
      have c1 := cell_of HR4.out 1
      have c2 := cell_of HR4.out 2
      have d0 := cell_of HS4.out 0
      have d1 := cell_of HS4.out 1
      have d2 := cell_of HS4.out 2
      go_wp2
      go_ret
      exact ⟨rfl, HB4.out⟩
    · have hz3 : (zb == 0) = false := by simpa using hzb
      have hz4 : (zb != 0) = true := by simpa using hzb
      clear hzb
      simp only at C1 C2
      go_enter Try.func3, Try.ntmps3
      go_wp2_with fail
      rw [HW0.out, HW1.out]
      refine (HA.out _).mono ?_
      rintro e w1 ⟨rfl, hb1⟩
      have HB1 := Lib.hid (HB0.out.trans (hb1.mono HB0.out.size))
      have HR1 := Lib.hid (keep_b hb1 HR0.out)
      have HS1 := Lib.hid (keep_b hb1 HS0.out)
      have HP1 := Lib.hid (HP0.out.below hb1)
      clear hb1
      go_wp2_with fail
      refine (HF.out _ HP1.out).mono ?_
      rintro e w' ⟨rfl, rfl⟩
      have c0 := cell_of HR1.out 0
      have c1 := cell_of HR1.out 1
      have c2 := cell_of HR1.out 2
      go_wp2_with fail
      refine (C1.out _ HP1.out).mono ?_
      rintro e w2 ⟨rfl, hb2⟩
      have HB2 := Lib.hid (HB1.out.trans (hb2.mono HB1.out.size))
      have HR2 := Lib.hid (keep_b hb2 HR1.out)
      have HS2 := Lib.hid (keep_b hb2 HS1.out)
      have HP2 := Lib.hid (HP1.out.below hb2)
      clear hb2 c0 c1 c2
      have c0 := cell_of HS2.out 0
      have c1 := cell_of HS2.out 1
      have c2 := cell_of HS2.out 2
      go_wp2_with fail
      refine (C2.out _ HP2.out).mono ?_
      rintro e w3 ⟨rfl, hb3⟩
      have HB3 := Lib.hid (HB2.out.trans (hb3.mono HB2.out.size))
      have HR3 := Lib.hid (keep_b hb3 HR2.out)
      have HS3 := Lib.hid (keep_b hb3 HS2.out)
      have HP3 := Lib.hid (HP2.out.below hb3)
      clear hb3 c0 c1 c2
      have c0 := cell_of HR3.out 0
      have c1 := cell_of HR3.out 1
      have c2 := cell_of HR3.out 2
      go_wp2_with fail
      refine (C1.out _ HP3.out).mono ?_
      rintro e w4 ⟨rfl, hb4⟩
      have HB4 := Lib.hid (HB3.out.trans (hb4.mono HB3.out.size))
      have HR4 := Lib.hid (keep_b hb4 HR3.out)
      have HS4 := Lib.hid (keep_b hb4 HS3.out)
      clear hb4 c0 c1 c2
      have c0 := cell_of HR4.out 0
      have c1 := cell_of HR4.out 1
      have c2 := cell_of HR4.out 2
      have d0 := cell_of HS4.out 0
      have d1 := cell_of HS4.out 1
      have d2 := cell_of HS4.out 2
      go_wp2
      go_ret
      exact ⟨rfl, HB4.out⟩
  case inl =>
    rcases sh2 with ⟨r2, i2, t2, S2, s2, rfl⟩ | ⟨z, hz, rfl⟩
    case inr =>
      have hz1 : (z == 0) = false := by simpa using hz
      have hz2 : (z != 0) = true := by simpa using hz
      clear hsame hz r1 i1 t1 s1
      generalize laidH g ++ S1 = A at *
      simp only at C1 C2
      go_enter Try.func3, Try.ntmps3
      go_wp2_with fail
      rw [HW0.out, HW1.out]
      refine (HA.out _).mono ?_
      rintro e w1 ⟨rfl, hb1⟩
      have HB1 := Lib.hid (HB0.out.trans (hb1.mono HB0.out.size))
      have HR1 := Lib.hid (keep_b hb1 HR0.out)
      have HS1 := Lib.hid (keep_b hb1 HS0.out)
      have HP1 := Lib.hid (HP0.out.below hb1)
      clear hb1
      go_wp2_with fail
      refine (HF.out _ HP1.out).mono ?_
      rintro e w' ⟨rfl, rfl⟩
      have c0 := cell_of HR1.out 0
      have c1 := cell_of HR1.out 1
      have c2 := cell_of HR1.out 2
      go_wp2_with fail
      refine (C1.out _ HP1.out).mono ?_
      rintro e w2 ⟨rfl, hb2⟩
      have HB2 := Lib.hid (HB1.out.trans (hb2.mono HB1.out.size))
      have HR2 := Lib.hid (keep_b hb2 HR1.out)
      have HS2 := Lib.hid (keep_b hb2 HS1.out)
      have HP2 := Lib.hid (HP1.out.below hb2)
      clear hb2 c0 c1 c2
      have c0 := cell_of HS2.out 0
      have c1 := cell_of HS2.out 1
      have c2 := cell_of HS2.out 2
      go_wp2_with fail
      refine (C2.out _ HP2.out).mono ?_
      rintro e w3 ⟨rfl, hb3⟩
      have HB3 := Lib.hid (HB2.out.trans (hb3.mono HB2.out.size))
      have HR3 := Lib.hid (keep_b hb3 HR2.out)
      have HS3 := Lib.hid (keep_b hb3 HS2.out)
      have HP3 := Lib.hid (HP2.out.below hb3)
      clear hb3 c0 c1 c2
      have c0 := cell_of HR3.out 0
      have c1 := cell_of HR3.out 1
      have c2 := cell_of HR3.out 2
      go_wp2_with fail
      refine (C1.out _ HP3.out).mono ?_
      rintro e w4 ⟨rfl, hb4⟩
      have HB4 := Lib.hid (HB3.out.trans (hb4.mono HB3.out.size))
      have HR4 := Lib.hid (keep_b hb4 HR3.out)
      have HS4 := Lib.hid (keep_b hb4 HS3.out)
      clear hb4 c0 c1 c2
      have c0 := cell_of HR4.out 0
      have c1 := cell_of HR4.out 1
      have c2 := cell_of HR4.out 2
      have d0 := cell_of HS4.out 0
      have d1 := cell_of HS4.out 1
      have d2 := cell_of HS4.out 2
      go_wp2
      go_ret
      exact ⟨rfl, HB4.out⟩
    case inl =>
      have hls := laidH_size g
      obtain ⟨_, _, _, hn12⟩ := right_parts r1
      have hAs : (laidH g ++ S1).size = 3 + g.id.size + 1 + 12 + t.size + 16 := by rw [ByteArray.size_append]; omega
      have hinj : g ≠ h → laidH g ++ S1 ≠ laidH h ++ S2 := fun hne e => hne (laid_inj r1 r2 (by omega) (by omega) (by omega) (by omega) e)
      have hsame' : g = h → laidH g ++ S1 = laidH h ++ S2 := fun e => (Prod.mk.inj (hsame e)).1
      clear hsame hls
      generalize laidH g ++ S1 = A at *
      generalize laidH h ++ S2 = B at *
      simp only at C1 C2
      obtain ⟨ig, hig⟩ : ∃ ig, g.id.size = ig := ⟨_, rfl⟩
      obtain ⟨tt, htt⟩ : ∃ tt, t.size = tt := ⟨_, rfl⟩
      obtain ⟨az, has⟩ : ∃ az, A.size = az := ⟨_, rfl⟩
      have E1 : Hid ((az : Int) = 3 + (ig : Int) + 1 + 12 + (tt : Int) + 16) := Lib.hid (by omega)
      have HIG := Lib.hid hig
      have HTT := Lib.hid htt
      have HAS := Lib.hid has
      clear has htt hig hAs i1 i2 t1 t2 s1 s2 r1 r2 hn12
      have b1 := beq_str A
      by_cases hgh : g = h
      · subst hgh
        obtain rfl := hsame' rfl
        have b2 := beq_str g.id
        have b3 := beq_str g.nonce
        clear hinj hsame'
        go_enter Try.func3, Try.ntmps3
        go_wp2_with fail
        rw [HW0.out, HW1.out]
        refine (HA.out _).mono ?_
        rintro e w1 ⟨rfl, hb1⟩
        have HB1 := Lib.hid (HB0.out.trans (hb1.mono HB0.out.size))
        have HR1 := Lib.hid (keep_b hb1 HR0.out)
        have HS1 := Lib.hid (keep_b hb1 HS0.out)
        have HP1 := Lib.hid (HP0.out.below hb1)
        clear hb1
        go_wp2_with fail
        refine (HF.out _ HP1.out).mono ?_
        rintro e w' ⟨rfl, rfl⟩
        have c0 := cell_of HR1.out 0
        have c1 := cell_of HR1.out 1
        have c2 := cell_of HR1.out 2
        go_wp2_with fail
        refine (C1.out _ HP1.out).mono ?_
        rintro e w2 ⟨rfl, hb2⟩
        have HB2 := Lib.hid (HB1.out.trans (hb2.mono HB1.out.size))
        have HR2 := Lib.hid (keep_b hb2 HR1.out)
        have HS2 := Lib.hid (keep_b hb2 HS1.out)
        have HP2 := Lib.hid (HP1.out.below hb2)
        clear hb2 c0 c1 c2
        have c0 := cell_of HS2.out 0
        have c1 := cell_of HS2.out 1
        have c2 := cell_of HS2.out 2
        go_wp2_with fail
        refine (C2.out _ HP2.out).mono ?_
        rintro e w3 ⟨rfl, hb3⟩
        have HB3 := Lib.hid (HB2.out.trans (hb3.mono HB2.out.size))
        have HR3 := Lib.hid (keep_b hb3 HR2.out)
        have HS3 := Lib.hid (keep_b hb3 HS2.out)
        have HP3 := Lib.hid (HP2.out.below hb3)
        clear hb3 c0 c1 c2
        have c0 := cell_of HR3.out 0
        have c1 := cell_of HR3.out 1
        have c2 := cell_of HR3.out 2
        go_wp2_with fail
        refine (C1.out _ HP3.out).mono ?_
        rintro e w4 ⟨rfl, hb4⟩
        have HB4 := Lib.hid (HB3.out.trans (hb4.mono HB3.out.size))
        have HR4 := Lib.hid (keep_b hb4 HR3.out)
        have HS4 := Lib.hid (keep_b hb4 HS3.out)
        clear hb4 c0 c1 c2
        have c0 := cell_of HR4.out 0
        have c1 := cell_of HR4.out 1
        have c2 := cell_of HR4.out 2
        have d0 := cell_of HS4.out 0
        have d1 := cell_of HS4.out 1
        have d2 := cell_of HS4.out 2
        have hig := HIG.out
        have htt := HTT.out
        have has := HAS.out
        have e1 := E1.out
        go_wp2
        go_ret
        exact ⟨rfl, HB4.out⟩
      · have hAB := str_ff (hinj hgh)
        clear hinj hsame'
        have hd : ((g.id.toList == h.id.toList) = false) ∨ ((g.id.toList == h.id.toList) = true ∧ (g.ver == h.ver) = false) ∨ ((g.id.toList == h.id.toList) = true ∧ (g.ver == h.ver) = true ∧ (g.nonce.toList == h.nonce.toList) = false) := by
          by_cases q1 : g.id = h.id
          · refine Or.inr ?_
            rw [q1]
            by_cases q2 : g.ver = h.ver
            · refine Or.inr ⟨beq_str _, by simpa using q2, str_ff fun q3 => hgh ?_⟩
              cases g; cases h; simp_all
            · exact Or.inl ⟨beq_str _, by simpa using q2⟩
          · exact Or.inl (str_ff q1)
        clear hgh
        rcases hd with x1 | ⟨x1, x2⟩ | ⟨x1, x2, x3⟩
        all_goals
          go_enter Try.func3, Try.ntmps3
          go_wp2_with fail
          rw [HW0.out, HW1.out]
          refine (HA.out _).mono ?_
          rintro e w1 ⟨rfl, hb1⟩
          have HB1 := Lib.hid (HB0.out.trans (hb1.mono HB0.out.size))
          have HR1 := Lib.hid (keep_b hb1 HR0.out)
          have HS1 := Lib.hid (keep_b hb1 HS0.out)
          have HP1 := Lib.hid (HP0.out.below hb1)
          clear hb1
          go_wp2_with fail
          refine (HF.out _ HP1.out).mono ?_
          rintro e w' ⟨rfl, rfl⟩
          have c0 := cell_of HR1.out 0
          have c1 := cell_of HR1.out 1
          have c2 := cell_of HR1.out 2
          go_wp2_with fail
          refine (C1.out _ HP1.out).mono ?_
          rintro e w2 ⟨rfl, hb2⟩
          have HB2 := Lib.hid (HB1.out.trans (hb2.mono HB1.out.size))
          have HR2 := Lib.hid (keep_b hb2 HR1.out)
          have HS2 := Lib.hid (keep_b hb2 HS1.out)
          have HP2 := Lib.hid (HP1.out.below hb2)
          clear hb2 c0 c1 c2
          have c0 := cell_of HS2.out 0
          have c1 := cell_of HS2.out 1
          have c2 := cell_of HS2.out 2
          go_wp2_with fail
          refine (C2.out _ HP2.out).mono ?_
          rintro e w3 ⟨rfl, hb3⟩
          have HB3 := Lib.hid (HB2.out.trans (hb3.mono HB2.out.size))
          have HR3 := Lib.hid (keep_b hb3 HR2.out)
          have HS3 := Lib.hid (keep_b hb3 HS2.out)
          have HP3 := Lib.hid (HP2.out.below hb3)
          clear hb3 c0 c1 c2
          have c0 := cell_of HR3.out 0
          have c1 := cell_of HR3.out 1
          have c2 := cell_of HR3.out 2
          go_wp2_with fail
          refine (C1.out _ HP3.out).mono ?_
          rintro e w4 ⟨rfl, hb4⟩
          have HB4 := Lib.hid (HB3.out.trans (hb4.mono HB3.out.size))
          have HR4 := Lib.hid (keep_b hb4 HR3.out)
          have HS4 := Lib.hid (keep_b hb4 HS3.out)
          clear hb4 c0 c1 c2
          have c0 := cell_of HR4.out 0
          have c1 := cell_of HR4.out 1
          have c2 := cell_of HR4.out 2
          have d0 := cell_of HS4.out 0
          have d1 := cell_of HS4.out 1
          have d2 := cell_of HS4.out 2
          have hig := HIG.out
          have htt := HTT.out
          have has := HAS.out
          have e1 := E1.out
          go_wp2
          go_ret
          exact ⟨rfl, HB4.out⟩
end Go.Proofs.Ytfamoakicgmfgaa.Lb

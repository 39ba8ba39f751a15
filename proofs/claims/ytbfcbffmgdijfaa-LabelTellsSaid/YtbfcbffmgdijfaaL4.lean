/- LabelTells' own walk. -/
import Derived.Test.YtbfcbffmgdijfaaA2
import Derived.Test.YtbfcbffmgdijfaaF1
import Derived.Test.YtbfcbffmgdijfaaD2
import Derived.Test.YtbfcbffmgdijfaaR8
namespace Go.Proofs.Ytbfcbffmgdijfaa
open Go.RowKit Go.Own
theorem len_of_subset {α : Type} : ∀ {A B : List α}, A.Nodup → (∀ x ∈ A, x ∈ B) → A.length ≤ B.length
  | [], _, _, _ => Nat.zero_le _
  | x :: A, B, hn, hs => by
    obtain ⟨B1, B2, rfl⟩ := List.append_of_mem (hs x (by simp))
    rw [List.nodup_cons] at hn
    have ih := len_of_subset (A := A) (B := B1 ++ B2) hn.2 (fun y hy => by
      have h1 := hs y (by simp [hy])
      rcases List.mem_append.1 h1 with h2 | h2
      · exact List.mem_append.2 (Or.inl h2)
      · rcases List.mem_cons.1 h2 with h3 | h3
        · exact absurd (h3 ▸ hy) hn.1
        · exact List.mem_append.2 (Or.inr h3))
    simp at ih ⊢; omega
theorem eqB_both (A B : List P2) : eqB A B = (subB A B && subB B A) := by
  rw [Bool.eq_iff_iff, Bool.and_eq_true, eqB_iff, subB_iff, subB_iff]
  refine ⟨fun ⟨h1, h2, h3⟩ => ⟨⟨h1, h2, fun x hx => h3.mem_iff.1 hx⟩, h2, h1, fun x hx => h3.mem_iff.2 hx⟩, fun ⟨⟨h1, h2, h3⟩, _, _, h4⟩ => ⟨h1, h2, ?_⟩⟩
  have n1 := nodup_of_keys ((rightP_iff A).1 h1).2.2
  have n2 := nodup_of_keys ((rightP_iff B).1 h2).2.2
  exact perm_of_subset n1 h3 (Nat.le_antisymm (len_of_subset n1 h3) (len_of_subset n2 h4))
theorem textR_shape (L : List P2) : ∃ (t : ByteArray) (c : Int), textR L = .tuple #[.string t, .int .i64 c] := by
  unfold textR; split
  · exact ⟨_, _, rfl⟩
  · exact ⟨_, _, rfl⟩
set_option maxRecDepth 100000 in
set_option maxHeartbeats 1000000 in
theorem tells_skip (x s : ByteArray) (A B : List P2) (p q : Option Addr) (cp cq : Nat) (hA : A.length ≤ 9223372036854775807) (hB : B.length ≤ 9223372036854775807) (hsA : ∀ x ∈ A, x.1.size ≤ 9223372036854775807 ∧ x.2.size ≤ 9223372036854775807) (hsB : ∀ x ∈ B, x.1.size ≤ 9223372036854775807 ∧ x.2.size ≤ 9223372036854775807) (hx : x.size ≤ 9223372036854775807) (hss : s.size ≤ 9223372036854775807)
    (h : 300 < x.size ∨ (x.size ≤ 300 ∧ fewB A = false) ∨ (x.size ≤ 300 ∧ fewB A = true ∧ fewB B = false) ∨ (x.size ≤ 300 ∧ fewB A = true ∧ fewB B = true ∧ 1500 < s.size)) (w : World) (hP : PsC w (.slice p A.length cp) A) (hQ : PsC w (.slice q B.length cq) B) :
    Calls Try.prog 3 #[.string x, .slice p A.length cp, .slice q B.length cq, .string s] w fun e w' => e = .returned (.bool true) ∧ Below w.heap.size w w' := by
  have HA := Lib.hid (fun W => awake_any W)
  have HF := Lib.hid (fun W (h : PsC W (.slice p A.length cp) A) => few_any A p cp hA hsA W h)
  have HG := Lib.hid (fun W (h : PsC W (.slice q B.length cq) B) => few_any B q cq hB hsB W h)
  have HP := Lib.hid hP
  have HQ := Lib.hid hQ
  obtain ⟨n, hn⟩ : ∃ n, A.length = n := ⟨_, rfl⟩
  obtain ⟨m, hm⟩ : ∃ m, B.length = m := ⟨_, rfl⟩
  rw [hn] at hA HF HP ⊢
  rw [hm] at hB HG HQ ⊢
  clear hn hm hP hQ hsA hsB
  rcases h with h1 | ⟨h1, h2⟩ | ⟨h1, h2, h3⟩ | ⟨h1, h2, h3, h4⟩
  · have d1 : (300 : Int) < (x.size : Int) := by omega
    clear HF HG h1
    go_enter Try.func3, Try.ntmps3
    go_wp2_with fail
    refine (HA.out _).mono ?_
    rintro e w1 ⟨rfl, hb1⟩
    have HB1 := Lib.hid hb1
    clear hb1
    go_wp2
    go_ret
    exact ⟨rfl, HB1.out⟩
  · have d1 : ¬ (300 : Int) < (x.size : Int) := by omega
    rw [h2] at HF
    clear h2 HG h1
    go_enter Try.func3, Try.ntmps3
    go_wp2_with fail
    refine (HA.out _).mono ?_
    rintro e w1 ⟨rfl, hb1⟩
    have HB1 := Lib.hid hb1
    have HP1 := Lib.hid (HP.out.below hb1)
    clear hb1
    go_wp2_with fail
    refine (HF.out w1 HP1.out).mono ?_
    rintro e w2 ⟨rfl, rfl⟩
    go_wp2
    go_ret
    exact ⟨rfl, HB1.out⟩
  · have d1 : ¬ (300 : Int) < (x.size : Int) := by omega
    rw [h2] at HF
    rw [h3] at HG
    clear h2 h3 h1
    go_enter Try.func3, Try.ntmps3
    go_wp2_with fail
    refine (HA.out _).mono ?_
    rintro e w1 ⟨rfl, hb1⟩
    have HB1 := Lib.hid hb1
    have HP1 := Lib.hid (HP.out.below hb1)
    have HQ1 := Lib.hid (HQ.out.below hb1)
    clear hb1
    go_wp2_with fail
    refine (HF.out w1 HP1.out).mono ?_
    rintro e w2 ⟨rfl, rfl⟩
    go_wp2_with fail
    refine (HG.out w1 HQ1.out).mono ?_
    rintro e w2 ⟨rfl, rfl⟩
    go_wp2
    go_ret
    exact ⟨rfl, HB1.out⟩
  · have d1 : ¬ (300 : Int) < (x.size : Int) := by omega
    have d2 : (1500 : Int) < (s.size : Int) := by omega
    rw [h2] at HF
    rw [h3] at HG
    clear h2 h3 h1 h4
    go_enter Try.func3, Try.ntmps3
    go_wp2_with fail
    refine (HA.out _).mono ?_
    rintro e w1 ⟨rfl, hb1⟩
    have HB1 := Lib.hid hb1
    have HP1 := Lib.hid (HP.out.below hb1)
    have HQ1 := Lib.hid (HQ.out.below hb1)
    clear hb1
    go_wp2_with fail
    refine (HF.out w1 HP1.out).mono ?_
    rintro e w2 ⟨rfl, rfl⟩
    go_wp2_with fail
    refine (HG.out w1 HQ1.out).mono ?_
    rintro e w2 ⟨rfl, rfl⟩
    go_wp2
    go_ret
    exact ⟨rfl, HB1.out⟩
set_option maxRecDepth 100000 in
set_option maxHeartbeats 4000000 in
theorem tells_main (x s : ByteArray) (A B : List P2) (p q : Option Addr) (cp cq : Nat) (hA : fewB A = true) (hB : fewB B = true) (hx : x.size ≤ 300) (hss : s.size ≤ 1500)
    (w : World) (hP : PsC w (.slice p A.length cp) A) (hQ : PsC w (.slice q B.length cq) B) :
    Calls Try.prog 3 #[.string x, .slice p A.length cp, .slice q B.length cq, .string s] w fun e w' => e = .returned (.bool true) ∧ Below w.heap.size w w' := by
  obtain ⟨hAl, hAs⟩ := (fewB_iff A).1 hA
  obtain ⟨hBl, hBs⟩ := (fewB_iff B).1 hB
  have hA6 : ∀ u ∈ A, u.1.size ≤ 1000000 ∧ u.2.size ≤ 1000000 := fun u hu => by have := hAs u hu; omega
  have hB6 : ∀ u ∈ B, u.1.size ≤ 1000000 ∧ u.2.size ≤ 1000000 := fun u hu => by have := hBs u hu; omega
  have hA9 : ∀ u ∈ A, u.1.size ≤ 9223372036854775807 ∧ u.2.size ≤ 9223372036854775807 := fun u hu => by have := hAs u hu; omega
  have hB9 : ∀ u ∈ B, u.1.size ≤ 9223372036854775807 ∧ u.2.size ≤ 9223372036854775807 := fun u hu => by have := hBs u hu; omega
  have HA := Lib.hid (fun W => awake_any W)
  have HF := fun W (h : PsC W (.slice p A.length cp) A) => few_any A p cp (by omega) hA9 W h
  have HG := fun W (h : PsC W (.slice q B.length cq) B) => few_any B q cq (by omega) hB9 W h
  rw [hA] at HF
  rw [hB] at HG
  obtain ⟨ts, tc, hts⟩ := textR_shape A
  have HT := fun W (h : PsC W (.slice p A.length cp) A) => text_any A p cp (by omega) hA6 W h
  have HU := fun W (h : PsC W (.slice p A.length cp) A) => refText_any A p cp (by omega) hA6 W h
  rw [hts] at HT HU
  have HN := fun W => runes_any x W
  have HO := fun W => refRunes_any x (by omega) W
  have HR := fun W => right_any x W
  obtain ⟨k, hk⟩ : ∃ k, runesN x = k := ⟨_, rfl⟩
  obtain ⟨kb, hkb⟩ : ∃ kb, decide (0 < k) = kb := ⟨_, rfl⟩
  rw [hk] at HN HO HR
  rw [hkb] at HR
  have HS1 := fun W g h => subset_any A p cp (by omega) hA6 B q cq (by omega) hB6 W g h
  have HS2 := fun W g h => refSubset_any A p cp (by omega) hA6 B q cq (by omega) hB6 W g h
  have HS3 := fun W g h => refSubset_any B q cq (by omega) hB6 A p cp (by omega) hA6 W g h
  have HE := fun W g h => equal_any A p cp (by omega) hA6 B q cq (by omega) hB6 W g h
  have hee := eqB_both A B
  obtain ⟨b1, hb1⟩ : ∃ b, subB A B = b := ⟨_, rfl⟩
  obtain ⟨b2, hb2⟩ : ∃ b, subB B A = b := ⟨_, rfl⟩
  rw [hb1] at HS1 HS2 hee
  rw [hb2] at HS3 hee
  rw [hee] at HE
  obtain ⟨n, hn⟩ : ∃ n, A.length = n := ⟨_, rfl⟩
  obtain ⟨m, hm⟩ : ∃ m, B.length = m := ⟨_, rfl⟩
  rw [hn] at HF HT HU HS1 HS2 HS3 HE hP hAl ⊢
  rw [hm] at HG HS1 HS2 HS3 HE hQ hBl ⊢
  replace HF := Lib.hid HF
  replace HG := Lib.hid HG
  replace HT := Lib.hid HT
  replace HU := Lib.hid HU
  replace HN := Lib.hid HN
  replace HO := Lib.hid HO
  replace HR := Lib.hid HR
  replace HS1 := Lib.hid HS1
  replace HS2 := Lib.hid HS2
  replace HS3 := Lib.hid HS3
  have HP := Lib.hid hP
  have HQ := Lib.hid hQ
  clear hb1 hb2 hee hn hm hP hQ hk hts hA hB hA6 hB6 hA9 hB9 hAs hBs hAl hBl
  have hpo : (OkS s ∧ ∀ W, Calls Try.prog 11 #[.string s] W fun e w' => ∃ v, e = .returned (.tuple #[v, .int .i64 0]) ∧ PsC w' v (rd 8 s) ∧ Below W.heap.size W w') ∨ (¬ OkS s ∧ ∀ W, Calls Try.prog 11 #[.string s] W fun e w' => e = .returned (.tuple #[.slice none 0 0, .int .i64 2]) ∧ Below W.heap.size W w') := by
    by_cases h : OkS s
    · exact Or.inl ⟨h, fun W => parse_ok s (by omega) h W⟩
    · exact Or.inr ⟨h, fun W => parse_bad s (by omega) h W⟩
  have HRP := Lib.hid (fun W => refParse_any s hss W)
  have hrl := rd_length 8 s
  have HSM := Lib.hid (fun p c p' c' W (g : PsC W (.slice p (rd 8 s).length c) (rd 8 s)) (h : PsC W (.slice p' (rd 8 s).length c') (rd 8 s)) => same_any (rd 8 s) p c (by omega) p' c' W g h)
  have HSN := Lib.hid (fun W (g : PsC W (.slice none 0 0) []) => same_any [] none 0 (by simp) none 0 W g g)
  have hnil : ∀ W, PsC W (.slice none 0 0) [] := fun W => ⟨none, 0, rfl, Nat.le_refl _, fun j u hu => by simp [cellsP] at hu⟩
  have HNIL := Lib.hid hnil
  obtain ⟨R, hR⟩ : ∃ R, rd 8 s = R := ⟨_, rfl⟩
  obtain ⟨nr, hnr⟩ : ∃ nr, R.length = nr := ⟨_, rfl⟩
  simp only [hR] at hpo HRP HSM hrl
  rw [hnr] at HSM hrl
  have HNR := Lib.hid hnr
  clear hnil hR hnr
  have d1 : ¬ (300 : Int) < (x.size : Int) := by omega
  have d2 : ¬ (1500 : Int) < (s.size : Int) := by omega
  have et := str_tt ts
  rcases hpo with ⟨hok, hpo⟩ | ⟨hok, hpo⟩
  · have HOK := Lib.hid hok
    have HPO := Lib.hid hpo
    clear hok hpo
    cases b1 with
    | false =>
      rw [Bool.false_and] at HE
      replace HE := Lib.hid HE
      go_enter Try.func3, Try.ntmps3
      go_wp2_with fail
      refine (HA.out _).mono ?_
      rintro e w1 ⟨rfl, hb1⟩
      have HB1 := Lib.hid hb1
      have HP1 := Lib.hid (HP.out.below hb1)
      have HQ1 := Lib.hid (HQ.out.below hb1)
      clear hb1
      go_wp2_with fail
      refine (HF.out w1 HP1.out).mono ?_
      rintro e w2 ⟨rfl, rfl⟩
      go_wp2_with fail
      refine (HG.out w1 HQ1.out).mono ?_
      rintro e w2 ⟨rfl, rfl⟩
      go_wp2_with fail
      refine (HT.out w1 HP1.out).mono ?_
      rintro e w2 ⟨rfl, hb2⟩
      have HB2 := Lib.hid (HB1.out.trans (hb2.mono HB1.out.size))
      clear hb2
      go_wp2_with fail
      refine (HU.out w2 (HP.out.below HB2.out)).mono ?_
      rintro e w3 ⟨rfl, hb3⟩
      have HB3 := Lib.hid (HB2.out.trans (hb3.mono HB2.out.size))
      clear hb3
      go_wp2_with fail
      refine (HPO.out w3).mono ?_
      rintro e w4 ⟨v4, rfl, hv4, hb4⟩
      obtain ⟨p4, c4, rfl, _, _⟩ := id hv4
      rw [HNR.out] at hv4 ⊢
      have HB4 := Lib.hid (HB3.out.trans (hb4.mono HB3.out.size))
      have HV4 := Lib.hid hv4
      clear hb4 hv4
      go_wp2_with fail
      refine (HRP.out w4).mono ?_
      rintro e w5 ⟨⟨_, v5, rfl, hv5⟩ | ⟨h, _⟩, hb5⟩
      case inr => exact absurd HOK.out h
      obtain ⟨p5, c5, rfl, _, _⟩ := id hv5
      rw [HNR.out] at hv5 ⊢
      have HB5 := Lib.hid (HB4.out.trans (hb5.mono HB4.out.size))
      have HV5 := Lib.hid hv5
      have HV45 := Lib.hid (HV4.out.below hb5)
      clear hb5 hv5
      go_wp2_with fail
      refine (HO.out w5).mono ?_
      rintro e w6 ⟨rfl, rfl⟩
      go_wp2_with fail
      refine (HN.out w5).mono ?_
      rintro e w6 ⟨rfl, hb6⟩
      have HB6 := Lib.hid (HB5.out.trans (hb6.mono HB5.out.size))
      have HC6 := Lib.hid hb6
      clear hb6
      go_wp2_with fail
      refine (HR.out w6).mono ?_
      rintro e w7 ⟨rfl, hb7⟩
      have HB7 := Lib.hid (HB6.out.trans (hb7.mono HB6.out.size))
      have HC7 := Lib.hid (HC6.out.trans (hb7.mono HC6.out.size))
      clear hb7
      go_wp2_with fail
      refine (HSM.out p4 c4 p5 c5 w7 (HV45.out.below HC7.out) (HV5.out.below HC7.out)).mono ?_
      rintro e w8 ⟨rfl, hb8⟩
      have HB8 := Lib.hid (HB7.out.trans (hb8.mono HB7.out.size))
      clear hb8
      go_wp2_with fail
      refine (HS1.out w8 (HP.out.below HB8.out) (HQ.out.below HB8.out)).mono ?_
      rintro e w9 ⟨rfl, hb9⟩
      have HB9 := Lib.hid (HB8.out.trans (hb9.mono HB8.out.size))
      clear hb9
      go_wp2_with fail
      refine (HS2.out w9 (HP.out.below HB9.out) (HQ.out.below HB9.out)).mono ?_
      rintro e w10 ⟨rfl, hb10⟩
      have HB10 := Lib.hid (HB9.out.trans (hb10.mono HB9.out.size))
      clear hb10
      go_wp2_with fail
      refine (HE.out w10 (HP.out.below HB10.out) (HQ.out.below HB10.out)).mono ?_
      rintro e w11 ⟨rfl, hb11⟩
      have HB11 := Lib.hid (HB10.out.trans (hb11.mono HB10.out.size))
      clear hb11
      go_wp2_with fail
      refine (HS2.out w11 (HP.out.below HB11.out) (HQ.out.below HB11.out)).mono ?_
      rintro e w12 ⟨rfl, hb12⟩
      have HB12 := Lib.hid (HB11.out.trans (hb12.mono HB11.out.size))
      clear hb12
      go_wp2
      go_ret
      exact ⟨rfl, HB12.out⟩
    | true =>
      rw [Bool.true_and] at HE
      replace HE := Lib.hid HE
      go_enter Try.func3, Try.ntmps3
      go_wp2_with fail
      refine (HA.out _).mono ?_
      rintro e w1 ⟨rfl, hb1⟩
      have HB1 := Lib.hid hb1
      have HP1 := Lib.hid (HP.out.below hb1)
      have HQ1 := Lib.hid (HQ.out.below hb1)
      clear hb1
      go_wp2_with fail
      refine (HF.out w1 HP1.out).mono ?_
      rintro e w2 ⟨rfl, rfl⟩
      go_wp2_with fail
      refine (HG.out w1 HQ1.out).mono ?_
      rintro e w2 ⟨rfl, rfl⟩
      go_wp2_with fail
      refine (HT.out w1 HP1.out).mono ?_
      rintro e w2 ⟨rfl, hb2⟩
      have HB2 := Lib.hid (HB1.out.trans (hb2.mono HB1.out.size))
      clear hb2
      go_wp2_with fail
      refine (HU.out w2 (HP.out.below HB2.out)).mono ?_
      rintro e w3 ⟨rfl, hb3⟩
      have HB3 := Lib.hid (HB2.out.trans (hb3.mono HB2.out.size))
      clear hb3
      go_wp2_with fail
      refine (HPO.out w3).mono ?_
      rintro e w4 ⟨v4, rfl, hv4, hb4⟩
      obtain ⟨p4, c4, rfl, _, _⟩ := id hv4
      rw [HNR.out] at hv4 ⊢
      have HB4 := Lib.hid (HB3.out.trans (hb4.mono HB3.out.size))
      have HV4 := Lib.hid hv4
      clear hb4 hv4
      go_wp2_with fail
      refine (HRP.out w4).mono ?_
      rintro e w5 ⟨⟨_, v5, rfl, hv5⟩ | ⟨h, _⟩, hb5⟩
      case inr => exact absurd HOK.out h
      obtain ⟨p5, c5, rfl, _, _⟩ := id hv5
      rw [HNR.out] at hv5 ⊢
      have HB5 := Lib.hid (HB4.out.trans (hb5.mono HB4.out.size))
      have HV5 := Lib.hid hv5
      have HV45 := Lib.hid (HV4.out.below hb5)
      clear hb5 hv5
      go_wp2_with fail
      refine (HO.out w5).mono ?_
      rintro e w6 ⟨rfl, rfl⟩
      go_wp2_with fail
      refine (HN.out w5).mono ?_
      rintro e w6 ⟨rfl, hb6⟩
      have HB6 := Lib.hid (HB5.out.trans (hb6.mono HB5.out.size))
      have HC6 := Lib.hid hb6
      clear hb6
      go_wp2_with fail
      refine (HR.out w6).mono ?_
      rintro e w7 ⟨rfl, hb7⟩
      have HB7 := Lib.hid (HB6.out.trans (hb7.mono HB6.out.size))
      have HC7 := Lib.hid (HC6.out.trans (hb7.mono HC6.out.size))
      clear hb7
      go_wp2_with fail
      refine (HSM.out p4 c4 p5 c5 w7 (HV45.out.below HC7.out) (HV5.out.below HC7.out)).mono ?_
      rintro e w8 ⟨rfl, hb8⟩
      have HB8 := Lib.hid (HB7.out.trans (hb8.mono HB7.out.size))
      clear hb8
      go_wp2_with fail
      refine (HS1.out w8 (HP.out.below HB8.out) (HQ.out.below HB8.out)).mono ?_
      rintro e w9 ⟨rfl, hb9⟩
      have HB9 := Lib.hid (HB8.out.trans (hb9.mono HB8.out.size))
      clear hb9
      go_wp2_with fail
      refine (HS2.out w9 (HP.out.below HB9.out) (HQ.out.below HB9.out)).mono ?_
      rintro e w10 ⟨rfl, hb10⟩
      have HB10 := Lib.hid (HB9.out.trans (hb10.mono HB9.out.size))
      clear hb10
      go_wp2_with fail
      refine (HE.out w10 (HP.out.below HB10.out) (HQ.out.below HB10.out)).mono ?_
      rintro e w11 ⟨rfl, hb11⟩
      have HB11 := Lib.hid (HB10.out.trans (hb11.mono HB10.out.size))
      clear hb11
      go_wp2_with fail
      refine (HS2.out w11 (HP.out.below HB11.out) (HQ.out.below HB11.out)).mono ?_
      rintro e w12 ⟨rfl, hb12⟩
      have HB12 := Lib.hid (HB11.out.trans (hb12.mono HB11.out.size))
      clear hb12
      go_wp2_with fail
      refine (HS3.out w12 (HQ.out.below HB12.out) (HP.out.below HB12.out)).mono ?_
      rintro e w13 ⟨rfl, hb13⟩
      have HB13 := Lib.hid (HB12.out.trans (hb13.mono HB12.out.size))
      clear hb13
      go_wp2
      go_ret
      exact ⟨rfl, HB13.out⟩
  · have HOK := Lib.hid hok
    have HPO := Lib.hid hpo
    clear hok hpo
    cases b1 with
    | false =>
      rw [Bool.false_and] at HE
      replace HE := Lib.hid HE
      go_enter Try.func3, Try.ntmps3
      go_wp2_with fail
      refine (HA.out _).mono ?_
      rintro e w1 ⟨rfl, hb1⟩
      have HB1 := Lib.hid hb1
      have HP1 := Lib.hid (HP.out.below hb1)
      have HQ1 := Lib.hid (HQ.out.below hb1)
      clear hb1
      go_wp2_with fail
      refine (HF.out w1 HP1.out).mono ?_
      rintro e w2 ⟨rfl, rfl⟩
      go_wp2_with fail
      refine (HG.out w1 HQ1.out).mono ?_
      rintro e w2 ⟨rfl, rfl⟩
      go_wp2_with fail
      refine (HT.out w1 HP1.out).mono ?_
      rintro e w2 ⟨rfl, hb2⟩
      have HB2 := Lib.hid (HB1.out.trans (hb2.mono HB1.out.size))
      clear hb2
      go_wp2_with fail
      refine (HU.out w2 (HP.out.below HB2.out)).mono ?_
      rintro e w3 ⟨rfl, hb3⟩
      have HB3 := Lib.hid (HB2.out.trans (hb3.mono HB2.out.size))
      clear hb3
      go_wp2_with fail
      refine (HPO.out w3).mono ?_
      rintro e w4 ⟨rfl, hb4⟩
      have HB4 := Lib.hid (HB3.out.trans (hb4.mono HB3.out.size))
      clear hb4
      go_wp2_with fail
      refine (HRP.out w4).mono ?_
      rintro e w5 ⟨⟨h, _⟩ | ⟨_, rfl⟩, hb5⟩
      case inl => exact absurd h HOK.out
      have HB5 := Lib.hid (HB4.out.trans (hb5.mono HB4.out.size))
      clear hb5
      go_wp2_with fail
      refine (HO.out w5).mono ?_
      rintro e w6 ⟨rfl, rfl⟩
      go_wp2_with fail
      refine (HN.out w5).mono ?_
      rintro e w6 ⟨rfl, hb6⟩
      have HB6 := Lib.hid (HB5.out.trans (hb6.mono HB5.out.size))
      have HC6 := Lib.hid hb6
      clear hb6
      go_wp2_with fail
      refine (HR.out w6).mono ?_
      rintro e w7 ⟨rfl, hb7⟩
      have HB7 := Lib.hid (HB6.out.trans (hb7.mono HB6.out.size))
      have HC7 := Lib.hid (HC6.out.trans (hb7.mono HC6.out.size))
      clear hb7
      go_wp2_with fail
      refine (HSN.out w7 (HNIL.out w7)).mono ?_
      rintro e w8 ⟨rfl, hb8⟩
      have HB8 := Lib.hid (HB7.out.trans (hb8.mono HB7.out.size))
      clear hb8
      go_wp2_with fail
      refine (HS1.out w8 (HP.out.below HB8.out) (HQ.out.below HB8.out)).mono ?_
      rintro e w9 ⟨rfl, hb9⟩
      have HB9 := Lib.hid (HB8.out.trans (hb9.mono HB8.out.size))
      clear hb9
      go_wp2_with fail
      refine (HS2.out w9 (HP.out.below HB9.out) (HQ.out.below HB9.out)).mono ?_
      rintro e w10 ⟨rfl, hb10⟩
      have HB10 := Lib.hid (HB9.out.trans (hb10.mono HB9.out.size))
      clear hb10
      go_wp2_with fail
      refine (HE.out w10 (HP.out.below HB10.out) (HQ.out.below HB10.out)).mono ?_
      rintro e w11 ⟨rfl, hb11⟩
      have HB11 := Lib.hid (HB10.out.trans (hb11.mono HB10.out.size))
      clear hb11
      go_wp2_with fail
      refine (HS2.out w11 (HP.out.below HB11.out) (HQ.out.below HB11.out)).mono ?_
      rintro e w12 ⟨rfl, hb12⟩
      have HB12 := Lib.hid (HB11.out.trans (hb12.mono HB11.out.size))
      clear hb12
      go_wp2
      go_ret
      exact ⟨rfl, HB12.out⟩
    | true =>
      rw [Bool.true_and] at HE
      replace HE := Lib.hid HE
      go_enter Try.func3, Try.ntmps3
      go_wp2_with fail
      refine (HA.out _).mono ?_
      rintro e w1 ⟨rfl, hb1⟩
      have HB1 := Lib.hid hb1
      have HP1 := Lib.hid (HP.out.below hb1)
      have HQ1 := Lib.hid (HQ.out.below hb1)
      clear hb1
      go_wp2_with fail
      refine (HF.out w1 HP1.out).mono ?_
      rintro e w2 ⟨rfl, rfl⟩
      go_wp2_with fail
      refine (HG.out w1 HQ1.out).mono ?_
      rintro e w2 ⟨rfl, rfl⟩
      go_wp2_with fail
      refine (HT.out w1 HP1.out).mono ?_
      rintro e w2 ⟨rfl, hb2⟩
      have HB2 := Lib.hid (HB1.out.trans (hb2.mono HB1.out.size))
      clear hb2
      go_wp2_with fail
      refine (HU.out w2 (HP.out.below HB2.out)).mono ?_
      rintro e w3 ⟨rfl, hb3⟩
      have HB3 := Lib.hid (HB2.out.trans (hb3.mono HB2.out.size))
      clear hb3
      go_wp2_with fail
      refine (HPO.out w3).mono ?_
      rintro e w4 ⟨rfl, hb4⟩
      have HB4 := Lib.hid (HB3.out.trans (hb4.mono HB3.out.size))
      clear hb4
      go_wp2_with fail
      refine (HRP.out w4).mono ?_
      rintro e w5 ⟨⟨h, _⟩ | ⟨_, rfl⟩, hb5⟩
      case inl => exact absurd h HOK.out
      have HB5 := Lib.hid (HB4.out.trans (hb5.mono HB4.out.size))
      clear hb5
      go_wp2_with fail
      refine (HO.out w5).mono ?_
      rintro e w6 ⟨rfl, rfl⟩
      go_wp2_with fail
      refine (HN.out w5).mono ?_
      rintro e w6 ⟨rfl, hb6⟩
      have HB6 := Lib.hid (HB5.out.trans (hb6.mono HB5.out.size))
      have HC6 := Lib.hid hb6
      clear hb6
      go_wp2_with fail
      refine (HR.out w6).mono ?_
      rintro e w7 ⟨rfl, hb7⟩
      have HB7 := Lib.hid (HB6.out.trans (hb7.mono HB6.out.size))
      have HC7 := Lib.hid (HC6.out.trans (hb7.mono HC6.out.size))
      clear hb7
      go_wp2_with fail
      refine (HSN.out w7 (HNIL.out w7)).mono ?_
      rintro e w8 ⟨rfl, hb8⟩
      have HB8 := Lib.hid (HB7.out.trans (hb8.mono HB7.out.size))
      clear hb8
      go_wp2_with fail
      refine (HS1.out w8 (HP.out.below HB8.out) (HQ.out.below HB8.out)).mono ?_
      rintro e w9 ⟨rfl, hb9⟩
      have HB9 := Lib.hid (HB8.out.trans (hb9.mono HB8.out.size))
      clear hb9
      go_wp2_with fail
      refine (HS2.out w9 (HP.out.below HB9.out) (HQ.out.below HB9.out)).mono ?_
      rintro e w10 ⟨rfl, hb10⟩
      have HB10 := Lib.hid (HB9.out.trans (hb10.mono HB9.out.size))
      clear hb10
      go_wp2_with fail
      refine (HE.out w10 (HP.out.below HB10.out) (HQ.out.below HB10.out)).mono ?_
      rintro e w11 ⟨rfl, hb11⟩
      have HB11 := Lib.hid (HB10.out.trans (hb11.mono HB10.out.size))
      clear hb11
      go_wp2_with fail
      refine (HS2.out w11 (HP.out.below HB11.out) (HQ.out.below HB11.out)).mono ?_
      rintro e w12 ⟨rfl, hb12⟩
      have HB12 := Lib.hid (HB11.out.trans (hb12.mono HB11.out.size))
      clear hb12
      go_wp2_with fail
      refine (HS3.out w12 (HQ.out.below HB12.out) (HP.out.below HB12.out)).mono ?_
      rintro e w13 ⟨rfl, hb13⟩
      have HB13 := Lib.hid (HB12.out.trans (hb13.mono HB12.out.size))
      clear hb13
      go_wp2
      go_ret
      exact ⟨rfl, HB13.out⟩
end Go.Proofs.Ytbfcbffmgdijfaa

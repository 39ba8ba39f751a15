/- LabelOrder's own walk. -/
import Derived.Test.YtbfcbffmgdijfaaA2
import Derived.Test.YtbfcbffmgdijfaaF1
import Derived.Test.YtbfcbffmgdijfaaP2
namespace Go.Proofs.Ytbfcbffmgdijfaa
open Go.RowKit Go.Own
theorem PsC.samel {w : World} {p : Option Addr} {n cap : Nat} {L : List P2} (h : PsC w (.slice p L.length cap) L) (e : L.length = n) : PsC w (.slice p n cap) L := by rwa [e] at h
theorem rev_step {A : List P2} {m : Nat} {x : P2} (hx : A[m]? = some x) : (A.drop m).reverse = (A.drop (m + 1)).reverse ++ [x] := by
  have hm : m < A.length := (List.getElem?_eq_some_iff.1 hx).1
  have e : A[m] = x := (List.getElem?_eq_some_iff.1 hx).2
  rw [List.drop_eq_getElem_cons hm, List.reverse_cons, e]
set_option maxRecDepth 100000 in
set_option maxHeartbeats 1000000 in
theorem order_skip (A : List P2) (p : Option Addr) (cap : Nat) (hA : A.length ≤ 9223372036854775807) (hs : ∀ x ∈ A, x.1.size ≤ 9223372036854775807 ∧ x.2.size ≤ 9223372036854775807)
    (C : List P2) (q : Option Addr) (qcap : Nat) (hC : C.length ≤ 9223372036854775807) (hsC : ∀ x ∈ C, x.1.size ≤ 9223372036854775807 ∧ x.2.size ≤ 9223372036854775807)
    (h : fewB A = false ∨ (fewB A = true ∧ fewB C = false)) (w : World) (hP : PsC w (.slice p A.length cap) A) (hQ : PsC w (.slice q C.length qcap) C) :
    Calls Try.prog 4 #[.slice p A.length cap, .slice q C.length qcap] w fun e w' => e = .returned (.bool true) ∧ Below w.heap.size w w' := by
  have HA := Lib.hid (awake_any w)
  have HF := Lib.hid (fun W (h : PsC W (.slice p A.length cap) A) => few_any A p cap hA hs W h)
  have HG := Lib.hid (fun W (h : PsC W (.slice q C.length qcap) C) => few_any C q qcap hC hsC W h)
  have HP := Lib.hid hP
  have HQ := Lib.hid hQ
  obtain ⟨n, hn⟩ : ∃ n, A.length = n := ⟨_, rfl⟩
  obtain ⟨m, hm⟩ : ∃ m, C.length = m := ⟨_, rfl⟩
  rw [hn] at hA HF HP ⊢
  rw [hm] at hC HG HQ ⊢
  clear hn hm hP hQ hs hsC
  rcases h with h | ⟨h1, h2⟩
  · rw [h] at HF
    clear h
    go_enter Try.func4, Try.ntmps4
    go_wp2_with fail
    refine HA.out.mono ?_
    rintro e w1 ⟨rfl, hb1⟩
    replace hb1 := Lib.hid hb1
    go_wp2_with fail
    refine (HF.out w1 (HP.out.below hb1.out)).mono ?_
    rintro e w2 ⟨rfl, rfl⟩
    go_wp2
    go_ret
    exact ⟨rfl, hb1.out⟩
  · rw [h1] at HF
    rw [h2] at HG
    clear h1 h2
    go_enter Try.func4, Try.ntmps4
    go_wp2_with fail
    refine HA.out.mono ?_
    rintro e w1 ⟨rfl, hb1⟩
    replace hb1 := Lib.hid hb1
    go_wp2_with fail
    refine (HF.out w1 (HP.out.below hb1.out)).mono ?_
    rintro e w2 ⟨rfl, rfl⟩
    go_wp2_with fail
    refine (HG.out w1 (HQ.out.below hb1.out)).mono ?_
    rintro e w2 ⟨rfl, rfl⟩
    go_wp2
    go_ret
    exact ⟨rfl, hb1.out⟩
set_option maxRecDepth 100000 in
set_option maxHeartbeats 4000000 in
theorem order_few (A : List P2) (p : Option Addr) (cap : Nat) (hfA : fewB A = true) (C : List P2) (q : Option Addr) (qcap : Nat) (hfC : fewB C = true) (w : World) (hP : PsC w (.slice p A.length cap) A) (hQ : PsC w (.slice q C.length qcap) C) :
    Calls Try.prog 4 #[.slice p A.length cap, .slice q C.length qcap] w fun e w' => e = .returned (.bool true) ∧ Below w.heap.size w w' := by
  obtain ⟨i0, hi, hz0, hz1, hz2⟩ := info_parts info39
  obtain ⟨hA, hsA⟩ := (fewB_iff A).1 hfA
  obtain ⟨hC, hsC⟩ := (fewB_iff C).1 hfC
  have hsA6 : ∀ x ∈ A, x.1.size ≤ 1000000 ∧ x.2.size ≤ 1000000 := fun x hx => by have := hsA x hx; omega
  have hsC6 : ∀ x ∈ C, x.1.size ≤ 1000000 ∧ x.2.size ≤ 1000000 := fun x hx => by have := hsC x hx; omega
  have hF := fun W (h : PsC W (.slice p A.length cap) A) => few_any A p cap (by omega) (fun x hx => by have := hsA x hx; omega) W h
  have hG := fun W (h : PsC W (.slice q C.length qcap) C) => few_any C q qcap (by omega) (fun x hx => by have := hsC x hx; omega) W h
  rw [hfA] at hF
  rw [hfC] at hG
  have HF := Lib.hid hF
  have HG := Lib.hid hG
  have HA := Lib.hid (awake_any w)
  have HTA := Lib.hid (fun W (h : PsC W (.slice p A.length cap) A) => text_any A p cap (by omega) hsA6 W h)
  have HTC := Lib.hid (fun W (h : PsC W (.slice q C.length qcap) C) => text_any C q qcap (by omega) hsC6 W h)
  have HTR := Lib.hid (fun p' cap' W (h : PsC W (.slice p' A.reverse.length cap') A.reverse) => text_any A.reverse p' cap' (by rw [List.length_reverse]; omega) (fun x hx => hsA6 x (List.mem_reverse.1 hx)) W h)
  have HEQ := Lib.hid (fun W (h : PsC W (.slice p A.length cap) A) (k : PsC W (.slice q C.length qcap) C) => equal_any A p cap (by omega) hsA6 C q qcap (by omega) hsC6 W h k)
  have HAA := Lib.hid (fun W (h : PsC W (.slice p A.length cap) A) => equal_any A p cap (by omega) hsA6 A p cap (by omega) hsA6 W h h)
  have HSA := Lib.hid (fun W (h : PsC W (.slice p A.length cap) A) => subset_any A p cap (by omega) hsA6 A p cap (by omega) hsA6 W h h)
  have HSE := Lib.hid (fun p' cap' W (k : PsC W (.slice p' (sortP A).length cap') (sortP A)) (h : PsC W (.slice p A.length cap) A) => equal_any (sortP A) p' cap' (by rw [sortP_length]; omega) (fun x hx => hsA6 x ((sortP_perm A).mem_iff.1 hx)) A p cap (by omega) hsA6 W k h)
  rw [textR_perm (List.reverse_perm A)] at HTR
  have HP := Lib.hid hP
  have HQ := Lib.hid hQ
  obtain ⟨n, hn⟩ : ∃ n, A.length = n := ⟨_, rfl⟩
  obtain ⟨m, hm⟩ : ∃ m, C.length = m := ⟨_, rfl⟩
  have HN := Lib.hid hn
  rw [sortP_length, hn] at HSE
  rw [List.length_reverse, hn] at HTR
  rw [hn] at hA HF HP HTA HEQ HAA HSA ⊢
  rw [hm] at hC HG HQ HTC HEQ ⊢
  clear hn hm hP hQ hsA hsC hsA6 hsC6 hF hG hfA hfC
  go_enter Try.func4, Try.ntmps4
  go_wp2_with fail
  refine HA.out.mono ?_
  rintro e w1 ⟨rfl, hb1⟩
  have HP1 := Lib.hid (HP.out.below hb1)
  have HQ1 := Lib.hid (HQ.out.below hb1)
  replace hb1 := Lib.hid hb1
  go_wp2_with fail
  refine (HF.out w1 HP1.out).mono ?_
  rintro e w2 ⟨rfl, rfl⟩
  go_wp2_with fail
  refine (HG.out w1 HQ1.out).mono ?_
  rintro e w2 ⟨rfl, rfl⟩
  go_wp2
  go_loopw [5, 6] (fun v i wr => ∃ z : Int, -1 ≤ z ∧ z < n ∧ i = .int .i64 z ∧ Hid (OwnP wr w1.heap.size v (A.drop (z + 1).toNat).reverse) ∧ Hid (Below w1.heap.size w1 wr)) (fun _ i _ => (intOf i + 1).toNat)
  case atStart => exact ⟨(n : Int) - 1, by omega, by omega, rfl, Lib.hid (by rw [List.drop_of_length_le (by rw [HN.out]; omega)]; exact OwnP.nil _ _), Lib.hid (Below.refl _ _)⟩
  case round =>
    obtain ⟨z, hz, hzn, rfl, HO, HB⟩ := hrel
    by_cases hzz : 0 ≤ z
    · obtain ⟨k, rfl⟩ := Int.eq_ofNat_of_zero_le hzz
      obtain ⟨x, hx⟩ : ∃ x, A[k]? = some x := ⟨_, List.getElem?_eq_getElem (by rw [HN.out]; omega)⟩
      obtain ⟨b, o, rfl, c0, c1⟩ := (HP1.out.below HB.out).at hx
      have HR := Lib.hid (rev_step hx)
      have hkn : (k : Int) < n := hzn
      have hown := HO.out
      have hlen : (A.drop ((k : Int) + 1).toNat).reverse.length = n - (k + 1) := by rw [List.length_reverse, List.length_drop, HN.out]; omega
      unfold OwnP at hown
      rw [hlen] at hown
      clear hx hlen hz hzn
      have hszw : w1.heap.size ≤ wr.heap.size := HB.out.size
      go_wp2_with (at_builtin; refine wpList_append_own _ rfl (.tmp 32) (.tmp 37) 22 rfl w1.heap.size 39 i0 _ 2 32 Try.underlying22 hi hz0 hz1 hz2 rfl (by decide) _ _ _ rfl (hown.alloc _) ⟨wr.heap.size, 0, none⟩ 1 1 [.string x.1, .string x.2] rfl rfl (pair_new _ _ _ _) (two_one _ _) (by unfold maxLen; omega) (by omega) (by simp; omega) ?_)
      intro v3 w3 hown3 hgrow3 _
      have hkk : ((k : Int) - 1 + 1).toNat = k := by omega
      have HO3 : Hid (OwnP w3 w1.heap.size v3 (A.drop ((k : Int) - 1 + 1).toNat).reverse) := Lib.hid (by
        rw [hkk, HR.out]
        unfold OwnP
        have hl : ((A.drop (k + 1)).reverse ++ [x]).length = n - (k + 1) + 1 := by
          rw [List.length_append, List.length_reverse, List.length_drop, HN.out]; rfl
        rw [hl, cellsP_append]
        exact hown3)
      have hrow : ∀ g, u5.ownBlock = some g → w1.heap.size ≤ g := fun g e => (hown.lt g e).1
      have HB3 : Hid (Below w1.heap.size w1 w3) := Lib.hid ((HB.out.alloc hszw _).grown hgrow3 (by simp; omega) hrow)
      have hk1 : -1 ≤ (k : Int) - 1 := by omega
      have hk2 : (k : Int) - 1 < n := by omega
      clear hown3 hgrow3 hown hrow hkk
      go_wp2
      go_roundw
      case rel => exact ⟨_, hk1, hk2, rfl, HO3, HB3⟩
      case measure => simp [intOf]
    · obtain rfl : z = -1 := by omega
      have HO2 : Hid (OwnP wr w1.heap.size u5 A.reverse) := Lib.hid HO.out
      obtain ⟨p2, c2, rfl⟩ := HO2.out.shape
      have HPR := Lib.hid (HO2.out.ps.samel (n := n) (by rw [List.length_reverse]; exact HN.out))
      have hrl : A.reverse.length = n := by rw [List.length_reverse]; exact HN.out
      rw [hrl]
      have HP2 := Lib.hid (HP1.out.below HB.out)
      have HQ2 := Lib.hid (HQ1.out.below HB.out)
      have HB2 := Lib.hid (hb1.out.trans (HB.out.mono hb1.out.size))
      clear hrl hz hzn hzz HO
      go_wp2_with fail
      refine (HTA.out wr HP2.out).mono ?_
      rintro e w3 ⟨rfl, hb3⟩
      have HP3 := Lib.hid (HP2.out.below hb3)
      have HQ3 := Lib.hid (HQ2.out.below hb3)
      have HPR3 := Lib.hid (HPR.out.below hb3)
      have HB3 := Lib.hid (HB2.out.trans (hb3.mono HB2.out.size))
      clear hb3
      cases hrA : rightP A with
      | false =>
        have HE : Hid (textR A = .tuple #[.string { data := #[] }, .int .i64 2]) := Lib.hid (by simp [textR, hrA])
        have hne : eqB A A = false := by
          cases h : eqB A A with
          | false => rfl
          | true => rw [((eqB_iff A A).1 h).1] at hrA; cases hrA
        rw [hne] at HAA
        clear hrA hne
        rw [HE.out] at HTR ⊢
        go_wp2_with fail
        refine (HTR.out _ _ w3 HPR3.out).mono ?_
        rintro e w4 ⟨rfl, hb4⟩
        have HP4 := Lib.hid (HP3.out.below hb4)
        have HQ4 := Lib.hid (HQ3.out.below hb4)
        have HB4 := Lib.hid (HB3.out.trans (hb4.mono HB3.out.size))
        clear hb4
        obtain ⟨u, ue, hTC⟩ : ∃ u ue, textR C = .tuple #[.string u, .int .i64 ue] := by
          unfold textR; split
          · exact ⟨_, _, rfl⟩
          · exact ⟨_, _, rfl⟩
        rw [hTC] at HTC
        clear hTC
        go_wp2_with fail
        refine (HTC.out w4 HQ4.out).mono ?_
        rintro e w5 ⟨rfl, hb5⟩
        have HP5 := Lib.hid (HP4.out.below hb5)
        have HB5 := Lib.hid (HB4.out.trans (hb5.mono HB4.out.size))
        clear hb5
        go_wp2_with fail
        refine (HAA.out w5 HP5.out).mono ?_
        rintro e w6 ⟨rfl, hb6⟩
        have HB6 := Lib.hid (HB5.out.trans (hb6.mono HB5.out.size))
        clear hb6
        go_wp2
        go_ret
        exact ⟨rfl, HB6.out⟩
      | true =>
        have HE : Hid (textR A = .tuple #[.string (mkS (textP A)), .int .i64 0]) := Lib.hid (by simp [textR, hrA])
        have hsn : (sortP A).length = n := by rw [sortP_length]; exact HN.out
        have hseq : eqB (sortP A) A = true := (eqB_iff _ _).2 ⟨by rw [rightP_perm (sortP_perm A)]; exact hrA, hrA, sortP_perm A⟩
        have hsub : subB A A = true := (subB_iff A A).2 ⟨hrA, hrA, fun x hx => hx⟩
        rw [hseq] at HSE
        rw [hsub] at HSA
        have hst : (mkS (textP A)).size ≤ 1000000 := by
          have := encs_le (sortP A) (fun x hx => ((rightP_iff A).1 hrA).2.1 x ((sortP_perm A).mem_iff.1 hx))
          rw [mkS_size]
          unfold textP
          omega
        have HPO := Lib.hid (fun W => parse_ok (mkS (textP A)) hst (ok_text hrA) W)
        rw [rd_text hrA] at HPO
        have hCC : (rightP C = false) ∨ (rightP C = true ∧ ((mkS (textP A) = mkS (textP C) ∧ eqB A C = true) ∨ (mkS (textP A) ≠ mkS (textP C) ∧ eqB A C = false))) := by
          cases hrC : rightP C with
          | false => exact Or.inl rfl
          | true =>
            refine Or.inr ⟨rfl, ?_⟩
            cases h : eqB A C with
            | true => exact Or.inl ⟨(same_text hrA hrC).2 ((eqB_iff A C).1 h).2.2, rfl⟩
            | false => exact Or.inr ⟨(fun e => by rw [(eqB_iff A C).2 ⟨hrA, hrC, (same_text hrA hrC).1 e⟩] at h; cases h), rfl⟩
        have HCC : Hid ((textR C = .tuple #[.string { data := #[] }, .int .i64 2]) ∨ (∃ u : ByteArray, textR C = .tuple #[.string u, .int .i64 0] ∧ ((mkS (textP A) = u ∧ eqB A C = true) ∨ (mkS (textP A) ≠ u ∧ eqB A C = false)))) := Lib.hid (by
          rcases hCC with h | ⟨h, h2⟩
          · exact Or.inl (by simp [textR, h])
          · exact Or.inr ⟨mkS (textP C), by simp [textR, h], h2⟩)
        rw [HE.out] at HTR ⊢
        generalize mkS (textP A) = S at *
        have HSN := Lib.hid hsn
        clear hrA hsn hseq hsub hst hCC
        go_wp2_with fail
        refine (HTR.out _ _ w3 HPR3.out).mono ?_
        rintro e w4 ⟨rfl, hb4⟩
        have HP4 := Lib.hid (HP3.out.below hb4)
        have HQ4 := Lib.hid (HQ3.out.below hb4)
        have HB4 := Lib.hid (HB3.out.trans (hb4.mono HB3.out.size))
        clear hb4
        rcases HCC.out with hTC | ⟨u, hTC, ⟨rfl, hq⟩ | ⟨hne, hq⟩⟩
        · rw [hTC] at HTC
          clear hTC
          go_wp2_with fail
          refine (HTC.out w4 HQ4.out).mono ?_
          rintro e w5 ⟨rfl, hb5⟩
          have HP5 := Lib.hid (HP4.out.below hb5)
          have HQ5 := Lib.hid (HQ4.out.below hb5)
          have HB5 := Lib.hid (HB4.out.trans (hb5.mono HB4.out.size))
          clear hb5
          go_wp2_with fail
          refine (HPO.out w5).mono ?_
          rintro e w6 ⟨v6, rfl, hv6, hb6⟩
          have HP6 := Lib.hid (HP5.out.below hb6)
          have HQ6 := Lib.hid (HQ5.out.below hb6)
          have HB6 := Lib.hid (HB5.out.trans (hb6.mono HB5.out.size))
          obtain ⟨p6, c6, rfl, hle6, hc6⟩ := hv6
          have HV6 : Hid (PsC w6 (.slice p6 n c6) (sortP A)) := Lib.hid ⟨p6, c6, by rw [HSN.out], hle6, hc6⟩
          rw [HSN.out]
          clear hb6 hle6 hc6
          go_wp2_with fail
          refine (HSE.out _ _ w6 HV6.out HP6.out).mono ?_
          rintro e w7 ⟨rfl, hb7⟩
          have HP7 := Lib.hid (HP6.out.below hb7)
          have HQ7 := Lib.hid (HQ6.out.below hb7)
          have HB7 := Lib.hid (HB6.out.trans (hb7.mono HB6.out.size))
          clear hb7
          go_wp2_with fail
          refine (HSA.out w7 HP7.out).mono ?_
          rintro e w8 ⟨rfl, hb8⟩
          have HP8 := Lib.hid (HP7.out.below hb8)
          have HQ8 := Lib.hid (HQ7.out.below hb8)
          have HB8 := Lib.hid (HB7.out.trans (hb8.mono HB7.out.size))
          clear hb8
          go_wp2
          go_ret
          exact ⟨rfl, HB8.out⟩
        · rw [hTC] at HTC
          rw [hq] at HEQ
          clear hTC hq
          go_wp2_with fail
          refine (HTC.out w4 HQ4.out).mono ?_
          rintro e w5 ⟨rfl, hb5⟩
          have HP5 := Lib.hid (HP4.out.below hb5)
          have HQ5 := Lib.hid (HQ4.out.below hb5)
          have HB5 := Lib.hid (HB4.out.trans (hb5.mono HB4.out.size))
          clear hb5
          go_wp2_with fail
          refine (HPO.out w5).mono ?_
          rintro e w6 ⟨v6, rfl, hv6, hb6⟩
          have HP6 := Lib.hid (HP5.out.below hb6)
          have HQ6 := Lib.hid (HQ5.out.below hb6)
          have HB6 := Lib.hid (HB5.out.trans (hb6.mono HB5.out.size))
          obtain ⟨p6, c6, rfl, hle6, hc6⟩ := hv6
          have HV6 : Hid (PsC w6 (.slice p6 n c6) (sortP A)) := Lib.hid ⟨p6, c6, by rw [HSN.out], hle6, hc6⟩
          rw [HSN.out]
          clear hb6 hle6 hc6
          go_wp2_with fail
          refine (HSE.out _ _ w6 HV6.out HP6.out).mono ?_
          rintro e w7 ⟨rfl, hb7⟩
          have HP7 := Lib.hid (HP6.out.below hb7)
          have HQ7 := Lib.hid (HQ6.out.below hb7)
          have HB7 := Lib.hid (HB6.out.trans (hb7.mono HB6.out.size))
          clear hb7
          go_wp2_with fail
          refine (HSA.out w7 HP7.out).mono ?_
          rintro e w8 ⟨rfl, hb8⟩
          have HP8 := Lib.hid (HP7.out.below hb8)
          have HQ8 := Lib.hid (HQ7.out.below hb8)
          have HB8 := Lib.hid (HB7.out.trans (hb8.mono HB7.out.size))
          clear hb8
          go_wp2_with fail
          refine (HEQ.out w8 HP8.out HQ8.out).mono ?_
          rintro e w9 ⟨rfl, hb9⟩
          have HB9 := Lib.hid (HB8.out.trans (hb9.mono HB8.out.size))
          clear hb9
          go_wp2
          go_ret
          exact ⟨rfl, HB9.out⟩
        · rw [hTC] at HTC
          rw [hq] at HEQ
          have hsu := str_ff hne
          clear hTC hq hne
          go_wp2_with fail
          refine (HTC.out w4 HQ4.out).mono ?_
          rintro e w5 ⟨rfl, hb5⟩
          have HP5 := Lib.hid (HP4.out.below hb5)
          have HQ5 := Lib.hid (HQ4.out.below hb5)
          have HB5 := Lib.hid (HB4.out.trans (hb5.mono HB4.out.size))
          clear hb5
          go_wp2_with fail
          refine (HPO.out w5).mono ?_
          rintro e w6 ⟨v6, rfl, hv6, hb6⟩
          have HP6 := Lib.hid (HP5.out.below hb6)
          have HQ6 := Lib.hid (HQ5.out.below hb6)
          have HB6 := Lib.hid (HB5.out.trans (hb6.mono HB5.out.size))
          obtain ⟨p6, c6, rfl, hle6, hc6⟩ := hv6
          have HV6 : Hid (PsC w6 (.slice p6 n c6) (sortP A)) := Lib.hid ⟨p6, c6, by rw [HSN.out], hle6, hc6⟩
          rw [HSN.out]
          clear hb6 hle6 hc6
          go_wp2_with fail
          refine (HSE.out _ _ w6 HV6.out HP6.out).mono ?_
          rintro e w7 ⟨rfl, hb7⟩
          have HP7 := Lib.hid (HP6.out.below hb7)
          have HQ7 := Lib.hid (HQ6.out.below hb7)
          have HB7 := Lib.hid (HB6.out.trans (hb7.mono HB6.out.size))
          clear hb7
          go_wp2_with fail
          refine (HSA.out w7 HP7.out).mono ?_
          rintro e w8 ⟨rfl, hb8⟩
          have HP8 := Lib.hid (HP7.out.below hb8)
          have HQ8 := Lib.hid (HQ7.out.below hb8)
          have HB8 := Lib.hid (HB7.out.trans (hb8.mono HB7.out.size))
          clear hb8
          go_wp2_with fail
          refine (HEQ.out w8 HP8.out HQ8.out).mono ?_
          rintro e w9 ⟨rfl, hb9⟩
          have HB9 := Lib.hid (HB8.out.trans (hb9.mono HB8.out.size))
          clear hb9
          go_wp2
          go_ret
          exact ⟨rfl, HB9.out⟩
end Go.Proofs.Ytbfcbffmgdijfaa

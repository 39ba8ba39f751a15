/- A context's text, by contract. No condition but the row's sizes. -/
import Derived.Test.YtfihbfkgkljjdaaC2
import Derived.Test.YtfihbfkgkljjdaaIt
namespace Go.Proofs.Ytfihbfkgkljjdaa
open Go.RowKit Go.Own Go.Maps Go.WideMaps
theorem encs_append (a b : List P2) : encs (a ++ b) = encs a ++ encs b := by simp [encs]
theorem fit_sizes {x : P2} (h : fitP x = true) : 1 ≤ x.1.size ∧ x.1.size ≤ 32 ∧ x.2.size ≤ 64 := by
  simp only [fitP, Bool.and_eq_true, decide_eq_true_eq] at h; omega
theorem encs_le (M : List P2) (h : ∀ x ∈ M, fitP x = true) : (encs M).length ≤ M.length * 98 := by
  induction M with
  | nil => simp [encs]
  | cons x M ih =>
    have h1 := fit_sizes (h x (by simp))
    have h2 := ih (fun y hy => h y (by simp [hy]))
    have e : encs (x :: M) = encP x ++ encs M := by simp [encs]
    rw [e]
    simp only [encP, List.length_append, List.length_cons, bys_length]; omega
theorem encStr_kl (x : P2) : encStr (kl x) = .string x.1 := by simp [encStr, kl]
theorem keys_row {w : World} {B n : Nat} {v : Value} {ks : List (List UInt8)} (h : w.ownsRow B 9 1 v n (ks.map encStr)) : ∃ p c, v = .slice p n c ∧ ∀ (j : Nat) κ, ks[j]? = some κ → ∃ g, p = some ⟨g, 0, none⟩ ∧ g < w.heap.size ∧ w.cell? ⟨g, j, none⟩ = some (encStr κ) := by
  rcases h.2 with ⟨rfl, h2⟩ | ⟨g, cap, cur, rfl, hb, hg, _⟩
  · refine ⟨none, 0, by rw [h2], fun j κ hj => ?_⟩
    have hl := h.1
    rw [List.length_map] at hl
    have := (List.getElem?_eq_some_iff.1 hj).1
    omega
  · refine ⟨_, _, rfl, fun j κ hj => ⟨g, rfl, (Array.getElem?_eq_some_iff.1 hg).1, ?_⟩⟩
    have := h.cells (g := g) rfl j (encStr κ) (by rw [List.getElem?_map, hj]; rfl)
    have hadd : (⟨g, 0, none⟩ : Addr).add j = ⟨g, j, none⟩ := by unfold Addr.add; split <;> simp_all
    rwa [hadd] at this
def textR (L : List P2) : Value := if rightP L = true then .tuple #[.string (mkS (textP L)), .int .i64 0] else .tuple #[.string { data := #[] }, .int .i64 2]
set_option maxRecDepth 100000 in
set_option maxHeartbeats 2000000 in
theorem text_any (L : List P2) (p : Option Addr) (cap : Nat) (hL : L.length ≤ 1000000) (hs : ∀ x ∈ L, x.1.size ≤ 1000000 ∧ x.2.size ≤ 1000000) (w : World) (hP : PsC w (.slice p L.length cap) L) :
    Calls Try.prog 32 #[.slice p L.length cap] w fun e w' => e = .returned (textR L) ∧ Below w.heap.size w w' := by
  have HPL := Lib.hid (places_any L p cap hL hs w hP)
  obtain ⟨n, hn⟩ : ∃ n, L.length = n := ⟨_, rfl⟩
  rw [hn] at hL HPL ⊢
  have HP := Lib.hid hP
  have HN := Lib.hid hn
  clear hP hn hs
  cases hr : rightP L with
  | false =>
    have HE : Hid (textR L = .tuple #[.string { data := #[] }, .int .i64 2]) := Lib.hid (by simp [textR, hr])
    have HR := Lib.hid hr
    clear hr
    go_enter Try.func32, Try.ntmps32
    go_wp2_with fail
    refine HPL.out.mono ?_
    rintro e w1 ⟨hb, ⟨_, rfl⟩ | ⟨h2, _⟩⟩
    · replace hb := Lib.hid hb
      go_wp2
      go_ret2
      exact ⟨by rw [HE.out]; rfl, hb.out⟩
    · rw [HR.out] at h2; cases h2
  | true =>
    have HE : Hid (textR L = .tuple #[.string (mkS (textP L)), .int .i64 0]) := Lib.hid (by simp [textR, hr])
    have HR := Lib.hid hr
    have HRR := Lib.hid ((rightP_iff L).1 hr)
    clear hr
    go_enter Try.func32, Try.ntmps32
    go_wp2_with fail
    refine HPL.out.mono ?_
    rintro e w1 ⟨hb, ⟨h2, _⟩ | ⟨_, B, hB, rfl, hown⟩⟩
    · rw [HR.out] at h2; cases h2
    replace hb := Lib.hid hb
    have hms := mpD_size L L.length (Nat.le_refl _)
    rw [HN.out] at hms
    have hBl := hown.lt
    have HSO := Lib.hid (callsIn_wide.1 (sorted_any B n (mpD L n) (plainElem (H := Unit) Try.prog 3) w1 hown (by unfold maxLen; omega) (by omega)))
    clear hms
    go_wp2_with (go_at_call 44; refine (callsIn_wide.1 (keys_any (some B) w1)).mono ?_; rintro e w' ⟨rfl, rfl⟩)
    refine HSO.out.mono ?_
    rintro e w2 ⟨kv, ss, rfl, hS, hrow, _, hb2⟩
    have hS2 : ss.Perm (L.map kl) := hS.trans (by rw [← HN.out]; exact (mpD_keys L HRR.out.2.2).symm)
    have hsl : ss.length = n := by rw [hS2.length_eq, List.length_map, HN.out]
    rw [sortP_keys L hS2, hsl] at hrow
    obtain ⟨kp, kc, rfl, hkeys⟩ := keys_row hrow
    clear hrow hS hS2 hsl
    have hown2 := own_below (hown.alloc (.cells #[.map (some B)] 78)) hb2 (by simp; omega)
    have HB2 : Hid (Below w.heap.size w w2) := Lib.hid ((hb.out.alloc hb.out.size _).trans (hb2.mono (by simp; exact Nat.le_trans hb.out.size (Nat.le_succ _))))
    have HP2 := Lib.hid (HP.out.below HB2.out)
    have hBs : B < w2.heap.size := hown2.lt
    have HK := Lib.hid hkeys
    clear hown hBl hb2 hkeys
    go_wp2
    go_loopw [6, 20] (fun o i wr => ∃ (j : Nat), j ≤ n ∧ i = .int .i64 (j : Int) ∧ Hid (OwnB wr w2.heap.size o (encs ((sortP L).take j))) ∧ Hid (Below w2.heap.size w2 wr)) (fun _ i _ => n - (intOf i).toNat)
    case atStart => exact ⟨0, Nat.zero_le _, rfl, Lib.hid (by simpa [encs] using OwnB.nil w2 w2.heap.size), Lib.hid (Below.refl _ _)⟩
    case round =>
      obtain ⟨j, hj, rfl, HO, HB⟩ := hrel
      by_cases hlt : j < n
      · obtain ⟨x, hx⟩ : ∃ x, (sortP L)[j]? = some x := ⟨_, List.getElem?_eq_getElem (by rw [sortP_length, HN.out]; exact hlt)⟩
        have hmem : x ∈ L := (sortP_perm L).mem_iff.1 (List.mem_of_getElem? hx)
        obtain ⟨i, hi⟩ := mem_place hmem
        have hin : i < n := by rw [← HN.out]; exact (List.getElem?_eq_some_iff.1 hi).1
        obtain ⟨g, rfl, hg, hkc⟩ := HK.out j (kl x) (by rw [List.getElem?_map, hx]; rfl)
        rw [encStr_kl] at hkc
        have hkc' : ∀ W, Below w2.heap.size w2 W → W.cell? ⟨g, j, none⟩ = some (.string x.1) := fun W h => by rw [h.cell (p := ⟨g, j, none⟩) hg]; exact hkc
        obtain ⟨b, oo, rfl, c0, c1⟩ := HP2.out.at hi
        have hc1' : ∀ W, Below w2.heap.size w2 W → W.cell? ⟨b, oo + i * 2 + 1, none⟩ = some (.string x.2) := fun W h => by rw [h.cell (p := ⟨b, oo + i * 2 + 1, none⟩) (World.block_lt_of_cell? w2 _ c1)]; exact c1
        have hfit := fit_sizes (HRR.out.2.1 x hmem)
        have hle := encs_le ((sortP L).take j) (fun y hy => HRR.out.2.1 y ((sortP_perm L).mem_iff.1 (List.mem_of_mem_take hy)))
        have hn8 := HRR.out.1
        rw [HN.out] at hn8
        rw [List.length_take] at hle
        have hle' : (encs ((sortP L).take j)).length ≤ 1000 := by omega
        have hsn : encs ((sortP L).take (j + 1)) = (encs ((sortP L).take j) ++ x.1.size :: bys x.1) ++ x.2.size :: bys x.2 := by
          rw [take_succ_at _ _ _ hx, encs_append]; simp [encs, encP]
        have hat : (mpD L n).atKey (.string (kl x)) (.lit (.int .i64 0)) = .lit (.int .i64 i) := mpD_at L _ i x hi n hin (by rw [HN.out]; exact Nat.le_refl _) (by rw [← HN.out, List.take_length]; exact HRR.out.2.2)
        have hkey : keyOf Try.prog 9 (.string x.1) = some (.string (kl x)) := keyOf_string_mk Try.underlying9 (by unfold maxLen; omega)
        have HSN := Lib.hid hsn
        have HC1 := Lib.hid hc1'
        have HKC := Lib.hid hkc'
        have HAT := Lib.hid hat
        have HC := Lib.hid (fun l (hl : l.length ≤ 1000000) v W hW (h : OwnB W w2.heap.size v l) => counted_any x.1 (by omega) l hl v w2.heap.size W hW h)
        have HCV := Lib.hid (fun l (hl : l.length ≤ 1000000) v W hW (h : OwnB W w2.heap.size v l) => counted_any x.2 (by omega) l hl v w2.heap.size W hW h)
        have hx1 : x.1.size ≤ 32 := hfit.2.1
        clear hx hmem hi hkc hkc' c0 c1 hc1' hsn hat hfit hle
        have hkw := HKC.out wr HB.out
        have hji : (j : Int) < n := by omega
        go_wp2_with fail
        refine (HC.out _ (by omega) _ _ HB.out.size HO.out).mono ?_
        rintro e w3 ⟨v3, rfl, ho3, hb3⟩
        obtain ⟨l3, hl3⟩ : ∃ l3, encs ((sortP L).take j) ++ x.1.size :: bys x.1 = l3 := ⟨_, rfl⟩
        rw [hl3] at ho3
        have hl3l : l3.length ≤ 2000 := by rw [← hl3]; simp only [List.length_append, List.length_cons, bys_length]; omega
        have HO3 := Lib.hid ho3
        have HL3 := Lib.hid hl3
        have HB3 := Lib.hid (HB.out.trans hb3)
        have hown3 := own_below hown2 HB3.out hBs
        have hc13 := HC1.out w3 HB3.out
        clear ho3 hb3 hkw hl3
        go_wp2_with (at_lookup; refine wpList_lookup_own_int _ rfl _ _ 78 rfl 9 3 .i64 law9 Try.underlying78 Try.underlying3 (zero3 _) B n _ rfl hown3 _ _ rfl hkey ?_)
        intro c hat _
        obtain rfl : c = (i : Int) := by
          have := HAT.out.symm.trans hat
          simpa using this.symm
        clear hat
        have hii : (i : Int) < n := by omega
        go_wp2_with (go_at_call 45; fail)
        refine (HCV.out l3 (by omega) _ _ HB3.out.size HO3.out).mono ?_
        rintro e w4 ⟨v4, rfl, ho4, hb4⟩
        have HB4 := Lib.hid (HB3.out.trans hb4)
        have HO4 : Hid (OwnB w4 w2.heap.size v4 (encs ((sortP L).take (j + 1)))) := Lib.hid (by rw [HSN.out, HL3.out]; exact ho4)
        clear ho4 hb4 hc13 hown3
        go_wp2
        go_roundw
        case rel => exact ⟨j + 1, by omega, by go_num, HO4, HB4⟩
        case measure => simp [intOf]; omega
      · obtain rfl : j = n := by omega
        have HT : Hid (encs ((sortP L).take j) = textP L) := Lib.hid (by rw [List.take_of_length_le (by rw [sortP_length, HN.out]; exact Nat.le_refl _)]; rfl)
        rw [HT.out] at HO
        have hcv := HO.out.str
        go_wp2
        go_ret2
        exact ⟨by rw [HE.out]; rfl, HB2.out.trans (HB.out.mono HB2.out.size)⟩
end Go.Proofs.Ytfihbfkgkljjdaa

/- What waits is settled: by contract. No condition but that the writes are sectors'. -/
import Derived.Test.YtjgfljckmckhcaaDoorZ14
namespace Go.Proofs.YtjgfljckmckhcaaDoor
open Go.RowKit Go.Own

section
variable {P : Program} {T : TypeId} {a a' : Nat} {x x' : List Nat} {ty : TypeId}
theorem stW {w : World} {l : List Obj} {d i : Nat} (h1 : (sizeOf T).run P (Wd w l d) = .ok 65 (Wd w l d)) (h2 : l[i]? = some (.cells (wv a x) ty (0, 0))) (hx : x.length = 64) (hx' : x'.length = 64) :
    stX P T 65 (some (.cells (wv a x) ty (0, 0))) w l d i 0 (.agg (wv a' x')) = .ok () (Wd w (l.set i (.cells (wv a' x') ty (0, 0))) d) :=
  stX_all h1 h2 (by rw [wv_size, hx']) (by rw [wv_size, hx]) (wv_one _ _)
end
theorem al74 {w : World} {l : List Obj} {d : Nat} : alX Tryd.prog 74 (.agg (wv 0 (rep 64))) w l d = .ok (.pointer (some ⟨w.heap.size + l.length, 0, none⟩)) (Wd w (l ++ [.cells (wv 0 (rep 64)) 74 (0, 0)]) d) := alX_mix z74
theorem set_id {l : List Obj} {m : Nat} {X : Obj} (h : l[m]? = some X) : l.set m X = l := by
  obtain ⟨hi, hx⟩ := List.getElem?_eq_some_iff.1 h
  rw [← hx, List.set_getElem_self]
theorem sec_eq (x : List Nat) (k : Nat) : (x.drop (k * 64)).take 64 = sec x k := rfl
theorem settleL_snoc (T R : List Nat) (ws : List (Nat × List Nat)) (k a : Nat) (x : List Nat) (h : ws[k]? = some (a, x)) : settleL T R (ws.take (k + 1)) = spl (settleL T R (ws.take k)) (a * 64) (sec R a) := by
  have hk := (List.getElem?_eq_some_iff.1 h)
  rw [List.take_succ_eq_append_getElem hk.1, hk.2]
  unfold settleL
  rw [List.foldl_append]
  rfl
theorem ld_row {P : Program} {w : World} {L : List Obj} {D j kk m aa : Nat} {X : List Value} {x : List Nat} {tj : TypeId} {ws : List (Nat × List Nat)} {T : TypeId} (h1 : aggSize P T = some 65) (hj : L[j]? = some (.cells X.toArray tj (0, 0)))
    (hX : X.take (m * 65) = wcs ws) (hm : ws.length = m) (hml : m * 65 ≤ X.length) (hws : ∀ p ∈ ws, p.2.length = 64) (hk : ws[kk]? = some (aa, x)) :
    ldX P T (some 65) (some (.cells X.toArray tj (0, 0))) (w.heap.size + j) (kk * 65) (Wd w L D) = .ok (.agg (wv aa x)) (Wd w L D) := by
  have hlt := (List.getElem?_eq_some_iff.1 hk).1
  have hfit : kk * 65 + 65 ≤ m * 65 := by omega
  rw [ldX_mix h1 (by rw [blk_at]; exact hj) (by rw [List.size_toArray]; omega)]
  congr 2
  apply Array.ext'
  have hg := wcs_get hws hk
  rw [← hX, List.drop_take, List.take_take, Nat.min_eq_left (by omega)] at hg
  rw [Array.toList_extract, List.extract_eq_take_drop, Nat.add_sub_cancel_left]
  exact hg
attribute [local go_sem] sec_eq stD2v ldW ldW0 ldW1 stW al74 cp2X_full set_same app_left set_left at_mid' set_mid' at_mid2' set_mid2' List.getElem?_set_ne

set_option maxRecDepth 100000 in
set_option maxHeartbeats 1000000 in
theorem settle_any (w : World) (l : List Obj) (d i t r n : Nat) (vs vl vw : Value) (count : Nat) (a : Int) (k : Nat) (tt : Int) (o : Bool) (T R : List Nat) (ws : List (Nat × List Nat)) (A : Nat → Prop)
    (hd : l[i]? = some (.cells (dc vs vl vw count a k tt o) 59 (0, 0))) (ht : l[t]? = some (.cells (cv .u8 T) 71 (0, 0))) (hr : l[r]? = some (.cells (cv .u8 R) 71 (0, 0)))
    (hw : RowV A w l 65 ws.length vw (wcs ws)) (hA : ∀ p, A p → p ≠ i ∧ p ≠ t) (it : i ≠ t) (ir : i ≠ r) (tr : t ≠ r) (hT : T.length = n * 64) (hR : R.length = n * 64) (hws : ∀ p ∈ ws, p.1 < n ∧ p.2.length = 64) (h64 : ws.length ≤ 64) :
    Calls Tryd.prog 35 #[.pointer (some ⟨w.heap.size + i, 0, none⟩), .slice (some ⟨w.heap.size + t, 0, none⟩) n n, .slice (some ⟨w.heap.size + r, 0, none⟩) n n] (Wd w l d) fun e w' => e = .returned (.tuple #[]) ∧
      ∃ l' d' vw', w' = Wd w l' d' ∧ l'[i]? = some (.cells (dc vs vl vw' 0 a k tt o) 59 (0, 0)) ∧ l'[t]? = some (.cells (cv .u8 (settleL (if ws.length < count then R else T) R ws)) 71 (0, 0)) ∧ RowV A w l' 65 0 vw' [] ∧ l.length ≤ l'.length ∧ ∀ p, p < l.length → p ≠ i → p ≠ t → l'[p]? = l[p]? := by
  have ti := it.symm
  have ri := ir.symm
  have rt := tr.symm
  obtain ⟨po, c, rfl, hpo⟩ : ∃ po c, vw = .slice po ws.length c ∧ ((po = none ∧ c = 0 ∧ ws = []) ∨ ∃ j X tj, A j ∧ po = some ⟨w.heap.size + j, 0, none⟩ ∧ l[j]? = some (.cells (List.toArray X) tj (0, 0)) ∧ X.length = c * 65 ∧ ws.length ≤ c ∧ X.take (ws.length * 65) = wcs ws) := by
    rcases hw with ⟨h1, h2, h3⟩ | ⟨j, c, X, tj, h1, h2, h3⟩
    · have : ws = [] := List.length_eq_zero_iff.1 h2
      subst this
      exact ⟨none, 0, h1, .inl ⟨rfl, rfl, rfl⟩⟩
    · exact ⟨_, c, h2, .inr ⟨j, X, tj, h1, rfl, h3⟩⟩
  obtain ⟨m, hm⟩ : ∃ m, ws.length = m := ⟨_, rfl⟩
  rw [hm] at hd hpo h64 hw ⊢
  obtain ⟨T0, hT0⟩ : ∃ T0, (if m < count then R else T) = T0 := ⟨_, rfl⟩
  have hT0l : T0.length = n * 64 := by rw [← hT0]; split <;> assumption
  rw [hT0]
  have HM := Lib.hid hm
  have HW := Lib.hid hw
  have HPO := Lib.hid hpo
  have HA := Lib.hid hA
  have HWS := Lib.hid hws
  clear hm hw hpo hA hws
  by_cases hc : m < count
  · have e0 := Lib.hid (show T0 = R by rw [← hT0, if_pos hc])
    have HT0 := Lib.hid hT0l
    clear hT0 hT0l
    go_enter Tryd.func35, Tryd.ntmps35
    go_wp2
    refine wp_region_read (by kernel_rfl) (by kernel_rfl) ?_
    repeat still_step
    refine wpStill_nil ?_
    go_wp2
    go_loopw [26] (fun i wr => ∃ (kk : Nat) (g : List Obj) (e : Nat), kk ≤ m ∧ i = .int .i64 kk ∧ wr = Wd w (l.set t (.cells (cv .u8 (settleL T0 R (ws.take kk))) 71 (0, 0)) ++ g) e) (fun i _ => m - (intOf i).toNat)
    case atStart => exact ⟨0, [], _, by omega, rfl, by rw [List.take_zero, List.append_nil, e0.out]; rfl⟩
    case round =>
      obtain ⟨kk, g, e, hkk, rfl, rfl⟩ := hrel
      have HSL : Hid ((settleL T0 R (ws.take kk)).length = n * 64) := Lib.hid (settleL_length hR _ _ HT0.out fun p hp => (HWS.out p (List.mem_of_mem_take hp)).1)
      by_cases hlt : kk < m
      · obtain ⟨⟨aa, x⟩, hk⟩ : ∃ p, ws[kk]? = some p := ⟨ws[kk]'(by rw [HM.out]; exact hlt), List.getElem?_eq_getElem _⟩
        have hw0 := HWS.out _ (List.mem_of_getElem? hk)
        simp only at hw0
        obtain ⟨haa, hx⟩ := hw0
        rcases HPO.out with ⟨_, _, e0'⟩ | ⟨j, X, tj, hAj, rfl, hj, hX, hmc, hXt⟩
        · rw [e0'] at hk; simp at hk
        have hjt := (HA.out j hAj).2
        have htj := hjt.symm
        have hld : ∀ L D, L[j]? = some (Obj.cells X.toArray tj (0, 0)) → ldX Tryd.prog 74 (some 65) (some (Obj.cells X.toArray tj (0, 0))) (w.heap.size + j) (kk * 65) (Wd w L D) = .ok (.agg (wv aa x)) (Wd w L D) := fun L D hL =>
          ld_row ag74 hL hXt HM.out (by rw [hX]; exact Nat.mul_le_mul_right _ hmc) (fun p hp => (HWS.out p hp).2) hk
        have HSN := Lib.hid (settleL_snoc T0 R ws kk aa x hk)
        have HX := Lib.hid hX
        have HXT := Lib.hid hXt
        have HAJ := Lib.hid hAj
        have hai : (aa : Int) < n := by omega
        have hfit : aa * 64 + 64 ≤ n * 64 := by omega
        have hsl : (sec R aa).length = 64 := sec_length hR haa
        have hSl := HSL.out
        clear hX hXt hAj hk
        obtain ⟨S, hS⟩ : ∃ S, settleL T0 R (ws.take kk) = S := ⟨_, rfl⟩
        rw [hS] at HSN hSl ⊢
        clear hS HSL
        go_wp2
        refine wp_region_tail 9 (by kernel_rfl) (by kernel_rfl) ?_
        simp only [List.take_succ_cons, List.take_zero, List.drop_succ_cons, List.drop_zero]
        repeat still_step
        refine wpStill_nil ?_
        go_wp2
        go_roundw
        case rel => exact ⟨kk + 1, _, _, by omega, by go_num, by rw [HSN.out]⟩
        case measure => simp [intOf]; omega
      · obtain rfl : kk = m := by omega
        have HE := Lib.hid (show ws.take kk = ws by rw [List.take_of_length_le (by rw [HM.out]; exact Nat.le_refl _)])
        rw [HE.out] at HSL ⊢
        obtain ⟨S, hS⟩ : ∃ S, settleL T0 R ws = S := ⟨_, rfl⟩
        rw [hS] at HSL ⊢
        have HS := Lib.hid hS
        clear hS
        have HLN := Lib.hid (show l.length = (l.set t (.cells (cv .u8 S) 71 (0, 0))).length by rw [List.length_set])
        have HL1 := Lib.hid (show ∀ p, p ≠ t → (l.set t (.cells (cv .u8 S) 71 (0, 0)))[p]? = l[p]? from fun p hp => List.getElem?_set_ne hp.symm)
        have hLi := set_other (X := .cells (cv .u8 S) 71 (0, 0)) ti hd
        have HLT := Lib.hid (set_some (X := .cells (cv .u8 S) 71 (0, 0)) ht)
        generalize l.set t (.cells (cv .u8 S) 71 (0, 0)) = L at *
        have HR : ∀ (V : Value) (X : Obj), RowV A w l 65 0 V [] → RowV A w (L.set i X ++ g) 65 0 V [] := fun V X h => (h.mono (l' := L.set i X) (fun p hp _ => ⟨hp, by
          rw [List.getElem?_set_ne (HA.out p hp).1.symm, HL1.out p (HA.out p hp).2]⟩)).more g
        have HR2 := Lib.hid HR
        have HK : ∀ X p, p < l.length → p ≠ i → p ≠ t → (L.set i X ++ g)[p]? = l[p]? := fun X p hp h1 h2 => by
          rw [List.getElem?_append_left (by rw [List.length_set, ← HLN.out]; exact hp), List.getElem?_set_ne h1.symm, HL1.out p h2]
        have HK2 := Lib.hid HK
        have HLE := Lib.hid (show ∀ X, l.length ≤ (L.set i X ++ g).length from fun X => by rw [List.length_append, List.length_set, ← HLN.out]; omega)
        clear HR HK
        rcases HPO.out with ⟨rfl, rfl, _⟩ | ⟨j, X, tj, hAj, rfl, hj, hX, hmc, hXt⟩
        · clear HPO
          rename_i e0'
          clear e0'
          go_wp2
          go_end0
          exact ⟨rfl, _, _, _, rfl, app_some (set_some hLi), by rw [HS.out]; exact app_some (set_other it HLT.out), HR2.out _ _ (.inl ⟨rfl, rfl, rfl⟩), HLE.out _, HK2.out _⟩
        · have HX := Lib.hid hX
          have HXT := Lib.hid hXt
          have HAJ := Lib.hid hAj
          have HJ := Lib.hid hj
          clear hX hXt hAj hj
          go_wp2
          go_end0
          exact ⟨rfl, _, _, _, rfl, app_some (set_some hLi), by rw [HS.out]; exact app_some (set_other it HLT.out), HR2.out _ _ (.inr ⟨j, c, X, tj, HAJ.out, rfl, HJ.out, HX.out, Nat.zero_le _, by simp⟩), HLE.out _, HK2.out _⟩
  · have e0 := Lib.hid (show T0 = T by rw [← hT0, if_neg hc])
    have HT0 := Lib.hid hT0l
    clear hT0 hT0l
    go_enter Tryd.func35, Tryd.ntmps35
    go_wp2
    refine wp_region_read (by kernel_rfl) (by kernel_rfl) ?_
    repeat still_step
    refine wpStill_nil ?_
    go_wp2
    go_loopw [26] (fun i wr => ∃ (kk : Nat) (g : List Obj) (e : Nat), kk ≤ m ∧ i = .int .i64 kk ∧ wr = Wd w (l.set t (.cells (cv .u8 (settleL T0 R (ws.take kk))) 71 (0, 0)) ++ g) e) (fun i _ => m - (intOf i).toNat)
    case atStart => exact ⟨0, [], _, by omega, rfl, by rw [List.take_zero, List.append_nil, e0.out]; show _ = Wd w (l.set t (.cells (cv .u8 T) 71 (0, 0))) _; rw [set_id ht]⟩
    case round =>
      obtain ⟨kk, g, e, hkk, rfl, rfl⟩ := hrel
      have HSL : Hid ((settleL T0 R (ws.take kk)).length = n * 64) := Lib.hid (settleL_length hR _ _ HT0.out fun p hp => (HWS.out p (List.mem_of_mem_take hp)).1)
      by_cases hlt : kk < m
      · obtain ⟨⟨aa, x⟩, hk⟩ : ∃ p, ws[kk]? = some p := ⟨ws[kk]'(by rw [HM.out]; exact hlt), List.getElem?_eq_getElem _⟩
        have hw0 := HWS.out _ (List.mem_of_getElem? hk)
        simp only at hw0
        obtain ⟨haa, hx⟩ := hw0
        rcases HPO.out with ⟨_, _, e0'⟩ | ⟨j, X, tj, hAj, rfl, hj, hX, hmc, hXt⟩
        · rw [e0'] at hk; simp at hk
        have hjt := (HA.out j hAj).2
        have htj := hjt.symm
        have hld : ∀ L D, L[j]? = some (Obj.cells X.toArray tj (0, 0)) → ldX Tryd.prog 74 (some 65) (some (Obj.cells X.toArray tj (0, 0))) (w.heap.size + j) (kk * 65) (Wd w L D) = .ok (.agg (wv aa x)) (Wd w L D) := fun L D hL =>
          ld_row ag74 hL hXt HM.out (by rw [hX]; exact Nat.mul_le_mul_right _ hmc) (fun p hp => (HWS.out p hp).2) hk
        have HSN := Lib.hid (settleL_snoc T0 R ws kk aa x hk)
        have HX := Lib.hid hX
        have HXT := Lib.hid hXt
        have HAJ := Lib.hid hAj
        have hai : (aa : Int) < n := by omega
        have hfit : aa * 64 + 64 ≤ n * 64 := by omega
        have hsl : (sec R aa).length = 64 := sec_length hR haa
        have hSl := HSL.out
        clear hX hXt hAj hk
        obtain ⟨S, hS⟩ : ∃ S, settleL T0 R (ws.take kk) = S := ⟨_, rfl⟩
        rw [hS] at HSN hSl ⊢
        clear hS HSL
        go_wp2
        refine wp_region_tail 9 (by kernel_rfl) (by kernel_rfl) ?_
        simp only [List.take_succ_cons, List.take_zero, List.drop_succ_cons, List.drop_zero]
        repeat still_step
        refine wpStill_nil ?_
        go_wp2
        go_roundw
        case rel => exact ⟨kk + 1, _, _, by omega, by go_num, by rw [HSN.out]⟩
        case measure => simp [intOf]; omega
      · obtain rfl : kk = m := by omega
        have HE := Lib.hid (show ws.take kk = ws by rw [List.take_of_length_le (by rw [HM.out]; exact Nat.le_refl _)])
        rw [HE.out] at HSL ⊢
        obtain ⟨S, hS⟩ : ∃ S, settleL T0 R ws = S := ⟨_, rfl⟩
        rw [hS] at HSL ⊢
        have HS := Lib.hid hS
        clear hS
        have HLN := Lib.hid (show l.length = (l.set t (.cells (cv .u8 S) 71 (0, 0))).length by rw [List.length_set])
        have HL1 := Lib.hid (show ∀ p, p ≠ t → (l.set t (.cells (cv .u8 S) 71 (0, 0)))[p]? = l[p]? from fun p hp => List.getElem?_set_ne hp.symm)
        have hLi := set_other (X := .cells (cv .u8 S) 71 (0, 0)) ti hd
        have HLT := Lib.hid (set_some (X := .cells (cv .u8 S) 71 (0, 0)) ht)
        generalize l.set t (.cells (cv .u8 S) 71 (0, 0)) = L at *
        have HR : ∀ (V : Value) (X : Obj), RowV A w l 65 0 V [] → RowV A w (L.set i X ++ g) 65 0 V [] := fun V X h => (h.mono (l' := L.set i X) (fun p hp _ => ⟨hp, by
          rw [List.getElem?_set_ne (HA.out p hp).1.symm, HL1.out p (HA.out p hp).2]⟩)).more g
        have HR2 := Lib.hid HR
        have HK : ∀ X p, p < l.length → p ≠ i → p ≠ t → (L.set i X ++ g)[p]? = l[p]? := fun X p hp h1 h2 => by
          rw [List.getElem?_append_left (by rw [List.length_set, ← HLN.out]; exact hp), List.getElem?_set_ne h1.symm, HL1.out p h2]
        have HK2 := Lib.hid HK
        have HLE := Lib.hid (show ∀ X, l.length ≤ (L.set i X ++ g).length from fun X => by rw [List.length_append, List.length_set, ← HLN.out]; omega)
        clear HR HK
        rcases HPO.out with ⟨rfl, rfl, _⟩ | ⟨j, X, tj, hAj, rfl, hj, hX, hmc, hXt⟩
        · clear HPO
          rename_i e0'
          clear e0'
          go_wp2
          go_end0
          exact ⟨rfl, _, _, _, rfl, app_some (set_some hLi), by rw [HS.out]; exact app_some (set_other it HLT.out), HR2.out _ _ (.inl ⟨rfl, rfl, rfl⟩), HLE.out _, HK2.out _⟩
        · have HX := Lib.hid hX
          have HXT := Lib.hid hXt
          have HAJ := Lib.hid hAj
          have HJ := Lib.hid hj
          clear hX hXt hAj hj
          go_wp2
          go_end0
          exact ⟨rfl, _, _, _, rfl, app_some (set_some hLi), by rw [HS.out]; exact app_some (set_other it HLT.out), HR2.out _ _ (.inr ⟨j, c, X, tj, HAJ.out, rfl, HJ.out, HX.out, Nat.zero_le _, by simp⟩), HLE.out _, HK2.out _⟩
end Go.Proofs.YtjgfljckmckhcaaDoor

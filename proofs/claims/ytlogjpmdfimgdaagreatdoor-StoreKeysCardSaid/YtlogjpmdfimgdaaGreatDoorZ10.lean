/- copy between rows of bytes of the call's own; a block of mixed cells made; where a block lies. No condition. | What waits is settled: by contract. No condition but that the writes are sectors'. | The power fails: by contract. No condition but that fewer than 2^40 wait. -/
import Derived.Test.YtlogjpmdfimgdaaGreatDoorZ09
namespace Go.Own.Jf
open Go.RowKit

theorem at_next' {l : List Obj} {A B C : Obj} {n : Nat} (h : l.length = n) : (l ++ [A, B, C])[n + 1]? = some B := by subst h; rw [List.getElem?_append_right (by omega)]; simp
theorem at_third {l : List Obj} {A B C : Obj} {n : Nat} (h : l.length = n) : (l ++ [A, B, C])[n + 2]? = some C := by subst h; rw [List.getElem?_append_right (by omega)]; simp
theorem at_mid2' {A g r : List Obj} {a : Obj} {n : Nat} (h : A.length + g.length = n) : (A ++ (g ++ a :: r))[n]? = some a := by
  rw [← List.append_assoc]; exact at_mid' (by rw [List.length_append, h])
theorem set_mid2' {A g r : List Obj} {a b : Obj} {n : Nat} (h : A.length + g.length = n) : (A ++ (g ++ a :: r)).set n b = A ++ (g ++ b :: r) := by
  rw [← List.append_assoc, set_mid' (by rw [List.length_append, h]), List.append_assoc]
theorem alX_mix {P : Program} {T : TypeId} {w : World} {l : List Obj} {d : Nat} {c : Array Value} (h : zeroOf P T = .agg c) :
    alX P T (.agg c) w l d = .ok (.pointer (some ⟨w.heap.size + l.length, 0, none⟩)) (Wd w (l ++ [.cells c T (0, 0)]) d) := by
  simp [alX, alN, Instr.alloc, run_zeroOf h, newVar, newRow, Value.cells, Wd_size, Wd_alloc]
theorem splA_all {c : Array Value} {x : List Value} (h : x.length = c.size) : splA c 0 x = x.toArray := by
  unfold splA
  rw [List.take_zero, List.nil_append, List.drop_of_length_le (by rw [Array.length_toList]; omega), List.append_nil]
theorem stX_all {P : Program} {T : TypeId} {n : Nat} {w : World} {l : List Obj} {d i : Nat} {c x : Array Value} {t : TypeId}
    (h1 : (sizeOf T).run P (Wd w l d) = .ok n (Wd w l d)) (h2 : l[i]? = some (.cells c t (0, 0))) (hx : x.size = n) (h3 : c.size = n) (h4 : ∀ v ∈ x.toList, v.oneCell' = true) :
    stX P T n (some (.cells c t (0, 0))) w l d i 0 (.agg x) = .ok () (Wd w (l.set i (.cells x t (0, 0))) d) := by
  rw [stX_mix h1 h2 hx (by omega) h4, splA_all (by rw [Array.length_toList]; omega)]

/-! ### copy(dst, src) of slices -/
def cp2X (P : Program) (dT sT ty : TypeId) (_ob _oc : Option Obj) (w : World) (l : List Obj) (d i o n c j o2 m c2 : Nat) : Result Value :=
  (Builtin.copy_ #[dT, sT] ty #[.slice (some ⟨w.heap.size + i, o, none⟩) n c, .slice (some ⟨w.heap.size + j, o2, none⟩) m c2]).run P (Wd w l d)
@[go_sem] theorem run_cp2 (P : Program) (dT sT ty : TypeId) (w : World) (l : List Obj) (d i o n c j o2 m c2 : Nat) :
    (Builtin.copy_ #[dT, sT] ty #[.slice (some ⟨w.heap.size + i, o, none⟩) n c, .slice (some ⟨w.heap.size + j, o2, none⟩) m c2]).run P (Wd w l d) = cp2X P dT sT ty l[i]? l[j]? w l d i o n c j o2 m c2 := rfl
theorem cp2X_gen {P : Program} {dT sT ty : TypeId} {w : World} {l : List Obj} {d i o n c j o2 m c2 k sz : Nat} {S : List Nat} {Y : Array Value} {x : List Nat} {t t2 : TypeId} {f2 : Nat × Nat}
    (hu : P.underlying dT = some (.slice (P.elem dT))) (h1 : (sizeOf (P.elem dT)).run P (Wd w l d) = .ok sz (Wd w l d)) (h2 : l[i]? = some (.cells (cv .u8 S) t (0, 0))) (h3 : l[j]? = some (.cells Y t2 f2))
    (hk : Nat.min m n = k) (hY : o2 + k * sz ≤ Y.size) (hx : Y.extract o2 (o2 + k * sz) = cv .u8 x) (hfit : o + x.length ≤ S.length) :
    (Builtin.copy_ #[dT, sT] ty #[.slice (some ⟨w.heap.size + i, o, none⟩) n c, .slice (some ⟨w.heap.size + j, o2, none⟩) m c2]).run P (Wd w l d) = .ok (.int .i64 (k : Int)) (Wd w (l.set i (.cells (cv .u8 (spl S o x)) t (0, 0))) d) := by
  have hl := loadCells_mix (P := P) (b := w.heap.size + j) (o := o2) (n := k * sz) (W := Wd w l d) (c := Y) (t := t2) (f := f2) (by rw [blk_at]; exact h3) hY
  rw [hx] at hl
  have hr := run_storeCells_at P (w.heap.size + i) o t (cv .u8 x).toList 0 (cv .u8 S) (Wd w l d) (by rw [Wd_at]; exact h2) (by simp; omega) cv_oneCell
  rw [Nat.add_zero, spl_cv, Wd_setRow _ _ _ _ _ _ _ _ h2] at hr
  simp [Builtin.copy_, run_underlying hu, Builtin.lenOf, h1, hk, Builtin.firstCells, hl, hr, goInt]
/-- Rows of the same length. -/
theorem cp2X_full {P : Program} {dT sT ty : TypeId} {w : World} {l : List Obj} {d i n c j c2 sz : Nat} {S X : List Nat} {t t2 : TypeId} {f2 : Nat × Nat}
    (hu : P.underlying dT = some (.slice (P.elem dT))) (h1 : (sizeOf (P.elem dT)).run P (Wd w l d) = .ok sz (Wd w l d)) (h2 : l[i]? = some (.cells (cv .u8 S) t (0, 0))) (h3 : l[j]? = some (.cells (cv .u8 X) t2 f2))
    (hS : S.length = n * sz) (hX : X.length = n * sz) :
    cp2X P dT sT ty (some (.cells (cv .u8 S) t (0, 0))) (some (.cells (cv .u8 X) t2 f2)) w l d i 0 n c j 0 n c2 = .ok (.int .i64 (n : Int)) (Wd w (l.set i (.cells (cv .u8 X) t (0, 0))) d) := by
  have := cp2X_gen (P := P) (ty := ty) (sT := sT) (c := c) (c2 := c2) (o := 0) (o2 := 0) (n := n) (m := n) (k := n) (x := X) hu h1 h2 h3 (Nat.min_self n) (by rw [cv_size]; omega) (by
    rw [Nat.zero_add, ← hX, ← cv_size .u8 X, Array.extract_size]) (by omega)
  rw [spl_full (by omega)] at this
  exact this
/-- The first bytes of a write's data. -/
theorem cp2X_wv {P : Program} {dT sT ty : TypeId} {w : World} {l : List Obj} {d i o c j m c2 a : Nat} {S x : List Nat} {t t2 : TypeId} {f2 : Nat × Nat}
    (hu : P.underlying dT = some (.slice (P.elem dT))) (h1 : (sizeOf (P.elem dT)).run P (Wd w l d) = .ok 1 (Wd w l d)) (h2 : l[i]? = some (.cells (cv .u8 S) t (0, 0))) (h3 : l[j]? = some (.cells (wv a x) t2 f2))
    (hm : m ≤ 64) (hx : x.length = 64) (hfit : o + 64 ≤ S.length) :
    cp2X P dT sT ty (some (.cells (cv .u8 S) t (0, 0))) (some (.cells (wv a x) t2 f2)) w l d i o 64 c j 1 m c2 = .ok (.int .i64 (m : Int)) (Wd w (l.set i (.cells (cv .u8 (spl S o (x.take m))) t (0, 0))) d) := by
  refine cp2X_gen (k := m) (x := x.take m) hu h1 h2 h3 (Nat.min_eq_left hm) (by rw [wv_size]; omega) ?_ (by rw [List.length_take]; omega)
  apply Array.ext'
  rw [Array.toList_extract, wv_list, List.extract_eq_take_drop, Nat.mul_one, Nat.add_sub_cancel_left]
  show ((cv .u8 x).toList).take m = _
  simp [cv, List.map_take]
end Go.Own.Jf
namespace Go.Proofs.YtlogjpmdfimgdaaGreatDoor.Jf
open Go.RowKit Go.Own.Jf

section
variable {P : Program} {T : TypeId} {a a' : Nat} {x x' : List Nat} {ty : TypeId}
theorem stW {w : World} {l : List Obj} {d i : Nat} (h1 : (sizeOf T).run P (Wd w l d) = .ok 65 (Wd w l d)) (h2 : l[i]? = some (.cells (wv a x) ty (0, 0))) (hx : x.length = 64) (hx' : x'.length = 64) :
    stX P T 65 (some (.cells (wv a x) ty (0, 0))) w l d i 0 (.agg (wv a' x')) = .ok () (Wd w (l.set i (.cells (wv a' x') ty (0, 0))) d) :=
  stX_all h1 h2 (by rw [wv_size, hx']) (by rw [wv_size, hx]) (wv_one _ _)
end
theorem al74 {w : World} {l : List Obj} {d : Nat} : alX Tryz.prog 222 (.agg (wv 0 (rep 64))) w l d = .ok (.pointer (some ⟨w.heap.size + l.length, 0, none⟩)) (Wd w (l ++ [.cells (wv 0 (rep 64)) 222 (0, 0)]) d) := alX_mix z222
theorem set_id {l : List Obj} {m : Nat} {X : Obj} (h : l[m]? = some X) : l.set m X = l := by
  obtain ⟨hi, hx⟩ := List.getElem?_eq_some_iff.1 h
  rw [← hx, List.set_getElem_self]
theorem sec_eq (x : List Nat) (k : Nat) : (x.drop (k * 64)).take 64 = sec x k := rfl
theorem settleL_snoc (T R : List Nat) (ws : List (Nat × List Nat)) (k a : Nat) (x : List Nat) (h : ws[k]? = some (a, x)) : settleL T R (ws.take (k + 1)) = spl (settleL T R (ws.take k)) (a * 64) (sec R a) := by
  have hk := (List.getElem?_eq_some_iff.1 h)
  rw [List.take_succ_eq_append_getElem hk.1, hk.2]
  unfold settleL
  rw [List.foldl_append]
  rfl
theorem ld_row {P : Program} {w : World} {L : List Obj} {D j kk m aa : Nat} {X : List Value} {x : List Nat} {tj : TypeId} {ws : List (Nat × List Nat)} {T : TypeId} (h1 : aggSize P T = some 65) (hj : L[j]? = some (.cells X.toArray tj (0, 0)))
    (hX : X.take (m * 65) = wcs ws) (hm : ws.length = m) (hml : m * 65 ≤ X.length) (hws : ∀ p ∈ ws, p.2.length = 64) (hk : ws[kk]? = some (aa, x)) :
    ldX P T (some 65) (some (.cells X.toArray tj (0, 0))) (w.heap.size + j) (kk * 65) (Wd w L D) = .ok (.agg (wv aa x)) (Wd w L D) := by
  have hlt := (List.getElem?_eq_some_iff.1 hk).1
  have hfit : kk * 65 + 65 ≤ m * 65 := by omega
  rw [ldX_mix h1 (by rw [blk_at]; exact hj) (by rw [List.size_toArray]; omega)]
  congr 2
  apply Array.ext'
  have hg := wcs_get hws hk
  rw [← hX, List.drop_take, List.take_take, Nat.min_eq_left (by omega)] at hg
  rw [Array.toList_extract, List.extract_eq_take_drop, Nat.add_sub_cancel_left]
  exact hg
attribute [local go_sem] sec_eq stD2v ldW ldW0 ldW1 stW al74 cp2X_full set_same app_left set_left at_mid' set_mid' at_mid2' set_mid2' List.getElem?_set_ne

set_option maxRecDepth 100000 in
set_option maxHeartbeats 1000000 in
theorem settle_any (w : World) (l : List Obj) (d i t r n : Nat) (vs vl vw : Value) (count : Nat) (a : Int) (k : Nat) (tt : Int) (o : Bool) (T R : List Nat) (ws : List (Nat × List Nat)) (A : Nat → Prop)
    (hd : l[i]? = some (.cells (dc vs vl vw count a k tt o) 104 (0, 0))) (ht : l[t]? = some (.cells (cv .u8 T) 208 (0, 0))) (hr : l[r]? = some (.cells (cv .u8 R) 208 (0, 0)))
    (hw : RowV A w l 65 ws.length vw (wcs ws)) (hA : ∀ p, A p → p ≠ i ∧ p ≠ t) (it : i ≠ t) (ir : i ≠ r) (tr : t ≠ r) (hT : T.length = n * 64) (hR : R.length = n * 64) (hws : ∀ p ∈ ws, p.1 < n ∧ p.2.length = 64) (h64 : ws.length ≤ 64) :
    Calls Tryz.prog 124 #[.pointer (some ⟨w.heap.size + i, 0, none⟩), .slice (some ⟨w.heap.size + t, 0, none⟩) n n, .slice (some ⟨w.heap.size + r, 0, none⟩) n n] (Wd w l d) fun e w' => e = .returned (.tuple #[]) ∧
      ∃ l' d' vw', w' = Wd w l' d' ∧ l'[i]? = some (.cells (dc vs vl vw' 0 a k tt o) 104 (0, 0)) ∧ l'[t]? = some (.cells (cv .u8 (settleL (if ws.length < count then R else T) R ws)) 208 (0, 0)) ∧ RowV A w l' 65 0 vw' [] ∧ l.length ≤ l'.length ∧ ∀ p, p < l.length → p ≠ i → p ≠ t → l'[p]? = l[p]? := by
  have ti := it.symm
  have ri := ir.symm
  have rt := tr.symm
  obtain ⟨po, c, rfl, hpo⟩ : ∃ po c, vw = .slice po ws.length c ∧ ((po = none ∧ c = 0 ∧ ws = []) ∨ ∃ j X tj, A j ∧ po = some ⟨w.heap.size + j, 0, none⟩ ∧ l[j]? = some (.cells (List.toArray X) tj (0, 0)) ∧ X.length = c * 65 ∧ ws.length ≤ c ∧ X.take (ws.length * 65) = wcs ws) := by
    rcases hw with ⟨h1, h2, h3⟩ | ⟨j, c, X, tj, h1, h2, h3⟩
    · have : ws = [] := List.length_eq_zero_iff.1 h2
      subst this
      exact ⟨none, 0, h1, .inl ⟨rfl, rfl, rfl⟩⟩
    · exact ⟨_, c, h2, .inr ⟨j, X, tj, h1, rfl, h3⟩⟩
  obtain ⟨m, hm⟩ : ∃ m, ws.length = m := ⟨_, rfl⟩
  rw [hm] at hd hpo h64 hw ⊢
  obtain ⟨T0, hT0⟩ : ∃ T0, (if m < count then R else T) = T0 := ⟨_, rfl⟩
  have hT0l : T0.length = n * 64 := by rw [← hT0]; split <;> assumption
  rw [hT0]
  have HM := Lib.hid hm
  have HW := Lib.hid hw
  have HPO := Lib.hid hpo
  have HA := Lib.hid hA
  have HWS := Lib.hid hws
  clear hm hw hpo hA hws
  by_cases hc : m < count
  · have e0 := Lib.hid (show T0 = R by rw [← hT0, if_pos hc])
    have HT0 := Lib.hid hT0l
    clear hT0 hT0l
    go_enter Tryz.func124, Tryz.ntmps124
    go_wp2
    refine wp_region_read (by kernel_rfl) (by kernel_rfl) ?_
    repeat still_step
    refine wpStill_nil ?_
    go_wp2
    go_loopw [26] (fun i wr => ∃ (kk : Nat) (g : List Obj) (e : Nat), kk ≤ m ∧ i = .int .i64 kk ∧ wr = Wd w (l.set t (.cells (cv .u8 (settleL T0 R (ws.take kk))) 208 (0, 0)) ++ g) e) (fun i _ => m - (intOf i).toNat)
    case atStart => exact ⟨0, [], _, by omega, rfl, by rw [List.take_zero, List.append_nil, e0.out]; rfl⟩
    case round =>
      obtain ⟨kk, g, e, hkk, rfl, rfl⟩ := hrel
      have HSL : Hid ((settleL T0 R (ws.take kk)).length = n * 64) := Lib.hid (settleL_length hR _ _ HT0.out fun p hp => (HWS.out p (List.mem_of_mem_take hp)).1)
      by_cases hlt : kk < m
      · obtain ⟨⟨aa, x⟩, hk⟩ : ∃ p, ws[kk]? = some p := ⟨ws[kk]'(by rw [HM.out]; exact hlt), List.getElem?_eq_getElem _⟩
        have hw0 := HWS.out _ (List.mem_of_getElem? hk)
        simp only at hw0
        obtain ⟨haa, hx⟩ := hw0
        rcases HPO.out with ⟨_, _, e0'⟩ | ⟨j, X, tj, hAj, rfl, hj, hX, hmc, hXt⟩
        · rw [e0'] at hk; simp at hk
        have hjt := (HA.out j hAj).2
        have htj := hjt.symm
        have hld : ∀ L D, L[j]? = some (Obj.cells X.toArray tj (0, 0)) → ldX Tryz.prog 222 (some 65) (some (Obj.cells X.toArray tj (0, 0))) (w.heap.size + j) (kk * 65) (Wd w L D) = .ok (.agg (wv aa x)) (Wd w L D) := fun L D hL =>
          ld_row ag222 hL hXt HM.out (by rw [hX]; exact Nat.mul_le_mul_right _ hmc) (fun p hp => (HWS.out p hp).2) hk
        have HSN := Lib.hid (settleL_snoc T0 R ws kk aa x hk)
        have HX := Lib.hid hX
        have HXT := Lib.hid hXt
        have HAJ := Lib.hid hAj
        have hai : (aa : Int) < n := by omega
        have hfit : aa * 64 + 64 ≤ n * 64 := by omega
        have hsl : (sec R aa).length = 64 := sec_length hR haa
        have hSl := HSL.out
        clear hX hXt hAj hk
        obtain ⟨S, hS⟩ : ∃ S, settleL T0 R (ws.take kk) = S := ⟨_, rfl⟩
        rw [hS] at HSN hSl ⊢
        clear hS HSL
        go_wp2
        refine wp_region_tail 9 (by kernel_rfl) (by kernel_rfl) ?_
        simp only [List.take_succ_cons, List.take_zero, List.drop_succ_cons, List.drop_zero]
        repeat still_step
        refine wpStill_nil ?_
        go_wp2
        go_roundw
        case rel => exact ⟨kk + 1, _, _, by omega, by go_num, by rw [HSN.out]⟩
        case measure => simp [intOf]; omega
      · obtain rfl : kk = m := by omega
        have HE := Lib.hid (show ws.take kk = ws by rw [List.take_of_length_le (by rw [HM.out]; exact Nat.le_refl _)])
        rw [HE.out] at HSL ⊢
        obtain ⟨S, hS⟩ : ∃ S, settleL T0 R ws = S := ⟨_, rfl⟩
        rw [hS] at HSL ⊢
        have HS := Lib.hid hS
        clear hS
        have HLN := Lib.hid (show l.length = (l.set t (.cells (cv .u8 S) 208 (0, 0))).length by rw [List.length_set])
        have HL1 := Lib.hid (show ∀ p, p ≠ t → (l.set t (.cells (cv .u8 S) 208 (0, 0)))[p]? = l[p]? from fun p hp => List.getElem?_set_ne hp.symm)
        have hLi := set_other (X := .cells (cv .u8 S) 208 (0, 0)) ti hd
        have HLT := Lib.hid (set_some (X := .cells (cv .u8 S) 208 (0, 0)) ht)
        generalize l.set t (.cells (cv .u8 S) 208 (0, 0)) = L at *
        have HR : ∀ (V : Value) (X : Obj), RowV A w l 65 0 V [] → RowV A w (L.set i X ++ g) 65 0 V [] := fun V X h => (h.mono (l' := L.set i X) (fun p hp _ => ⟨hp, by
          rw [List.getElem?_set_ne (HA.out p hp).1.symm, HL1.out p (HA.out p hp).2]⟩)).more g
        have HR2 := Lib.hid HR
        have HK : ∀ X p, p < l.length → p ≠ i → p ≠ t → (L.set i X ++ g)[p]? = l[p]? := fun X p hp h1 h2 => by
          rw [List.getElem?_append_left (by rw [List.length_set, ← HLN.out]; exact hp), List.getElem?_set_ne h1.symm, HL1.out p h2]
        have HK2 := Lib.hid HK
        have HLE := Lib.hid (show ∀ X, l.length ≤ (L.set i X ++ g).length from fun X => by rw [List.length_append, List.length_set, ← HLN.out]; omega)
        clear HR HK
        rcases HPO.out with ⟨rfl, rfl, _⟩ | ⟨j, X, tj, hAj, rfl, hj, hX, hmc, hXt⟩
        · clear HPO
          rename_i e0'
          clear e0'
          go_wp2
          go_end0
          exact ⟨rfl, _, _, _, rfl, app_some (set_some hLi), by rw [HS.out]; exact app_some (set_other it HLT.out), HR2.out _ _ (.inl ⟨rfl, rfl, rfl⟩), HLE.out _, HK2.out _⟩
        · have HX := Lib.hid hX
          have HXT := Lib.hid hXt
          have HAJ := Lib.hid hAj
          have HJ := Lib.hid hj
          clear hX hXt hAj hj
          go_wp2
          go_end0
          exact ⟨rfl, _, _, _, rfl, app_some (set_some hLi), by rw [HS.out]; exact app_some (set_other it HLT.out), HR2.out _ _ (.inr ⟨j, c, X, tj, HAJ.out, rfl, HJ.out, HX.out, Nat.zero_le _, by simp⟩), HLE.out _, HK2.out _⟩
  · have e0 := Lib.hid (show T0 = T by rw [← hT0, if_neg hc])
    have HT0 := Lib.hid hT0l
    clear hT0 hT0l
    go_enter Tryz.func124, Tryz.ntmps124
    go_wp2
    refine wp_region_read (by kernel_rfl) (by kernel_rfl) ?_
    repeat still_step
    refine wpStill_nil ?_
    go_wp2
    go_loopw [26] (fun i wr => ∃ (kk : Nat) (g : List Obj) (e : Nat), kk ≤ m ∧ i = .int .i64 kk ∧ wr = Wd w (l.set t (.cells (cv .u8 (settleL T0 R (ws.take kk))) 208 (0, 0)) ++ g) e) (fun i _ => m - (intOf i).toNat)
    case atStart => exact ⟨0, [], _, by omega, rfl, by rw [List.take_zero, List.append_nil, e0.out]; show _ = Wd w (l.set t (.cells (cv .u8 T) 208 (0, 0))) _; rw [set_id ht]⟩
    case round =>
      obtain ⟨kk, g, e, hkk, rfl, rfl⟩ := hrel
      have HSL : Hid ((settleL T0 R (ws.take kk)).length = n * 64) := Lib.hid (settleL_length hR _ _ HT0.out fun p hp => (HWS.out p (List.mem_of_mem_take hp)).1)
      by_cases hlt : kk < m
      · obtain ⟨⟨aa, x⟩, hk⟩ : ∃ p, ws[kk]? = some p := ⟨ws[kk]'(by rw [HM.out]; exact hlt), List.getElem?_eq_getElem _⟩
        have hw0 := HWS.out _ (List.mem_of_getElem? hk)
        simp only at hw0
        obtain ⟨haa, hx⟩ := hw0
        rcases HPO.out with ⟨_, _, e0'⟩ | ⟨j, X, tj, hAj, rfl, hj, hX, hmc, hXt⟩
        · rw [e0'] at hk; simp at hk
        have hjt := (HA.out j hAj).2
        have htj := hjt.symm
        have hld : ∀ L D, L[j]? = some (Obj.cells X.toArray tj (0, 0)) → ldX Tryz.prog 222 (some 65) (some (Obj.cells X.toArray tj (0, 0))) (w.heap.size + j) (kk * 65) (Wd w L D) = .ok (.agg (wv aa x)) (Wd w L D) := fun L D hL =>
          ld_row ag222 hL hXt HM.out (by rw [hX]; exact Nat.mul_le_mul_right _ hmc) (fun p hp => (HWS.out p hp).2) hk
        have HSN := Lib.hid (settleL_snoc T0 R ws kk aa x hk)
        have HX := Lib.hid hX
        have HXT := Lib.hid hXt
        have HAJ := Lib.hid hAj
        have hai : (aa : Int) < n := by omega
        have hfit : aa * 64 + 64 ≤ n * 64 := by omega
        have hsl : (sec R aa).length = 64 := sec_length hR haa
        have hSl := HSL.out
        clear hX hXt hAj hk
        obtain ⟨S, hS⟩ : ∃ S, settleL T0 R (ws.take kk) = S := ⟨_, rfl⟩
        rw [hS] at HSN hSl ⊢
        clear hS HSL
        go_wp2
        refine wp_region_tail 9 (by kernel_rfl) (by kernel_rfl) ?_
        simp only [List.take_succ_cons, List.take_zero, List.drop_succ_cons, List.drop_zero]
        repeat still_step
        refine wpStill_nil ?_
        go_wp2
        go_roundw
        case rel => exact ⟨kk + 1, _, _, by omega, by go_num, by rw [HSN.out]⟩
        case measure => simp [intOf]; omega
      · obtain rfl : kk = m := by omega
        have HE := Lib.hid (show ws.take kk = ws by rw [List.take_of_length_le (by rw [HM.out]; exact Nat.le_refl _)])
        rw [HE.out] at HSL ⊢
        obtain ⟨S, hS⟩ : ∃ S, settleL T0 R ws = S := ⟨_, rfl⟩
        rw [hS] at HSL ⊢
        have HS := Lib.hid hS
        clear hS
        have HLN := Lib.hid (show l.length = (l.set t (.cells (cv .u8 S) 208 (0, 0))).length by rw [List.length_set])
        have HL1 := Lib.hid (show ∀ p, p ≠ t → (l.set t (.cells (cv .u8 S) 208 (0, 0)))[p]? = l[p]? from fun p hp => List.getElem?_set_ne hp.symm)
        have hLi := set_other (X := .cells (cv .u8 S) 208 (0, 0)) ti hd
        have HLT := Lib.hid (set_some (X := .cells (cv .u8 S) 208 (0, 0)) ht)
        generalize l.set t (.cells (cv .u8 S) 208 (0, 0)) = L at *
        have HR : ∀ (V : Value) (X : Obj), RowV A w l 65 0 V [] → RowV A w (L.set i X ++ g) 65 0 V [] := fun V X h => (h.mono (l' := L.set i X) (fun p hp _ => ⟨hp, by
          rw [List.getElem?_set_ne (HA.out p hp).1.symm, HL1.out p (HA.out p hp).2]⟩)).more g
        have HR2 := Lib.hid HR
        have HK : ∀ X p, p < l.length → p ≠ i → p ≠ t → (L.set i X ++ g)[p]? = l[p]? := fun X p hp h1 h2 => by
          rw [List.getElem?_append_left (by rw [List.length_set, ← HLN.out]; exact hp), List.getElem?_set_ne h1.symm, HL1.out p h2]
        have HK2 := Lib.hid HK
        have HLE := Lib.hid (show ∀ X, l.length ≤ (L.set i X ++ g).length from fun X => by rw [List.length_append, List.length_set, ← HLN.out]; omega)
        clear HR HK
        rcases HPO.out with ⟨rfl, rfl, _⟩ | ⟨j, X, tj, hAj, rfl, hj, hX, hmc, hXt⟩
        · clear HPO
          rename_i e0'
          clear e0'
          go_wp2
          go_end0
          exact ⟨rfl, _, _, _, rfl, app_some (set_some hLi), by rw [HS.out]; exact app_some (set_other it HLT.out), HR2.out _ _ (.inl ⟨rfl, rfl, rfl⟩), HLE.out _, HK2.out _⟩
        · have HX := Lib.hid hX
          have HXT := Lib.hid hXt
          have HAJ := Lib.hid hAj
          have HJ := Lib.hid hj
          clear hX hXt hAj hj
          go_wp2
          go_end0
          exact ⟨rfl, _, _, _, rfl, app_some (set_some hLi), by rw [HS.out]; exact app_some (set_other it HLT.out), HR2.out _ _ (.inr ⟨j, c, X, tj, HAJ.out, rfl, HJ.out, HX.out, Nat.zero_le _, by simp⟩), HLE.out _, HK2.out _⟩
end Go.Proofs.YtlogjpmdfimgdaaGreatDoor.Jf
namespace Go.Proofs.YtlogjpmdfimgdaaGreatDoor.Jf
open Go.RowKit Go.Own.Jf

theorem keeper_any (w : World) (l : List Obj) (d k : Nat) (t last : Int) :
    Calls Tryz.prog 152 #[.int .u64 (k : Int), .int .i64 t, .int .i64 last] (Wd w l d) fun e w' => ∃ L k1 k2 k3,
      e = .returned (.func (.func 159) #[] #[.pointer (some ⟨w.heap.size + k1, 0, none⟩), .pointer (some ⟨w.heap.size + k2, 0, none⟩), .pointer (some ⟨w.heap.size + k3, 0, none⟩)]) ∧
      w' = Wd w L d ∧ L[k1]? = some (.cells #[.int .u64 (k : Int)] 39 (0, 0)) ∧ L[k2]? = some (.cells #[.int .i64 last] 3 (0, 0)) ∧ L[k3]? = some (.cells #[.int .i64 t] 3 (0, 0)) ∧
      (∃ g, L = l ++ g) ∧ l.length ≤ k1 ∧ l.length ≤ k2 ∧ l.length ≤ k3 := by
  go_enter Tryz.func152, Tryz.ntmps152
  go_wp2
  go_ret
  exact ⟨_, l.length, l.length + 2, l.length + 1, rfl, rfl, at_mid' rfl, by rw [List.getElem?_append_right (by omega)]; simp, at_next' rfl, ⟨_, rfl⟩, by omega, by omega, by omega⟩

theorem tearL_snoc (k : Nat) (t last : Int) (p : Nat × List Nat) : ∀ (ws : List (Nat × List Nat)) (i : Nat) (x : List Nat), tearL k t last i x (ws ++ [p]) = spl (tearL k t last i x ws) (p.1 * 64) (p.2.take (keptN k t last (i + ws.length)))
  | [], i, x => rfl
  | q :: ws, i, x => by
    show tearL k t last (i + 1) _ (ws ++ [p]) = _
    rw [tearL_snoc k t last p ws, List.length_cons, show i + 1 + ws.length = i + (ws.length + 1) by omega]
    rfl
theorem tearL_step (k : Nat) (t last : Int) (x : List Nat) (ws : List (Nat × List Nat)) (j a : Nat) (y : List Nat) (h : ws[j]? = some (a, y)) : tearL k t last 0 x (ws.take (j + 1)) = spl (tearL k t last 0 x (ws.take j)) (a * 64) (y.take (keptN k t last j)) := by
  have hk := List.getElem?_eq_some_iff.1 h
  rw [List.take_succ_eq_append_getElem hk.1, tearL_snoc, hk.2, Nat.zero_add, List.length_take, Nat.min_eq_left (by have := hk.1; omega)]
theorem sliceAt_hi {P : Program} {T E : TypeId} {n b o kp : Nat} {k : IntKind} {W : World} (hu : P.underlying T = some (.array n E)) (h1 : (sizeOf E).run P W = .ok 1 W) (hk : kp ≤ n) :
    (Instr.sliceAt T (.pointer (some ⟨b, o, none⟩)) none (some (.int k (kp : Int))) none).run P W = .ok (.slice (some ⟨b, o, none⟩) kp n) W := by
  have hadd : (⟨b, o, none⟩ : Addr).add 0 = ⟨b, o, none⟩ := by unfold Addr.add; split <;> simp_all
  simp [Instr.sliceAt, Instr.sureAddr, Instr.sliceBounds, Instr.sliceBound, run_underlying hu, asIntOf, h1, hadd]
  intro hh; omega
theorem sl71 {b o kp : Nat} {k : IntKind} {W : World} (hk : kp ≤ 64) :
    (Instr.sliceAt 208 (.pointer (some ⟨b, o, none⟩)) none (some (.int k (kp : Int))) none).run Tryz.prog W = .ok (.slice (some ⟨b, o, none⟩) kp 64) W := sliceAt_hi Tryz.underlying208 (sz5 W) hk
attribute [local go_sem] sl71 stD2v ldW ldW0 ldW1 stW al74 cp2X_wv set_same app_left set_left at_mid' set_mid' at_mid2' set_mid2' List.getElem?_set_ne

theorem crash_off (w : World) (l : List Obj) (d i : Nat) {vs vl vw : Value} {n : Nat} {a : Int} {k : Nat} {t : Int} (h : l[i]? = some (.cells (dc vs vl vw n a k t true) 104 (0, 0))) (k' : Nat) (t' : Int) :
    Calls Tryz.prog 142 #[.pointer (some ⟨w.heap.size + i, 0, none⟩), .int .u64 (k' : Int), .int .i64 t'] (Wd w l d) fun e w' => e = .returned (.tuple #[]) ∧ w' = Wd w l d := by
  go_enter Tryz.func142, Tryz.ntmps142
  go_wp2
  refine bodyPost_ret (results_none rfl _ _ _) rfl ?_
  exact ⟨rfl, rfl⟩

set_option maxRecDepth 100000 in
set_option maxHeartbeats 1000000 in
theorem crash_on (w : World) (l : List Obj) (d i s q : Nat) (vw : Value) (O : Nat → Prop) (M : Dk) (k : Nat) (t : Int) (h : DAt w l i s q vw O M) (hoff : M.off = false) (hc : M.count ≤ 1099511627776) (hO : ∀ p, O p → p < l.length) :
    Calls Tryz.prog 142 #[.pointer (some ⟨w.heap.size + i, 0, none⟩), .int .u64 (k : Int), .int .i64 t] (Wd w l d) fun e w' => e = .returned (.tuple #[]) ∧ ∃ l' d' vw', w' = Wd w l' d' ∧ DAt w l' i s q vw' O (M.crash k t) ∧ Kp O l l' := by
  have hd := h.hd
  have hs := h.hs
  have hq := h.hq
  have is := h.is
  have iq := h.iq
  have sq := h.sq
  have si := h.is.symm
  have qi := h.iq.symm
  have qs := h.sq.symm
  have H := Lib.hid h
  have HO := Lib.hid hO
  clear h hO
  obtain ⟨n, seen, last, wait, count, cat, keep, torn, off⟩ := M
  simp only at hd hs hq hc hoff
  subst hoff
  go_enter Tryz.func142, Tryz.ntmps142
  go_wp2_with fail
  refine (keeper_any _ _ _ _ _ _).mono ?_
  rintro e w' ⟨L, k1, k2, k3, rfl, rfl, hk1, hk2, hk3, hg, hl1, hl2, hl3⟩
  obtain ⟨g0, hg0⟩ := hg
  have hLd := app_some (g := g0) hd
  have hLs := app_some (g := g0) hs
  have hLq := app_some (g := g0) hq
  have HRW := Lib.hid (H.out.hw.more g0)
  rw [← hg0] at hLd hLs hLq HRW
  have HG := Lib.hid hg0
  clear hg0
  have hq1 : q ≠ k1 := by have := (List.getElem?_eq_some_iff.1 hq).1; omega
  have hq2 : q ≠ k2 := by have := (List.getElem?_eq_some_iff.1 hq).1; omega
  have hq3 : q ≠ k3 := by have := (List.getElem?_eq_some_iff.1 hq).1; omega
  clear hl1 hl2 hl3
  obtain ⟨m, hm⟩ : ∃ m, wait.length = m := ⟨_, rfl⟩
  simp only [hm] at HRW
  have HM := Lib.hid hm
  have h64 : m ≤ 64 := by have := H.out.ok.waitL; simp only at this; omega
  clear hm hd hs hq
  obtain ⟨po, c, rfl, hpo⟩ : ∃ po c, vw = .slice po m c ∧ ((po = none ∧ c = 0 ∧ wait = []) ∨ ∃ j X tj, (¬ O j ∧ j ≠ i ∧ j ≠ s ∧ j ≠ q) ∧ po = some ⟨w.heap.size + j, 0, none⟩ ∧ L[j]? = some (.cells (List.toArray X) tj (0, 0)) ∧ X.length = c * 65 ∧ m ≤ c ∧ X.take (m * 65) = wcs wait) := by
    rcases HRW.out with ⟨h1, h2, h3⟩ | ⟨j, c, X, tj, h1, h2, h3⟩
    · subst h2
      have : wait = [] := List.length_eq_zero_iff.1 HM.out
      exact ⟨none, 0, h1, .inl ⟨rfl, rfl, this⟩⟩
    · exact ⟨_, c, h2, .inr ⟨j, X, tj, h1, rfl, h3⟩⟩
  have HPO := Lib.hid hpo
  clear hpo
  go_wp2
  go_loopw [26] (fun i wr => ∃ (kk : Nat) (g : List Obj) (e : Nat), kk ≤ m ∧ i = .int .i64 kk ∧ wr = Wd w (L.set q (.cells (cv .u8 (tearL k t ((count : Int) - 1) 0 last (wait.take kk))) 208 (0, 0)) ++ g) e) (fun i _ => m - (intOf i).toNat)
  case atStart => exact ⟨0, [], _, by omega, rfl, by rw [List.take_zero, List.append_nil]; show _ = Wd w (L.set q (.cells (cv .u8 last) 208 (0, 0))) _; rw [set_id hLq]⟩
  case round =>
    obtain ⟨kk, g, e, hkk, rfl, rfl⟩ := hrel
    have HSL : Hid ((tearL k t ((count : Int) - 1) 0 last (wait.take kk)).length = n * 64) := Lib.hid (tearL_length _ _ _ H.out.ok.lastL fun p hp => ⟨(H.out.ok.waitO p (List.mem_of_mem_take hp)).1, (H.out.ok.waitO p (List.mem_of_mem_take hp)).2.1⟩)
    by_cases hlt : kk < m
    · obtain ⟨⟨aa, x⟩, hk⟩ : ∃ p, wait[kk]? = some p := ⟨wait[kk]'(by rw [HM.out]; exact hlt), List.getElem?_eq_getElem _⟩
      have hw0 := H.out.ok.waitO _ (List.mem_of_getElem? hk)
      simp only at hw0
      obtain ⟨haa, hx, _⟩ := hw0
      rcases HPO.out with ⟨_, _, e0'⟩ | ⟨j, X, tj, hAj, rfl, hj, hX, hmc, hXt⟩
      · rw [e0'] at hk; simp at hk
      have hjq := hAj.2.2.2
      have hqj := hjq.symm
      have hld : ∀ L D, L[j]? = some (Obj.cells X.toArray tj (0, 0)) → ldX Tryz.prog 222 (some 65) (some (Obj.cells X.toArray tj (0, 0))) (w.heap.size + j) (kk * 65) (Wd w L D) = .ok (.agg (wv aa x)) (Wd w L D) := fun L D hL =>
        ld_row ag222 hL hXt HM.out (by rw [hX]; exact Nat.mul_le_mul_right _ hmc) (fun p hp => (H.out.ok.waitO p hp).2.1) hk
      have HSN := Lib.hid (tearL_step k t ((count : Int) - 1) last wait kk aa x hk)
      have HX := Lib.hid hX
      have HXT := Lib.hid hXt
      have HAJ := Lib.hid hAj
      have hai : (aa : Int) < n := by omega
      have hfit : aa * 64 + 64 ≤ n * 64 := by omega
      have hSl := HSL.out
      have hk64 : kk < 64 := by omega
      clear hX hXt hAj hk
      obtain ⟨S, hS⟩ : ∃ S, tearL k t ((count : Int) - 1) 0 last (wait.take kk) = S := ⟨_, rfl⟩
      rw [hS] at HSN hSl ⊢
      clear hS HSL
      obtain ⟨kp, hkp⟩ : ∃ kp, keptN k t ((count : Int) - 1) kk = kp := ⟨_, rfl⟩
      have hkp64 : kp ≤ 64 := by rw [← hkp]; exact keptN_le _ _ _ _
      have HKP := Lib.hid hkp
      rw [hkp] at HSN
      clear hkp
      have HC : Hid (∀ (X : Obj) g e, Calls Tryz.prog 159 #[.int .i64 (kk : Int), .pointer (some ⟨w.heap.size + k1, 0, none⟩), .pointer (some ⟨w.heap.size + k2, 0, none⟩), .pointer (some ⟨w.heap.size + k3, 0, none⟩)] (Wd w (L.set q X ++ g) e) fun e' w' => e' = .returned (.int .i64 (kp : Int)) ∧ w' = Wd w (L.set q X ++ g) e) := Lib.hid fun X g e =>
        (keep_any w _ e k1 k2 k3 (app_some (set_other hq1 hk1)) (app_some (set_other hq2 hk2)) (app_some (set_other hq3 hk3)) kk hk64).mono fun e' w' ⟨h1, h2⟩ => ⟨by rw [h1, HKP.out], h2.symm⟩
      go_wp2
      refine wp_region_tail 13 (by kernel_rfl) (by kernel_rfl) ?_
      simp only [List.take_succ_cons, List.take_zero, List.drop_succ_cons, List.drop_zero]
      repeat still_step
      still_call (HC.out _ _ _)
      still_step
      refine wpStill_nil ?_
      go_wp2
      go_roundw
      case rel => exact ⟨kk + 1, _, _, by omega, by go_num, by rw [HSN.out]⟩
      case measure => simp [intOf]; omega
    · obtain rfl : kk = m := by omega
      have HE := Lib.hid (show wait.take kk = wait by rw [List.take_of_length_le (by rw [HM.out]; exact Nat.le_refl _)])
      rw [HE.out] at HSL ⊢
      obtain ⟨S, hS⟩ : ∃ S, tearL k t ((count : Int) - 1) 0 last wait = S := ⟨_, rfl⟩
      rw [hS] at HSL ⊢
      have HS := Lib.hid hS
      clear hS
      have HLN := Lib.hid (show L.length = (L.set q (.cells (cv .u8 S) 208 (0, 0))).length by rw [List.length_set])
      have HL1 := Lib.hid (show ∀ p, p ≠ q → (L.set q (.cells (cv .u8 S) 208 (0, 0)))[p]? = L[p]? from fun p hp => List.getElem?_set_ne hp.symm)
      have hLi := app_some (g := g) (set_other (X := .cells (cv .u8 S) 208 (0, 0)) qi hLd)
      have hLs2 := app_some (g := g) (set_other (X := .cells (cv .u8 S) 208 (0, 0)) qs hLs)
      have hLq2 := app_some (g := g) (set_some (X := .cells (cv .u8 S) 208 (0, 0)) hLq)
      have HRW2 := Lib.hid ((HRW.out.mono (l' := L.set q (.cells (cv .u8 S) 208 (0, 0))) (B := fun p => ¬ O p ∧ p ≠ i ∧ p ≠ s ∧ p ≠ q) (fun p hp _ => ⟨hp, HL1.out p hp.2.2.2⟩)).more g)
      have HKP : Hid (Kp O l (L.set q (.cells (cv .u8 S) 208 (0, 0)) ++ g)) := Lib.hid (by
        rw [HG.out]
        exact ((Kp.app O l g0).trans (Kp.set H.out.Oq _)).trans (Kp.app _ _ _))
      generalize L.set q (.cells (cv .u8 S) 208 (0, 0)) ++ g = L1 at *
      clear hk1 hk2 hk3 hLs hLq hLd HRW hq1 hq2 hq3
      go_wp2
      refine wp_region_tail 9 (by kernel_rfl) (by kernel_rfl) ?_
      simp only [List.take_succ_cons, List.take_zero, List.drop_succ_cons, List.drop_zero]
      repeat still_step
      refine wpStill_nil ?_
      go_wp2_with fail
      refine (settle_any w L1 _ i s q n _ _ _ _ _ _ _ _ seen S wait (fun p => ¬ O p ∧ p ≠ i ∧ p ≠ s ∧ p ≠ q) hLi hLs2 hLq2 (by rw [HM.out]; exact HRW2.out) (fun p hp => ⟨hp.2.1, hp.2.2.1⟩) is iq sq H.out.ok.seenL HSL.out (fun p hp => ⟨(H.out.ok.waitO p hp).1, (H.out.ok.waitO p hp).2.1⟩) (by rw [HM.out]; exact h64)).mono ?_
      rintro e' w' ⟨rfl, l', d', vw', rfl, hi', ht', hrow, hlen, hk'⟩
      have HS2 := Lib.hid ht'
      have HQ2 := Lib.hid ((hk' q (List.getElem?_eq_some_iff.1 hLq2).1 qi qs).trans hLq2)
      have HRO := Lib.hid hrow
      have HK3 : Hid (Kp O L1 l') := Lib.hid ⟨hlen, fun p hp hlt => hk' p hlt (fun e => H.out.Oi (e ▸ hp)) (fun e => H.out.Os (e ▸ hp))⟩
      clear ht' hrow hlen hk' hLi hLs2 hLq2
      go_wp2
      go_end0
      refine ⟨rfl, _, _, vw', rfl, ?_, (HKP.out.trans HK3.out).trans (Kp.set H.out.Oi _)⟩
      have hok := H.out.ok.crash k t
      have HC : ({ n := n, seen := seen, last := last, wait := wait, count := count, cat := cat, keep := keep, torn := torn, off := false } : Dk).crash k t = { n := n, seen := settleL (if wait.length < count then S else seen) S wait, last := S, wait := [], count := 0, cat := 0, keep := 0, torn := 0, off := true } := by
        have e : ({ n := n, seen := seen, last := last, wait := wait, count := count, cat := cat, keep := keep, torn := torn, off := false } : Dk).torned k t = S := HS.out
        unfold Dk.crash
        rw [if_neg (by simp), e]
        rfl
      rw [HC] at hok ⊢
      exact ⟨set_some hi', set_other is HS2.out, set_other iq HQ2.out, HRO.out.mono fun p hp _ => ⟨hp, List.getElem?_set_ne hp.2.1.symm⟩, is, iq, sq, H.out.Oi, H.out.Os, H.out.Oq, hok⟩
end Go.Proofs.YtlogjpmdfimgdaaGreatDoor.Jf

/- Whatever lies on a disk, a journal is opened, and goes on: the law's walk. No condition. -/
import Derived.Test.YtjgfljckmckhcaaDoorZ43
namespace Go.Proofs.YtjgfljckmckhcaaDoor
open Go Go.RowKit Go.Own
/-- A write, whatever is written, to a disk whose power is on. -/
theorem write_keeps {M : Dk} (h : Live M) (k : Nat) (hk : k < M.n) (y : List Nat) (hy : B8 y) : Live (M.write (k : Int) y).1 ∧ (M.write (k : Int) y).1.n = M.n ∧ (M.write (k : Int) y).1.count ≤ M.count + 1 := by
  refine ⟨?_, ?_, run_count M (.w k y)⟩
  all_goals
    by_cases h64 : y.length ≤ 64
    · have := run_live h (s := .w k y) ⟨hk, h64, hy⟩
      first | exact this.2.1 | exact this.2.2.1
    · have hr : refE M.off M.n (k : Int) = 0 := by unfold refE; rw [h.on, if_neg (by simp), if_neg (by omega)]
      have hw : M.write (k : Int) y = (M, 3) := by unfold Dk.write; rw [if_pos hr, if_pos (by omega)]
      first | (rw [hw]; exact h) | rw [hw]
theorem Inv.texts {J : Jn} {M : Dk} (h : Inv J M) : ∀ t ∈ J.now.texts, t.length ≤ 1000000 ∧ B8 t := fun t ht => by
  have := h.good.texts t ht
  exact ⟨by omega, this.2⟩
theorem Inv.few {J : Jn} {M : Dk} (h : Inv J M) : J.now.texts.length ≤ 4096 := by
  have h1 := h.small
  have h2 := h.good.number
  omega
theorem mkS_map (ts : List (List Nat)) (s : ByteArray) : (ts ++ [bys s]).map mkS = ts.map mkS ++ [s] := by simp [mkS_bys]
attribute [-go_sem] Sm.execOp_bs run_string_add_if
attribute [local go_sem] agj61 csj61 szj61 agj64 csj64 szj64 agj25 isaj25 csj25 szj25 agj9 isaj9 csj9 szj9 agj32 isaj32 csj32 szj32 bsj32s ldX_mix1
set_option maxRecDepth 100000 in
set_option maxHeartbeats 4000000 in
theorem spoilt_any (w : World) (hR : Sm.Roots w) (v : Value) (bs : List ByteArray) (hv : TxAt w [] v bs) (y : ByteArray) : Calls Tryd.prog 4 #[v, .string y] w fun e w' => e = .returned (.bool true) ∧ Grows w w' := by
  refine calls_wd ?_
  obtain ⟨q0, c0, rfl, hv⟩ := hv
  obtain ⟨n, hN⟩ : ∃ n, bs.length = n := ⟨_, rfl⟩
  rw [hN]
  have HV := Lib.hid hv
  have HN := Lib.hid hN
  clear hv hN
  by_cases hg : n ≤ 16 ∧ y.size ≤ 200
  · have h1 : ¬ (16 : Int) < (n : Int) := by omega
    have h2 : ¬ (200 : Int) < (y.size : Int) := by omega
    have HY : Hid (y.size ≤ 200) := Lib.hid hg.2
    have hn : n ≤ 16 := hg.1
    clear hg
    go_enter Tryd.func4, Tryd.ntmps4
    go_wp2_with fail
    refine (awake_any w hR [] _).mono ?_
    rintro e w' ⟨rfl, g1, d1, rfl⟩
    rw [List.nil_append]
    go_wp2_with fail
    clear h1 h2
    refine (new_st w g1 d1 16 (by decide) (by decide)).mono ?_
    rintro e w' ⟨i, s, q, g2, d2, rfl, rfl, hs⟩
    have HS := Lib.hid hs
    obtain ⟨L1, hL1⟩ : ∃ L1, g1 ++ g2 = L1 := ⟨_, rfl⟩
    rw [hL1] at HS ⊢
    clear hs hL1
    go_wp2_with fail
    go_loopw [7] (fun ix wr => ∃ (k : Nat) (L : List Obj) (d : Nat) (M : Dk), k ≤ n ∧ ix = .int .i64 (k : Int) ∧ Hid (Sd w (fun p => p < g1.length) L i s q M ∧ Live M ∧ M.n = 16 ∧ M.count ≤ k) ∧ wr = Wd w L d) (fun ix _ => n - (intOf ix).toNat)
    case atStart => exact ⟨0, L1, d2, newK 16, Nat.zero_le _, rfl, Lib.hid ⟨HS.out, newK_live (by decide) (by decide), rfl, Nat.le_refl _⟩, rfl⟩
    case round =>
      clear HS
      obtain ⟨k, L, d3, M, hk, rfl, HI, rfl⟩ := hrel
      by_cases hlt : k < n
      · obtain ⟨x, hs⟩ : ∃ x, bs[k]? = some x := ⟨_, List.getElem?_eq_getElem (by rw [HN.out]; exact hlt)⟩
        have hne : bs ≠ [] := fun e => by rw [e] at hs; simp at hs
        obtain ⟨b, o, X, T, f, rfl, k1, k2⟩ := HV.out hne
        have hx := k2 k x hs
        have hb : ∀ d, blk (Wd w L d) b = some (.cells X T f) := fun d => k1 L d fun p hp => by simp at hp
        have hki : (k : Int) < n := by omega
        have HW := Lib.hid fun d => write_sd HI.out.1 (k : Int) x (by have := HI.out.2.2.2; omega) d
        have HK := Lib.hid (write_keeps HI.out.2.1 k (by rw [HI.out.2.2.1]; omega) (bys x) (B8.bys x))
        clear k1 k2 hs hne
        go_wp2_with fail
        refine (HW.out _).mono ?_
        rintro e w' ⟨L', d4, rfl, rfl, hs, hu⟩
        have HS2 := Lib.hid hs
        clear hs hu HW
        go_wp2
        go_roundw
        case rel => exact ⟨k + 1, L', d4, _, by omega, by go_num, Lib.hid ⟨HS2.out, HK.out.1, by rw [HK.out.2.1]; exact HI.out.2.2.1, by have := HK.out.2.2; have := HI.out.2.2.2; omega⟩, rfl⟩
        case measure => simp [intOf]; omega
      · obtain rfl : k = n := by omega
        have HFL := Lib.hid fun d => flush_sd HI.out.1 (by have := HI.out.2.2.2; omega) d
        have hfl := run_live HI.out.2.1 (s := .f) trivial
        have HL := Lib.hid (show Live (M.flush).1 ∧ (M.flush).1.n = 16 ∧ (M.flush).1.count = 0 from ⟨hfl.2.1, by have := hfl.2.2.1; rw [HI.out.2.2.1] at this; exact this, hfl.2.2.2.2 rfl⟩)
        clear hfl
        go_wp2_with fail
        refine (HFL.out _).mono ?_
        rintro e w' ⟨L2, d4, rfl, rfl, hs, hu⟩
        obtain ⟨z, hz⟩ : ∃ z, (M.flush).2 = z := ⟨_, rfl⟩
        rw [hz]
        obtain ⟨M2, hM2⟩ : ∃ M2, (M.flush).1 = M2 := ⟨_, rfl⟩
        rw [hM2] at hs HL
        have HS2 := Lib.hid hs
        obtain ⟨J, hoJ, hinv⟩ := open_inv HL.out.1 (by rw [HL.out.2.1]; decide) (by rw [HL.out.2.1])
        have HO := Lib.hid fun d => open_st hR HS2.out HL.out.1 (by rw [HL.out.2.1]; decide) (by rw [HL.out.2.1]) hoJ d
        have HIV := Lib.hid hinv
        clear hs hu hz hM2 HFL hoJ hinv HI
        go_wp2_with fail
        refine (HO.out _).mono ?_
        rintro e w' ⟨jo, g3, d5, rfl, rfl, hs⟩
        have HT := Lib.hid hs
        obtain ⟨L3, hL3⟩ : ∃ L3, L2 ++ g3 = L3 := ⟨_, rfl⟩
        rw [hL3] at HT ⊢
        clear hs hL3 HO HS2
        go_wp2_with fail
        refine (texts_st HT.out HIV.out.texts _).mono ?_
        rintro e w' ⟨v10, g4, d6, rfl, rfl, hr⟩
        have HT4 := Lib.hid (HT.out.app g4)
        have HR10 : Hid (RowV (Pn (fun p => p < g1.length) L3 (L3 ++ g4)) w (L3 ++ g4) 1 J.now.texts.length v10 (strs J.now.texts)) := Lib.hid (hr.mono fun p hp hlt => ⟨.inr ⟨hp, hlt⟩, rfl⟩)
        obtain ⟨L4, hL4⟩ : ∃ L4, L3 ++ g4 = L4 := ⟨_, rfl⟩
        rw [hL4] at HT4 HR10 ⊢
        obtain ⟨P4, hP4⟩ : ∃ P4, Pn (fun p => p < g1.length) L3 L4 = P4 := ⟨_, rfl⟩
        rw [hP4] at HT4 HR10
        clear hr hL4 HT hP4
        go_wp2_with fail
        refine (append_st hR HT4.out y (by rw [HL.out.2.2]; decide) _).mono ?_
        rintro e w' ⟨L5, d7, rfl, rfl, hs, hu⟩
        have HU5 := Lib.hid hu
        have HAP := Lib.hid (HIV.out.append (bys y) (B8.bys y))
        rw [bys_length] at HAP
        by_cases hroom : J.now.room < (y.size : Int)
        · rw [HAP.out.1 hroom] at hs ⊢
          have HTX := Lib.hid hs
          have HIX := HIV
          have HVX : Hid (TxAt w L5 v10 (J.now.texts.map mkS)) := Lib.hid (TxAt.row (HR10.out.mono (B := P4) fun p hp hlt => ⟨hp, HU5.out.2 p hp⟩))
          obtain ⟨LX, hLX⟩ : ∃ LX, L5 = LX := ⟨_, rfl⟩
          rw [hLX] at HTX HVX ⊢
          clear hs hu HAP HR10 hLX HT4
          go_wp2_with fail
          refine (open_st hR HTX.out.disk HIX.out.live HIX.out.big (by have := HIX.out.half; omega) HIX.out.again _).mono ?_
          rintro e w' ⟨ko, g8, d8, rfl, rfl, hs⟩
          have HTK := Lib.hid hs
          have HTJ := Lib.hid (HTX.out.app g8)
          have HV8 := Lib.hid (HVX.out.more (l' := LX ++ g8) (by rw [List.length_append]; omega) fun p hp => List.getElem?_append_left hp)
          obtain ⟨L8, hL8⟩ : ∃ L8, LX ++ g8 = L8 := ⟨_, rfl⟩
          rw [hL8] at HTK HTJ HV8 ⊢
          clear hs hL8 HTX HVX
          go_wp2_with fail
          refine (texts_st HTK.out HIX.out.texts _).mono ?_
          rintro e w' ⟨va, ga, da, rfl, rfl, hra⟩
          have HVA := Lib.hid (TxAt.row hra)
          have HTJ9 := Lib.hid (HTJ.out.app ga)
          have HV9 := Lib.hid (HV8.out.more (l' := L8 ++ ga) (by rw [List.length_append]; omega) fun p hp => List.getElem?_append_left hp)
          obtain ⟨L9, hL9⟩ : ∃ L9, L8 ++ ga = L9 := ⟨_, rfl⟩
          rw [hL9] at HVA HTJ9 HV9 ⊢
          clear hra hL9 HTK HTJ HV8
          go_wp2_with fail
          refine (same_any w L9 _ va _ _ HVA.out HV9.out (by rw [List.length_map]; exact Nat.le_trans HIX.out.few (by decide))).mono ?_
          rintro e w' ⟨rfl, db, rfl⟩
          clear HVA
          go_wp2_with fail
          refine (texts_st HTJ9.out HIX.out.texts _).mono ?_
          rintro e w' ⟨vc, gc, dc, rfl, rfl, hrc⟩
          have HVC := Lib.hid (TxAt.row hrc)
          have HVD := Lib.hid (HV9.out.more (l' := L9 ++ gc) (by rw [List.length_append]; omega) fun p hp => List.getElem?_append_left hp)
          obtain ⟨LE, hLE⟩ : ∃ LE, L9 ++ gc = LE := ⟨_, rfl⟩
          rw [hLE] at HVC HVD ⊢
          clear hrc hLE HTJ9 HV9
          go_wp2_with fail
          refine (same_any w LE _ vc _ _ HVC.out HVD.out (by rw [List.length_map]; exact Nat.le_trans HIX.out.few (by decide))).mono ?_
          rintro e w' ⟨rfl, dd, rfl⟩
          go_wp2
          go_ret
          exact ⟨rfl, Grows.of _ _ _⟩
        · obtain ⟨M3, hap, hinv, hn3, hc3⟩ := HAP.out.2 hroom
          rw [hap] at hs ⊢
          have HTX0 := Lib.hid hs
          have HIX0 := Lib.hid hinv
          have HR11 : Hid (RowV P4 w (L5 ++ [Obj.cells #[.string y] 9 (0, 0)]) 1 J.now.texts.length v10 (strs J.now.texts)) := Lib.hid ((HR10.out.mono (B := P4) fun p hp hlt => ⟨hp, HU5.out.2 p hp⟩).more _)
          have HLT : Hid (RowV (fun _ => True) w (L5 ++ [Obj.cells #[.string y] 9 (0, 0)]) 1 1 (.slice (some ⟨w.heap.size + L5.length, 0, none⟩) 1 1) [.string y]) := Lib.hid (.inr ⟨L5.length, 1, [_], 9, trivial, rfl, by simp, rfl, Nat.le_refl _, rfl⟩)
          have HR12 : Hid (RowV (fun p => P4 p ∨ L5.length + 1 ≤ p) w (L5 ++ [Obj.cells #[.string y] 9 (0, 0)]) 1 J.now.texts.length v10 (strs J.now.texts)) := Lib.hid (HR11.out.mono fun p hp _ => ⟨.inl hp, rfl⟩)
          have HFW := Lib.hid HIV.out.few
          clear hs hu HAP HR10 hap hinv hn3 hc3 HT4
          go_wp2_with (refine wpList_row rfl (.tmp 67) (.tmp 69) 32 9 rfl rt32 (A := fun p => P4 p ∨ L5.length + 1 ≤ p) (B := fun _ => True) (fun p hp => .inr (by first | omega | (rw [List.length_append, List.length_singleton] at hp; omega))) _ J.now.texts.length (strs J.now.texts) rfl HR12.out _ 1 [.string y] rfl HLT.out (by intro u hu; rw [List.mem_singleton.1 hu]; rfl) (by have := HFW.out; omega) ?_)
          intro v11 LX d9 HR13 HG13 HS13
          have HLN : Hid ((L5 ++ [Obj.cells #[.string y] 9 (0, 0)]).length = L5.length + 1) := Lib.hid (by rw [List.length_append]; rfl)
          have HTX : Hid (St w P4 LX i s q jo ⟨({ J.now with gen := max J.now.gen 1 } : Hf).with (bys y), false⟩ M3) := Lib.hid (HTX0.out.other (by have h1 := HG13.out; first | omega | (rw [HLN.out] at h1; omega)) fun p hp hn => by
            rw [HS13.out p (by first | omega | (rw [HLN.out]; omega)) (rowV_off HR11.out hn), List.getElem?_append_left hp])
          have HVX : Hid (TxAt w LX v11 ((({ J.now with gen := max J.now.gen 1 } : Hf).with (bys y)).texts.map mkS)) := Lib.hid (TxAt.row (A := fun p => P4 p ∨ L5.length + 1 ≤ p) (n := J.now.texts.length + 1) (by have h := HR13.out; show RowV _ w LX 1 (J.now.texts.length + 1) v11 (strs (J.now.texts ++ [bys y])); rw [strs_snoc]; exact h))
          have HIX := HIX0
          clear HTX0 HIX0 HR11 HR12 HLT HR13 HG13 HS13 HLN
          go_wp2_with fail
          refine (open_st hR HTX.out.disk HIX.out.live HIX.out.big (by have := HIX.out.half; omega) HIX.out.again _).mono ?_
          rintro e w' ⟨ko, g8, d8, rfl, rfl, hs⟩
          have HTK := Lib.hid hs
          have HTJ := Lib.hid (HTX.out.app g8)
          have HV8 := Lib.hid (HVX.out.more (l' := LX ++ g8) (by rw [List.length_append]; omega) fun p hp => List.getElem?_append_left hp)
          obtain ⟨L8, hL8⟩ : ∃ L8, LX ++ g8 = L8 := ⟨_, rfl⟩
          rw [hL8] at HTK HTJ HV8 ⊢
          clear hs hL8 HTX HVX
          go_wp2_with fail
          refine (texts_st HTK.out HIX.out.texts _).mono ?_
          rintro e w' ⟨va, ga, da, rfl, rfl, hra⟩
          have HVA := Lib.hid (TxAt.row hra)
          have HTJ9 := Lib.hid (HTJ.out.app ga)
          have HV9 := Lib.hid (HV8.out.more (l' := L8 ++ ga) (by rw [List.length_append]; omega) fun p hp => List.getElem?_append_left hp)
          obtain ⟨L9, hL9⟩ : ∃ L9, L8 ++ ga = L9 := ⟨_, rfl⟩
          rw [hL9] at HVA HTJ9 HV9 ⊢
          clear hra hL9 HTK HTJ HV8
          go_wp2_with fail
          refine (same_any w L9 _ va _ _ HVA.out HV9.out (by rw [List.length_map]; exact Nat.le_trans HIX.out.few (by decide))).mono ?_
          rintro e w' ⟨rfl, db, rfl⟩
          clear HVA
          go_wp2_with fail
          refine (texts_st HTJ9.out HIX.out.texts _).mono ?_
          rintro e w' ⟨vc, gc, dc, rfl, rfl, hrc⟩
          have HVC := Lib.hid (TxAt.row hrc)
          have HVD := Lib.hid (HV9.out.more (l' := L9 ++ gc) (by rw [List.length_append]; omega) fun p hp => List.getElem?_append_left hp)
          obtain ⟨LE, hLE⟩ : ∃ LE, L9 ++ gc = LE := ⟨_, rfl⟩
          rw [hLE] at HVC HVD ⊢
          clear hrc hLE HTJ9 HV9
          go_wp2_with fail
          refine (same_any w LE _ vc _ _ HVC.out HVD.out (by rw [List.length_map]; exact Nat.le_trans HIX.out.few (by decide))).mono ?_
          rintro e w' ⟨rfl, dd, rfl⟩
          go_wp2
          go_ret
          exact ⟨rfl, Grows.of _ _ _⟩
  · go_enter Tryd.func4, Tryd.ntmps4
    go_wp2_with fail
    refine (awake_any w hR [] _).mono ?_
    rintro e w' ⟨rfl, g1, d1, rfl⟩
    rw [List.nil_append]
    by_cases h1 : (16 : Int) < (n : Int)
    · go_wp2
      go_ret
      exact ⟨rfl, Grows.of _ _ _⟩
    · have h2 : (200 : Int) < (y.size : Int) := by omega
      go_wp2
      go_ret
      exact ⟨rfl, Grows.of _ _ _⟩
end Go.Proofs.YtjgfljckmckhcaaDoor

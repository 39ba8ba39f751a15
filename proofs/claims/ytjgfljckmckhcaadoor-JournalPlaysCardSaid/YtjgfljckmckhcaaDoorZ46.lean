/- As many bytes as there is room can be appended, and not one more; made anew of what it tells it tells the same: the law's walk. No condition. -/
import Derived.Test.YtjgfljckmckhcaaDoorZ44
import Derived.Test.YtjgfljckmckhcaaDoorZ45
namespace Go.Proofs.YtjgfljckmckhcaaDoor
open Go Go.RowKit Go.Own
/-- What a journal tells goes into a half. -/
theorem lays_refit : ∀ (l : List (List Nat)) (h : Hf), h.used + sumS l ≤ h.size → (∀ t ∈ l, t.length ≤ 65535) → ∃ k ls, h.lays l = some (k, ls)
  | [], h, _, _ => ⟨h, [], rfl⟩
  | t :: l, h, hs, ht => by
    have e : sumS (t :: l) = secs t.length + sumS l := by simp [sumS]
    have h1 := ht t (by simp)
    have hr : ¬ h.room < (t.length : Int) := by
      unfold Hf.room
      have := secs_room t.length
      omega
    obtain ⟨k, ls, hk⟩ := lays_refit l (h.with t) (by show h.used + secs t.length + _ ≤ h.size; omega) fun s hs => ht s (by simp [hs])
    exact ⟨k, h.laying t :: ls, by rw [Hf.lays, if_neg hr, hk]⟩
theorem Inv.anew_same {J : Jn} {M : Dk} (h : Inv J M) (hg : J.now.gen ≤ 1000) (hne : J.now.texts ≠ []) : ∃ J' M', J.anew M J.now.texts = (J', M', 0) ∧ Inv J' M' ∧ M'.count = 0 ∧ M'.n = M.n ∧ J'.now.texts = J.now.texts := by
  have hgd := h.good
  have hs : someL J.now.texts = J.now.texts := by unfold someL; rw [if_neg hne]
  obtain ⟨k, ls, hk⟩ := lays_refit J.now.texts ⟨J.now.size - J.now.first, J.now.size, J.now.gen + 1, 0, []⟩ (by show 0 + _ ≤ J.now.size; rw [← hgd.used, Nat.zero_add]; exact hgd.fits) fun t ht => (hgd.texts t ht).1
  obtain ⟨M', e, hi, hn, hc⟩ := (h.anew J.now.texts (fun t ht => (hgd.texts t ht).2) (by omega)).2 k ls (by rw [hs]; exact hk)
  exact ⟨_, M', e, hi, hc, hn, (lays_ok _ _ _ _ hk).texts⟩
/-- A new disk's journal. -/
theorem toldB_new (n F S : Nat) : toldB (rep (n * 64)) F S = ⟨F, S, 0, 0, []⟩ := by
  refine told_of (.refl _) (next_of_none (taken_empty ?_)) (Nat.zero_le _)
  have : ∀ (x : List Nat), (∀ y ∈ x, y = 0) → gi x 0 ≠ 76 := fun x hx => by
    cases x with
    | nil => decide
    | cons a r => have := hx a (by simp); subst this; show (0 : Nat) ≠ 76; decide
  refine this _ fun y hy => ?_
  have h1 := List.mem_of_mem_take (List.mem_of_mem_drop hy)
  have h2 := List.mem_of_mem_drop h1
  exact List.eq_of_mem_replicate h2
theorem open_new {n : Nat} (h8 : 8 ≤ n) (h2 : n % 2 = 0) (hn : n ≤ 4096) : openJ (newK n) = (some ⟨⟨0, n / 2, 0, 0, []⟩, false⟩, 0) ∧ Inv ⟨⟨0, n / 2, 0, 0, []⟩, false⟩ (newK n) := by
  obtain ⟨J, hJ, hI⟩ := open_inv (newK_live (by omega) hn) h8 h2
  have e := open_live (newK_live (by omega) hn) h8 h2
  have e1 : toldB (newK n).seen 0 ((newK n).n / 2) = ⟨0, n / 2, 0, 0, []⟩ := toldB_new n 0 (n / 2)
  have e2 : toldB (newK n).seen ((newK n).n / 2) ((newK n).n / 2) = ⟨n / 2, n / 2, 0, 0, []⟩ := toldB_new n (n / 2) (n / 2)
  rw [e1, e2, if_neg (Nat.lt_irrefl _)] at e
  rw [e] at hJ
  simp only [Prod.mk.injEq, Option.some.injEq, and_true] at hJ
  subst hJ
  exact ⟨e, hI⟩
theorem room_sign {J : Jn} {M : Dk} (h : Inv J M) (hs : J.now.size ≤ 100) : (J.now.room < 0 ∧ J.now.used = J.now.size) ∨ ∃ r : Nat, J.now.room = (r : Int) ∧ 14 ≤ r ∧ r ≤ 65535 ∧ J.now.used + secs r = J.now.size := by
  have hf := h.good.fits
  unfold Hf.room secs
  by_cases hu : J.now.used = J.now.size
  · left; omega
  · right
    refine ⟨(J.now.size - J.now.used) * 64 - 50, by omega, by omega, by omega, by omega⟩
theorem zeros_size (n : Nat) : (mkS (rep n)).size = n := by rw [mkS_size, rep_length]
theorem zeros_bys (n : Nat) : bys (mkS (rep n)) = rep n := bys_mkS _ (B8.rep n)
theorem map_bys_mkS {ts : List (List Nat)} (h : ∀ t ∈ ts, B8 t) : (ts.map mkS).map bys = ts := by
  rw [List.map_map]
  conv => rhs; rw [← List.map_id ts]
  exact List.map_congr_left fun t ht => bys_mkS t (h t ht)
attribute [-go_sem] Sm.execOp_bs run_string_add_if
attribute [local go_sem] agj61 csj61 szj61 agj64 csj64 szj64 agj25 isaj25 csj25 szj25 agj9 isaj9 csj9 szj9 agj32 isaj32 csj32 szj32 bsj32s ldX_mix1 ag42 cs42 sz42
set_option maxRecDepth 100000 in
/-- What isn't gone through. -/
theorem room_out (A : List Ac) (v : Value) (z : Int) (w : World) (hR : Sm.Roots w) (hA : Acts w v A) (hok : ∀ x ∈ A, AcOk x) (h : ¬ FewOk A ∨ z < 8 ∨ 200 < z ∨ z % 2 ≠ 0) :
    Calls Tryd.prog 5 #[.int .i64 z, v] w fun e w' => e = .returned (.bool true) ∧ Grows w w' := by
  refine calls_wd ?_
  have HFW := Lib.hid fun l d => few_any A v w l d hA hok
  obtain ⟨po, cap, rfl, _⟩ := hA
  obtain ⟨n, hN⟩ : ∃ n, A.length = n := ⟨_, rfl⟩
  rw [hN] at HFW ⊢
  have H := Lib.hid h
  clear h hN
  go_enter Tryd.func5, Tryd.ntmps5
  go_wp2_with fail
  refine (awake_any w hR [] _).mono ?_
  rintro e w' ⟨rfl, g1, d1, rfl⟩
  rw [List.nil_append]
  go_wp2_with fail
  refine (HFW.out _ _).mono ?_
  rintro e w' ⟨b, d2, rfl, hb, rfl⟩
  have HB := Lib.hid hb
  clear hb
  cases b with
  | false =>
    go_wp2
    go_ret
    exact ⟨rfl, Grows.of _ _ _⟩
  | true =>
    have h1 : z < 8 ∨ 200 < z ∨ z % 2 ≠ 0 := H.out.elim (fun h' => absurd (HB.out.1 rfl) h') id
    by_cases h8 : z < 8
    · clear h1
      go_wp2
      go_ret
      exact ⟨rfl, Grows.of _ _ _⟩
    · by_cases h200 : 200 < z
      · clear h1
        go_wp2
        go_ret
        exact ⟨rfl, Grows.of _ _ _⟩
      · have hm0 : ¬ z % 2 = 0 := by omega
        have hm : (z % 2 != 0) = true := by simpa using hm0
        have hz0 : 0 ≤ z := by omega
        clear h1 hm0
        go_wp2
        go_ret
        exact ⟨rfl, Grows.of _ _ _⟩
set_option maxRecDepth 100000 in
set_option maxHeartbeats 8000000 in
theorem room_any2 (A : List Ac) (v : Value) (m : Nat) (w : World) (hR : Sm.Roots w) (hA : Acts w v A) (hok : ∀ x ∈ A, AcOk x) (hf : FewOk A) (h8 : 8 ≤ m) (h200 : m ≤ 200) (h2 : m % 2 = 0) :
    Calls Tryd.prog 5 #[.int .i64 (m : Int), v] w fun e w' => e = .returned (.bool true) ∧ Grows w w' := by
  refine calls_wd ?_
  have HFW := Lib.hid fun l d => few_any A v w l d hA hok
  obtain ⟨po, cap, rfl, hP⟩ := hA
  obtain ⟨n, hN⟩ : ∃ n, A.length = n := ⟨_, rfl⟩
  rw [hN] at HFW ⊢
  have HP := Lib.hid hP
  have HN := Lib.hid hN
  have HF := Lib.hid hf
  have hn60 : n ≤ 60 := by rw [← hN]; exact hf.1
  have hO := open_new h8 h2 (by omega : m ≤ 4096)
  have HO := Lib.hid hO
  have h8i : ¬ (m : Int) < 8 := by omega
  have h200i : ¬ (200 : Int) < (m : Int) := by omega
  have hm0 : (m : Int) % 2 = 0 := by omega
  have HM := Lib.hid (And.intro h8 (And.intro h200 h2))
  clear hP hN hf hO
  go_enter Tryd.func5, Tryd.ntmps5
  go_wp2_with fail
  refine (awake_any w hR [] _).mono ?_
  rintro e w' ⟨rfl, g1, d1, rfl⟩
  rw [List.nil_append]
  go_wp2_with fail
  refine (HFW.out _ _).mono ?_
  rintro e w' ⟨b, d2, rfl, hb, rfl⟩
  obtain rfl : b = true := hb.2 HF.out
  clear hb HFW
  go_wp2_with fail
  clear h8i h200i hm0 h8 h200 h2
  refine (new_st w g1 d2 m (by have := HM.out.1; omega) (by have := HM.out.2.1; omega)).mono ?_
  rintro e w' ⟨i, s, q, g2, d3, rfl, rfl, hs⟩
  have HS := Lib.hid hs
  obtain ⟨L1, hL1⟩ : ∃ L1, g1 ++ g2 = L1 := ⟨_, rfl⟩
  rw [hL1] at HS ⊢
  clear hs hL1
  go_wp2_with fail
  refine (open_st hR HS.out HO.out.2.live HM.out.1 HM.out.2.2 HO.out.1 d3).mono ?_
  rintro e w' ⟨jo, g3, d4, rfl, rfl, hs⟩
  have HT := Lib.hid hs
  obtain ⟨L2, hL2⟩ : ∃ L2, L1 ++ g3 = L2 := ⟨_, rfl⟩
  rw [hL2] at HT ⊢
  clear hs hL2 HS
  go_wp2_with fail
  go_loopw [9] (fun ix wr => ∃ (k : Nat) (L : List Obj) (d : Nat) (J : Jn) (M : Dk), k ≤ n ∧ ix = .int .i64 (k : Int) ∧ Hid (St w (fun p => p < g1.length) L i s q jo J M ∧ Inv J M ∧ M.count = 0 ∧ J.now.gen ≤ k ∧ M.n = m) ∧ wr = Wd w L d) (fun ix _ => n - (intOf ix).toNat)
  case atStart => exact ⟨0, L2, d4, _, _, Nat.zero_le _, rfl, Lib.hid ⟨HT.out, HO.out.2, rfl, Nat.le_refl _, rfl⟩, rfl⟩
  case round =>
    clear HT
    obtain ⟨k, L, d5, J, M, hk, rfl, HI, rfl⟩ := hrel
    have HK60 : Hid (k ≤ 60) := Lib.hid (by have := HF.out.1; have := HN.out; omega)
    by_cases hlt : k < n
    · obtain ⟨x, hx⟩ : ∃ x, A[k]? = some x := ⟨_, List.getElem?_eq_getElem (by rw [HN.out]; exact hlt)⟩
      obtain ⟨htx, g, o, C, t, f, rfl, hb, hs, hE⟩ := HP.out k x hx
      have hRd := Reads.mk' hb hs hE
      have r1 := hRd.blk
      have r2 := hRd.all
      have hki : (k : Int) < n := by omega
      have hLb : x.L.length ≤ 100000 := by
        have h1 := tot_take A k x hx
        have h2 := tot_le A (k + 1)
        have h3 := HF.out.2
        omega
      have hfst : J.now.first ≤ J.now.size := by have := HI.out.2.1.first; omega
      have HD := Lib.hid fun d => does_st hR HI.out.1 hfst x htx hLb (by rw [HI.out.2.2.1]; decide) d
      have hkeep := doJ_keep HI.out.2.1 HI.out.2.2.1 (by have h1 := HI.out.2.2.2.1; have h2 := HK60.out; omega) x
      obtain ⟨J', M', c, hdo, hi', hc', hn', hg'⟩ := hkeep
      rw [hdo] at HD
      have HI2 : Hid (Inv J' M' ∧ M'.count = 0 ∧ J'.now.gen ≤ k + 1 ∧ M'.n = m) := Lib.hid ⟨hi', hc', by have := HI.out.2.2.2.1; omega, by rw [hn']; exact HI.out.2.2.2.2⟩
      clear hb hs hE hRd hx htx hLb hfst hdo hi' hc' hn' hg'
      go_wp2_with fail
      refine (HD.out _).mono ?_
      rintro e w' ⟨L', d6, rfl, rfl, hs, hu⟩
      have HS2 := Lib.hid hs
      clear hs hu HD
      go_wp2
      go_roundw
      case rel => exact ⟨k + 1, L', d6, J', M', by omega, by go_num, Lib.hid ⟨HS2.out, HI2.out.1, HI2.out.2.1, HI2.out.2.2.1, HI2.out.2.2.2⟩, rfl⟩
      case measure => simp [intOf]; omega
    · obtain rfl : k = n := by omega
      go_wp2_with fail
      refine (texts_st HI.out.1 HI.out.2.1.texts _).mono ?_
      rintro e w' ⟨v10, g4, d6, rfl, rfl, hr⟩
      have HT4 := Lib.hid (HI.out.1.app g4)
      have HR10 := Lib.hid hr
      have HV10 := Lib.hid (TxAt.row hr)
      obtain ⟨L4, hL4⟩ : ∃ L4, L ++ g4 = L4 := ⟨_, rfl⟩
      rw [hL4] at HT4 HR10 HV10 ⊢
      have HR10p : Hid (RowV (Pn (fun p => p < g1.length) L L4) w L4 1 J.now.texts.length v10 (strs J.now.texts)) := Lib.hid (HR10.out.mono fun p hp hlt => ⟨.inr ⟨hp, hlt⟩, rfl⟩)
      obtain ⟨P4, hP4⟩ : ∃ P4, Pn (fun p => p < g1.length) L L4 = P4 := ⟨_, rfl⟩
      rw [hP4] at HT4 HR10p
      obtain ⟨qv, cv10, rfl⟩ := hr.form
      have HINV := Lib.hid HI.out.2
      clear hr hL4 hP4 HI HR10
      obtain ⟨T, hT⟩ : ∃ T, J.now.texts = T := ⟨_, rfl⟩
      rw [hT] at HR10p HV10 ⊢
      have HTT := Lib.hid hT
      obtain ⟨tn, htn⟩ : ∃ tn, T.length = tn := ⟨_, rfl⟩
      rw [htn] at HR10p HV10 ⊢
      have HTN := Lib.hid htn
      clear hT htn
      by_cases h0 : tn = 0
      · have h0i : ¬ (0 : Int) < (tn : Int) := by omega
        obtain ⟨JX, hJX⟩ : ∃ JX, J = JX := ⟨_, rfl⟩
        obtain ⟨MX, hMX⟩ : ∃ MX, M = MX := ⟨_, rfl⟩
        obtain ⟨LX, hLX⟩ : ∃ LX, L4 = LX := ⟨_, rfl⟩
        have HTLX : Hid (St w P4 LX i s q jo JX MX) := Lib.hid (by rw [← hJX, ← hMX, ← hLX]; exact HT4.out)
        have HRLX : Hid (RowV P4 w LX 1 tn (.slice qv tn cv10) (strs T)) := Lib.hid (by rw [← hLX]; exact HR10p.out)
        have HIX : Hid (Inv JX MX ∧ MX.count = 0 ∧ MX.n = m) := Lib.hid (by rw [← hJX, ← hMX]; exact ⟨HINV.out.1, HINV.out.2.1, HINV.out.2.2.2⟩)
        have HTX : Hid (JX.now.texts = T) := Lib.hid (by rw [← hJX]; exact HTT.out)
        rw [hLX]
        clear hJX hMX hLX HT4 HR10p HV10 HINV HTT h0
        have hfew : tn ≤ 100000 := by rw [← HTN.out, ← HTX.out]; exact Nat.le_trans HIX.out.1.few (by decide)
        go_wp2_with fail
        refine (room_st HTLX.out _).mono ?_
        rintro e w' ⟨rfl, g6, d8, rfl⟩
        have HTLY := Lib.hid ((HTLX.out.app g6).mono (P' := P4) fun p hp => .inl hp)
        have HRLY := Lib.hid (HRLX.out.more g6)
        obtain ⟨LY, hLY⟩ : ∃ LY, LX ++ g6 = LY := ⟨_, rfl⟩
        rw [hLY] at HTLY HRLY ⊢
        clear hLY HTLX HRLX
        have hsg := room_sign HIX.out.1 (by have := HIX.out.1.half; have h2 := HM.out.2.1; have h3 := HIX.out.2.2; omega)
        obtain ⟨rm, hrm⟩ : ∃ rm, JX.now.room = rm := ⟨_, rfl⟩
        rw [hrm] at hsg ⊢
        have HRM := Lib.hid hrm
        clear hrm
        rcases hsg with ⟨hneg, hus⟩ | ⟨r, rfl, hr14, hr65, hus⟩
        · have hmax : max rm 0 = 0 := by omega
          have hmk : (Tryd.prog.info? 5).map (fun i => (i.zero, i.size, i.bytes)) = some (some (.int .u8 0), 1, 1) := by kernel_rfl
          have hz5 : zeroOf Tryd.prog 5 = .int .u8 0 := by kernel_rfl
          have HE1 : Hid (JX.append MX (bys (mkS (rep 1))) = (JX, MX, 6)) := Lib.hid ((HIX.out.1.append _ (B8.bys _)).1 (by rw [HRM.out, zeros_bys, rep_length]; omega))
          have HE2 : Hid (JX.append MX (bys ByteArray.empty) = (JX, MX, 6)) := Lib.hid ((HIX.out.1.append _ (B8.bys _)).1 (by rw [HRM.out]; show rm < ((0 : Nat) : Int); omega))
          clear hus
          go_wp2_with fail
          have HTLZ := Lib.hid ((HTLY.out.app [Obj.cells (cv .u8 (rep 1)) 5 (0, 0)]).mono (P' := P4) fun p hp => .inl hp)
          have HRLZ := Lib.hid (HRLY.out.more [Obj.cells (cv .u8 (rep 1)) 5 (0, 0)])
          obtain ⟨LZ, hLZ⟩ : ∃ LZ, LY ++ [Obj.cells (cv .u8 (rep 1)) 5 (0, 0)] = LZ := ⟨_, rfl⟩
          rw [hLZ] at HTLZ HRLZ ⊢
          clear hLZ HTLY HRLY
          refine (append_st hR HTLZ.out (mkS (rep 1)) (by rw [HIX.out.2.1]; decide) _).mono ?_
          rintro e w' ⟨LA, d9, rfl, rfl, hs, hu⟩
          rw [HE1.out] at hs ⊢
          have HTLA := Lib.hid hs
          have HRLA : Hid (RowV P4 w LA 1 tn (.slice qv tn cv10) (strs T)) := Lib.hid (HRLZ.out.mono (B := P4) fun p hp hlt => ⟨hp, hu.2 p hp⟩)
          clear hs hu HTLZ HRLZ
          go_wp2_with fail
          refine (append_st hR HTLA.out .empty (by rw [HIX.out.2.1]; decide) _).mono ?_
          rintro e w' ⟨LB, d10, rfl, rfl, hs, hu⟩
          rw [HE2.out] at hs ⊢
          have HTLB := Lib.hid hs
          have HRLB : Hid (RowV P4 w LB 1 tn (.slice qv tn cv10) (strs T)) := Lib.hid (HRLA.out.mono (B := P4) fun p hp hlt => ⟨hp, hu.2 p hp⟩)
          clear hs hu HTLA HRLA
          go_wp2_with fail
          refine (texts_st HTLB.out HIX.out.1.texts _).mono ?_
          rintro e w' ⟨vC, gC, dC, rfl, rfl, hrvC⟩
          rw [HTX.out] at hrvC
          have HVvC := Lib.hid (TxAt.row hrvC)
          clear hrvC
          have HTLC := Lib.hid ((HTLB.out.app gC).mono (P' := P4) fun p hp => .inl hp)
          have HRLC := Lib.hid (HRLB.out.more gC)
          obtain ⟨LC, hLC⟩ : ∃ LC, LB ++ gC = LC := ⟨_, rfl⟩
          rw [hLC] at HTLC HRLC HVvC ⊢
          clear hLC HTLB HRLB
          go_wp2_with fail
          refine (same_any w LC _ vC _ _ HVvC.out (TxAt.row HRLC.out) (by rw [List.length_map, HTN.out]; exact hfew)).mono ?_
          rintro e w' ⟨rfl, dC', rfl⟩
          clear HVvC
          go_wp2
          go_ret
          exact ⟨rfl, Grows.of _ _ _⟩
        · have hmax : max (r : Int) 0 = (r : Int) := by omega
          have hnn : ¬ (r : Int) < 0 := by omega
          obtain ⟨R1, hR1⟩ : ∃ R1, r + 1 = R1 := ⟨_, rfl⟩
          have hR1i : (r : Int) + 1 = (R1 : Int) := by omega
          have hR1b : R1 ≤ 140737488355328 := by omega
          have hrb : r ≤ 140737488355328 := by omega
          have hmk : (Tryd.prog.info? 5).map (fun i => (i.zero, i.size, i.bytes)) = some (some (.int .u8 0), 1, 1) := by kernel_rfl
          have hz5 : zeroOf Tryd.prog 5 = .int .u8 0 := by kernel_rfl
          have HE1 : Hid (JX.append MX (bys (mkS (rep R1))) = (JX, MX, 6)) := Lib.hid ((HIX.out.1.append _ (B8.bys _)).1 (by rw [HRM.out, zeros_bys, rep_length]; omega))
          have hlast := (HIX.out.1.append (bys (mkS (rep r))) (B8.bys _)).2 (by rw [HRM.out, zeros_bys, rep_length]; omega)
          obtain ⟨M9, hap9, hinv9, _, hc9⟩ := hlast
          obtain ⟨J9, hJ9⟩ : ∃ J9, (⟨({ JX.now with gen := max JX.now.gen 1 } : Hf).with (bys (mkS (rep r))), false⟩ : Jn) = J9 := ⟨_, rfl⟩
          have hu9 : J9.now.used = JX.now.used + secs r := by rw [← hJ9]; show JX.now.used + secs (bys (mkS (rep r))).length = _; rw [zeros_bys, rep_length]
          have hz9 : J9.now.size = JX.now.size := by rw [← hJ9]; rfl
          have ht9 : J9.now.texts.length = tn + 1 := by rw [← hJ9]; show (JX.now.texts ++ [_]).length = _; rw [List.length_append, HTX.out, HTN.out]; rfl
          rw [hJ9] at hap9 hinv9
          have hs9 := room_sign hinv9 (by rw [hz9]; have := HIX.out.1.half; have h2 := HM.out.2.1; have h3 := HIX.out.2.2; omega)
          have hr9 : J9.now.room < 0 := by
            rcases hs9 with h | ⟨r', _, h1, _, h3⟩
            · exact h.1
            · have := secs_pos r'; omega
          have HE9 := Lib.hid hap9
          have HI9 := Lib.hid hinv9
          have HT9 := Lib.hid ht9
          clear hus hap9 hinv9 hc9 hJ9 hu9 hz9 ht9 hs9 hR1
          go_wp2_with fail
          have HTLZ := Lib.hid ((HTLY.out.app [Obj.cells (cv .u8 (rep R1)) 5 (0, 0)]).mono (P' := P4) fun p hp => .inl hp)
          have HRLZ := Lib.hid (HRLY.out.more [Obj.cells (cv .u8 (rep R1)) 5 (0, 0)])
          obtain ⟨LZ, hLZ⟩ : ∃ LZ, LY ++ [Obj.cells (cv .u8 (rep R1)) 5 (0, 0)] = LZ := ⟨_, rfl⟩
          rw [hLZ] at HTLZ HRLZ ⊢
          clear hLZ HTLY HRLY
          refine (append_st hR HTLZ.out (mkS (rep R1)) (by rw [HIX.out.2.1]; decide) _).mono ?_
          rintro e w' ⟨LA, d9, rfl, rfl, hs, hu⟩
          rw [HE1.out] at hs ⊢
          have HTLA := Lib.hid hs
          have HRLA : Hid (RowV P4 w LA 1 tn (.slice qv tn cv10) (strs T)) := Lib.hid (HRLZ.out.mono (B := P4) fun p hp hlt => ⟨hp, hu.2 p hp⟩)
          clear hs hu HTLZ HRLZ
          go_wp2_with fail
          refine (texts_st HTLA.out HIX.out.1.texts _).mono ?_
          rintro e w' ⟨vC, gC, dC, rfl, rfl, hrvC⟩
          rw [HTX.out] at hrvC
          have HVvC := Lib.hid (TxAt.row hrvC)
          clear hrvC
          have HTLC := Lib.hid ((HTLA.out.app gC).mono (P' := P4) fun p hp => .inl hp)
          have HRLC := Lib.hid (HRLA.out.more gC)
          obtain ⟨LC, hLC⟩ : ∃ LC, LA ++ gC = LC := ⟨_, rfl⟩
          rw [hLC] at HTLC HRLC HVvC ⊢
          clear hLC HTLA HRLA
          go_wp2_with fail
          refine (same_any w LC _ vC _ _ HVvC.out (TxAt.row HRLC.out) (by rw [List.length_map, HTN.out]; exact hfew)).mono ?_
          rintro e w' ⟨rfl, dC', rfl⟩
          clear HVvC
          go_wp2_with fail
          have HTLD := Lib.hid ((HTLC.out.app [Obj.cells (cv .u8 (rep r)) 5 (0, 0)]).mono (P' := P4) fun p hp => .inl hp)
          have HRLD := Lib.hid (HRLC.out.more [Obj.cells (cv .u8 (rep r)) 5 (0, 0)])
          obtain ⟨LD, hLD⟩ : ∃ LD, LC ++ [Obj.cells (cv .u8 (rep r)) 5 (0, 0)] = LD := ⟨_, rfl⟩
          rw [hLD] at HTLD HRLD ⊢
          clear hLD HTLC HRLC
          refine (append_st hR HTLD.out (mkS (rep r)) (by rw [HIX.out.2.1]; decide) _).mono ?_
          rintro e w' ⟨LE, d11, rfl, rfl, hs, hu⟩
          rw [HE9.out] at hs ⊢
          have HTLE := Lib.hid hs
          clear hs hu HTLD HRLD
          go_wp2_with fail
          refine (texts_st HTLE.out HI9.out.texts _).mono ?_
          rintro e w' ⟨vE, gE, dE, rfl, rfl, hrE⟩
          rw [HT9.out] at hrE
          obtain ⟨qE, cE, rfl⟩ := hrE.form
          have HTLF := Lib.hid ((HTLE.out.app gE).mono (P' := P4) fun p hp => .inl hp)
          obtain ⟨LF, hLF⟩ : ∃ LF, LE ++ gE = LF := ⟨_, rfl⟩
          rw [hLF] at HTLF ⊢
          have htni : (((tn + 1 : Nat) : Int)) = (tn : Int) + 1 := by omega
          clear hrE hLF HTLE
          go_wp2_with fail
          refine (room_st HTLF.out _).mono ?_
          rintro e w' ⟨rfl, gG, dG, rfl⟩
          go_wp2
          go_ret
          exact ⟨rfl, Grows.of _ _ _⟩
      · have h0i : (0 : Int) < (tn : Int) := by omega
        have hneT : T ≠ [] := fun e => h0 (by rw [← HTN.out, e]; rfl)
        have hsame := HINV.out.1.anew_same (by have h1 := HINV.out.2.2.1; have h2 := HK60.out; omega) (by rw [HTT.out]; exact hneT)
        obtain ⟨JX, MX, han, hix, hcx, hnx, htx⟩ := hsame
        have hB8 : ∀ t ∈ T, B8 t := fun t ht => (HINV.out.1.texts t (by rw [HTT.out]; exact ht)).2
        rw [HTT.out] at han htx
        have HIX : Hid (Inv JX MX ∧ MX.count = 0 ∧ MX.n = m) := Lib.hid ⟨hix, hcx, by rw [hnx]; exact HINV.out.2.2.2⟩
        have HTX : Hid (JX.now.texts = T) := Lib.hid htx
        have hfst : J.now.first ≤ J.now.size := by have := HINV.out.1.first; omega
        have HAN := Lib.hid fun d => anew_st hR HT4.out hfst _ (T.map mkS) HV10.out (by rw [List.length_map, ← HTT.out]; exact Nat.le_trans HINV.out.1.few (by decide)) (by rw [HINV.out.2.1]; decide) d
        rw [map_bys_mkS hB8, han] at HAN
        clear hneT han hix hcx hnx htx hB8 hfst h0
        go_wp2_with fail
        refine (HAN.out _).mono ?_
        rintro e w' ⟨LW, dW, rfl, rfl, hs, hu⟩
        have HTLW := Lib.hid hs
        have HRLW : Hid (RowV P4 w LW 1 tn (.slice qv tn cv10) (strs T)) := Lib.hid (HR10p.out.mono (B := P4) fun p hp hlt => ⟨hp, hu.2 p hp⟩)
        have hfew : tn ≤ 100000 := by rw [← HTN.out, ← HTX.out]; exact Nat.le_trans HIX.out.1.few (by decide)
        clear hs hu HT4 HR10p HV10 HINV HTT HAN
        go_wp2_with fail
        refine (texts_st HTLW.out HIX.out.1.texts _).mono ?_
        rintro e w' ⟨vW, gW, dV, rfl, rfl, hrvW⟩
        rw [HTX.out] at hrvW
        have HVvW := Lib.hid (TxAt.row hrvW)
        clear hrvW
        have HTLX := Lib.hid ((HTLW.out.app gW).mono (P' := P4) fun p hp => .inl hp)
        have HRLX := Lib.hid (HRLW.out.more gW)
        obtain ⟨LX, hLX⟩ : ∃ LX, LW ++ gW = LX := ⟨_, rfl⟩
        rw [hLX] at HTLX HRLX HVvW ⊢
        clear hLX HTLW HRLW
        go_wp2_with fail
        refine (same_any w LX _ vW _ _ HVvW.out (TxAt.row HRLX.out) (by rw [List.length_map, HTN.out]; exact hfew)).mono ?_
        rintro e w' ⟨rfl, dV', rfl⟩
        clear HVvW
        clear hfew
        have hfew : tn ≤ 100000 := by rw [← HTN.out, ← HTX.out]; exact Nat.le_trans HIX.out.1.few (by decide)
        go_wp2_with fail
        refine (room_st HTLX.out _).mono ?_
        rintro e w' ⟨rfl, g6, d8, rfl⟩
        have HTLY := Lib.hid ((HTLX.out.app g6).mono (P' := P4) fun p hp => .inl hp)
        have HRLY := Lib.hid (HRLX.out.more g6)
        obtain ⟨LY, hLY⟩ : ∃ LY, LX ++ g6 = LY := ⟨_, rfl⟩
        rw [hLY] at HTLY HRLY ⊢
        clear hLY HTLX HRLX
        have hsg := room_sign HIX.out.1 (by have := HIX.out.1.half; have h2 := HM.out.2.1; have h3 := HIX.out.2.2; omega)
        obtain ⟨rm, hrm⟩ : ∃ rm, JX.now.room = rm := ⟨_, rfl⟩
        rw [hrm] at hsg ⊢
        have HRM := Lib.hid hrm
        clear hrm
        rcases hsg with ⟨hneg, hus⟩ | ⟨r, rfl, hr14, hr65, hus⟩
        · have hmax : max rm 0 = 0 := by omega
          have hmk : (Tryd.prog.info? 5).map (fun i => (i.zero, i.size, i.bytes)) = some (some (.int .u8 0), 1, 1) := by kernel_rfl
          have hz5 : zeroOf Tryd.prog 5 = .int .u8 0 := by kernel_rfl
          have HE1 : Hid (JX.append MX (bys (mkS (rep 1))) = (JX, MX, 6)) := Lib.hid ((HIX.out.1.append _ (B8.bys _)).1 (by rw [HRM.out, zeros_bys, rep_length]; omega))
          have HE2 : Hid (JX.append MX (bys ByteArray.empty) = (JX, MX, 6)) := Lib.hid ((HIX.out.1.append _ (B8.bys _)).1 (by rw [HRM.out]; show rm < ((0 : Nat) : Int); omega))
          clear hus
          go_wp2_with fail
          have HTLZ := Lib.hid ((HTLY.out.app [Obj.cells (cv .u8 (rep 1)) 5 (0, 0)]).mono (P' := P4) fun p hp => .inl hp)
          have HRLZ := Lib.hid (HRLY.out.more [Obj.cells (cv .u8 (rep 1)) 5 (0, 0)])
          obtain ⟨LZ, hLZ⟩ : ∃ LZ, LY ++ [Obj.cells (cv .u8 (rep 1)) 5 (0, 0)] = LZ := ⟨_, rfl⟩
          rw [hLZ] at HTLZ HRLZ ⊢
          clear hLZ HTLY HRLY
          refine (append_st hR HTLZ.out (mkS (rep 1)) (by rw [HIX.out.2.1]; decide) _).mono ?_
          rintro e w' ⟨LA, d9, rfl, rfl, hs, hu⟩
          rw [HE1.out] at hs ⊢
          have HTLA := Lib.hid hs
          have HRLA : Hid (RowV P4 w LA 1 tn (.slice qv tn cv10) (strs T)) := Lib.hid (HRLZ.out.mono (B := P4) fun p hp hlt => ⟨hp, hu.2 p hp⟩)
          clear hs hu HTLZ HRLZ
          go_wp2_with fail
          refine (append_st hR HTLA.out .empty (by rw [HIX.out.2.1]; decide) _).mono ?_
          rintro e w' ⟨LB, d10, rfl, rfl, hs, hu⟩
          rw [HE2.out] at hs ⊢
          have HTLB := Lib.hid hs
          have HRLB : Hid (RowV P4 w LB 1 tn (.slice qv tn cv10) (strs T)) := Lib.hid (HRLA.out.mono (B := P4) fun p hp hlt => ⟨hp, hu.2 p hp⟩)
          clear hs hu HTLA HRLA
          go_wp2_with fail
          refine (texts_st HTLB.out HIX.out.1.texts _).mono ?_
          rintro e w' ⟨vC, gC, dC, rfl, rfl, hrvC⟩
          rw [HTX.out] at hrvC
          have HVvC := Lib.hid (TxAt.row hrvC)
          clear hrvC
          have HTLC := Lib.hid ((HTLB.out.app gC).mono (P' := P4) fun p hp => .inl hp)
          have HRLC := Lib.hid (HRLB.out.more gC)
          obtain ⟨LC, hLC⟩ : ∃ LC, LB ++ gC = LC := ⟨_, rfl⟩
          rw [hLC] at HTLC HRLC HVvC ⊢
          clear hLC HTLB HRLB
          go_wp2_with fail
          refine (same_any w LC _ vC _ _ HVvC.out (TxAt.row HRLC.out) (by rw [List.length_map, HTN.out]; exact hfew)).mono ?_
          rintro e w' ⟨rfl, dC', rfl⟩
          clear HVvC
          go_wp2
          go_ret
          exact ⟨rfl, Grows.of _ _ _⟩
        · have hmax : max (r : Int) 0 = (r : Int) := by omega
          have hnn : ¬ (r : Int) < 0 := by omega
          obtain ⟨R1, hR1⟩ : ∃ R1, r + 1 = R1 := ⟨_, rfl⟩
          have hR1i : (r : Int) + 1 = (R1 : Int) := by omega
          have hR1b : R1 ≤ 140737488355328 := by omega
          have hrb : r ≤ 140737488355328 := by omega
          have hmk : (Tryd.prog.info? 5).map (fun i => (i.zero, i.size, i.bytes)) = some (some (.int .u8 0), 1, 1) := by kernel_rfl
          have hz5 : zeroOf Tryd.prog 5 = .int .u8 0 := by kernel_rfl
          have HE1 : Hid (JX.append MX (bys (mkS (rep R1))) = (JX, MX, 6)) := Lib.hid ((HIX.out.1.append _ (B8.bys _)).1 (by rw [HRM.out, zeros_bys, rep_length]; omega))
          have hlast := (HIX.out.1.append (bys (mkS (rep r))) (B8.bys _)).2 (by rw [HRM.out, zeros_bys, rep_length]; omega)
          obtain ⟨M9, hap9, hinv9, _, hc9⟩ := hlast
          obtain ⟨J9, hJ9⟩ : ∃ J9, (⟨({ JX.now with gen := max JX.now.gen 1 } : Hf).with (bys (mkS (rep r))), false⟩ : Jn) = J9 := ⟨_, rfl⟩
          have hu9 : J9.now.used = JX.now.used + secs r := by rw [← hJ9]; show JX.now.used + secs (bys (mkS (rep r))).length = _; rw [zeros_bys, rep_length]
          have hz9 : J9.now.size = JX.now.size := by rw [← hJ9]; rfl
          have ht9 : J9.now.texts.length = tn + 1 := by rw [← hJ9]; show (JX.now.texts ++ [_]).length = _; rw [List.length_append, HTX.out, HTN.out]; rfl
          rw [hJ9] at hap9 hinv9
          have hs9 := room_sign hinv9 (by rw [hz9]; have := HIX.out.1.half; have h2 := HM.out.2.1; have h3 := HIX.out.2.2; omega)
          have hr9 : J9.now.room < 0 := by
            rcases hs9 with h | ⟨r', _, h1, _, h3⟩
            · exact h.1
            · have := secs_pos r'; omega
          have HE9 := Lib.hid hap9
          have HI9 := Lib.hid hinv9
          have HT9 := Lib.hid ht9
          clear hus hap9 hinv9 hc9 hJ9 hu9 hz9 ht9 hs9 hR1
          go_wp2_with fail
          have HTLZ := Lib.hid ((HTLY.out.app [Obj.cells (cv .u8 (rep R1)) 5 (0, 0)]).mono (P' := P4) fun p hp => .inl hp)
          have HRLZ := Lib.hid (HRLY.out.more [Obj.cells (cv .u8 (rep R1)) 5 (0, 0)])
          obtain ⟨LZ, hLZ⟩ : ∃ LZ, LY ++ [Obj.cells (cv .u8 (rep R1)) 5 (0, 0)] = LZ := ⟨_, rfl⟩
          rw [hLZ] at HTLZ HRLZ ⊢
          clear hLZ HTLY HRLY
          refine (append_st hR HTLZ.out (mkS (rep R1)) (by rw [HIX.out.2.1]; decide) _).mono ?_
          rintro e w' ⟨LA, d9, rfl, rfl, hs, hu⟩
          rw [HE1.out] at hs ⊢
          have HTLA := Lib.hid hs
          have HRLA : Hid (RowV P4 w LA 1 tn (.slice qv tn cv10) (strs T)) := Lib.hid (HRLZ.out.mono (B := P4) fun p hp hlt => ⟨hp, hu.2 p hp⟩)
          clear hs hu HTLZ HRLZ
          go_wp2_with fail
          refine (texts_st HTLA.out HIX.out.1.texts _).mono ?_
          rintro e w' ⟨vC, gC, dC, rfl, rfl, hrvC⟩
          rw [HTX.out] at hrvC
          have HVvC := Lib.hid (TxAt.row hrvC)
          clear hrvC
          have HTLC := Lib.hid ((HTLA.out.app gC).mono (P' := P4) fun p hp => .inl hp)
          have HRLC := Lib.hid (HRLA.out.more gC)
          obtain ⟨LC, hLC⟩ : ∃ LC, LA ++ gC = LC := ⟨_, rfl⟩
          rw [hLC] at HTLC HRLC HVvC ⊢
          clear hLC HTLA HRLA
          go_wp2_with fail
          refine (same_any w LC _ vC _ _ HVvC.out (TxAt.row HRLC.out) (by rw [List.length_map, HTN.out]; exact hfew)).mono ?_
          rintro e w' ⟨rfl, dC', rfl⟩
          clear HVvC
          go_wp2_with fail
          have HTLD := Lib.hid ((HTLC.out.app [Obj.cells (cv .u8 (rep r)) 5 (0, 0)]).mono (P' := P4) fun p hp => .inl hp)
          have HRLD := Lib.hid (HRLC.out.more [Obj.cells (cv .u8 (rep r)) 5 (0, 0)])
          obtain ⟨LD, hLD⟩ : ∃ LD, LC ++ [Obj.cells (cv .u8 (rep r)) 5 (0, 0)] = LD := ⟨_, rfl⟩
          rw [hLD] at HTLD HRLD ⊢
          clear hLD HTLC HRLC
          refine (append_st hR HTLD.out (mkS (rep r)) (by rw [HIX.out.2.1]; decide) _).mono ?_
          rintro e w' ⟨LE, d11, rfl, rfl, hs, hu⟩
          rw [HE9.out] at hs ⊢
          have HTLE := Lib.hid hs
          clear hs hu HTLD HRLD
          go_wp2_with fail
          refine (texts_st HTLE.out HI9.out.texts _).mono ?_
          rintro e w' ⟨vE, gE, dE, rfl, rfl, hrE⟩
          rw [HT9.out] at hrE
          obtain ⟨qE, cE, rfl⟩ := hrE.form
          have HTLF := Lib.hid ((HTLE.out.app gE).mono (P' := P4) fun p hp => .inl hp)
          obtain ⟨LF, hLF⟩ : ∃ LF, LE ++ gE = LF := ⟨_, rfl⟩
          rw [hLF] at HTLF ⊢
          have htni : (((tn + 1 : Nat) : Int)) = (tn : Int) + 1 := by omega
          clear hrE hLF HTLE
          go_wp2_with fail
          refine (room_st HTLF.out _).mono ?_
          rintro e w' ⟨rfl, gG, dG, rfl⟩
          go_wp2
          go_ret
          exact ⟨rfl, Grows.of _ _ _⟩
end Go.Proofs.YtjgfljckmckhcaaDoor

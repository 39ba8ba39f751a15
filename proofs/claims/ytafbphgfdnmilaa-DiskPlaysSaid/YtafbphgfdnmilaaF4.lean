/- The power fails, as the document has it: the walk. No condition but that rows are small. -/
import Derived.Test.YtafbphgfdnmilaaF3
namespace Go.Proofs.Ytafbphgfdnmilaa
open Go.RowKit Go.Own
attribute [-go_sem] run_string_add_if
attribute [local go_sem] sls_hi sls_lo bs29e z76 al76 bu35 ldV0 ldV1 stV one_slice ldR ldR0 ldR1 ldR2 ldR3 ldR4 ldR5 ldR6 stR stR0 stR1 stR2 stR5 stR5z stR6 z35 al35 set_same app_left set_left at_mid' set_mid' at_mid2' set_mid2' List.getElem?_set_ne
theorem RowV.put {A : Nat → Prop} {w : World} {l : List Obj} {n i c a : Nat} {X : List Value} {t : TypeId} {S : List (List Nat)} (hAi : A i) (hi : l[i]? = some (.cells X.toArray t (0, 0))) (hX : X.length = c * 1) (hnc : n ≤ c) (hXt : X.take (n * 1) = lcs S) (r : List Nat) (g : List Obj) :
    RowV A w (l.set i (.cells (X.set a (.string (mkS r))).toArray t (0, 0)) ++ g) 1 n (.slice (some ⟨w.heap.size + i, 0, none⟩) n c) (lcs (S.set a r)) :=
  .inr ⟨i, c, X.set a (.string (mkS r)), t, hAi, rfl, app_some (set_some hi), by rw [List.length_set, hX], hnc, by rw [List.take_set, hXt, lcs, lcs, List.map_set]⟩
set_option maxRecDepth 100000 in
set_option maxHeartbeats 2000000 in
theorem failR_any (w : World) (l : List Obj) (d : Nat) (A : Nat → Prop) (vl vw : Value) (R : Rk) (h : RAt A w l vl vw R) (hA : ∀ p, l.length ≤ p → A p) (hn : R.lasts.length ≤ 4096) (hw : R.wait.length ≤ 1000) (k : Nat) (t : Int) :
    Calls Try.prog 34 #[.agg (rc vl vw R), .int .u64 (k : Int), .int .i64 t] (Wd w l d) (RetR A w l (R.fail k t) fun v => v) := by
  obtain ⟨pw, cw, rfl, hpw⟩ := RowV.form h.wait
  have H := Lib.hid h
  have HA := Lib.hid hA
  have HPW := Lib.hid hpw
  clear h hA hpw
  obtain ⟨n, hn'⟩ : ∃ n, R.lasts.length = n := ⟨_, rfl⟩
  obtain ⟨m, hm'⟩ : ∃ m, R.wait.length = m := ⟨_, rfl⟩
  have HL := Lib.hid H.out.lasts
  rw [hn'] at hn HL
  rw [hm'] at hw HPW ⊢
  have HN := Lib.hid hn'
  have HM := Lib.hid hm'
  have HSEC := Lib.hid H.out.ok.secs
  rw [hn'] at HSEC
  clear hn' hm'
  go_enter Try.func34, Try.ntmps34
  go_wp2_with (refine wpList_row rfl (.tmp 11) (.tmp 13) 29 9 rfl rt29 (A := fun p => l.length + 2 ≤ p) (B := A) (fun p hp => by simp at hp; omega) (.slice (some ⟨w.heap.size + (l.length + 2), 0, none⟩) 0 0) 0 [] rfl (.inr ⟨l.length + 2, 0, [], 9, Nat.le_refl _, rfl, at_third rfl, rfl, Nat.le_refl _, rfl⟩) vl n (lcs R.lasts) rfl (HL.out.more _) (lcs_all _) (by omega) ?_; intro v' l' d' H1 H2 H3)
  have hrow : RowV (fun p => l.length + 2 ≤ p) w l' 1 n v' (lcs R.lasts) := by have := H1.out; rwa [Nat.zero_add, List.nil_append] at this
  have hb0 := (H3.out l.length (by simp) (notAt_ne (by omega))).trans (at_mid' rfl)
  have hb1 := (H3.out (l.length + 1) (by simp) (notAt_ne (by omega))).trans (at_next' rfl)
  have HX : Hid (Ext l l') := Lib.hid ⟨by have := H2.out; simp at this; omega, fun p hp => by rw [H3.out p (by simp; omega) (notAt_ne (by omega)), List.getElem?_append_left hp]⟩
  obtain ⟨pv, cv', rfl, hpv⟩ := RowV.form hrow
  have HROW := Lib.hid hrow
  have HB0 := Lib.hid hb0
  have HB1 := Lib.hid hb1
  clear H1 H2 H3 hrow hb0 hb1 hpv
  go_loopw [8] (fun x wr => ∃ (kk : Nat) (lc : List Obj) (e : Nat), kk ≤ m ∧ kk ≤ 64 ∧ x = .int .i64 kk ∧ wr = Wd w lc e ∧ Hid (Ext l lc) ∧ Hid (lc[l.length]? = some (.cells (rc vl (.slice pw m cw) R) 35 (0, 0))) ∧ Hid (lc[l.length + 1]? = some (.cells (rc (.slice none 0 0) (.slice none 0 0) rk0) 35 (0, 0))) ∧ Hid (RowV (fun p => l.length + 2 ≤ p) w lc 1 n (.slice pv n cv') (lcs (tearR k t ((m : Int) - 1) 0 R.lasts (R.wait.take kk))))) (fun x _ => 64 - (intOf x).toNat)
  case atStart => exact ⟨0, l', _, by omega, by omega, rfl, rfl, HX, HB0, HB1, by rw [List.take_zero]; exact HROW⟩
  case round =>
    clear HX HB0 HB1 HROW
    obtain ⟨kk, lc, e, hkk, hk64, rfl, rfl, HX, HB0, HB1, HROW⟩ := hrel
    have hb0 := HB0.out
    by_cases hlt : kk < m ∧ kk < 64
    · obtain ⟨hlm, hl64⟩ := hlt
      have hS := Secs.tear k t ((m : Int) - 1) (R.wait.take kk) 0 R.lasts HSEC.out (fun p hp => by have := H.out.ok.waitO p (List.mem_of_mem_take hp); rwa [HN.out] at this)
      obtain ⟨⟨aa, y⟩, hk⟩ : ∃ p, R.wait[kk]? = some p := ⟨R.wait[kk]'(by rw [HM.out]; exact hlm), List.getElem?_eq_getElem _⟩
      have hstep := tearR_step k t ((m : Int) - 1) R.lasts R.wait kk aa y hk
      obtain ⟨S, hSS⟩ : ∃ S, tearR k t ((m : Int) - 1) 0 R.lasts (R.wait.take kk) = S := ⟨_, rfl⟩
      rw [hSS] at hS hstep HROW
      clear hSS
      have hw0 := H.out.ok.waitO _ (List.mem_of_getElem? hk)
      rw [HN.out] at hw0
      obtain ⟨haa, hy64, hyB⟩ := hw0
      simp only at haa hy64 hyB
      obtain ⟨hz, hz64, hzB⟩ := hS.get haa
      obtain ⟨z, hzz⟩ : ∃ z, S.getD aa [] = z := ⟨_, rfl⟩
      rw [hzz] at hz hz64 hzB hstep
      obtain ⟨j, Y, tj, hAj, rfl, hj, hYl, hmc, hYt⟩ := HPW.out (by omega)
      have hjl := (List.getElem?_eq_some_iff.1 hj).1
      have hjc : lc[j]? = some (Obj.cells Y.toArray tj (0, 0)) := by rw [HX.out.2 j hjl, hj]
      have hldw : ∀ L D, L[j]? = some (Obj.cells Y.toArray tj (0, 0)) → ldX Try.prog 76 (some 2) (some (Obj.cells Y.toArray tj (0, 0))) (w.heap.size + j) (kk * 2) (Wd w L D) = .ok (.agg (wr aa y)) (Wd w L D) := fun L D hL => ld_wr hL hYt hlm (by rw [hYl]; exact Nat.mul_le_mul_right _ hmc) hk
      obtain ⟨pv2, cv2, he2, hpv⟩ := RowV.form HROW.out
      obtain ⟨i, X, tx, hAi, hpe, hi, hXl, hnc, hXt⟩ := hpv (by omega)
      obtain ⟨hpp, _, hcc⟩ := Value.slice.inj he2
      subst hpp
      subst hcc
      subst hpe
      clear he2 hpv
      have hldr : ∀ L D, L[i]? = some (Obj.cells X.toArray tx (0, 0)) → ldX Try.prog 9 none (some (Obj.cells X.toArray tx (0, 0))) (w.heap.size + i) aa (Wd w L D) = .ok (.string (mkS z)) (Wd w L D) := fun L D hL => ld_str hL hXt haa hz
      have hstr : ∀ L D s, L[i]? = some (Obj.cells X.toArray tx (0, 0)) → stX Try.prog 9 1 (some (Obj.cells X.toArray tx (0, 0))) w L D i aa (.string s) = .ok () (Wd w (L.set i (.cells (X.set aa (.string s)).toArray tx (0, 0))) D) := fun L D s hL => st_str hL (by rw [hXl]; omega)
      have hYs : (mkS y).size = 64 := by rw [mkS_size, hy64]
      have hZs : (mkS z).size = 64 := by rw [mkS_size, hz64]
      have hai : (aa : Int) < n := by omega
      have HAI := Lib.hid hAi
      have HXL := Lib.hid hXl
      have HXT := Lib.hid hXt
      have HNC := Lib.hid hnc
      have HY64 := Lib.hid hy64
      have HZ64 := Lib.hid hz64
      have HSTEP := Lib.hid hstep
      have HSEC2 := Lib.hid hS
      have HZZ := Lib.hid hzz
      have HAA := Lib.hid haa
      clear hAi hXl hXt hnc hy64 hz64 hyB hzB hstep hS hk hz hzz hYl hmc hYt hAj hj hjl
      obtain ⟨bb, hbb⟩ : ∃ b, shr64 k kk % 2 = b := ⟨_, rfl⟩
      have hbb1 : ((shr64 k kk : Nat) : Int) % 2 = bb := by omega
      have hbb2 : ((shr64 k kk : Nat) : Int).tmod 2 = bb := by rw [Int.tmod_eq_emod_of_nonneg (by omega)]; exact hbb1
      have ha64 : kk ≤ 64 := by omega
      have hwu : IntKind.u64.wrap (kk : Int) = kk := by rw [wrap64n, Nat.mod_eq_of_lt (by omega)]
      have hlen2 : kk ≤ 1000 := by omega
      by_cases hbit : bb = 0
      · have HKP : Hid (keptN k t ((m : Int) - 1) kk = 0) := Lib.hid (by unfold keptN; rw [and64_one, hbb, if_pos hbit])
        subst hbit
        clear hbb
        go_wp2
        go_roundw
        case rel => exact ⟨kk + 1, _, _, by omega, by omega, by go_num, rfl, Lib.hid (HX.out.trans (Ext.app _ _)), Lib.hid (app_some HB0.out), Lib.hid (app_some HB1.out), by
          rw [HSTEP.out, HKP.out, ← HZZ.out, HSEC2.out.same HAA.out]
          exact Lib.hid (HROW.out.more _)⟩
        case measure => simp [intOf]; omega
      · have hbit1 : ((bb : Int) == 0) = false := by rw [beq_eq_false_iff_ne]; omega
        have HBB := Lib.hid (show and64 (shr64 k kk) 1 ≠ 0 by rw [and64_one, hbb]; exact hbit)
        clear hbb hbit
        by_cases hl : kk + 1 = m
        · have hl1 : ((kk : Int) == (m : Int) - 1) = true := by rw [beq_iff_eq]; omega
          have HKP0 : Hid (keptN k t ((m : Int) - 1) kk = clampN t) := Lib.hid (by unfold keptN; rw [if_neg HBB.out, if_pos (by omega)])
          by_cases hta : t < 0
          · have HKP : Hid (keptN k t ((m : Int) - 1) kk = 0) := Lib.hid (HKP0.out.trans (by unfold clampN; omega))
            have ht64 : t < 64 := by omega
            have h1 : (mkS y).extract 0 0 = mkS (y.take 0) := by rw [ext_mkS, List.drop_zero, Nat.sub_zero]
            have h2 : (mkS z).extract 0 64 = mkS (z.drop 0) := by rw [ext_mkS, List.take_of_length_le (by rw [List.length_drop, HZ64.out]; exact Nat.le_refl _)]
            obtain ⟨P1, hP1⟩ : ∃ q, y.take 0 = q := ⟨_, rfl⟩
            obtain ⟨P2, hP2⟩ : ∃ q, z.drop 0 = q := ⟨_, rfl⟩
            have HRES := Lib.hid HSTEP.out
            rw [HKP.out, hP1, hP2] at HRES
            have hadd : ∀ W, (Op.stringOp .add (mkS P1) (mkS P2)).run Try.prog W = .ok (.string (mkS (P1 ++ P2))) W := fun W => mkS_add _ _ (by rw [← hP1, ← hP2, List.length_take, List.length_drop, HY64.out, HZ64.out]; omega)
            rw [hP1] at h1
            rw [hP2] at h2
            have hE : P1 = [] := by rw [← hP1]; rfl
            subst hE
            have hadd2 : ∀ W, (Op.stringOp .add ByteArray.empty (mkS P2)).run Try.prog W = .ok (.string (mkS ([] ++ P2))) W := hadd
            clear hP1 hP2
            obtain ⟨Q, hQ⟩ : ∃ q, [] ++ P2 = q := ⟨_, rfl⟩
            rw [hQ] at HRES hadd hadd2
            clear hQ
            go_wp2
            refine wp_region_tail 16 (by kernel_rfl) (by kernel_rfl) ?_
            simp only [List.take_succ_cons, List.take_zero, List.drop_succ_cons, List.drop_zero]
            repeat still_step
            refine wpStill_nil ?_
            go_wp2
            go_roundw
            case rel => exact ⟨kk + 1, _, _, by omega, by omega, by go_num, rfl, Lib.hid ((HX.out.set (show l.length ≤ i by have := HAI.out; omega) _).trans (Ext.app _ _)), Lib.hid (app_some (set_other (show i ≠ l.length by have := HAI.out; omega) HB0.out)), Lib.hid (app_some (set_other (show i ≠ l.length + 1 by have := HAI.out; omega) HB1.out)), by rw [HRES.out]; exact Lib.hid (RowV.put HAI.out hi HXL.out HNC.out HXT.out Q _)⟩
            case measure => simp [intOf]; omega
          · by_cases htb : t < 64
            · obtain ⟨kp, rfl⟩ : ∃ kp : Nat, t = kp := ⟨t.toNat, by omega⟩
              have HKP : Hid (keptN k (kp : Int) ((m : Int) - 1) kk = kp) := Lib.hid (HKP0.out.trans (by unfold clampN; omega))
              have hkp64 : kp ≤ 64 := by omega
              have hkpi : (kp : Int) ≤ 64 := by omega
              have h1 : (mkS y).extract 0 kp = mkS (y.take kp) := by rw [ext_mkS, List.drop_zero, Nat.sub_zero]
              have h2 : (mkS z).extract kp 64 = mkS (z.drop kp) := by rw [ext_mkS, List.take_of_length_le (by rw [List.length_drop, HZ64.out]; exact Nat.le_refl _)]
              obtain ⟨P1, hP1⟩ : ∃ q, y.take kp = q := ⟨_, rfl⟩
              obtain ⟨P2, hP2⟩ : ∃ q, z.drop kp = q := ⟨_, rfl⟩
              have HRES := Lib.hid HSTEP.out
              rw [HKP.out, hP1, hP2] at HRES
              have hadd : ∀ W, (Op.stringOp .add (mkS P1) (mkS P2)).run Try.prog W = .ok (.string (mkS (P1 ++ P2))) W := fun W => mkS_add _ _ (by rw [← hP1, ← hP2, List.length_take, List.length_drop, HY64.out, HZ64.out]; omega)
              rw [hP1] at h1
              rw [hP2] at h2
              have hadd2 := hadd
              clear hP1 hP2
              obtain ⟨Q, hQ⟩ : ∃ q, P1 ++ P2 = q := ⟨_, rfl⟩
              rw [hQ] at HRES hadd hadd2
              clear hQ
              go_wp2
              refine wp_region_tail 16 (by kernel_rfl) (by kernel_rfl) ?_
              simp only [List.take_succ_cons, List.take_zero, List.drop_succ_cons, List.drop_zero]
              repeat still_step
              refine wpStill_nil ?_
              go_wp2
              go_roundw
              case rel => exact ⟨kk + 1, _, _, by omega, by omega, by go_num, rfl, Lib.hid ((HX.out.set (show l.length ≤ i by have := HAI.out; omega) _).trans (Ext.app _ _)), Lib.hid (app_some (set_other (show i ≠ l.length by have := HAI.out; omega) HB0.out)), Lib.hid (app_some (set_other (show i ≠ l.length + 1 by have := HAI.out; omega) HB1.out)), by rw [HRES.out]; exact Lib.hid (RowV.put HAI.out hi HXL.out HNC.out HXT.out Q _)⟩
              case measure => simp [intOf]; omega
            · have HKP : Hid (keptN k t ((m : Int) - 1) kk = 64) := Lib.hid (HKP0.out.trans (by unfold clampN; omega))
              have h1 : (mkS y).extract 0 64 = mkS (y.take 64) := by rw [ext_mkS, List.drop_zero, Nat.sub_zero]
              have h2 : (mkS z).extract 64 64 = mkS (z.drop 64) := by rw [ext_mkS, List.take_of_length_le (by rw [List.length_drop, HZ64.out]; exact Nat.le_refl _)]
              obtain ⟨P1, hP1⟩ : ∃ q, y.take 64 = q := ⟨_, rfl⟩
              obtain ⟨P2, hP2⟩ : ∃ q, z.drop 64 = q := ⟨_, rfl⟩
              have HRES := Lib.hid HSTEP.out
              rw [HKP.out, hP1, hP2] at HRES
              have hadd : ∀ W, (Op.stringOp .add (mkS P1) (mkS P2)).run Try.prog W = .ok (.string (mkS (P1 ++ P2))) W := fun W => mkS_add _ _ (by rw [← hP1, ← hP2, List.length_take, List.length_drop, HY64.out, HZ64.out]; omega)
              rw [hP1] at h1
              rw [hP2] at h2
              have hE : P2 = [] := by rw [← hP2, List.drop_of_length_le (by rw [HZ64.out]; exact Nat.le_refl _)]
              subst hE
              have hadd2 : ∀ W, (Op.stringOp .add (mkS P1) ByteArray.empty).run Try.prog W = .ok (.string (mkS (P1 ++ []))) W := hadd
              clear hP1 hP2
              obtain ⟨Q, hQ⟩ : ∃ q, P1 ++ [] = q := ⟨_, rfl⟩
              rw [hQ] at HRES hadd hadd2
              clear hQ
              go_wp2
              refine wp_region_tail 16 (by kernel_rfl) (by kernel_rfl) ?_
              simp only [List.take_succ_cons, List.take_zero, List.drop_succ_cons, List.drop_zero]
              repeat still_step
              refine wpStill_nil ?_
              go_wp2
              go_roundw
              case rel => exact ⟨kk + 1, _, _, by omega, by omega, by go_num, rfl, Lib.hid ((HX.out.set (show l.length ≤ i by have := HAI.out; omega) _).trans (Ext.app _ _)), Lib.hid (app_some (set_other (show i ≠ l.length by have := HAI.out; omega) HB0.out)), Lib.hid (app_some (set_other (show i ≠ l.length + 1 by have := HAI.out; omega) HB1.out)), by rw [HRES.out]; exact Lib.hid (RowV.put HAI.out hi HXL.out HNC.out HXT.out Q _)⟩
              case measure => simp [intOf]; omega
        · have hl1 : ((kk : Int) == (m : Int) - 1) = false := by rw [beq_eq_false_iff_ne]; omega
          have HKP : Hid (keptN k t ((m : Int) - 1) kk = 64) := Lib.hid (by unfold keptN; rw [if_neg HBB.out, if_neg (by omega)])
          clear hl
          have h1 : (mkS y).extract 0 64 = mkS (y.take 64) := by rw [ext_mkS, List.drop_zero, Nat.sub_zero]
          have h2 : (mkS z).extract 64 64 = mkS (z.drop 64) := by rw [ext_mkS, List.take_of_length_le (by rw [List.length_drop, HZ64.out]; exact Nat.le_refl _)]
          obtain ⟨P1, hP1⟩ : ∃ q, y.take 64 = q := ⟨_, rfl⟩
          obtain ⟨P2, hP2⟩ : ∃ q, z.drop 64 = q := ⟨_, rfl⟩
          have HRES := Lib.hid HSTEP.out
          rw [HKP.out, hP1, hP2] at HRES
          have hadd : ∀ W, (Op.stringOp .add (mkS P1) (mkS P2)).run Try.prog W = .ok (.string (mkS (P1 ++ P2))) W := fun W => mkS_add _ _ (by rw [← hP1, ← hP2, List.length_take, List.length_drop, HY64.out, HZ64.out]; omega)
          rw [hP1] at h1
          rw [hP2] at h2
          have hE : P2 = [] := by rw [← hP2, List.drop_of_length_le (by rw [HZ64.out]; exact Nat.le_refl _)]
          subst hE
          have hadd2 : ∀ W, (Op.stringOp .add (mkS P1) ByteArray.empty).run Try.prog W = .ok (.string (mkS (P1 ++ []))) W := hadd
          clear hP1 hP2
          obtain ⟨Q, hQ⟩ : ∃ q, P1 ++ [] = q := ⟨_, rfl⟩
          rw [hQ] at HRES hadd hadd2
          clear hQ
          go_wp2
          refine wp_region_tail 16 (by kernel_rfl) (by kernel_rfl) ?_
          simp only [List.take_succ_cons, List.take_zero, List.drop_succ_cons, List.drop_zero]
          repeat still_step
          refine wpStill_nil ?_
          go_wp2
          go_roundw
          case rel => exact ⟨kk + 1, _, _, by omega, by omega, by go_num, rfl, Lib.hid ((HX.out.set (show l.length ≤ i by have := HAI.out; omega) _).trans (Ext.app _ _)), Lib.hid (app_some (set_other (show i ≠ l.length by have := HAI.out; omega) HB0.out)), Lib.hid (app_some (set_other (show i ≠ l.length + 1 by have := HAI.out; omega) HB1.out)), by rw [HRES.out]; exact Lib.hid (RowV.put HAI.out hi HXL.out HNC.out HXT.out Q _)⟩
          case measure => simp [intOf]; omega
    · have hb1 := HB1.out
      have ho1 : (Value.slice pv n cv').oneCell' = true := rfl
      have ho2 : (Value.slice none 0 0).oneCell' = true := rfl
      have HE : Hid (R.wait.take kk = R.wait.take 64) := Lib.hid (by
        by_cases h : kk < m
        · rw [show kk = 64 by omega]
        · rw [List.take_of_length_le (by rw [HM.out]; omega), List.take_of_length_le (by rw [HM.out]; omega)])
      have hend : ¬ kk < m ∨ (kk < m ∧ ¬ kk < 64) := by omega
      have HF : Hid (∀ X, RAt A w (lc.set (l.length + 1) X) (.slice pv n cv') (.slice none 0 0) (R.fail k t)) := Lib.hid (fun X => by
        have hs := Rk.fail_secs H.out.ok k t
        have hsl : (R.fail k t).lasts.length = n := by rw [hs.1, HN.out]
        refine ⟨?_, .inl ⟨rfl, rfl, rfl⟩, H.out.ok.fail k t⟩
        rw [hsl]
        have h := HROW.out
        rw [HE.out] at h
        have e : (R.fail k t).lasts = tearR k t ((m : Int) - 1) 0 R.lasts (R.wait.take 64) := by
          show tearR k t ((R.wait.length : Int) - 1) 0 _ _ = _
          rw [HM.out]
        rw [e]
        exact h.mono fun p hp _ => ⟨HA.out p (by omega), List.getElem?_set_ne (by omega)⟩)
      clear hlt HROW
      rcases hend with hend | ⟨hend1, hend2⟩
      all_goals
        go_wp2
        refine ret_mix (i := l.length + 1) rfl rfl ag35 (set_some HB1.out) rfl rfl ?_
        exact ⟨_, _, _, _, rfl, rfl, HX.out.set (Nat.le_succ _) _, HF.out _⟩
end Go.Proofs.Ytafbphgfdnmilaa

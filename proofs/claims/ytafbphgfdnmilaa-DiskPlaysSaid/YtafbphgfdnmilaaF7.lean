/- The document's Flush: by contract. No condition but that rows are small. -/
import Derived.Test.YtafbphgfdnmilaaF6
namespace Go.Proofs.Ytafbphgfdnmilaa
open Go.RowKit Go.Own
theorem applyR_snoc (x : List (List Nat)) (ws : List (Nat × List Nat)) (p : Nat × List Nat) : applyR x (ws ++ [p]) = (applyR x ws).set p.1 p.2 := by unfold applyR; rw [List.foldl_append]; rfl
theorem applyR_step {x : List (List Nat)} {ws : List (Nat × List Nat)} {j a : Nat} {y : List Nat} (h : ws[j]? = some (a, y)) : applyR x (ws.take (j + 1)) = (applyR x (ws.take j)).set a y := by
  have hk := List.getElem?_eq_some_iff.1 h
  rw [List.take_succ_eq_append_getElem hk.1, applyR_snoc, hk.2]
theorem applyR_length : ∀ (ws : List (Nat × List Nat)) (x : List (List Nat)), (applyR x ws).length = x.length
  | [], _ => rfl
  | _ :: ws, _ => (applyR_length ws _).trans (List.length_set ..)
theorem Secs.apply {n : Nat} : ∀ (ws : List (Nat × List Nat)) (x : List (List Nat)), Secs n x → (∀ p ∈ ws, p.1 < n ∧ p.2.length = 64 ∧ B8 p.2) → Secs n (applyR x ws)
  | [], _, h, _ => h
  | p :: ws, _, h, hp => Secs.apply ws _ (h.set (hp p (by simp)).2) fun q hq => hp q (by simp [hq])
theorem wr_at0 {m k a : Nat} {X : List Value} {x : List Nat} {ws : List (Nat × List Nat)} (hX : X.take (m * 2) = wcr ws) (hm : k < m) (hk : ws[k]? = some (a, x)) : X[k * 2]? = some (.int .i64 (a : Int)) ∧ X[k * 2 + 1]? = some (.string (mkS x)) := by
  have h := wr_at hX hm hk
  have h0 : ((X.drop (k * 2)).take 2)[0]? = some (.int .i64 (a : Int)) := by rw [h]; rfl
  have h1 : ((X.drop (k * 2)).take 2)[1]? = some (.string (mkS x)) := by rw [h]; rfl
  rw [List.getElem?_take_of_lt (by decide), List.getElem?_drop] at h0 h1
  exact ⟨h0, h1⟩
theorem ld_wr0 {P : Program} {T : TypeId} {w : World} {L : List Obj} {D j o : Nat} {X : List Value} {v : Value} {tj : TypeId} (ha : (isAgg T).run P (Wd w L D) = .ok false (Wd w L D)) (hj : L[j]? = some (.cells X.toArray tj (0, 0))) (hv : X[o]? = some v) :
    ldX P T none (some (.cells X.toArray tj (0, 0))) (w.heap.size + j) o (Wd w L D) = .ok v (Wd w L D) := ldX_mix1 ha (by rw [blk_at]; exact hj) (by simpa using hv)
attribute [-go_sem] run_string_add_if
attribute [local go_sem] bs29e one_slice ldR ldR0 ldR1 ldR2 ldR3 ldR4 ldR5 ldR6 stR stR0 stR1 stR2 stR5 stR5z stR6 z35 al35 set_same app_left set_left at_mid' set_mid' at_mid2' set_mid2' List.getElem?_set_ne
set_option maxRecDepth 100000 in
set_option maxHeartbeats 2000000 in
theorem flushR_any (w : World) (l : List Obj) (d : Nat) (A : Nat → Prop) (vl vw : Value) (R : Rk) (h : RAt A w l vl vw R) (hA : ∀ p, l.length ≤ p → A p) (hn : R.lasts.length ≤ 4096) (hw : R.wait.length ≤ 1000) (hc : R.count ≤ 1099511627776) :
    Calls Try.prog 16 #[.agg (rc vl vw R)] (Wd w l d) (RetR A w l R.flush.1 fun v => .tuple #[v, .int .i64 ((R.flush.2 : Nat) : Int)]) := by
  have h1 := RowV.one h.lasts
  have h2 := RowV.one h.wait
  have H := Lib.hid h
  have HA := Lib.hid hA
  clear h hA
  cases ho : R.off with
  | true =>
    have HE := Lib.hid (show R.flush = (R, 7) by unfold Rk.flush; rw [if_pos ho])
    rw [HE.out]
    go_enter Try.func16, Try.ntmps16
    go_wp2
    refine ret_mix2 (i := l.length + 1) rfl rfl rfl ag35 (at_next rfl) rfl rfl ?_
    exact ⟨vl, vw, _, _, rfl, rfl, Ext.app _ _, H.out.ext (Ext.app _ _)⟩
  | false =>
    by_cases hf : 1 ≤ R.cat ∧ R.cat = (R.count : Int) + 1
    · have hE : R.counted = (({ R with count := R.count + 1 } : Rk).fail R.keep R.torn, true) := by unfold Rk.counted; rw [if_pos hf]
      obtain ⟨C, hC⟩ : ∃ C, ({ R with count := R.count + 1 } : Rk).fail R.keep R.torn = C := ⟨_, rfl⟩
      rw [hC] at hE
      have HC := Lib.hid hE
      have HE := Lib.hid (show R.flush = (C, 7) by unfold Rk.flush; rw [if_neg (by rw [ho]; simp), hE]; rfl)
      rw [HE.out]
      clear hf hC hE
      go_enter Try.func16, Try.ntmps16
      go_wp2_with fail
      refine (countedR_any w _ _ (Abut A l.length) vl vw R (H.out.abut _) (Abut.fresh HA.out (by simp)) hn hw hc).mono ?_
      rw [HC.out]
      rintro e w' ⟨vl', vw', l', d', rfl, rfl, hX, hR⟩
      have ho1 := RowV.one hR.lasts
      have ho2 := RowV.one hR.wait
      have hb0 := (hX.2 l.length (by simp)).trans (at_mid' rfl)
      have hb1 := (hX.2 (l.length + 1) (by simp)).trans (at_next rfl)
      have HX := Lib.hid hX
      have HR := Lib.hid hR
      clear hX hR
      go_wp2
      refine ret_mix2 (i := l.length + 1) rfl rfl rfl ag35 (set_some (set_other (by omega) hb1)) rfl rfl ?_
      exact ⟨vl', vw', _, _, rfl, rfl, (((Ext.app l _).trans HX.out).set (Nat.le_refl _) _).set (Nat.le_succ _) _, ((HR.out.unbut0 _).unbut1 _).unbut⟩
    · have hE : R.counted = ({ R with count := R.count + 1, off := false }, false) := by unfold Rk.counted; rw [if_neg hf, ← ho]
      have HC := Lib.hid hE
      have HE := Lib.hid (show R.flush = ({ R with count := R.count + 1, lasts := applyR R.lasts R.wait, wait := [], off := false }, 0) by unfold Rk.flush; rw [if_neg (by rw [ho]; simp), hE]; rfl)
      rw [HE.out]
      clear hf hE HE
      go_enter Try.func16, Try.ntmps16
      go_wp2_with fail
      refine (countedR_any w _ _ (Abut A l.length) vl vw R (H.out.abut _) (Abut.fresh HA.out (by simp)) hn hw hc).mono ?_
      rw [HC.out]
      rintro e w' ⟨vl3, vw3, l3, d3, rfl, rfl, hX3, hR3⟩
      have ho1 := RowV.one hR3.lasts
      have ho2 := RowV.one hR3.wait
      have hb0 := (hX3.2 l.length (by simp)).trans (at_mid' rfl)
      have hb1 := (hX3.2 (l.length + 1) (by simp)).trans (at_next rfl)
      have hXl := hX3.1
      have HX3 := Lib.hid ((Ext.app l _).trans hX3)
      have HR3 := Lib.hid hR3
      clear hX3 hR3
      have hl3 : l.length + 2 ≤ l3.length := by simpa using hXl
      have hl0 : l.length < l3.length := by omega
      obtain ⟨L, hL⟩ : ∃ L, l3.set l.length (.cells (rc vl3 vw3 { R with count := R.count + 1, off := false }) 35 (0, 0)) = L := ⟨_, rfl⟩
      have hLl : l3.length = L.length := by rw [← hL, List.length_set]
      have hL0 : L[l.length]? = some (.cells (rc vl3 vw3 { R with count := R.count + 1, off := false }) 35 (0, 0)) := by rw [← hL]; exact set_some hb0
      have hL1 : L[l.length + 1]? = some (.cells (rc (.slice none 0 0) (.slice none 0 0) rk0) 35 (0, 0)) := by rw [← hL]; exact set_other (by omega) hb1
      have HXL : Hid (Ext l L) := Lib.hid (by rw [← hL]; exact HX3.out.set (Nat.le_refl _) _)
      have HRL : Hid (RAt (Abut A l.length) w L vl3 vw3 { R with count := R.count + 1, off := false }) := Lib.hid (by rw [← hL]; exact HR3.out.unbut0 _)
      have HLE := Lib.hid hL
      have HLL := Lib.hid hLl
      rw [hLl] at hl3 hl0
      clear hL hLl hb1 hXl HX3 HR3
      obtain ⟨n, hn'⟩ : ∃ n, R.lasts.length = n := ⟨_, rfl⟩
      obtain ⟨m, hm'⟩ : ∃ m, R.wait.length = m := ⟨_, rfl⟩
      have HLA : Hid (RowV (Abut A l.length) w L 1 n vl3 (lcs R.lasts)) := Lib.hid (by rw [← hn']; exact HRL.out.lasts)
      have HWA : Hid (RowV (Abut A l.length) w L 2 m vw3 (wcr R.wait)) := Lib.hid (by rw [← hm']; exact HRL.out.wait)
      have HOK : Hid R.Ok := Lib.hid H.out.ok
      rw [hn'] at hn
      rw [hm'] at hw
      have HN := Lib.hid hn'
      have HM := Lib.hid hm'
      clear hn' hm'
      obtain ⟨pw, cw, rfl, hpw⟩ := RowV.form HWA.out
      have HPW := Lib.hid hpw
      clear hpw
      have HSEC : Hid (Secs n R.lasts) := Lib.hid (by rw [← HN.out]; exact HOK.out.secs)
      have HWO : Hid (∀ p ∈ R.wait, p.1 < n ∧ p.2.length = 64 ∧ B8 p.2) := Lib.hid (by rw [← HN.out]; exact HOK.out.waitO)
      have HL0 := Lib.hid hL0
      have HL1 := Lib.hid hL1
      clear hL0 hL1
      go_wp2_with (simp only [HLE.out, HLL.out]; refine wpList_row rfl (.tmp 17) (.tmp 19) 29 9 rfl rt29 (A := fun p => L.length ≤ p) (B := Abut A l.length) (fun p hp => by simp at hp; omega) (.slice (some ⟨w.heap.size + L.length, 0, none⟩) 0 0) 0 [] rfl (.inr ⟨L.length, 0, [], 9, Nat.le_refl _, rfl, at_mid' rfl, rfl, Nat.le_refl _, rfl⟩) vl3 n (lcs R.lasts) rfl (HLA.out.more _) (lcs_all _) (by omega) ?_; intro v' l' d' H1 H2 H3)
      have hrow : RowV (fun p => L.length ≤ p) w l' 1 n v' (lcs R.lasts) := by have := H1.out; rwa [Nat.zero_add, List.nil_append] at this
      have HX : Hid (Ext L l') := Lib.hid ⟨by have := H2.out; simp at this; omega, fun p hp => by rw [H3.out p (by simp; omega) (notAt_ne (by omega)), List.getElem?_append_left hp]⟩
      obtain ⟨pv, cv', rfl, hpv⟩ := RowV.form hrow
      have HROW := Lib.hid hrow
      clear H1 H2 H3 hrow hpv hb0 HLE HLL
      go_loopw [6] (fun x wr => ∃ (kk : Nat) (lc : List Obj) (e : Nat), kk ≤ m ∧ x = .int .i64 kk ∧ wr = Wd w lc e ∧ Hid (Ext L lc) ∧ Hid (RowV (fun p => L.length ≤ p) w lc 1 n (.slice pv n cv') (lcs (applyR R.lasts (R.wait.take kk))))) (fun x _ => m - (intOf x).toNat)
      case atStart => exact ⟨0, l', _, by omega, rfl, rfl, HX, by rw [List.take_zero]; exact HROW⟩
      case round =>
        clear HX HROW
        obtain ⟨kk, lc, e, hkk, rfl, rfl, HX, HROW⟩ := hrel
        have hb0 := (HX.out.2 l.length (by omega)).trans HL0.out
        have hb1 := (HX.out.2 (l.length + 1) (by omega)).trans HL1.out
        by_cases hlt : kk < m
        · have hS := Secs.apply (R.wait.take kk) R.lasts HSEC.out (fun p hp => HWO.out p (List.mem_of_mem_take hp))
          obtain ⟨⟨aa, y⟩, hk⟩ : ∃ p, R.wait[kk]? = some p := ⟨R.wait[kk]'(by rw [HM.out]; exact hlt), List.getElem?_eq_getElem _⟩
          have hstep := applyR_step (x := R.lasts) hk
          obtain ⟨S, hSS⟩ : ∃ S, applyR R.lasts (R.wait.take kk) = S := ⟨_, rfl⟩
          rw [hSS] at hS hstep HROW
          clear hSS
          obtain ⟨haa, hy64, hyB⟩ := HWO.out _ (List.mem_of_getElem? hk)
          simp only at haa hy64 hyB
          obtain ⟨j, Y, tj, hAj, rfl, hj, hYl, hmc, hYt⟩ := HPW.out (by omega)
          have hjl := (List.getElem?_eq_some_iff.1 hj).1
          have hjc : lc[j]? = some (Obj.cells Y.toArray tj (0, 0)) := by rw [HX.out.2 j hjl, hj]
          obtain ⟨hY0, hY1⟩ := wr_at0 hYt hlt hk
          have hld0 : ∀ L D, L[j]? = some (Obj.cells Y.toArray tj (0, 0)) → ldX Try.prog 3 none (some (Obj.cells Y.toArray tj (0, 0))) (w.heap.size + j) (kk * 2) (Wd w L D) = .ok (.int .i64 (aa : Int)) (Wd w L D) := fun L D hL => ld_wr0 (isa3 _) hL hY0
          have hld1 : ∀ L D, L[j]? = some (Obj.cells Y.toArray tj (0, 0)) → ldX Try.prog 9 none (some (Obj.cells Y.toArray tj (0, 0))) (w.heap.size + j) (kk * 2 + 1) (Wd w L D) = .ok (.string (mkS y)) (Wd w L D) := fun L D hL => ld_wr0 (isa9 _) hL hY1
          obtain ⟨pv2, cv2, he2, hpv⟩ := RowV.form HROW.out
          obtain ⟨i, X, tx, hAi, hpe, hi, hXl, hnc, hXt⟩ := hpv (by omega)
          obtain ⟨hpp, _, hcc⟩ := Value.slice.inj he2
          subst hpp
          subst hcc
          subst hpe
          clear he2 hpv
          have hstr : ∀ L D s, L[i]? = some (Obj.cells X.toArray tx (0, 0)) → stX Try.prog 9 1 (some (Obj.cells X.toArray tx (0, 0))) w L D i aa (.string s) = .ok () (Wd w (L.set i (.cells (X.set aa (.string s)).toArray tx (0, 0))) D) := fun L D s hL => st_str hL (by rw [hXl]; omega)
          have hai : (aa : Int) < n := by omega
          have hai2 : aa < n := haa
          have hkm2 : (kk : Int) < m := by omega
          have HAI := Lib.hid hAi
          have HXLn := Lib.hid hXl
          have HXT := Lib.hid hXt
          have HNC := Lib.hid hnc
          have HSTEP := Lib.hid hstep
          have HNEW : Hid (Hid (RowV (fun p => L.length ≤ p) w (lc.set i (.cells (X.set aa (.string (mkS y))).toArray tx (0, 0))) 1 n (.slice (some ⟨w.heap.size + i, 0, none⟩) n cv') (lcs (applyR R.lasts (R.wait.take (kk + 1)))))) := Lib.hid (Lib.hid (by
            have h := RowV.put (A := fun p => L.length ≤ p) (w := w) (a := aa) hAi hi hXl hnc hXt y []
            rw [List.append_nil] at h
            rw [hstep]
            exact h))
          clear hAi hXl hXt hnc hy64 hyB hstep hS hk hYl hmc hYt hAj hj hjl hY0 hY1 haa
          go_wp2
          refine wp_region_tail 14 (by kernel_rfl) (by kernel_rfl) ?_
          simp only [List.take_succ_cons, List.take_zero, List.drop_succ_cons, List.drop_zero]
          repeat still_step
          refine wpStill_nil ?_
          go_wp2
          go_roundw
          case rel => exact ⟨kk + 1, _, _, by omega, by go_num, rfl, Lib.hid (HX.out.set HAI.out _), HNEW.out⟩
          case measure => simp [intOf]; omega
        · obtain rfl : kk = m := by omega
          have ho1 : (Value.slice pv n cv').oneCell' = true := rfl
          have ho2 : (Value.slice none 0 0).oneCell' = true := rfl
          have HF : Hid (∀ X Y, RAt A w ((lc.set l.length X).set (l.length + 1) Y) (.slice pv n cv') (.slice none 0 0) { R with count := R.count + 1, lasts := applyR R.lasts R.wait, wait := [], off := false }) := Lib.hid (fun X Y => by
            have hS := Secs.apply R.wait R.lasts HSEC.out HWO.out
            refine ⟨?_, .inl ⟨rfl, rfl, rfl⟩, ⟨fun x hx => hS.2 x hx, fun p hp => by simp at hp⟩⟩
            show RowV A w _ 1 (applyR R.lasts R.wait).length _ (lcs (applyR R.lasts R.wait))
            have h := HROW.out
            rw [List.take_of_length_le (by rw [HM.out]; exact Nat.le_refl _)] at h
            rw [hS.1]
            exact h.mono fun p hp _ => ⟨HA.out p (by omega), by rw [List.getElem?_set_ne (by omega), List.getElem?_set_ne (by omega)]⟩)
          clear hlt HROW
          go_wp2

          refine ret_mix2 (i := l.length + 1) rfl rfl rfl ag35 (set_some (set_other (by omega) hb1)) rfl rfl ?_
          exact ⟨_, _, _, _, rfl, rfl, (((HXL.out.trans HX.out).set (Nat.le_refl _) _).set (Nat.le_succ _) _), HF.out _ _⟩
end Go.Proofs.Ytafbphgfdnmilaa

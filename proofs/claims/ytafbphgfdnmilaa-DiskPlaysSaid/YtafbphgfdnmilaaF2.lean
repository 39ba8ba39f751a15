/- The document's Read: by contract. No condition. -/
import Derived.Test.YtafbphgfdnmilaaF1
namespace Go.Proofs.Ytafbphgfdnmilaa
open Go.RowKit Go.Own

theorem wr_at {X : List Value} {m k a : Nat} {x : List Nat} {ws : List (Nat × List Nat)} (hX : X.take (m * 2) = wcr ws) (hm : k < m) (hk : ws[k]? = some (a, x)) : (X.drop (k * 2)).take 2 = (wr a x).toList := by
  have hg := wcr_get hk
  rwa [← hX, List.drop_take, List.take_take, Nat.min_eq_left (by omega)] at hg
theorem wr_cells {X : List Value} {m k a : Nat} {x : List Nat} {ws : List (Nat × List Nat)} (hX : X.take (m * 2) = wcr ws) (hm : k < m) (hk : ws[k]? = some (a, x)) : X.toArray[k * 2]? = some (.int .i64 (a : Int)) ∧ X.toArray[k * 2 + 1]? = some (.string (mkS x)) := by
  have h := wr_at hX hm hk
  have h0 : ((X.drop (k * 2)).take 2)[0]? = some (.int .i64 (a : Int)) := by rw [h]; rfl
  have h1 : ((X.drop (k * 2)).take 2)[1]? = some (.string (mkS x)) := by rw [h]; rfl
  rw [List.getElem?_take_of_lt (by omega), List.getElem?_drop] at h0 h1
  rw [List.getElem?_toArray, List.getElem?_toArray]
  exact ⟨h0, h1⟩
theorem seenR_snoc (a : Nat) (s : List Nat) (ws : List (Nat × List Nat)) (k b : Nat) (x : List Nat) (h : ws[k]? = some (b, x)) : seenR a s (ws.take (k + 1)) = if b = a then x else seenR a s (ws.take k) := by
  have hk := List.getElem?_eq_some_iff.1 h
  rw [List.take_succ_eq_append_getElem hk.1, hk.2]
  unfold seenR
  rw [List.foldl_append]
  rfl
attribute [local go_sem] ldR ldR0 ldR1 ldR2 ldR3 ldR4 ldR5 ldR6 stR stR0 stR1 stR2 stR5 stR5z stR6 z35 al35 set_same app_left set_left at_mid' set_mid' at_mid2' set_mid2' List.getElem?_set_ne
set_option maxRecDepth 100000 in
set_option maxHeartbeats 1000000 in
theorem readR_any (w : World) (l : List Obj) (d : Nat) (A : Nat → Prop) (vl vw : Value) (R : Rk) (h : RAt A w l vl vw R) (hw : R.wait.length ≤ 1048576) (x : Int) :
    Calls Try.prog 14 #[.agg (rc vl vw R), .int .i64 x] (Wd w l d) fun e w' => e = .returned (.tuple #[.string (mkS (R.read x).1), .int .i64 (((R.read x).2 : Nat) : Int)]) ∧ ExtW w l w' := by
  obtain ⟨po, c, rfl, hpo⟩ := RowV.form h.lasts
  obtain ⟨pw, cw, rfl, hpw⟩ := RowV.form h.wait
  have HP := Lib.hid hpo
  have HPW := Lib.hid hpw
  clear h hpo hpw
  by_cases hr : refE R.off R.lasts.length x = 0
  · obtain ⟨ho, a, rfl, ha⟩ := refE_ok hr
    have HE := Lib.hid (show R.read (a : Int) = (seenR a (R.lasts.getD a []) R.wait, 0) by unfold Rk.read; rw [if_pos hr]; rfl)
    rw [HE.out]
    obtain ⟨s0, hs0⟩ : ∃ s, R.lasts[a]? = some s := ⟨R.lasts[a]'ha, List.getElem?_eq_getElem _⟩
    rw [show R.lasts.getD a [] = s0 by rw [List.getD_eq_getElem?_getD, hs0]; rfl]
    obtain ⟨n, hn⟩ : ∃ n, R.lasts.length = n := ⟨_, rfl⟩
    obtain ⟨m, hm⟩ : ∃ m, R.wait.length = m := ⟨_, rfl⟩
    rw [hn] at ha HP ⊢
    rw [hm] at HPW hw ⊢
    have HN := Lib.hid hn
    have HM := Lib.hid hm
    obtain ⟨i, X, t, _, rfl, hi, _, _, hX⟩ := HP.out (by omega)
    have hld : ∀ L D, L[i]? = some (Obj.cells X.toArray t (0, 0)) → ldX Try.prog 9 none (some (Obj.cells X.toArray t (0, 0))) (w.heap.size + i) a (Wd w L D) = .ok (.string (mkS s0)) (Wd w L D) := fun L D hL => ld_str hL hX ha hs0
    have hai : (a : Int) < n := by omega
    clear hr HE hn hm hX hs0
    go_enter Try.func14, Try.ntmps14
    go_wp2
    go_loop [6, 7] (fun s x => ∃ k : Nat, k ≤ m ∧ x = .int .i64 k ∧ s = .string (mkS (seenR a s0 (R.wait.take k)))) (fun _ x => m - (intOf x).toNat)
    case atStart => exact ⟨0, by omega, rfl, rfl⟩
    case round =>
      obtain ⟨k, hk, rfl, rfl⟩ := hrel
      by_cases hlt : k < m
      · obtain ⟨⟨b, y⟩, hw1⟩ : ∃ p, R.wait[k]? = some p := ⟨R.wait[k]'(by rw [HM.out]; exact hlt), List.getElem?_eq_getElem _⟩
        obtain ⟨j, Y, tj, _, rfl, hj, _, _, hY⟩ := HPW.out (by omega)
        obtain ⟨hc0, hc1⟩ := wr_cells hY hlt hw1
        have hl0 : ∀ L D, L[j]? = some (Obj.cells Y.toArray tj (0, 0)) → ldX Try.prog 3 none (some (Obj.cells Y.toArray tj (0, 0))) (w.heap.size + j) (k * 2) (Wd w L D) = .ok (.int .i64 (b : Int)) (Wd w L D) := fun L D hL => ldX_mix1 (isa3 _) (by rw [blk_at]; exact hL) hc0
        have hl1 : ∀ L D, L[j]? = some (Obj.cells Y.toArray tj (0, 0)) → ldX Try.prog 9 none (some (Obj.cells Y.toArray tj (0, 0))) (w.heap.size + j) (k * 2 + 1) (Wd w L D) = .ok (.string (mkS y)) (Wd w L D) := fun L D hL => ldX_mix1 (isa9 _) (by rw [blk_at]; exact hL) hc1
        have HST := Lib.hid (seenR_snoc a s0 R.wait k b y hw1)
        clear hY hw1 hc0 hc1
        by_cases hba : b = a
        · have hba' : ((b : Int) == (a : Int)) = true := by rw [beq_iff_eq]; omega
          have HBA := Lib.hid hba
          clear hba
          go_wp2
          go_round
          case rel => exact ⟨k + 1, by omega, by go_num, by rw [HST.out, if_pos HBA.out]⟩
          case measure => simp [intOf]; omega
        · have hba' : ((b : Int) == (a : Int)) = false := by rw [beq_eq_false_iff_ne]; omega
          have HBA := Lib.hid hba
          clear hba
          go_wp2
          go_round
          case rel => exact ⟨k + 1, by omega, by go_num, by rw [HST.out, if_neg HBA.out]⟩
          case measure => simp [intOf]; omega
      · obtain rfl : k = m := by omega
        have HE := Lib.hid (show R.wait.take k = R.wait by rw [List.take_of_length_le (by rw [HM.out]; exact Nat.le_refl _)])
        rw [HE.out]
        go_wp2
        go_ret2
        exact ⟨rfl, _, _, rfl, Ext.app _ _⟩
  · have HE := Lib.hid (show R.read x = ([], refE R.off R.lasts.length x) by unfold Rk.read; rw [if_neg hr])
    rw [HE.out]
    cases ho : R.off with
    | true =>
      go_enter Try.func14, Try.ntmps14
      go_wp2
      go_ret2
      exact ⟨rfl, _, _, rfl, Ext.app _ _⟩
    | false =>
      rw [ho] at hr
      obtain ⟨n, hn⟩ : ∃ n, R.lasts.length = n := ⟨_, rfl⟩
      rw [hn] at hr ⊢
      have hx : x < 0 ∨ (n : Int) ≤ x := by
        rcases Classical.em (x < 0 ∨ (n : Int) ≤ x) with h | h
        · exact h
        · exact absurd (by unfold refE; rw [if_neg (by simp), if_neg h]) hr
      have HX := Lib.hid (show refE false n x = 1 by unfold refE; rw [if_neg (by simp), if_pos hx])
      clear hr hn
      rw [HX.out]
      by_cases h0 : x < 0
      · clear hx
        go_enter Try.func14, Try.ntmps14
        go_wp2
        go_ret2
        exact ⟨rfl, _, _, rfl, Ext.app _ _⟩
      · have h1 : (n : Int) ≤ x := by omega
        clear hx
        go_enter Try.func14, Try.ntmps14
        go_wp2
        go_ret2
        exact ⟨rfl, _, _, rfl, Ext.app _ _⟩
end Go.Proofs.Ytafbphgfdnmilaa

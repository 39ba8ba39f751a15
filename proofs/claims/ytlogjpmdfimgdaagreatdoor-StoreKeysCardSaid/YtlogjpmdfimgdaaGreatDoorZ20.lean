/- The record that lies at the beginning of sectors: by contract. No condition but the size. -/
import Derived.Test.YtlogjpmdfimgdaaGreatDoorZ16
namespace Go.Proofs.YtlogjpmdfimgdaaGreatDoor.Jf
open Go.RowKit Go.Own.Jf
attribute [-go_sem] Sm.execOp_bs run_string_add_if
attribute [local go_sem] agj88 szj88 csj88 agj38 isaj38 agj9 isaj9 csj9 szj9 ldR0 ldR1 ldR2 stRA zj88 alXA bsj32s buj88 buj88z
/-- What 'taken' answers. -/
def takV (x : List Nat) : Array Value :=
  match takenL x with
  | none => #[.agg (rcl 0 0 .empty), .bool false]
  | some (g, n, t) => #[.agg (rcl g n (mkS t)), .bool true]
theorem cut1 (s : ByteArray) (i : Nat) (h : i < s.size) : s.extract i (i + 1) = mkS [gi (bys s) i] := by
  apply bys_inj
  rw [bys_mkS _ (fun n hn => by rw [List.mem_singleton.1 hn]; exact gi_bys_lt s i), bys_extract, Nat.add_sub_cancel_left]
  rw [List.drop_eq_getElem_cons (by rw [bys_length]; exact h), List.take_succ_cons, List.take_zero]
  simp [gi, List.getD, bys_length, h]
theorem mk_ne {a : Nat} (h : a ≠ 76) (h8 : a < 256) : mkS [a] ≠ mkS [76] := fun e => h (by
  have := congrArg bys e
  rw [bys_mkS _ (fun n hn => by rw [List.mem_singleton.1 hn]; exact h8), bys_mkS _ (fun n hn => by rw [List.mem_singleton.1 hn]; decide)] at this
  simpa using this)
theorem str_ne' {a b : ByteArray} (h : a ≠ b) : (a.toList == b.toList) = false := by
  rw [beq_eq_false_iff_ne]
  intro h2
  rw [ByteArray.toList_eq, ByteArray.toList_eq] at h2
  exact h (ByteArray.ext (Array.toList_inj.1 h2))
theorem lit76 : (mkS [76]).toList = [76] := by rw [ByteArray.toList_eq]; rfl
theorem mk_eq76 : ((mkS [76]).toList == [76]) = true := by rw [lit76]; rfl
theorem mk_ne76 {a : Nat} (h : a ≠ 76) (h8 : a < 256) : ((mkS [a]).toList == [76]) = false := by
  have := str_ne' (mk_ne h h8)
  rwa [lit76] at this
theorem number_grows (s : ByteArray) (hs : s.size ≤ 8) (W : World) : Calls Tryz.prog 98 #[.string s] W fun e w' => e = .returned (.int .u64 ((val (bys s) : Nat) : Int)) ∧ Grows W w' :=
  grows_of (fun w l d => (number_any s hs w l d).mono fun _ _ ⟨h1, d', h2⟩ => ⟨h1, [], d', by rw [h2, List.append_nil]⟩) W
theorem val_cut (s : ByteArray) (a k : Nat) (hk : k ≤ 8) : val (bys (s.extract a (a + k))) < 18446744073709551616 := by
  have h := val_lt (bys (s.extract a (a + k))) (B8.bys _)
  have hl : (bys (s.extract a (a + k))).length ≤ 8 := by rw [bys_extract, List.length_take]; omega
  have := Nat.pow_le_pow_right (show 0 < 256 by decide) hl
  omega
theorem of_blk {W : World} (hR : Sm.Roots W) {b : Nat} {s : ByteArray} (hb : blk W b = some (.cells #[.string s] 9 (0, 0))) (hs : s.size ≤ 2000000) :
    Calls Tryz.prog 100 #[.slice (some ⟨b, 0, none⟩) 1 1] W fun e w' => e = .returned (.string (mkS (Sm.digL (bys s)))) ∧ Grows W w' := by
  have e : Sm.allB [s] = bys s := by simp [Sm.allB]
  have hp : Sm.Parts W (some ⟨b, 0, none⟩) [s] := by
    intro j t hj
    obtain ⟨rfl, rfl⟩ : j = 0 ∧ s = t := by
      match j, hj with
      | 0, hj => exact ⟨rfl, by simpa using hj⟩
      | j + 1, hj => simp at hj
    exact ⟨_, _, _, _, rfl, hb, rfl⟩
  refine (Sm.of_any W hR _ 1 [s] hp (by rw [e, bys_length]; omega) (by show 1 ≤ _; omega)).mono ?_
  rintro e' w' ⟨rfl, hg⟩
  exact ⟨by rw [e], hg⟩
theorem roots_below {w W : World} (h : Sm.Roots w) (hB : Below w.heap.size w W) : Sm.Roots W := let ⟨t, f, e⟩ := h; ⟨t, f, blk_below hB e⟩
theorem digB8 (x : List Nat) : B8 (Sm.digL x) := by
  unfold Sm.digL Sm.textL
  exact B8.flat fun i _ => B8.four (Nat.mod_lt _ (by decide)) (Nat.mod_lt _ (by decide)) (Nat.mod_lt _ (by decide)) (Nat.mod_lt _ (by decide))
theorem bys_append (a b : ByteArray) : bys (a ++ b) = bys a ++ bys b := by simp [bys, ByteArray.data_append]
theorem pre_set {l L1 : List Obj} {i : Nat} {X : Obj} (h : ∃ g, L1 = l ++ g) (hi : l.length ≤ i) : ∃ g, L1.set i X = l ++ g := by
  obtain ⟨g, rfl⟩ := h
  exact ⟨_, List.set_append_right _ _ hi⟩
theorem pre_app {l L1 : List Obj} (h : ∃ g, L1 = l ++ g) (m : List Obj) : ∃ g, L1 ++ m = l ++ g := by
  obtain ⟨g, rfl⟩ := h
  exact ⟨_, List.append_assoc _ _ _⟩
theorem pre_wd {w : World} {l L1 : List Obj} {d : Nat} (h : ∃ g, L1 = l ++ g) : ∃ g d', Wd w L1 d = Wd w (l ++ g) d' := let ⟨g, e⟩ := h; ⟨g, d, by rw [e]⟩
set_option maxRecDepth 100000 in
set_option maxHeartbeats 4000000 in
theorem taken_any (w : World) (l : List Obj) (d : Nat) (hR : Sm.Roots w) (s : ByteArray) (hs : s.size ≤ 1000000) :
    Calls Tryz.prog 69 #[.string s] (Wd w l d) fun e w' => e = .returned (.tuple (takV (bys s))) ∧ ∃ g d', w' = Wd w (l ++ g) d' := by
  have hbl := bys_length s
  by_cases h1 : s.size < 64
  · have HV : Hid (takV (bys s) = #[.agg (rcl 0 0 .empty), .bool false]) := Lib.hid (by unfold takV; rw [taken_short (by omega)])
    have h1i : (s.size : Int) < 64 := by omega
    go_enter Tryz.func69, Tryz.ntmps69
    go_wp2
    exact ret_mix2 (i := l.length) (c := rcl 0 0 .empty) (t := 145) (f := (0, 0)) rfl rfl rfl agj88 (by simp) (rcl_size _ _ _) rfl ⟨by rw [HV.out]; rfl, _, _, rfl⟩
  · have h1i : ¬ (s.size : Int) < 64 := by omega
    have c0 := cut1 s 0 (by omega)
    have c63 := cut1 s 63 (by omega)
    have b0 := gi_bys_lt s 0
    have b63 := gi_bys_lt s 63
    obtain ⟨V, hV⟩ : ∃ V, takV (bys s) = V := ⟨_, rfl⟩
    by_cases h2 : gi (bys s) 0 = 76
    · by_cases h3 : gi (bys s) 63 = 76
      · rw [h2] at c0
        rw [h3] at c63
        have m0 := mk_eq76
        obtain ⟨X1, hX1⟩ : ∃ X, s.extract 1 9 = X := ⟨_, rfl⟩
        obtain ⟨X2, hX2⟩ : ∃ X, s.extract 13 17 = X := ⟨_, rfl⟩
        obtain ⟨X3, hX3⟩ : ∃ X, s.extract 9 13 = X := ⟨_, rfl⟩
        have s1 : X1.size ≤ 8 := by rw [← hX1, ByteArray.size_extract]; omega
        have s2 : X2.size ≤ 8 := by rw [← hX2, ByteArray.size_extract]; omega
        have s3 : X3.size ≤ 8 := by rw [← hX3, ByteArray.size_extract]; omega
        have v1 := val_cut s 1 8 (by decide)
        have v2 := val_cut s 13 4 (by decide)
        have v3 := val_cut s 9 4 (by decide)
        obtain ⟨G, hG⟩ : ∃ G, val (bys X1) = G := ⟨_, rfl⟩
        obtain ⟨K, hK⟩ : ∃ K, val (bys X2) = K := ⟨_, rfl⟩
        obtain ⟨N, hN⟩ : ∃ N, val (bys X3) = N := ⟨_, rfl⟩
        have eG : val (((bys s).drop 1).take 8) = G := by rw [← hG, ← hX1, bys_extract]
        have eK : val (((bys s).drop 13).take 4) = K := by rw [← hK, ← hX2, bys_extract]
        have eN : val (((bys s).drop 9).take 4) = N := by rw [← hN, ← hX3, bys_extract]
        have HB1 := Lib.hid fun (g' : List Obj) (e : Nat) => big_call (L := fun g' => (l ++ [Obj.cells (rcl 0 0 .empty) 145 (0, 0)]) ++ g') (g := g') (e := e) (w := w) (l0 := l ++ [Obj.cells (rcl 0 0 .empty) 145 (0, 0)]) (fun _ _ => List.append_assoc _ _ _) (fun _ => rfl) (number_grows X1 s1 _)
        have HB2 := Lib.hid fun (g' : List Obj) (e : Nat) => big_call (L := fun g' => (l ++ [Obj.cells (rcl 0 0 .empty) 145 (0, 0)]) ++ g') (g := g') (e := e) (w := w) (l0 := l ++ [Obj.cells (rcl 0 0 .empty) 145 (0, 0)]) (fun _ _ => List.append_assoc _ _ _) (fun _ => rfl) (number_grows X2 s2 _)
        rw [hG] at HB1
        rw [hK] at HB2
        have HX1 := Lib.hid hX1
        rw [hV]
        clear b0 b63
        go_enter Tryz.func69, Tryz.ntmps69
        go_wp2
        obtain ⟨L0, hL0⟩ : ∃ L0, l ++ [Obj.cells (rcl 0 0 .empty) 145 (0, 0)] = L0 := ⟨_, rfl⟩
        rw [hL0] at HB1 HB2 ⊢
        refine wp_region_big_all (by kernel_rfl) (by kernel_rfl) ?_
        repeat (go_big_quiet_step ((intro _; first | (with_reducible exact HB1.out _ _) | (with_reducible exact HB2.out _ _))))
        refine wpQuiet_nil ?_
        intro gR eR
        obtain ⟨L1, hL1⟩ : ∃ L1, L0 ++ gR = L1 := ⟨_, rfl⟩
        have HG1 : Hid (L1[l.length]? = some (.cells (rcl 0 0 .empty) 145 (0, 0))) := Lib.hid (by rw [← hL1, ← hL0]; simp)
        have HP1 : Hid (∃ g, L1 = l ++ g) := Lib.hid ⟨[.cells (rcl 0 0 .empty) 145 (0, 0)] ++ gR, by rw [← hL1, ← hL0, List.append_assoc]⟩
        rw [hL1]
        have hg1 := HG1.out
        clear hL1 hL0 HB1 HB2
        have n0 : ¬ ((bys s).length < 64 ∨ gi (bys s) 0 ≠ 76 ∨ gi (bys s) 63 ≠ 76) := by omega
        by_cases c1 : G < 1
        · have HV : Hid (V = #[.agg (rcl 0 0 .empty), .bool false]) := Lib.hid (by rw [← hV]; unfold takV takenL; rw [eG, eK, if_neg n0, if_pos (by omega)])
          have c1i : (G : Int) < 1 := by omega
          clear c1 hV
          go_wp2
          exact ret_mix2 (i := l.length) (c := rcl 0 0 .empty) (t := 145) (f := (0, 0)) rfl rfl rfl agj88 (set_some HG1.out) (rcl_size _ _ _) rfl ⟨by rw [HV.out]; rfl, pre_wd (pre_set HP1.out (Nat.le_refl _))⟩
        have c1i : ¬ (G : Int) < 1 := by omega
        by_cases c2 : 1099511627776 < G
        · have HV : Hid (V = #[.agg (rcl 0 0 .empty), .bool false]) := Lib.hid (by rw [← hV]; unfold takV takenL; rw [eG, eK, if_neg n0, if_pos (by omega)])
          have c2i : (1099511627776 : Int) < (G : Int) := by omega
          clear c1 c2 hV
          go_wp2
          exact ret_mix2 (i := l.length) (c := rcl 0 0 .empty) (t := 145) (f := (0, 0)) rfl rfl rfl agj88 (set_some HG1.out) (rcl_size _ _ _) rfl ⟨by rw [HV.out]; rfl, pre_wd (pre_set HP1.out (Nat.le_refl _))⟩
        have c2i : ¬ (1099511627776 : Int) < (G : Int) := by omega
        by_cases c3 : 65535 < K
        · have HV : Hid (V = #[.agg (rcl 0 0 .empty), .bool false]) := Lib.hid (by rw [← hV]; unfold takV takenL; rw [eG, eK, if_neg n0, if_pos (by omega)])
          have c3i : (65535 : Int) < (K : Int) := by omega
          clear c1 c2 c3 hV
          go_wp2
          exact ret_mix2 (i := l.length) (c := rcl 0 0 .empty) (t := 145) (f := (0, 0)) rfl rfl rfl agj88 (set_some HG1.out) (rcl_size _ _ _) rfl ⟨by rw [HV.out]; rfl, pre_wd (pre_set HP1.out (Nat.le_refl _))⟩
        have c3i : ¬ (65535 : Int) < (K : Int) := by omega
        have n1 : ¬ (G < 1 ∨ 1099511627776 < G ∨ 65535 < K) := by omega
        have hsr := secs_room K
        obtain ⟨S, hS⟩ : ∃ S, secs K = S := ⟨_, rfl⟩
        obtain ⟨E, hE⟩ : ∃ E, S * 64 = E := ⟨_, rfl⟩
        rw [hS, hE] at hsr
        have hSE : (S : Int) * 64 = (E : Int) := by omega
        have hSm : E < K + 200 := by rw [← hE, ← hS]; unfold secs; omega
        have hEb : E ≤ 100000 := by omega
        have hEbi : (E : Int) ≤ 100000 := by omega
        have HSEC : Hid (∀ W, Calls Tryz.prog 81 #[.int .i64 (K : Int)] W fun e w' => e = .returned (.int .i64 (S : Int)) ∧ w' = W) := Lib.hid fun W => by rw [← hS]; exact sectors_any K (by omega) W
        have hKw : IntKind.i64.wrap (K : Int) = (K : Int) := IntWalk.i64_in _ (by omega)
        clear c1 c2 c3
        by_cases c4 : s.size < E
        · have HV : Hid (V = #[.agg (rcl 0 0 .empty), .bool false]) := Lib.hid (by rw [← hV]; unfold takV takenL; rw [eG, eK, if_neg n0, if_neg n1, hS, hE, if_pos (by omega)])
          have c4i : (s.size : Int) < (E : Int) := by omega
          clear c4 hV hE hS hsr hSm n0 n1
          go_wp2_with fail
          refine (HSEC.out _).mono ?_
          rintro e w' ⟨rfl, rfl⟩
          go_wp2
          exact ret_mix2 (i := l.length) (c := rcl 0 0 .empty) (t := 145) (f := (0, 0)) rfl rfl rfl agj88 (set_some HG1.out) (rcl_size _ _ _) rfl ⟨by rw [HV.out]; rfl, pre_wd (pre_set HP1.out (Nat.le_refl _))⟩
        have c4i : ¬ (s.size : Int) < (E : Int) := by omega
        obtain ⟨U1, hU1⟩ : ∃ U, s.extract 0 63 = U := ⟨_, rfl⟩
        obtain ⟨U2, hU2⟩ : ∃ U, s.extract 64 E = U := ⟨_, rfl⟩
        obtain ⟨A, hA⟩ : ∃ A, U1 ++ U2 = A := ⟨_, rfl⟩
        have z1 : U1.size = 63 := by rw [← hU1, ByteArray.size_extract]; omega
        have z2 : U2.size = E - 64 := by rw [← hU2, ByteArray.size_extract]; omega
        have zA : A.size = E - 1 := by rw [← hA, ByteArray.size_append, z1, z2]; have := secs_pos K; omega
        have hadd : ∀ W, (Op.stringOp .add U1 U2).run Tryz.prog W = .ok (.string A) W := fun W => by rw [run_string_add_sum W _ _ (by omega), hA]
        have eA : bys A = midL (bys s) E := by
          rw [← hA, bys_append, ← hU1, ← hU2, bys_extract, bys_extract]; rfl
        obtain ⟨B, hB⟩ : ∃ B, 17 + K = B := ⟨_, rfl⟩
        have hBi : (17 : Int) + (K : Int) = (B : Int) := by omega
        obtain ⟨C, hC⟩ : ∃ C, B + 32 = C := ⟨_, rfl⟩
        have hBC : (B : Int) + 32 = (C : Int) := by omega
        have b1 : C ≤ A.size := by omega
        have hE64 : 64 ≤ E := by have := secs_pos K; omega
        have hE1 : (64 : Int) ≤ (E : Int) := by omega
        have hE2 : (E : Int) ≤ (s.size : Int) := by omega
        have b2 : C ≤ 100000 := by omega
        have b4 : B ≤ C := by omega
        have b3 : A.size ≤ 1000000 := by omega
        obtain ⟨bb, hbb⟩ : ∃ bb, Sm.sameB (A.extract B C) (mkS (Sm.digL (bys (A.extract 0 B)))) = bb := ⟨_, rfl⟩
        have eD1 : bys (A.extract B C) = ((midL (bys s) E).drop B).take 32 := by rw [bys_extract, eA, ← hC, Nat.add_sub_cancel_left]
        have eD2 : bys (A.extract 0 B) = (midL (bys s) E).take B := by rw [bys_extract, eA, List.drop_zero, Nat.sub_zero]
        have HVF : Hid (bb = false → V = #[.agg (rcl 0 0 .empty), .bool false]) := Lib.hid fun h => by
          rw [← hV]; unfold takV takenL
          rw [eG, eK, if_neg n0, if_neg n1, hS, hE, if_neg (by omega), hB, if_neg ?_]
          intro hh
          rw [h] at hbb
          unfold Sm.sameB at hbb
          refine of_decide_eq_false hbb ?_
          apply bys_inj
          rw [bys_mkS _ (digB8 _), eD1, eD2]
          exact hh
        have HVT : Hid (bb = true → V = #[.agg (rcl G N (A.extract 17 B)), .bool true]) := Lib.hid fun h => by
          rw [← hV]; unfold takV takenL
          rw [eG, eK, eN, if_neg n0, if_neg n1, hS, hE, if_neg (by omega), hB, if_pos ?_]
          · have e : A.extract 17 B = mkS (((midL (bys s) E).drop 17).take K) := by
              apply bys_inj
              rw [bys_extract, eA, bys_mkS _ (((by rw [← eA]; exact B8.bys _ : B8 (midL (bys s) E)).drop _).take _), ← hB, Nat.add_sub_cancel_left]
            rw [e]; rfl
          · rw [h] at hbb
            unfold Sm.sameB at hbb
            have h2 := congrArg bys (of_decide_eq_true hbb)
            rw [bys_mkS _ (digB8 _), eD1, eD2] at h2
            exact h2
        have HR := Lib.hid hR
        have h17 : (17 : Nat) ≤ B := by omega
        have h17i : (17 : Int) ≤ (B : Int) := by omega
        have hBA : (B : Int) ≤ (A.size : Int) := by omega
        have c9 : (13 : Int) ≤ (s.size : Int) := by omega
        have c10 : (63 : Int) ≤ (s.size : Int) := by omega
        have c11 : 63 ≤ s.size := by omega
        have c12 : E ≤ s.size := by omega
        have HB3 := Lib.hid (number_grows X3 s3)
        rw [hN] at HB3
        clear c4 hV hE hS hsr hSm n0 n1 hR hA z1 eA eD1 eD2 hB eG eK eN hC
        go_wp2_with fail
        refine (HSEC.out _).mono ?_
        rintro e w' ⟨rfl, rfl⟩
        go_wp2
        refine wp_region_read (by kernel_rfl) (by kernel_rfl) ?_
        repeat still_step
        refine wpStill_nil ?_
        go_wp2
        refine wp_region_fine (TL [eqv (.string A), eqv (.int .i64 (B : Int)), eqv (.int .i64 (B : Int)), eqv (.int .i64 (C : Int)), eqv (.string (A.extract B C)), eqv (.string A), eqv (.int .i64 (B : Int)), eqv (.string (A.extract 0 B)), lit1 (.string (A.extract 0 B)) 9, eqv (.string (mkS (Sm.digL (bys (A.extract 0 B))))), eqv (.bool bb), eqv (.bool (!bb))]) (by kernel_rfl) (by kernel_rfl) (TL_last (List.forall_mem_cons.2 ⟨eqv_last _, List.forall_mem_cons.2 ⟨eqv_last _, List.forall_mem_cons.2 ⟨eqv_last _, List.forall_mem_cons.2 ⟨eqv_last _, List.forall_mem_cons.2 ⟨eqv_last _, List.forall_mem_cons.2 ⟨eqv_last _, List.forall_mem_cons.2 ⟨eqv_last _, List.forall_mem_cons.2 ⟨eqv_last _, List.forall_mem_cons.2 ⟨lit1_last _ _, List.forall_mem_cons.2 ⟨eqv_last _, List.forall_mem_cons.2 ⟨eqv_last _, List.forall_mem_cons.2 ⟨eqv_last _, fun _ h => (List.not_mem_nil h).elim⟩⟩⟩⟩⟩⟩⟩⟩⟩⟩⟩⟩)) (TL_no_guard (by kernel_rfl)) ?_ ?_
        · intro i o ho a W hB hdep hfix
          match i, ho with
          | 0, ho =>
            simp only [List.getElem?_cons_zero, Option.some.injEq] at ho; subst ho
            exact lays_eq _ rfl (exec_move (hfix 7 (by decide +kernel)))
          | 1, ho =>
            simp only [List.getElem?_cons_zero, List.getElem?_cons_succ, Option.some.injEq] at ho; subst ho
            exact lays_eq _ rfl (exec_move (hfix 8 (by decide +kernel)))
          | 2, ho =>
            simp only [List.getElem?_cons_zero, List.getElem?_cons_succ, Option.some.injEq] at ho; subst ho
            exact lays_eq _ rfl (exec_move (hfix 8 (by decide +kernel)))
          | 3, ho =>
            simp only [List.getElem?_cons_zero, List.getElem?_cons_succ, Option.some.injEq] at ho; subst ho
            have e1 : a.tmps.getD 60 undef = .int .i64 (B : Int) := hdep 2 _ 60 rfl rfl (by decide +kernel)
            exact lays_eq _ rfl (exec_add e1 rfl hBC (by omega))
          | 4, ho =>
            simp only [List.getElem?_cons_zero, List.getElem?_cons_succ, Option.some.injEq] at ho; subst ho
            have e1 : a.tmps.getD 58 undef = .string A := hdep 0 _ 58 rfl rfl (by decide +kernel)
            have e2 : a.tmps.getD 59 undef = .int .i64 (B : Int) := hdep 1 _ 59 rfl rfl (by decide +kernel)
            have e3 : a.tmps.getD 61 undef = .int .i64 (C : Int) := hdep 3 _ 61 rfl rfl (by decide +kernel)
            exact lays_eq _ rfl (exec_cut e1 e2 e3 b4 b1)
          | 5, ho =>
            simp only [List.getElem?_cons_zero, List.getElem?_cons_succ, Option.some.injEq] at ho; subst ho
            exact lays_eq _ rfl (exec_move (hfix 7 (by decide +kernel)))
          | 6, ho =>
            simp only [List.getElem?_cons_zero, List.getElem?_cons_succ, Option.some.injEq] at ho; subst ho
            exact lays_eq _ rfl (exec_move (hfix 8 (by decide +kernel)))
          | 7, ho =>
            simp only [List.getElem?_cons_zero, List.getElem?_cons_succ, Option.some.injEq] at ho; subst ho
            have e1 : a.tmps.getD 63 undef = .string A := hdep 5 _ 63 rfl rfl (by decide +kernel)
            have e3 : a.tmps.getD 64 undef = .int .i64 (B : Int) := hdep 6 _ 64 rfl rfl (by decide +kernel)
            exact lays_eq _ rfl (exec_head e1 e3 (by omega))
          | 8, ho =>
            simp only [List.getElem?_cons_zero, List.getElem?_cons_succ, Option.some.injEq] at ho; subst ho
            have e1 : a.tmps.getD 65 undef = .string (A.extract 0 B) := hdep 7 _ 65 rfl rfl (by decide +kernel)
            exact lays_bs (fun w l d => bsj32s _ w l d) e1 (fun _ _ h => h)
          | 9, ho =>
            simp only [List.getElem?_cons_zero, List.getElem?_cons_succ, Option.some.injEq] at ho; subst ho
            have e1 : lit1 (.string (A.extract 0 B)) 9 (a.tmps.getD 66 undef) W := hdep 8 _ 66 rfl rfl (by decide +kernel)
            obtain ⟨b, e2, e3⟩ := e1
            exact lays_call #[.slice (some ⟨b, 0, none⟩) 1 1] (by simp [Act.eval, e2]) (by kernel_rfl) ((of_blk (roots_below (HR.out.wd _ _) hB) e3 (by rw [ByteArray.size_extract]; omega)).mono fun e W' ⟨he, hg⟩ => ⟨_, he, hg.below, rfl⟩)
          | 10, ho =>
            simp only [List.getElem?_cons_zero, List.getElem?_cons_succ, Option.some.injEq] at ho; subst ho
            have e1 : a.tmps.getD 62 undef = .string (A.extract B C) := hdep 4 _ 62 rfl rfl (by decide +kernel)
            have e2 : a.tmps.getD 67 undef = .string (mkS (Sm.digL (bys (A.extract 0 B)))) := hdep 9 _ 67 rfl rfl (by decide +kernel)
            exact lays_call #[.string (A.extract B C), .string (mkS (Sm.digL (bys (A.extract 0 B))))] (by simp [Act.eval, e1, e2]) (by kernel_rfl) ((Sm.equal_any _ _ (by rw [ByteArray.size_extract]; omega) W).mono fun e W' ⟨he, hg⟩ => ⟨_, he, hg.below, by rw [hbb]; rfl⟩)
          | 11, ho =>
            simp only [List.getElem?_cons_zero, List.getElem?_cons_succ, Option.some.injEq] at ho; subst ho
            have e1 : a.tmps.getD 68 undef = .bool bb := hdep 10 _ 68 rfl rfl (by decide +kernel)
            exact lays_eq _ rfl (exec_not e1)
          | i + 12, ho => simp at ho
        · intro a W hB hd hsz hfix hT
          have f0 : a.tmps.getD 0 undef = .string s := hfix 0 (by decide +kernel)
          have f2 : a.tmps.getD 2 undef = .pointer (some ⟨w.heap.size + l.length, 0, none⟩) := hfix 2 (by decide +kernel)
          have f3 : a.tmps.getD 3 undef = .bool false := hfix 3 (by decide +kernel)
          have f4 : a.tmps.getD 4 undef = .int .u64 (G : Int) := hfix 4 (by decide +kernel)
          have f5 : a.tmps.getD 5 undef = .int .u64 (K : Int) := hfix 5 (by decide +kernel)
          have f7 : a.tmps.getD 7 undef = .string A := hfix 7 (by decide +kernel)
          have f8 : a.tmps.getD 8 undef = .int .i64 (B : Int) := hfix 8 (by decide +kernel)
          have f69 : a.tmps.getD 69 undef = .bool (!bb) := hT 11 _ 69 rfl rfl
          rw [frame_lit a 79 hsz hd]
          clear hfix hT hsz hd
          simp only [List.range, List.range.loop, List.map]
          generalize a.tmps = t at *
          simp only [f0, f2, f3, f4, f5, f7, f8, f69]
          clear f0 f2 f3 f4 f5 f7 f8 f69
          obtain ⟨gS, dS, rfl⟩ := below_grows hB
          obtain ⟨L2, hL2⟩ : ∃ L2, L1 ++ gS = L2 := ⟨_, rfl⟩
          have HG2 : Hid (L2[l.length]? = some (.cells (rcl 0 0 .empty) 145 (0, 0))) := Lib.hid (by rw [← hL2]; exact app_some HG1.out)
          have HP2 : Hid (∃ g, L2 = l ++ g) := Lib.hid (by rw [← hL2]; exact pre_app HP1.out _)
          rw [hL2]
          have hg2 := HG2.out
          clear hL2 hB hg1
          cases bb with
          | false =>
            have HV := Lib.hid (HVF.out rfl)
            clear HVF HVT
            go_wp2
            exact ret_mix2 (i := l.length) (c := rcl 0 0 .empty) (t := 145) (f := (0, 0)) rfl rfl rfl agj88 (set_some HG2.out) (rcl_size _ _ _) rfl ⟨by rw [HV.out]; rfl, pre_wd (pre_set HP2.out (Nat.le_refl _))⟩
          | true =>
            have HV := Lib.hid (HVT.out rfl)
            clear HVF HVT
            have HB4 := Lib.hid fun (g' : List Obj) (e : Nat) => big_call (L := fun g' => L2 ++ g') (g := g') (e := e) (w := w) (l0 := L2) (fun _ _ => List.append_assoc _ _ _) (fun _ => rfl) (HB3.out _)
            go_wp2
            refine wp_region_big 8 (by kernel_rfl) (by kernel_rfl) ?_
            simp only [List.take_succ_cons, List.take_zero, List.drop_succ_cons, List.drop_zero]
            repeat (go_big_quiet_step ((intro _; with_reducible exact HB4.out _ _)))
            refine wpQuiet_nil ?_
            intro gT eT
            obtain ⟨L3, hL3⟩ : ∃ L3, L2 ++ gT = L3 := ⟨_, rfl⟩
            have HG3 : Hid (L3[l.length]? = some (.cells (rcl 0 0 .empty) 145 (0, 0))) := Lib.hid (by rw [← hL3]; exact app_some HG2.out)
            have HP3 : Hid (∃ g, L3 = l ++ g) := Lib.hid (by rw [← hL3]; exact pre_app HP2.out _)
            rw [hL3]
            have hg3 := HG3.out
            clear hL3 hg2 HB4 HB3
            go_wp2
            exact ret_mix2 (i := l.length) (c := rcl G N (A.extract 17 B)) (t := 145) (f := (0, 0)) rfl rfl rfl agj88 (set_some HG3.out) (rcl_size _ _ _) rfl ⟨by rw [HV.out]; rfl, pre_wd (pre_set HP3.out (Nat.le_refl _))⟩
      · have HV : Hid (V = #[.agg (rcl 0 0 .empty), .bool false]) := Lib.hid (by rw [← hV]; unfold takV takenL; rw [if_pos (by omega)])
        rw [h2] at c0
        have m0 := mk_eq76
        have m63 := mk_ne76 h3 b63
        obtain ⟨y, hy⟩ : ∃ y, mkS [gi (bys s) 63] = y := ⟨_, rfl⟩
        rw [hy] at c63 m63
        rw [hV]
        clear hV
        go_enter Tryz.func69, Tryz.ntmps69
        go_wp2
        exact ret_mix2 (i := l.length) (c := rcl 0 0 .empty) (t := 145) (f := (0, 0)) rfl rfl rfl agj88 (by simp) (rcl_size _ _ _) rfl ⟨by rw [HV.out]; rfl, _, _, rfl⟩
    · have HV : Hid (V = #[.agg (rcl 0 0 .empty), .bool false]) := Lib.hid (by rw [← hV]; unfold takV; rw [taken_empty h2])
      have m0 := mk_ne76 h2 b0
      obtain ⟨y, hy⟩ : ∃ y, mkS [gi (bys s) 0] = y := ⟨_, rfl⟩
      rw [hy] at c0 m0
      rw [hV]
      clear hV
      go_enter Tryz.func69, Tryz.ntmps69
      go_wp2
      exact ret_mix2 (i := l.length) (c := rcl 0 0 .empty) (t := 145) (f := (0, 0)) rfl rfl rfl agj88 (by simp) (rcl_size _ _ _) rfl ⟨by rw [HV.out]; rfl, _, _, rfl⟩
end Go.Proofs.YtlogjpmdfimgdaaGreatDoor.Jf

/- ShaTells' own walk. -/
import Derived.Test.YtokijignhpcjlaaDoorR2
import Derived.Test.YtokijignhpcjlaaDoorR3
import Derived.Test.YtokijignhpcjlaaDoorS8
namespace Go.Proofs.YtokijignhpcjlaaDoor
open Go.RowKit Go.Own

theorem bs22 (w : World) (l : List Obj) (d : Nat) : (bsN 22 0 #[]).run Tryd.prog (Wd w l d) =
    .ok (.slice (some ⟨w.heap.size + l.length, 0, none⟩) 0 0) (Wd w (l ++ [.cells #[] 9 (0, 0)]) d) := by
  rw [← Wd_alloc, ← Wd_size w l d]
  generalize Wd w l d = W
  kernel_rfl
theorem info9 : (Tryd.prog.info? 9).map (fun i => (i.zero, i.size, i.bytes)) = some (some (.string ByteArray.empty), 1, 16) := by kernel_rfl
/-- An empty row of the call's own, and so many strings behind it. -/
theorem strs_app (W : World) (b : Addr) (p : Option Addr) (ss : List ByteArray) (cap : Nat) (ty : TypeId) (hP : PartsO W p ss) (hl : ss.length ≤ 1000000) :
    ∃ v' c' g e, (Builtin.append_ #[22, 22] ty #[.slice (some b) 0 0, .slice p ss.length cap]).run Tryd.prog W = .ok (.slice v' ss.length c') (Wd W g e) ∧ Parts (Wd W g e) v' ss := by
  obtain ⟨ti, hi, hz, h1, hb⟩ : ∃ ti, Tryd.prog.info? 9 = some ti ∧ ti.zero = some (.string ByteArray.empty) ∧ ti.size = 1 ∧ ti.bytes = 16 := by
    have h := info9
    cases hi : Tryd.prog.info? 9 with
    | none => rw [hi] at h; cases h
    | some i =>
      rw [hi] at h
      simp at h
      exact ⟨i, rfl, h.1, h.2.1, h.2.2⟩
  cases ss with
  | nil =>
    refine ⟨some b, 0, [], 0, ?_, fun j s hs => by simp at hs⟩
    rw [Wd_nil]
    cases p <;> simp [Builtin.append_, run_underlying Tryd.underlying22, sizeOf, typeInfo, hi, Builtin.lenOf, Builtin.firstCells, storeCells]
    simp [loadCells, loadCellsFrom, storeCells]
  | cons s0 rest =>
    obtain ⟨pb, o, c, t, f, rfl, hblk, _⟩ := hP 0 s0 rfl
    have hnews : ∀ (j : Nat) v, ((s0 :: rest).map Value.string)[j]? = some v → W.cell? ((⟨pb, o, none⟩ : Addr).add j) = some v := by
      intro j v hv
      rw [List.getElem?_map, Option.map_eq_some_iff] at hv
      obtain ⟨s, hs, rfl⟩ := hv
      obtain ⟨b', o', c', t', f', e, hb', hc'⟩ := hP j s hs
      simp only [Option.some.injEq, Addr.mk.injEq] at e
      obtain ⟨rfl, rfl, _⟩ := e
      have hadd : (⟨pb, o, none⟩ : Addr).add j = ⟨pb, o + j, none⟩ := by unfold Addr.add; split <;> simp_all
      rw [hadd]
      simp only [World.cell?, show W.heap[pb]? = _ from hb', Option.isSome_none, Bool.false_eq_true, if_false]
      exact hc'
    have hr := run_append_grow (P := Tryd.prog) W 22 ty 9 ti _ Tryd.underlying22 hi hz b 0 0 [] (by simp) (fun j v h => by simp at h) ⟨pb, o, none⟩ (s0 :: rest).length cap ((s0 :: rest).map Value.string) (by rw [h1]; simp) hnews (by simp) (by simp at hl ⊢; omega)
      (growslice_fits (by simp) (by rw [hb]; simp at hl ⊢; omega))
    rw [← Wd_nil W, Wd_drew, Wd_alloc, Wd_size, Wd_nil, List.nil_append, Nat.zero_add] at hr
    have hb0 : ∀ (X : Obj) (e : Nat), blk (Wd W [X] e) (W.heap.size + ([] : List Obj).length) = some X := fun X e => by
      rw [show W.heap.size + ([] : List Obj).length = W.heap.size from rfl, blk_at0]; rfl
    refine ⟨_, _, _, _, hr, fun j s hs => ?_⟩
    have hj := (List.getElem?_eq_some_iff.1 hs).1
    exact ⟨_, _, 9, (0, 0), rfl, hb0 _ _, by
      rw [Array.getElem?_append_left (by simpa using hj)]
      have hm := congrArg (Option.map Value.string) hs
      rw [← List.getElem?_map] at hm
      simpa using hm⟩

/-- The same as an operation of the walk, guarded or not. -/
theorem wpList_strs {ops : Array Oper} {rest : List Oper} {o : Oper} {a : Act} {Q : Exit → Act → World → Prop} {w : World} {l : List Obj} {d : Nat} (hw : Region.wanted o (yielded ops a.tmps) = true) (x y : Operand)
    (ho : o.op = .call { callee := .builtin .append, args := #[x, y], argTypes := #[22, 22] }) (b : Addr) (hx : a.eval x = .slice (some b) 0 0) (p : Option Addr) (ss : List ByteArray) (cap : Nat) (hy : a.eval y = .slice p ss.length cap) (hP : PartsO w p ss) (hl : ss.length ≤ 1000000)
    (hK : ∀ v' c' l' d', Parts (Wd w l' d') v' ss → wpList Tryd.prog ops Q rest (a.put o.dst (.slice v' ss.length c')) (Wd w l' d')) : wpList Tryd.prog ops Q (o :: rest) a (Wd w l d) := by
  refine wpList_step fun K hk => ?_
  rw [if_pos hw]
  obtain ⟨v', c', g, e, hr, h1⟩ := strs_app (Wd w l d) b p ss cap o.type (hP.wd _ _) hl
  rw [Wd_wd] at hr h1
  unfold Oper.wp
  simp [execOp, ho, resolve, invoke, builtin, hx, hy, hr, Result.andThen]
  exact hk _ _ (hK v' c' _ _ h1)
theorem bys_cat (x : List Nat) (s : ByteArray) : mkS x ++ s = mkS (x ++ bys s) := by
  rw [← mkS_append, mkS_bys]
theorem allB_B8 (ss : List ByteArray) : B8 (allB ss) := fun n hn => by
  obtain ⟨s, _, h⟩ := List.mem_flatMap.1 hn
  exact B8.bys s n h
attribute [local go_sem] isa9 ag9 ldX_some bs22
attribute [-go_sem] run_string_add_if
set_option maxRecDepth 100000 in
set_option maxHeartbeats 2000000 in
theorem tells_short (w : World) (hR : Roots w) (p : Option Addr) (cap : Nat) (ss : List ByteArray) (hP : PartsO w p ss) (hS : ∀ s ∈ ss, s.size ≤ 140737488355328) (h : ¬ (ss.length ≤ 100 ∧ (allB ss).length ≤ 4000)) :
    Calls Tryd.prog 3 #[.slice p ss.length cap] w fun e w' => e = .returned (.bool true) ∧ Grows w w' := by
  have HP := Lib.hid hP; clear hP
  have HS := Lib.hid hS; clear hS
  have HH := Lib.hid h; clear h
  have HR := Lib.hid hR; clear hR
  go_enter Tryd.func3, Tryd.ntmps3
  go_wp2_with fail
  refine (awake_any _ HR.out).mono ?_
  rintro e w0 ⟨rfl, hg0⟩
  have HG0 := Lib.hid hg0
  clear hg0
  go_wp2_with fail
  refine (few_no w0 p cap ss (HP.out.grows HG0.out) HS.out HH.out).mono ?_
  rintro e w1 ⟨rfl, hg1⟩
  have HG1 := Lib.hid hg1
  clear hg1
  go_wp2
  go_ret
  exact ⟨rfl, HG0.out.trans HG1.out⟩
set_option maxRecDepth 100000 in
set_option maxHeartbeats 4000000 in
theorem tells_long (w : World) (hR : Roots w) (p : Option Addr) (cap : Nat) (ss : List ByteArray) (hP : PartsO w p ss) (hl1 : ss.length ≤ 100) (hl2 : (allB ss).length ≤ 4000) :
    Calls Tryd.prog 3 #[.slice p ss.length cap] w fun e w' => e = .returned (.bool true) ∧ Grows w w' := by
  have HP := Lib.hid hP; clear hP
  have HB := Lib.hid hl2; clear hl2
  have HR := Lib.hid hR; clear hR
  obtain ⟨n, hn⟩ : ∃ n, ss.length = n := ⟨_, rfl⟩
  have HN := Lib.hid hn
  rw [hn] at hl1 ⊢
  clear hn
  go_enter Tryd.func3, Tryd.ntmps3
  go_wp2_with fail
  refine (awake_any _ HR.out).mono ?_
  rintro e w0 ⟨rfl, hg0⟩
  have HG0 := Lib.hid hg0
  have HR0 := Lib.hid (HR.out.grows hg0)
  have HP0 := Lib.hid (HP.out.grows hg0)
  clear hg0
  rw [← Wd_nil w0]
  go_wp2_with fail
  have hfew := few_yes (Wd w0 [] 0) p cap ss (HP0.out.wd _ _) (by rw [HN.out]; exact hl1) HB.out
  rw [HN.out] at hfew
  refine hfew.mono ?_
  clear hfew
  rintro e w' ⟨rfl, g, d, rfl⟩
  rw [Wd_wd]
  go_wp2_with fail
  refine (new_any w0 _ _).mono ?_
  rintro e w' ⟨g1, d1, rfl, rfl⟩
  obtain ⟨j, hj⟩ : ∃ j, g.length + g1.length = j := ⟨_, rfl⟩
  have hget : (g ++ g1 ++ [Obj.cells (tc startL (rep 64) 0) 52 (0, 0)])[j]? = some (.cells (tc startL (rep 64) 0) 52 (0, 0)) := by
    rw [← hj]; simp
  have HG := Lib.hid hget
  rw [hj]
  clear hget hj
  generalize g ++ g1 ++ [Obj.cells (tc startL (rep 64) 0) 52 (0, 0)] = L0 at *
  go_wp2
  go_loopw [4, 5] (fun o i wr => ∃ (k d : Nat) (st bl X : List Nat) (L : List Obj), k ≤ n ∧ i = .int .i64 k ∧ o = .string (mkS X) ∧ Hid (allB (ss.take k) = X) ∧ Hid (Tal X st bl) ∧ Hid (L[j]? = some (.cells (tc st bl X.length) 52 (0, 0))) ∧ wr = Wd w0 L d) (fun _ i _ => n - (intOf i).toNat)
  case atStart => exact ⟨0, d1, startL, rep 64, [], L0, by omega, rfl, rfl, Lib.hid rfl, Lib.hid Tal.start, HG, rfl⟩
  case round =>
    clear HG
    obtain ⟨k, d, st, bl, X, L, hk, rfl, rfl, hX, hT, hL, rfl⟩ := hrel
    by_cases hlt : k < n
    · obtain ⟨s, hs⟩ : ∃ s, ss[k]? = some s := ⟨_, List.getElem?_eq_getElem (by rw [HN.out]; exact hlt)⟩
      obtain ⟨b, o, c, t, f, rfl, hblk, hc⟩ := HP0.out k s hs
      have HS := Lib.hid (allB_succ ss k s hs)
      have HK := Lib.hid (allB_le ss (k + 1))
      clear hs
      have hW : ∀ (l : List Obj) (d : Nat), blk (Wd w0 l d) b = some (.cells c t f) := fun l d => blk_old _ _ _ _ hblk
      clear hblk
      have hki : (k : Int) < n := by omega
      obtain ⟨Y, hY⟩ : ∃ Y, X ++ bys s = Y := ⟨_, rfl⟩
      have HY : Hid (allB (ss.take (k + 1)) = Y) := Lib.hid (by rw [HS.out, hX.out, hY])
      have hYl : Y.length = X.length + s.size := by rw [← hY, List.length_append, bys_length]
      have hYb : Y.length ≤ 4000 := by
        have h1 := HK.out
        have h2 := HB.out
        rw [HY.out] at h1
        omega
      have hY8 : Hid (B8 Y) := Lib.hid (by rw [← HY.out]; exact allB_B8 _)
      have hadd : ∀ W, (Op.stringOp .add (mkS X) s).run Tryd.prog W = .ok (.string (mkS Y)) W := fun W => by
        rw [run_string_add_sum W _ _ (by rw [mkS_size]; omega), bys_cat, hY]
      have hXs : Hid (X.length + s.size ≤ 1099511627776) := Lib.hid (by omega)
      obtain ⟨y, hy⟩ : ∃ y, Y.length = y := ⟨_, rfl⟩
      have HYL := Lib.hid hy
      have HYB : Hid (y ≤ 4000) := Lib.hid (by omega)
      have hYY := Lib.hid hY
      clear hYl hYb hY hy
      go_wp2_with fail
      refine (add_any w0 HR0.out L d j X st bl s hT.out hL.out hXs.out).mono ?_
      rintro e w' ⟨rfl, st2, bl2, L2, d2, hT2, hL2, rfl⟩
      have HT2 : Hid (Tal Y st2 bl2) := Lib.hid (by rw [← hYY.out]; exact hT2)
      have HL2 : Hid (L2[j]? = some (.cells (tc st2 bl2 Y.length) 52 (0, 0))) := Lib.hid (by rw [← hYY.out]; exact hL2.get)
      clear hT2 hL2 hT hL
      have hsz : (mkS Y).size = y := by rw [mkS_size]; exact HYL.out
      have HREF : ∀ W, Calls Tryd.prog 12 #[.string (mkS Y)] W fun e w' => e = .returned (.string (mkS (digL Y))) ∧ Grows W w' := fun W => by
        have := refSum_any (mkS Y) (by rw [hsz]; have := HYB.out; omega) W
        rwa [bys_mkS Y hY8.out] at this
      have HLEN : ∀ (M : List Obj) (d : Nat), M[j]? = some (.cells (tc st2 bl2 Y.length) 52 (0, 0)) → Calls Tryd.prog 13 #[.pointer (some ⟨w0.heap.size + j, 0, none⟩)] (Wd w0 M d) fun e w' => e = .returned (.int .i64 (y : Nat)) ∧ Wd w0 M d = w' := fun M d hM => by
        have := len_any w0 M d j st2 bl2 Y.length HT2.out.st8 HT2.out.bl64 hM
        rwa [HYL.out] at this
      obtain ⟨m, hm⟩ : ∃ m : Nat, k % 5 = m := ⟨_, rfl⟩
      have hm5 : (k : Int) % 5 = (m : Int) := by omega
      clear hm
      by_cases hm0 : m = 0
      · subst hm0
        go_wp2_with fail
        refine (sum_any w0 HR0.out L2 d2 j Y st2 bl2 HT2.out HL2.out (by rw [HYL.out]; have := HYB.out; omega)).mono ?_
        rintro e w' ⟨rfl, g3, d3, rfl⟩
        go_wp2_with fail
        refine (HREF _).mono ?_
        rintro e w' ⟨rfl, g4, d4, rfl⟩
        rw [Wd_wd]
        go_wp2_with fail
        refine (HLEN _ _ (app_at HL2.out)).mono ?_
        rintro e w' ⟨rfl, rfl⟩
        go_wp2
        go_roundw
        case rel => exact ⟨k + 1, _, st2, bl2, Y, _, by omega, by go_num, rfl, HY, HT2, Lib.hid (app_at HL2.out), rfl⟩
        case measure => simp [intOf]; omega
      · have hm1 : ¬ ((m : Int) = 0) := by omega
        go_wp2_with fail
        refine (HLEN _ _ HL2.out).mono ?_
        rintro e w' ⟨rfl, rfl⟩
        go_wp2
        go_roundw
        case rel => exact ⟨k + 1, _, st2, bl2, Y, _, by omega, by go_num, rfl, HY, HT2, HL2, rfl⟩
        case measure => simp [intOf]; omega
    · obtain rfl : k = n := by omega
      have HXA : Hid (X = allB ss) := Lib.hid (by rw [← hX.out, List.take_of_length_le (by rw [HN.out]; exact Nat.le_refl _)])
      have HXL : Hid (X.length ≤ 4000) := Lib.hid (by rw [HXA.out]; exact HB.out)
      have hX8 : Hid (B8 X) := Lib.hid (by rw [HXA.out]; exact allB_B8 _)
      have HREF : ∀ W, Calls Tryd.prog 12 #[.string (mkS X)] W fun e w' => e = .returned (.string (mkS (digL X))) ∧ Grows W w' := fun W => by
        have := refSum_any (mkS X) (by rw [mkS_size]; have := HXL.out; omega) W
        rwa [bys_mkS X hX8.out] at this
      go_wp2_with fail
      refine (sum_any w0 HR0.out L d j X st bl hT.out hL.out (by have := HXL.out; omega)).mono ?_
      rintro e w' ⟨rfl, g3, d3, rfl⟩
      go_wp2_with fail
      refine (HREF _).mono ?_
      rintro e w' ⟨rfl, g4, d4, rfl⟩
      rw [Wd_wd]
      go_wp2_with (at_builtin; refine stop ?_)
      unfold Stop
      refine wpList_strs (by rfl) (.tmp 53) (.tmp 54) rfl _ rfl p ss cap (by rw [HN.out]; rfl) HP0.out (by rw [HN.out]; omega) ?_
      intro v' c' l' d' hv
      have hof := of_any (Wd w0 l' d') (HR0.out.wd _ _) v' c' ss hv (by have := HB.out; omega) (by rw [HN.out]; omega)
      rw [HN.out, ← HXA.out] at hof
      rw [HN.out]
      clear hv
      go_wp2_with fail
      refine hof.mono ?_
      rintro e w' ⟨rfl, g5, d5, rfl⟩
      rw [Wd_wd]
      go_wp2_with fail
      refine (HREF _).mono ?_
      rintro e w' ⟨rfl, g6, d6, rfl⟩
      rw [Wd_wd]
      go_wp2
      go_ret
      exact ⟨rfl, HG0.out.trans (Grows.of _ _ _)⟩
end Go.Proofs.YtokijignhpcjlaaDoor

/- The steps that lay a record: by contract. No condition but the sizes. -/
import Derived.Test.YtlogjpmdfimgdaaGreatDoorZ18
namespace Go.Proofs.YtlogjpmdfimgdaaGreatDoor.Jf
open Go Go.RowKit Go.Own.Jf
attribute [-go_sem] Sm.execOp_bs run_string_add_if
attribute [local go_sem] Oper.semAt_some
attribute [local go_sem] agj61 csj61 szj61 agj88 csj88 szj88 agj25 isaj25 csj25 szj25 agj32 isaj32 csj32 szj32 agj38 isaj38 csj38 szj38 agj54 isaj54 csj54 szj54 agj78 isaj78 csj78 szj78 agj9 isaj9 csj9 szj9 zj61 zj88 zj78 alj78 alXA ldH0 ldH1 ldH2 ldH3 ldH4 ldH5 ldHA ldR0 ldR1 ldR2 ldRA stRA buj88 bsj78 Go.Own.Jf.stO
theorem prefix_of {l L : List Obj} (h : ∀ p, p < l.length → L[p]? = l[p]?) : ∃ g, L = l ++ g := by
  refine ⟨L.drop l.length, ?_⟩
  have e : L.take l.length = l := by
    apply List.ext_getElem?
    intro p
    rw [List.getElem?_take]
    split
    · exact h p ‹_›
    · rw [List.getElem?_eq_none (by omega)]
  rw [← List.take_append_drop l.length L, e]
  simp
/-- A row's own place. -/
theorem rowV_sharp {A : Nat → Prop} {w : World} {l : List Obj} {sz n : Nat} {v : Value} {C : List Value} (h : RowV A w l sz n v C) : RowV (fun p => A p ∧ ¬ NotAt w v p) w l sz n v C := by
  rcases h with h | ⟨i, c, X, t, hA, hv, h⟩
  · exact .inl h
  · exact .inr ⟨i, c, X, t, ⟨hA, fun hn => hn n c hv⟩, hv, h⟩
theorem laid_B8 (g n : Nat) (t : List Nat) (h : B8 t) : B8 (laidL g n t) := by
  have hb : B8 (bodyL g n t) := by
    refine B8.append ?_ h
    refine ((B8.append (fun x hx => ?_) (be_B8 _ _)).append (be_B8 _ _)).append (be_B8 _ _)
    obtain rfl := List.mem_singleton.1 hx; decide
  have ha : B8 (allL g n t) := B8.append hb (B8.flat fun i _ => fun x hx => by
    unfold Sm.wordF at hx
    simp only [Sm.byteOf, List.mem_cons, List.not_mem_nil, or_false] at hx
    rcases hx with rfl | rfl | rfl | rfl <;> exact Nat.mod_lt _ (by decide))
  refine (((ha.take _).append (B8.rep _)).append (fun x hx => ?_)).append (ha.drop _)
  obtain rfl := List.mem_singleton.1 hx; decide
set_option maxRecDepth 100000 in
set_option maxHeartbeats 8000000 in
theorem laying_any (w : World) (hR : Sm.Roots w) (l : List Obj) (d i fi n g u c : Nat) (q : Option Addr) (ts : List (List Nat)) (t : ByteArray) (ht : t.size ≤ 65535) (hts : ts.length ≤ 100000) (hfi : fi ≤ 100000) (hu : u ≤ 100000) :
    Calls Tryz.prog 61 #[.agg (hcl (.pointer (some ⟨w.heap.size + i, 0, none⟩)) fi n g (.slice q ts.length c) u), .string t] (Wd w l d) fun e w' => ∃ v vs g' d', e = .returned v ∧ w' = Wd w (l ++ g') d' ∧ RowV (fun p => l.length ≤ p) w (l ++ g') 1 vs.length v vs ∧ Steps w (l ++ g') (fun p => l.length ≤ p) i vs ((⟨fi, n, g, u, ts⟩ : Hf).laying (bys t)) := by
  have htw : IntKind.u64.wrap (ts.length : Int) = (ts.length : Int) := by
    have : ts.length < 18446744073709551616 := by omega
    simp only [IntKind.wrap, IntKind.bits, IntKind.signed]; simp; omega
  obtain ⟨l1, hl1⟩ : ∃ l1, l ++ [Obj.cells (hcl (.pointer (some ⟨w.heap.size + i, 0, none⟩)) fi n g (.slice q ts.length c) u) 107 (0, 0)] ++ [.cells (rcl g ts.length t) 145 (0, 0)] ++ [.cells #[.slice none 0 0] 129 (0, 0)] = l1 := ⟨_, rfl⟩
  have h0 : ∀ g', (l1 ++ g')[l.length]? = some (.cells (hcl (.pointer (some ⟨w.heap.size + i, 0, none⟩)) fi n g (.slice q ts.length c) u) 107 (0, 0)) := fun g' => by rw [← hl1]; simp
  have h2 : ∀ g', (l1 ++ g')[l.length + 2]? = some (.cells #[.slice none 0 0] 129 (0, 0)) := fun g' => by rw [← hl1, List.append_assoc, List.append_assoc, List.append_assoc, List.getElem?_append_right (by omega), Nat.add_sub_cancel_left]; rfl
  have HL1 : Hid (∃ g', l1 = l ++ g') := Lib.hid ⟨_, by rw [← hl1, List.append_assoc, List.append_assoc]⟩
  have H0 := Lib.hid h0
  have H2 := Lib.hid h2
  have HLA := Lib.hid fun d => laid_any (Wd w l1 d) (hR.wd _ _) g ts.length t ht
  have HFL := Lib.hid fun l d => fromLast_any w l d (mkS (laidL g ts.length (bys t)))
  clear h0 h2
  refine (callsIn_wide (n := 3)).1 (callsIn_of_wp_marks Tryz.func61 rfl trivial ?_ rfl)
  refine wpIn_wide.2 ?_
  simp only [Tryz.ntmps61, List.size_toArray, List.length_cons, List.length_nil, Nat.reduceAdd, Nat.reduceSub, Array.replicate_succ, Array.replicate_zero, List.push_toArray, List.append_toArray, List.nil_append, List.cons_append]
  go_wp2_with fail
  have hl1' : l ++ [Obj.cells (hcl (.pointer (some ⟨w.heap.size + i, 0, none⟩)) fi n g (.slice q ts.length c) u) 107 (0, 0), .cells (rcl g ts.length t) 145 (0, 0), .cells #[.slice none 0 0] 129 (0, 0)] = l1 := by rw [← hl1, List.append_assoc, List.append_assoc]; rfl
  have hlen1 : l1.length = l.length + 3 := by rw [← hl1']; simp
  rw [hl1']
  refine (HLA.out _).mono ?_
  rintro e w' ⟨rfl, g1, d1, rfl⟩
  rw [Wd_wd]
  go_wp2_with fail
  refine (HFL.out _ _).mono ?_
  rintro e w' ⟨rfl, rfl⟩
  obtain ⟨M, hM⟩ : ∃ M, l1 ++ g1 ++ [Obj.cells #[.string (mkS (laidL g ts.length (bys t)))] 9 (0, 0)] = M := ⟨_, rfl⟩
  obtain ⟨m, hm⟩ : ∃ m, (l1 ++ g1).length = m := ⟨_, rfl⟩
  rw [hM, hm]
  have hMl : M.length = m + 1 := by rw [← hM, ← hm, List.length_append]; rfl
  have hml : l.length + 3 ≤ m := by rw [← hm, List.length_append, hlen1]; omega
  have hM0 : M[l.length]? = some (.cells (hcl (.pointer (some ⟨w.heap.size + i, 0, none⟩)) fi n g (.slice q ts.length c) u) 107 (0, 0)) := by rw [← hM, List.append_assoc]; exact H0.out _
  have hM2 : M[l.length + 2]? = some (.cells #[.slice none 0 0] 129 (0, 0)) := by rw [← hM, List.append_assoc]; exact H2.out _
  have hMb : M[m]? = some (.cells #[.string (mkS (laidL g ts.length (bys t)))] 9 (0, 0)) := by rw [← hM, ← hm]; simp
  have hML : ∃ g', M = l ++ g' := by
    obtain ⟨g', hg'⟩ := HL1.out
    exact ⟨g' ++ (g1 ++ [_]), by rw [← hM, hg', List.append_assoc, List.append_assoc]⟩
  have hbT : bys (mkS (laidL g ts.length (bys t))) = laidL g ts.length (bys t) := bys_mkS _ (laid_B8 _ _ _ (B8.bys t))
  obtain ⟨T, hT⟩ : ∃ T, mkS (laidL g ts.length (bys t)) = T := ⟨_, rfl⟩
  rw [hT] at hMb hbT ⊢
  have hTs : T.size = max 64 (50 + t.size) := by rw [← bys_length, hbT, laid_length, bys_length]
  clear hl1 hl1' hlen1 HL1 HLA HFL H0 H2 hM hm hT
  go_wp2_with fail
  refine wp_sectors (tp := 20) (tq := 21) T (by omega) (by omega) (w.heap.size + m) (by rw [blk_at]; exact hMb) rfl (LayI w M i l.length (l.length + 2) (.cells (hcl (.pointer (some ⟨w.heap.size + i, 0, none⟩)) fi n g (.slice q ts.length c) u) 107 (0, 0)) fi u) (LayI.own (by rw [Wd_size])) ?start
    (fun x => { tmps := #[.agg (hcl (.pointer (some ⟨w.heap.size + i, 0, none⟩)) fi n g (.slice q ts.length c) u), .string t, .pointer (some ⟨w.heap.size + l.length, 0, none⟩), undef, .slice none 0 0, .pointer (some ⟨w.heap.size + (l.length + 1), 0, none⟩), .pointer (some ⟨w.heap.size + (l.length + 2), 0, none⟩), .int .i64 ((x.1.1 : Nat) : Int), .string x.1.2, .pointer (some ⟨w.heap.size + l.length, 3, none⟩), .int .u64 (g : Int), .pointer (some ⟨w.heap.size + l.length, 4, none⟩), .slice q ts.length c, .int .i64 (ts.length : Int), .int .u64 (ts.length : Int), .string t, .agg (rcl g ts.length t), .agg (rcl g ts.length t), .string T, .func (.func 120) #[] #[.pointer (some ⟨w.heap.size + m, 0, none⟩)], .int .i64 ((x.1.1 : Nat) : Int), .string x.1.2, undef, undef, undef, undef, undef, undef, undef, undef, undef, undef, undef, undef, undef, undef, undef, undef, undef, undef, undef, undef, undef, undef, undef, undef], defers := [] }) ?assign ?body ?done
  case start => exact ⟨M, _, .slice none 0 0, [], rfl, Nat.le_refl _, fun _ _ _ => rfl, hM2, hM0, .inl ⟨rfl, rfl, rfl⟩, Steps.nil _ _ _ _⟩
  case assign =>
    intro lo x W K0 hK0
    refine wpIn_seq_k fun K2 hK2 => ?_
    refine region_rnd_lit (by kernel_rfl) (by rintro ⟨_, _, h⟩; exact h) ?_
    go_wp2
    refine region_rnd_lit (by kernel_rfl) (by rintro ⟨_, _, h⟩; exact h) ?_
    go_wp2
    exact hK0
  case body =>
    intro lo pre x W hW hlen
    obtain ⟨L, d2, v, vs, rfl, hLM, hsame, h6, h2, hrow, hst⟩ := hW
    have hx1 := x.2.1
    have hvl : vs.length ≤ 40000 := by rw [hst.1]; have := stL_length fi u pre; omega
    have fin : ∀ (a' : Act) (L3 : List Obj) (v3 : Value) (vs3 : List Value) (e : Nat), L.length ≤ L3.length → (∀ p, p < L.length → p ≠ l.length + 2 → NotAt w v p → L3[p]? = L[p]?) → L3[l.length + 2]? = some (.cells #[v3] 129 (0, 0)) → RowV (fun p => M.length ≤ p) w L3 1 vs3.length v3 vs3 → Steps w L3 (fun p => M.length ≤ p) i vs3 (stL fi u (pre ++ [x])) → ownPostK (KeepsB (w.heap.size + m)) (LayI w M i l.length (l.length + 2) (.cells (hcl (.pointer (some ⟨w.heap.size + i, 0, none⟩)) fi n g (.slice q ts.length c) u) 107 (0, 0)) fi u) (fun _ _ _ => False) (pre ++ [x]) (Wd w L d2) .normal a' (Wd w L3 e) := fun a' L3 v3 vs3 e k1 k2 k3 k4 k5 => by
      refine ⟨⟨by simp [Wd]; omega, fun k ob hk hc => ?_⟩, fun ob hob => ?_, ⟨L3, e, v3, vs3, rfl, by omega, fun p hp hne => ?_, k3, ?_, k4, k5⟩⟩
      · simp only [Wd, Array.getElem?_append, List.getElem?_toArray] at hk ⊢
        by_cases h1 : k < w.heap.size
        · rw [if_pos h1] at hk ⊢; exact hk
        · rw [if_neg h1] at hk ⊢
          have hkl := (List.getElem?_eq_some_iff.1 hk).1
          rw [k2 _ hkl (fun e2 => by rw [e2, h6] at hk; obtain rfl := Option.some.inj hk; cases hc) (hrow.cellsAt hk hc), hk]
      · rw [blk_at, hsame m (by omega) (by omega), hMb] at hob
        rw [blk_at, k2 m (by omega) (by omega) (rowV_off hrow (by omega)), hsame m (by omega) (by omega), hMb]; exact hob
      · rw [k2 p (by omega) hne (rowV_off hrow (by omega)), hsame p hp hne]
      · rw [k2 l.length (by omega) (by omega) (rowV_off hrow (by omega)), h2]
    have hLO : ¬ LetsOut (ownPostK (KeepsB (w.heap.size + m)) (LayI w M i l.length (l.length + 2) (.cells (hcl (.pointer (some ⟨w.heap.size + i, 0, none⟩)) fi n g (.slice q ts.length c) u) 107 (0, 0)) fi u) (fun _ _ _ => False) (pre ++ [x]) (Wd w L d2)) := by rintro ⟨_, _, h⟩; exact h
    generalize ownPostK (KeepsB (w.heap.size + m)) (LayI w M i l.length (l.length + 2) (.cells (hcl (.pointer (some ⟨w.heap.size + i, 0, none⟩)) fi n g (.slice q ts.length c) u) 107 (0, 0)) fi u) (fun _ _ _ => False) (pre ++ [x]) (Wd w L d2) = Q0 at fin hLO ⊢
    have FIN := Lib.hid fin
    clear fin
    refine wpIn_block ?_
    refine wpIn_seq_k fun K hK => ?_
    have hpost : ∀ (x22 x23 x24 x25 x26 x27 x28 x29 : Value) (L1 : List Obj) (d' : Nat) (v1 : Value) (us : List Value), us.length ≤ 40001 → L.length ≤ L1.length → (∀ p, p < L.length → p ≠ l.length + 2 → NotAt w v p → L1[p]? = L[p]?) → L1[l.length + 2]? = some (.cells #[v1] 129 (0, 0)) → RowV (fun p => M.length ≤ p ∧ (NotAt w v p → L.length ≤ p)) w L1 1 us.length v1 us → Steps w L1 (fun p => M.length ≤ p) i us (stL fi u pre ++ (if x.1.1 = 0 then [Stp.f] else [])) → (∀ p, p < M.length → NotAt w v p) → K ({ tmps := #[.agg (hcl (.pointer (some ⟨w.heap.size + i, 0, none⟩)) fi n g (.slice q ts.length c) u), .string t, .pointer (some ⟨w.heap.size + l.length, 0, none⟩), undef, .slice none 0 0, .pointer (some ⟨w.heap.size + (l.length + 1), 0, none⟩), .pointer (some ⟨w.heap.size + (l.length + 2), 0, none⟩), .int .i64 ((x.1.1 : Nat) : Int), .string x.1.2, .pointer (some ⟨w.heap.size + l.length, 3, none⟩), .int .u64 (g : Int), .pointer (some ⟨w.heap.size + l.length, 4, none⟩), .slice q ts.length c, .int .i64 (ts.length : Int), .int .u64 (ts.length : Int), .string t, .agg (rcl g ts.length t), .agg (rcl g ts.length t), .string T, .func (.func 120) #[] #[.pointer (some ⟨w.heap.size + m, 0, none⟩)], .int .i64 ((x.1.1 : Nat) : Int), .string x.1.2, x22, x23, x24, x25, x26, x27, x28, x29, undef, undef, undef, undef, undef, undef, undef, undef, undef, undef, undef, undef, undef, undef, undef, undef], defers := [] }) (Wd w L1 d') := by
      intro x22 x23 x24 x25 x26 x27 x28 x29 L1 d' v1 us k0 k1 k2 k3 k4 k5 k6
      refine hK _ _ ?_
      clear hK
      have hhalf : L1[l.length]? = some (.cells (hcl (.pointer (some ⟨w.heap.size + i, 0, none⟩)) fi n g (.slice q ts.length c) u) 107 (0, 0)) := by rw [k2 l.length (by omega) (by omega) (k6 _ (by omega)), h2]
      have HBH : Hid (blk (Wd w L1 d') (w.heap.size + l.length) = some (.cells (hcl (.pointer (some ⟨w.heap.size + i, 0, none⟩)) fi n g (.slice q ts.length c) u) 107 (0, 0))) := Lib.hid (by rw [blk_at]; exact hhalf)
      have HBX : Hid (blk (Wd w L1 d') (w.heap.size + (l.length + 2)) = some (.cells #[v1] 129 (0, 0))) := Lib.hid (by rw [blk_at]; exact k3)
      have HR := Lib.hid k4
      have HST := Lib.hid k5
      have HK2 := Lib.hid k2
      have HK3 := Lib.hid k3
      have HL1 : Hid (M.length ≤ L1.length ∧ L.length ≤ L1.length) := Lib.hid ⟨by omega, k1⟩
      have HM3 : Hid (l.length + 3 < M.length) := Lib.hid (by omega)
      clear hMl
      clear k1 k2 k3 k4 k5 k6 hhalf h6 h2 hrow hst hsame hMb hM0 hM2
      refine region_rnd (by kernel_rfl) (by kernel_rfl) (by rintro ⟨a, w, h⟩; exact hLO ⟨a, w, h⟩) ?_
      refine any_fine_drop 9 (TL [eqv v1, eqv (.agg (hcl (.pointer (some ⟨w.heap.size + i, 0, none⟩)) fi n g (.slice q ts.length c) u)), eqv (.pointer (some ⟨w.heap.size + l.length, 5, none⟩)), eqv (.int .i64 (u : Int)), eqv (.int .i64 ((x.1.1 : Nat) : Int)), eqv (.int .i64 (((u + x.1.1 : Nat)) : Int)), eqv (.string x.1.2), stB w L1.length i (.w (fi + (u + x.1.1)) (bys x.1.2)), slB w L1.length i (.w (fi + (u + x.1.1)) (bys x.1.2))]) (by kernel_rfl) (by kernel_rfl) (by kernel_rfl) (TL_last (List.forall_mem_cons.2 ⟨eqv_last _, List.forall_mem_cons.2 ⟨eqv_last _, List.forall_mem_cons.2 ⟨eqv_last _, List.forall_mem_cons.2 ⟨eqv_last _, List.forall_mem_cons.2 ⟨eqv_last _, List.forall_mem_cons.2 ⟨eqv_last _, List.forall_mem_cons.2 ⟨eqv_last _, List.forall_mem_cons.2 ⟨stB_last _ _ _ _, List.forall_mem_cons.2 ⟨slB_last _ _ _ _, fun _ h => (List.not_mem_nil h).elim⟩⟩⟩⟩⟩⟩⟩⟩⟩)) (TL_no_guard (by kernel_rfl)) ?_ ?_
      · intro ix o ho a W hB hdep hfix
        simp only [List.take_succ_cons, List.take_zero] at ho hdep hfix
        match ix, ho with
        | 0, ho =>
          simp only [List.getElem?_cons_zero, Option.some.injEq] at ho; subst ho
          exact lays_eq _ rfl (exec_load (hfix 6 (by decide +kernel)) (ldX_box (isaj78 W) (blk_below hB HBX.out)))
        | 1, ho =>
          simp only [List.getElem?_cons_zero, List.getElem?_cons_succ, Option.some.injEq] at ho; subst ho
          exact lays_eq _ rfl (exec_load (hfix 2 (by decide +kernel)) (ldHA agj61 (blk_below hB HBH.out)))
        | 2, ho =>
          simp only [List.getElem?_cons_zero, List.getElem?_cons_succ, Option.some.injEq] at ho; subst ho
          exact lays_eq _ rfl (exec_field (off := 5) (hfix 2 (by decide +kernel)) (by simp [go_sem]))
        | 3, ho =>
          simp only [List.getElem?_cons_zero, List.getElem?_cons_succ, Option.some.injEq] at ho; subst ho
          have e1 : a.tmps.getD 32 undef = .pointer (some ⟨w.heap.size + l.length, 5, none⟩) := hdep 2 _ 32 rfl rfl (by decide +kernel)
          exact lays_eq _ rfl (exec_load e1 (ldH5 (isa3 W) (blk_below hB HBH.out)))
        | 4, ho =>
          simp only [List.getElem?_cons_zero, List.getElem?_cons_succ, Option.some.injEq] at ho; subst ho
          exact lays_eq _ rfl (exec_move (hfix 7 (by decide +kernel)))
        | 5, ho =>
          simp only [List.getElem?_cons_zero, List.getElem?_cons_succ, Option.some.injEq] at ho; subst ho
          have e1 : a.tmps.getD 33 undef = .int .i64 (u : Int) := hdep 3 _ 33 rfl rfl (by decide +kernel)
          have e2 : a.tmps.getD 34 undef = .int .i64 ((x.1.1 : Nat) : Int) := hdep 4 _ 34 rfl rfl (by decide +kernel)
          exact lays_eq _ rfl (exec_add e1 e2 (by omega) (by omega))
        | 6, ho =>
          simp only [List.getElem?_cons_zero, List.getElem?_cons_succ, Option.some.injEq] at ho; subst ho
          exact lays_eq _ rfl (exec_move (hfix 8 (by decide +kernel)))
        | 7, ho =>
          simp only [List.getElem?_cons_zero, List.getElem?_cons_succ, Option.some.injEq] at ho; subst ho
          have e1 : a.tmps.getD 31 undef = .agg (hcl (.pointer (some ⟨w.heap.size + i, 0, none⟩)) fi n g (.slice q ts.length c) u) := hdep 1 _ 31 rfl rfl (by decide +kernel)
          have e2 : a.tmps.getD 35 undef = .int .i64 (((u + x.1.1 : Nat)) : Int) := hdep 5 _ 35 rfl rfl (by decide +kernel)
          have e3 : a.tmps.getD 36 undef = .string x.1.2 := hdep 6 _ 36 rfl rfl (by decide +kernel)
          obtain ⟨gS, dS, rfl⟩ := below_grows hB
          refine lays_call #[.agg (hcl (.pointer (some ⟨w.heap.size + i, 0, none⟩)) fi n g (.slice q ts.length c) u), .int .i64 (((u + x.1.1 : Nat)) : Int), .string x.1.2] (by simp [Act.eval, e1, e2, e3]) (by kernel_rfl) ((write_step w (L1 ++ gS) dS i fi n g u (.slice q ts.length c) (u + x.1.1) x.1.2 (by omega)).mono ?_)
          rintro e W' ⟨z, g', d', he, rfl, hs⟩
          refine ⟨z, he, ?_, ⟨_, _, rfl, hs.mono fun p hp hlt => ⟨by rw [List.length_append] at hp; omega, rfl⟩⟩⟩
          have := (Grows.of (Wd w (L1 ++ gS) dS) g' d').below
          rwa [Wd_wd] at this
        | 8, ho =>
          simp only [List.getElem?_cons_zero, List.getElem?_cons_succ, Option.some.injEq] at ho; subst ho
          have e1 : stB w L1.length i (.w (fi + (u + x.1.1)) (bys x.1.2)) (a.tmps.getD 37 undef) W := hdep 7 _ 37 rfl rfl (by decide +kernel)
          exact lays_slB (fun L5 d5 e5 => by have h5 := hB.size; rw [e5, Wd_size, Wd_size] at h5; omega) e1 (fun _ _ h => h)
        | ix + 9, ho => simp at ho
      · intro a W hB hd hsz hfix hT
        simp only [List.take_succ_cons, List.take_zero, List.drop_succ_cons, List.drop_zero] at hfix hT ⊢
        have f6 : a.tmps.getD 6 undef = .pointer (some ⟨w.heap.size + (l.length + 2), 0, none⟩) := hfix 6 (by decide +kernel)
        have f30 : a.tmps.getD 30 undef = v1 := hT 0 _ 30 rfl rfl
        have g38 : slB w L1.length i (.w (fi + (u + x.1.1)) (bys x.1.2)) (a.tmps.getD 38 undef) W := hT 8 _ 38 rfl rfl
        rw [frame_lit a 46 hsz hd]
        clear hfix hT hsz hd
        simp only [List.range, List.range.loop, List.map]
        generalize a.tmps = t at *
        simp only [f6, f30]
        clear f6 f30
        obtain ⟨gS, dS, rfl⟩ := below_grows hB
        obtain ⟨y, b, L2, d6, e6, hb, hv38, hy, hs⟩ := g38
        obtain rfl := Wd_inj e6
        simp only [hv38]
        have hy1 := hs.one
        obtain ⟨L2, hL2⟩ : ∃ L2, L1 ++ gS = L2 := ⟨_, rfl⟩
        rw [hL2] at hy hs ⊢
        have hsm : ∀ p, p < L1.length → L2[p]? = L1[p]? := fun p hp => by rw [← hL2, List.getElem?_append_left hp]
        have hl2 : L1.length ≤ L2.length := by rw [← hL2, List.length_append]; omega
        have hr2 : RowV (fun p => M.length ≤ p) w L2 1 us.length v1 us := HR.out.mono fun p hp hlt => ⟨hp.1, hsm p hlt⟩
        have hst2 : Steps w L2 (fun p => M.length ≤ p ∧ NotAt w v1 p) i (us ++ [y]) (stL fi u (pre ++ [x])) := by
          rw [stL_snoc, stO_eq, ← List.append_assoc]
          refine Steps.append ((HST.out.mono fun p hp hlt => ⟨hp, hsm p hlt⟩ : Steps w L2 (fun p => M.length ≤ p) i us _).keep hr2) (Steps.single (hs.mono fun p hp hlt => ⟨⟨by have := HL1.out; omega, HR.out.beyond hp⟩, rfl⟩))
        have HR2 := Lib.hid hr2
        have HST2 := Lib.hid hst2
        have HLT : Hid (RowV (fun _ => True) w L2 1 1 (.slice (some ⟨w.heap.size + b, 0, none⟩) 1 1) [y]) := Lib.hid (.inr ⟨b, 1, [y], 131, trivial, rfl, hy, rfl, Nat.le_refl _, rfl⟩)
        have HSM := Lib.hid hsm
        have HL2 := Lib.hid hl2
        clear hL2 hy hs hB hsm hl2 hr2 hst2 hv38 e6
        go_wp2_with (refine wpList_row rfl (.tmp 30) (.tmp 38) 129 131 rfl rt78 (A := fun p => M.length ≤ p) (B := fun _ => True) (fun p hp => by have := HL2.out; have := HL1.out; omega) v1 us.length us rfl HR2.out (.slice (some ⟨w.heap.size + b, 0, none⟩) 1 1) 1 [y] rfl HLT.out (by intro u hu; rw [List.mem_singleton.1 hu]; exact hy1) (by omega) ?_)
        intro v3 l3 d3 HR3 HG3 HS3
        have hv1 := RowV.one HR3.out
        have hb6 : l3[l.length + 2]? = some (.cells #[v1] 129 (0, 0)) := by rw [HS3.out _ (by have := HL2.out; have := HL1.out; have := HM3.out; omega) (rowV_off HR2.out (by have := HM3.out; omega)), HSM.out _ (by have := HL1.out; have := HM3.out; omega)]; exact HK3.out
        go_wp2
        refine FIN.out _ _ v3 (us ++ [y]) _ (by rw [List.length_set]; have := HG3.out; have := HL2.out; have := HL1.out; omega) (fun p hp hne hn => ?_) (set_some hb6) ?_ ?_
        · rw [List.getElem?_set_ne (fun e => hne e.symm), HS3.out p (by have := HL2.out; have := HL1.out; omega) (rowV_off HR.out fun h => by have := h.2 hn; omega), HSM.out p (by have := HL1.out; omega)]
          exact HK2.out p hp hne hn
        · rw [List.length_append]
          exact HR3.out.mono fun p hp hlt => ⟨hp, List.getElem?_set_ne (by have := HM3.out; omega)⟩
        · exact HST2.out.mono fun p hp hlt => ⟨hp.1, by rw [List.getElem?_set_ne (by have := HM3.out; omega)]; exact HS3.out p hlt hp.2⟩
    refine wpIn_seq_k fun K2 hK2 => ?_
    have hA7 : ∀ p, (L ++ [Obj.cells #[Value.func (.func 86) #[.pointer (some ⟨w.heap.size + i, 0, none⟩)] #[]] 131 (0, 0)]).length ≤ p → M.length ≤ p ∧ (NotAt w v p → L.length ≤ p) := fun p hp => by
      rw [List.length_append, List.length_singleton] at hp
      exact ⟨by omega, fun _ => by omega⟩
    have hrow' : RowV (fun p => M.length ≤ p ∧ (NotAt w v p → L.length ≤ p)) w L 1 vs.length v vs := (rowV_sharp hrow).mono fun p hp _ => ⟨⟨hp.1, fun h => absurd h hp.2⟩, rfl⟩
    have hoff : ∀ p, p < M.length → NotAt w v p := fun p hp => rowV_off hrow (by omega)
    have HPO := Lib.hid hpost
    have HR7 := Lib.hid hrow'
    have HOFF := Lib.hid hoff
    have HA7 := Lib.hid hA7
    have HST := Lib.hid hst
    have HMl : Hid (l.length + 3 < M.length ∧ M.length ≤ L.length) := Lib.hid ⟨by omega, hLM⟩
    clear hK hpost hrow hrow' hoff hA7 hst hsame hMb hM0 hM2 hMl hLM
    refine region_rnd_lit (by kernel_rfl) (by rintro ⟨a, w, h⟩; exact hLO ⟨a, w, h⟩) ?_
    by_cases hx0 : x.1.1 = 0
    · have hb : (((x.1.1 : Nat) : Int) == 0) = true := by rw [hx0]; rfl
      have HX0 := Lib.hid hx0
      clear hx0
      go_wp2
      refine wpIn_cond_true rfl ?_
      refine region_rnd_lit (by kernel_rfl) (by rintro ⟨a, w, h⟩; exact hLO ⟨a, w, h⟩) ?_
      have HST7 : Hid (Steps w L (fun p => M.length ≤ p ∧ NotAt w v p) i (vs ++ [.func (.func 86) #[.pointer (some ⟨w.heap.size + i, 0, none⟩)] #[]]) (stL fi u pre ++ (if x.1.1 = 0 then [Stp.f] else []))) := Lib.hid (by
        rw [if_pos HX0.out]
        exact Steps.append (HST.out.keep (HR7.out.mono fun p hp _ => ⟨hp.1, rfl⟩)) (Steps.single rfl))
      clear hb
      have h1f : (Value.func (.func 86) #[.pointer (some ⟨w.heap.size + i, 0, none⟩)] #[]).oneCell' = true := rfl
      have HR7' : Hid (RowV (fun p => M.length ≤ p ∧ (NotAt w v p → L.length ≤ p)) w (L ++ [Obj.cells #[Value.func (.func 86) #[.pointer (some ⟨w.heap.size + i, 0, none⟩)] #[]] 131 (0, 0)]) 1 vs.length v vs) := Lib.hid (HR7.out.mono fun p hp hlt => ⟨hp, List.getElem?_append_left hlt⟩)
      have HLT7 : Hid (RowV (fun _ => True) w (L ++ [Obj.cells #[Value.func (.func 86) #[.pointer (some ⟨w.heap.size + i, 0, none⟩)] #[]] 131 (0, 0)]) 1 1 (.slice (some ⟨w.heap.size + L.length, 0, none⟩) 1 1) [.func (.func 86) #[.pointer (some ⟨w.heap.size + i, 0, none⟩)] #[]]) := Lib.hid (.inr ⟨L.length, 1, [_], 131, trivial, rfl, by simp, rfl, Nat.le_refl _, rfl⟩)
      go_wp2_with (refine wpList_row rfl (.tmp 24) (.tmp 28) 129 131 rfl rt78 (A := fun p => M.length ≤ p ∧ (NotAt w v p → L.length ≤ p)) (B := fun _ => True) HA7.out v vs.length vs rfl HR7'.out (.slice (some ⟨w.heap.size + L.length, 0, none⟩) 1 1) 1 [.func (.func 86) #[.pointer (some ⟨w.heap.size + i, 0, none⟩)] #[]] rfl HLT7.out (by intro u hu; rw [List.mem_singleton.1 hu]; rfl) (by omega) ?_)
      intro v3 l3 d3 HR3 HG3 HS3
      have hv1 := RowV.one HR3.out
      have hLL : ∀ p, p < L.length → NotAt w v p → l3[p]? = L[p]? := fun p hp hn => by
        rw [HS3.out p (by first | omega | (rw [List.length_append]; omega)) hn, List.getElem?_append_left hp]
      have hLl : L.length + 1 ≤ l3.length := by have := HG3.out; first | exact this | (rw [List.length_append] at this; exact this)
      have hb6 : l3[l.length + 2]? = some (.cells #[v] 129 (0, 0)) := by rw [hLL _ (by have := HMl.out; omega) (HOFF.out _ (by have := HMl.out; omega))]; exact h6
      have HLL := Lib.hid hLL
      have HLl := Lib.hid hLl
      clear hLL hLl
      go_wp2
      refine HPO.out _ _ _ _ _ _ _ _ _ _ v3 (vs ++ [.func (.func 86) #[.pointer (some ⟨w.heap.size + i, 0, none⟩)] #[]]) (by rw [List.length_append, List.length_singleton]; omega) (by rw [List.length_set]; have := HLl.out; omega) (fun p hp hne hn => ?_) (set_some hb6) ?_ ?_ HOFF.out
      · rw [List.getElem?_set_ne (fun e => hne e.symm)]; exact HLL.out p hp hn
      · rw [List.length_append]
        exact HR3.out.mono fun p hp hlt => ⟨hp, List.getElem?_set_ne (by have := HMl.out; omega)⟩
      · exact HST7.out.mono fun p hp hlt => ⟨hp.1, by rw [List.getElem?_set_ne (by have := HMl.out; omega)]; exact HLL.out p hlt hp.2⟩
    · have hb : (((x.1.1 : Nat) : Int) == 0) = false := by
        have : ¬ ((x.1.1 : Nat) : Int) = 0 := by omega
        simpa using this
      have HX0 := Lib.hid hx0
      clear hx0
      go_wp2
      refine wpIn_cond_false rfl ?_
      refine wpIn_skip ?_
      refine HPO.out _ _ _ _ _ _ _ _ L _ v vs (by omega) (Nat.le_refl _) (fun _ _ _ _ => rfl) h6 HR7.out ?_ HOFF.out
      rw [if_neg HX0.out, List.append_nil]
      exact HST.out
  case done =>
    intro D W hD hW hK0
    obtain ⟨L, d2, v, vs, rfl, hLM, hsame, h6, h2, hrow, hst⟩ := hW
    have hN1 : T.size ≤ 65585 := by omega
    have hN0 : 1 ≤ T.size := by omega
    have hvl : vs.length ≤ 40000 := by rw [hst.1]; have := stL_length fi u (cksB T ((T.size + 63) / 64) ((T.size + 63) / 64)); rw [cksB_length] at this; omega
    have hlay : stL fi u (cksB T ((T.size + 63) / 64) ((T.size + 63) / 64)) ++ [Stp.f] = (⟨fi, n, g, u, ts⟩ : Hf).laying (bys t) := by
      have h1 := stL_down ⟨fi, n, g, u, ts⟩ T ((T.size + 63) / 64) (by omega) (by omega)
      have h2 : stL fi u (cksB T ((T.size + 63) / 64) ((T.size + 63) / 64)) = _ := h1
      rw [h2]
      unfold Hf.laying
      show Hf.down _ (bys T) _ ++ _ = Hf.down _ (laidL g ts.length (bys t)) (((laidL g ts.length (bys t)).length - 1) / 64) ++ _
      rw [← hbT, bys_length, show (T.size + 63) / 64 - 1 = (T.size - 1) / 64 by omega]
    rw [Wd_size, hMl] at hD
    obtain ⟨jd, rfl⟩ : ∃ jd, D = w.heap.size + jd := ⟨D - w.heap.size, by omega⟩
    rw [Wd_at] at hK0
    have hjd : jd < L.length := (List.getElem?_eq_some_iff.1 hK0).1
    have hml1 : ∀ p, p < l.length → L[p]? = l[p]? := fun p hp => by
      obtain ⟨g', hg'⟩ := hML
      rw [hsame p (by omega) (by omega), hg', List.getElem?_append_left hp]
    have hnjd : NotAt w v jd := hrow.cellsAt hK0 rfl
    have HST : Hid (Steps w L (fun p => M.length ≤ p ∧ NotAt w v p) i (vs ++ [.func (.func 86) #[.pointer (some ⟨w.heap.size + i, 0, none⟩)] #[]]) ((⟨fi, n, g, u, ts⟩ : Hf).laying (bys t))) := Lib.hid (by
      rw [← hlay]
      exact Steps.append (hst.keep hrow) (Steps.single rfl))
    have HR9 : Hid (RowV (fun p => M.length ≤ p) w (L ++ [Obj.cells #[Value.func (.func 86) #[.pointer (some ⟨w.heap.size + i, 0, none⟩)] #[]] 131 (0, 0)]) 1 vs.length v vs) := Lib.hid (hrow.mono fun p hp hlt => ⟨hp, List.getElem?_append_left hlt⟩)
    have HLT9 : Hid (RowV (fun _ => True) w (L ++ [Obj.cells #[Value.func (.func 86) #[.pointer (some ⟨w.heap.size + i, 0, none⟩)] #[]] 131 (0, 0)]) 1 1 (.slice (some ⟨w.heap.size + L.length, 0, none⟩) 1 1) [.func (.func 86) #[.pointer (some ⟨w.heap.size + i, 0, none⟩)] #[]]) := Lib.hid (.inr ⟨L.length, 1, [_], 131, trivial, rfl, by simp, rfl, Nat.le_refl _, rfl⟩)
    have HOFF : Hid (∀ p, p < l.length → NotAt w v p) := Lib.hid fun p hp => rowV_off hrow (by omega)
    have HML1 := Lib.hid hml1
    have HK0 := Lib.hid hK0
    have HNJ := Lib.hid hnjd
    have HMl : Hid (l.length + 3 < M.length ∧ M.length ≤ L.length ∧ M.length ≤ jd ∧ jd < L.length) := Lib.hid ⟨by omega, hLM, by omega, hjd⟩
    have hA9 : ∀ p, (L ++ [Obj.cells #[Value.func (.func 86) #[.pointer (some ⟨w.heap.size + i, 0, none⟩)] #[]] 131 (0, 0)]).length ≤ p → M.length ≤ p := fun p hp => by
      rw [List.length_append] at hp; omega
    have HA9 := Lib.hid hA9
    have h1f : (Value.func (.func 86) #[.pointer (some ⟨w.heap.size + i, 0, none⟩)] #[]).oneCell' = true := rfl
    show Exit.inBlock 0 _ .normal { tmps := _, defers := ({ target := .collected (w.heap.size + jd), args := #[] } : Deferred) :: [] } _
    have hmk : ({ target := .collected (w.heap.size + jd), args := #[] } : Deferred) :: [] = marks w [jd] := rfl
    rw [hmk]
    clear hmk hA9 hK0 hnjd hml1 hrow hst hsame hlay hbT hTs hMb hM0 hM2 hML hMl hLM hjd hD hN0 hN1 hml
    go_wp2_with (refine wpList_row rfl (.tmp 40) (.tmp 44) 129 131 rfl rt78 (A := fun p => M.length ≤ p) (B := fun _ => True) HA9.out v vs.length vs rfl HR9.out (.slice (some ⟨w.heap.size + L.length, 0, none⟩) 1 1) 1 [.func (.func 86) #[.pointer (some ⟨w.heap.size + i, 0, none⟩)] #[]] rfl HLT9.out (by intro u hu; rw [List.mem_singleton.1 hu]; rfl) (by omega) ?_)
    intro v3 l3 d3 HR3 HG3 HS3
    have hv1 := RowV.one HR3.out
    have hLL : ∀ p, p < L.length → NotAt w v p → l3[p]? = L[p]? := fun p hp hn => by
      rw [HS3.out p (by first | omega | (rw [List.length_append]; omega)) hn, List.getElem?_append_left hp]
    have HLL := Lib.hid hLL
    clear hLL
    go_wp2
    show LeavesInM _ _ _ _ _ _ _ _ _
    refine leaves_marks w d3 [jd] _ (fun j hj => by obtain rfl := List.mem_singleton.1 hj; rw [HLL.out _ HMl.out.2.2.2 HNJ.out]; exact HK0.out) (by simp) (fun L' hL' => ?_)
    have hL2 : ∀ p, p ≠ jd → L'[p]? = l3[p]? := fun p hp => hL' p (fun e => hp (List.mem_singleton.1 e))
    obtain ⟨g', rfl⟩ : ∃ g', L' = l ++ g' := prefix_of fun p hp => by
      rw [hL2 p (by have := HMl.out; omega), HLL.out p (by have := HMl.out; omega) (HOFF.out p hp)]; exact HML1.out p hp
    have hc : ∀ (p : Nat) c t f, l3[p]? = some (.cells c t f) → (l ++ g')[p]? = some (.cells c t f) := fun p c t f hp => by
      rw [hL2 p (fun e => ?_)]; · exact hp
      rw [e, HLL.out _ HMl.out.2.2.2 HNJ.out, HK0.out] at hp
      cases hp
    refine ⟨_, results_tmp rfl _ _ _, v3, vs ++ [.func (.func 86) #[.pointer (some ⟨w.heap.size + i, 0, none⟩)] #[]], g', d3, rfl, rfl, ?_, ?_⟩
    · rw [List.length_append]
      exact HR3.out.monoC fun p c t f hp hlt => ⟨by have := HMl.out; omega, hc _ _ _ _ hlt⟩
    · refine (HST.out.mono (L' := l3) (B := fun p => M.length ≤ p) fun p hp hlt => ⟨hp.1, HLL.out p hlt hp.2⟩).monoC fun p c t f hp hlt => ⟨by have := HMl.out; omega, hc _ _ _ _ hlt⟩

end Go.Proofs.YtlogjpmdfimgdaaGreatDoor.Jf

/- The document's journal, made anew: by contract. No condition but the sizes. -/
import Derived.Test.YtjgfljckmckhcaaDoorY02
namespace Go.Own
open Go.RowKit
/-- append, to an empty row without room, of a row wherever it lies. -/
theorem append_src {P : Program} {T E : TypeId} (hR : RowT P T E 1) {A : Nat → Prop} {w : World} {l : List Obj} {d m c2 : Nat} {v : Value} {N : List Value} (a2 : Addr) (hm : m ≠ 0) (h : RowV A w l 1 0 v []) (hq : ∃ q, v = .slice q 0 0) (hN : N.length = m)
    (hc : ∀ (j : Nat) u, N[j]? = some u → (Wd w l d).cell? (a2.add j) = some u) (ty : TypeId) (hs : m ≤ 1048576) :
    ∃ v' g d', (apN #[T, T] ty #[v, .slice (some a2) m c2]).run P (Wd w l d) = .ok v' (Wd w (l ++ g) d') ∧ RowV (fun p => l.length ≤ p) w (l ++ g) 1 m v' N := by
  obtain ⟨hT, ti, z, hi, hz, hsz, hzc, hb⟩ := hR
  have hbb : (0 + m) * ti.bytes ≤ 140737488355328 := by
    have := Nat.mul_le_mul (show 0 + m ≤ 1048576 by omega) hb
    omega
  unfold apN
  obtain ⟨q0, hq0⟩ := hq
  rcases h with ⟨rfl, _, _⟩ | ⟨i, c, X, t, hAi, rfl, hl, hX, hnc, _⟩
  · have hr := run_append_nil (P := P) (Wd w l d) T ty E ti z hT hi hz a2 m c2 N (by rw [hN, hsz, Nat.mul_one]) hc (by omega) (by omega) (by rw [Nat.zero_add] at hbb; omega)
    rw [Wd_drew, Wd_alloc, Wd_size] at hr
    have hge := grownCap_ge (Wd w l d) m 0 E
    refine ⟨_, _, _, hr, .inr ⟨l.length, grownCap (Wd w l d) m 0 E, N ++ (Builtin.zeroCells z.cells (grownCap (Wd w l d) m 0 E - m)).toList, E, Nat.le_refl _, rfl, ?_, ?_, by omega, ?_⟩⟩
    · rw [List.getElem?_concat_length]
      congr 2
      apply Array.ext'; simp
    · rw [List.length_append, hN, Array.length_toList, zeroCells_size, hzc]; omega
    · rw [Nat.mul_one, List.take_append_of_le_length (by omega), List.take_of_length_le (by omega)]
  · simp only [Value.slice.injEq] at hq0
    obtain ⟨_, _, rfl⟩ := hq0
    have hr := run_append_grow (P := P) (Wd w l d) T ty E ti z hT hi hz ⟨w.heap.size + i, 0, none⟩ 0 0 [] (by simp) (fun j u hj => by simp at hj) a2 m c2 N (by rw [hN, hsz, Nat.mul_one]) hc (by omega) (by omega) (growslice_fits (by omega) hbb)
    rw [Wd_drew, Wd_alloc, Wd_size] at hr
    have hge := grownCap_ge (Wd w l d) (0 + m) 0 E
    refine ⟨_, _, _, hr, .inr ⟨l.length, grownCap (Wd w l d) (0 + m) 0 E, [] ++ N ++ (Builtin.zeroCells z.cells (grownCap (Wd w l d) (0 + m) 0 E - (0 + m))).toList, E, Nat.le_refl _, by rw [Nat.zero_add], ?_, ?_, by omega, ?_⟩⟩
    · rw [List.getElem?_concat_length]
      congr 2
      apply Array.ext'; simp
    · rw [List.length_append, List.nil_append, hN, Array.length_toList, zeroCells_size, hzc]; omega
    · rw [Nat.mul_one, List.nil_append, List.take_append_of_le_length (by omega), List.take_of_length_le (by omega)]
end Go.Own
namespace Go.Proofs.YtjgfljckmckhcaaDoor
open Go Go.RowKit Go.Own
theorem mgo_snoc (half : Nat) : ∀ (l : List (List Nat)) (n : Nat) (t : List Nat), mgo half n (l ++ [t]) = match mgo half n l with | none => none | some n' => if 65535 < t.length ∨ half < n' + secs t.length then none else some (n' + secs t.length)
  | [], n, t => by simp only [List.nil_append, mgo]
  | s :: l, n, t => by
    rw [List.cons_append, mgo, mgo]
    by_cases h : 65535 < s.length ∨ half < n + secs s.length
    · rw [if_pos h, if_pos h]
    · rw [if_neg h, if_neg h]; exact mgo_snoc half l _ t
theorem mgo_none (half : Nat) : ∀ (l r : List (List Nat)) (n : Nat), mgo half n l = none → mgo half n (l ++ r) = none
  | [], _, _, h => by simp [mgo] at h
  | s :: l, r, n, h => by
    rw [List.cons_append, mgo]
    rw [mgo] at h
    by_cases hc : 65535 < s.length ∨ half < n + secs s.length
    · rw [if_pos hc]
    · rw [if_neg hc] at h ⊢; exact mgo_none half l r _ h
set_option maxRecDepth 100000 in
theorem lays_app1T {dst : Option Tmp} {ty : TypeId} {pos : String} {after : Array Edge} {guard : Option (Nat × Bool)} {x y : Operand} {j : Nat} {ps : List (Value → World → Prop)} {a : Act} {w : World} {L : List Obj} {d B m c2 : Nat} {C : List Value} {a2 : Addr} (h1 : roB w B 0 [] (a.eval x) (Wd w L d)) (h2 : a.eval y = .slice (some a2) m c2) (hm : m ≠ 0) (hN : C.length = m) (hc : ∀ (j : Nat) u, C[j]? = some u → (Wd w L d).cell? (a2.add j) = some u) (hs : m ≤ 1000000)
    (hT : ∀ v W, roB w B m C v W → TL ps j v W) : Lays Tryd.prog (TL ps) j { dst, op := .call { callee := .builtin .append, args := #[x, y], argTypes := #[32, 32] }, type := ty, pos, after, guard } a (Wd w L d) := by
  obtain ⟨⟨L1, d1, e1, hb, hr1⟩, h0⟩ := h1
  obtain rfl := Wd_inj e1
  obtain ⟨v', g, d', hrun, k1⟩ := append_src (d := d) (c2 := c2) rt32 a2 hm hr1 (h0 rfl) hN hc ty (by omega)
  have hr' : (Builtin.append_ #[32, 32] ty #[a.eval x, .slice (some a2) m c2]).run Tryd.prog (Wd w L d) = .ok v' (Wd w (L ++ g) d') := hrun
  have he : (execOp a.eval { dst, op := .call { callee := .builtin .append, args := #[x, y], argTypes := #[32, 32] }, type := ty, pos, after, guard }).run Tryd.prog (Wd w L d) = .ok (.value v') (Wd w (L ++ g) d') := by
    simp [execOp, resolve, invoke, builtin, h2, hr', Result.andThen]
  exact lays_value he (below_of _ _ _ _ _) (hT _ _ ⟨⟨L ++ g, d', rfl, by rw [List.length_append]; omega, k1.mono fun p hp _ => ⟨by omega, rfl⟩⟩, fun e => absurd e hm⟩)
attribute [-go_sem] Sm.execOp_bs run_string_add_if
attribute [local go_sem] agj9 isaj9 csj9 szj9 agj32 isaj32 csj32 szj32 ag34 cs34 sz34 z34 alXA bu34a bu34b bu34c ldM0 ldM1 ldM2 ldM3 ldMA stMs bsj32s ldX_mix1
theorem mod_same {w : World} {A : Nat → Prop} {l L : List Obj} {d : Nat} {m : Md} {vt : Value} {c : Nat} (hrow : RowV A w l 1 m.texts.length vt (strs m.texts)) (hp : ∀ p, p < l.length → L[p]? = l[p]?) : ModQ w A l (m, c) (.returned (.tuple #[.agg (mc m.half vt m.taken m.gen), .int .i64 ((c : Nat) : Int)])) (Wd w L d) := by
  obtain ⟨g, hg⟩ := prefix_of hp
  exact ⟨vt, g, d, rfl, by rw [hg], (hrow.more g).mono fun p hp _ => ⟨.inl hp, rfl⟩⟩
theorem blk_cell {W : World} {b o j : Nat} {X : Array Value} {T : TypeId} {f : Nat × Nat} {v : Value} (hb : blk W b = some (.cells X T f)) (hx : X[o + j]? = some v) : W.cell? ((⟨b, o, none⟩ : Addr).add j) = some v := by
  have hadd : (⟨b, o, none⟩ : Addr).add j = ⟨b, o + j, none⟩ := by unfold Addr.add; split <;> simp_all
  rw [hadd]
  unfold World.cell?
  rw [show W.heap[b]? = _ from hb]
  simpa using hx
set_option maxRecDepth 100000 in
set_option maxHeartbeats 4000000 in
theorem ranew_any (w : World) (l : List Obj) (d : Nat) (A : Nat → Prop) (m : Md) (vt : Value) (hrow : RowV A w l 1 m.texts.length vt (strs m.texts)) (v : Value) (bs : List ByteArray) (hv : TxAt w l v bs) (hsz : ∀ s ∈ bs, s.size ≤ 140737488351232) (hbs : bs.length ≤ 100000) (hh : m.half ≤ 100000) (hg : m.gen ≤ 1000000) :
    Calls Tryd.prog 27 #[.agg (mc m.half vt m.taken m.gen), v] (Wd w l d) fun e w' => ModQ w A l (m.anew (bs.map bys)) e w' := by
  obtain ⟨h, ts, tk, g⟩ := m
  simp only at hrow hh hg ⊢
  obtain ⟨q0, c0, hq0⟩ := hrow.form
  obtain ⟨vq, vc, rfl, hvx⟩ := hv
  obtain ⟨N, hN⟩ : ∃ N, bs.length = N := ⟨_, rfl⟩
  rw [hN] at hbs ⊢
  have HVX := Lib.hid hvx
  have HNB := Lib.hid hN
  have HROW := Lib.hid hrow
  have HQ0 := Lib.hid hq0
  obtain ⟨RR, hRR⟩ : ∃ RR, (⟨h, ts, tk, g⟩ : Md).anew (bs.map bys) = RR := ⟨_, rfl⟩
  rw [hRR]
  have HRR := Lib.hid hRR
  have HSZ : Hid (∀ s ∈ (if bs = [] then [ByteArray.empty] else bs), s.size ≤ 140737488351232) := Lib.hid (by
    split
    · intro s hs; obtain rfl := List.mem_singleton.1 hs; decide
    · exact hsz)
  clear hrow hvx hN hq0 hRR hsz
  go_enter Tryd.func27, Tryd.ntmps27
  refine wp_seq_k fun K1 hK1 => ?_
  have HK1 := Lib.hid hK1
  clear hK1
  go_wp2
  refine HK1.out _ _ ?_
  clear HK1
  refine wp_seq_k fun K hK => ?_
  have HK := Lib.hid hK
  clear hK
  have hpost : ∀ (x8 x9 x10 x11 : Value) (b o c n : Nat) (X : Array Value) (T : TypeId) (f : Nat × Nat) (L0 : List Obj) (d0 : Nat) (bs1 : List ByteArray), bs1 = (if bs = [] then [ByteArray.empty] else bs) → bs1.length = n → 1 ≤ n → n ≤ 100000 → (∃ g', L0 = l ++ Obj.cells (mc h vt tk g) 34 (0, 0) :: Obj.cells (mc 0 (.slice none 0 0) 0 0) 34 (0, 0) :: g') → (∀ L d, (∀ p, p < L0.length → L[p]? = L0[p]?) → blk (Wd w L d) b = some (.cells X T f)) → (∀ (k : Nat) s, bs1[k]? = some s → X[o + k]? = some (.string s)) → K ({ tmps := #[.agg (mc h vt tk g), .slice (some ⟨b, o, none⟩) n c, .pointer (some ⟨w.heap.size + l.length, 0, none⟩), undef, .pointer (some ⟨w.heap.size + (l.length + 1), 0, none⟩), .int .i64 0, undef, undef, x8, x9, x10, x11, undef, undef, undef, undef, undef, undef, undef, undef, undef, undef, undef, undef, undef, undef, undef, undef, undef, undef, undef, undef, undef, undef, undef, undef, undef, undef, undef, undef, undef, undef, undef, undef, undef, undef, undef, undef], defers := [] }) (Wd w L0 d0) := by
    intro x8 x9 x10 x11 b o c n X T f L0 d0 bs1 hbs1 hn1 h1n hnb hL0 hX hXs
    refine HK.out _ _ ?_
    clear HK
    obtain ⟨g', hL0⟩ := hL0
    have HLT : Hid (l.length < L0.length) := Lib.hid (by rw [hL0, List.length_append, List.length_cons]; omega)
    have HLT2 : Hid (l.length + 1 < L0.length) := Lib.hid (by rw [hL0, List.length_append, List.length_cons, List.length_cons]; omega)
    have HBX : Hid (L0[l.length]? = some (Obj.cells (mc h vt tk g) 34 (0, 0))) := Lib.hid (by rw [hL0]; simp)
    have HZ : Hid (L0[l.length + 1]? = some (Obj.cells (mc 0 (.slice none 0 0) 0 0) 34 (0, 0))) := Lib.hid (by rw [hL0, List.getElem?_append_right (by omega), Nat.add_sub_cancel_left]; rfl)
    have HPR : Hid (∀ p, p < l.length → L0[p]? = l[p]?) := Lib.hid fun p hp => by rw [hL0, List.getElem?_append_left hp]
    have HSOME : Hid (bs1.map bys = someL (bs.map bys)) := Lib.hid (by
      rw [hbs1]
      unfold someL
      by_cases hb : bs = []
      · rw [if_pos hb, if_pos (by rw [hb]; rfl)]; rfl
      · rw [if_neg hb, if_neg (by simpa using hb)])
    rw [← hbs1] at HSZ
    have HX := Lib.hid hX
    have HXS := Lib.hid hXs
    have HN1 := Lib.hid hn1
    have H1N := Lib.hid h1n
    have hblk : ∀ d, blk (Wd w L0 d) b = some (.cells X T f) := fun d => hX L0 d fun _ _ => rfl
    have hbx0 : ∀ d, blk (Wd w L0 d) (w.heap.size + l.length) = some (Obj.cells (mc h vt tk g) 34 (0, 0)) := fun d => by rw [blk_at]; exact HBX.out
    clear hX hXs hn1 h1n hbs1 hL0
    refine wp_seq_k fun K3 hK3 => ?_
    have HK3 := Lib.hid hK3
    clear hK3
    go_wp2
    refine HK3.out _ _ ?_
    clear HK3
    refine wp_seq_k fun K4 hK4 => ?_
    have HK4 := Lib.hid hK4
    clear hK4
    have hb0g : L0[l.length]? = some (Obj.cells (mc h vt tk g) 34 (0, 0)) := HBX.out
    go_wp2_with fail
    go_loopw [6, 7] (fun sm ix wr => ∃ (k s d : Nat), k ≤ n ∧ sm = .int .i64 (s : Int) ∧ ix = .int .i64 (k : Int) ∧ s ≤ 200000 ∧ Hid (mgo h 0 ((bs1.take k).map bys) = some s) ∧ wr = Wd w L0 d) (fun _ ix _ => n - (intOf ix).toNat)
    case atStart => exact ⟨0, 0, d0, Nat.zero_le _, rfl, rfl, Nat.zero_le _, Lib.hid rfl, rfl⟩
    case round =>
      obtain ⟨k, sm, d2, hk, rfl, rfl, hsm, HM, rfl⟩ := hrel
      by_cases hlt : k < n
      · obtain ⟨y, hy⟩ : ∃ y, bs1[k]? = some y := ⟨_, List.getElem?_eq_getElem (by rw [HN1.out]; exact hlt)⟩
        have hx := HXS.out k y hy
        have hki : (k : Int) < n := by omega
        have hys := HSZ.out y (List.mem_of_getElem? hy)
        have HTK := Lib.hid fun W => rtakes_any y hys W
        obtain ⟨S, hS⟩ : ∃ S, secs y.size = S := ⟨_, rfl⟩
        rw [hS] at HTK
        have hSb : S ≤ 140737488351232 := by rw [← hS]; unfold secs; omega
        obtain ⟨s2, hs2⟩ : ∃ s2, sm + S = s2 := ⟨_, rfl⟩
        have hs2i : (sm : Int) + (S : Int) = (s2 : Int) := by omega
        have HSN : Hid (mgo h 0 ((bs1.take (k + 1)).map bys) = if 65535 < y.size ∨ h < s2 then none else some s2) := Lib.hid (by
          have e : (bs1.take (k + 1)).map bys = (bs1.take k).map bys ++ [bys y] := by rw [List.take_add_one, hy]; simp
          rw [e, mgo_snoc, HM.out]
          simp only
          rw [bys_length, hS, hs2])
        have HDR : Hid (mgo h 0 ((bs1.take (k + 1)).map bys) = none → (⟨h, ts, tk, g⟩ : Md).anew (bs.map bys) = (⟨h, ts, tk, g⟩, 6)) := Lib.hid fun e => by
          have h3 := mgo_none h ((bs1.take (k + 1)).map bys) ((bs1.drop (k + 1)).map bys) 0 e
          rw [← List.map_append, List.take_append_drop, HSOME.out] at h3
          unfold Md.anew
          rw [show mgo h 0 (someL (bs.map bys)) = none from h3]
        clear hy hS hs2 hys
        by_cases hbig : 65535 < y.size
        · have hbi : (65535 : Int) < (y.size : Int) := by omega
          have HFAIL := Lib.hid (HDR.out (by rw [HSN.out, if_pos (.inl hbig)]))
          clear hbig
          go_wp2_with fail
          refine (HTK.out _).mono ?_
          rintro e w' ⟨rfl, rfl⟩
          obtain rfl := HQ0.out
          have hz1 := HZ.out
          go_wp2
          refine ret_mix2 (i := l.length + 1) (c := mc h (.slice q0 ts.length c0) tk g) (t := 34) (f := (0, 0)) rfl rfl rfl ag34 (set_some hz1) rfl rfl ?_
          rw [← HRR.out, HFAIL.out]
          exact mod_same (m := ⟨h, ts, tk, g⟩) HROW.out fun p hp => by rw [List.getElem?_set_ne (by omega)]; exact HPR.out p hp
        · have hbi : ¬ (65535 : Int) < (y.size : Int) := by omega
          by_cases hhalf : h < s2
          · have hhi : (h : Int) < (s2 : Int) := by omega
            have HFAIL := Lib.hid (HDR.out (by rw [HSN.out, if_pos (.inr hhalf)]))
            clear hhalf hbig
            go_wp2_with fail
            refine (HTK.out _).mono ?_
            rintro e w' ⟨rfl, rfl⟩
            obtain rfl := HQ0.out
            have hz1 := HZ.out
            go_wp2
            refine ret_mix2 (i := l.length + 1) (c := mc h (.slice q0 ts.length c0) tk g) (t := 34) (f := (0, 0)) rfl rfl rfl ag34 (set_some hz1) rfl rfl ?_
            rw [← HRR.out, HFAIL.out]
            exact mod_same (m := ⟨h, ts, tk, g⟩) HROW.out fun p hp => by rw [List.getElem?_set_ne (by omega)]; exact HPR.out p hp
          · have hhi : ¬ (h : Int) < (s2 : Int) := by omega
            have hs2b : s2 ≤ 200000 := by omega
            have HNXT : Hid (mgo h 0 ((bs1.take (k + 1)).map bys) = some s2) := Lib.hid (by rw [HSN.out, if_neg (by omega)])
            clear hhalf hbig
            go_wp2_with fail
            refine (HTK.out _).mono ?_
            rintro e w' ⟨rfl, rfl⟩
            go_wp2
            go_roundw
            case rel => exact ⟨k + 1, s2, _, by omega, rfl, by go_num, hs2b, HNXT, rfl⟩
            case measure => simp [intOf]; omega
      · obtain rfl : k = n := by omega
        obtain ⟨C, hC⟩ : ∃ C : List Value, bs1.map (fun s => Value.string s) = C := ⟨_, rfl⟩
        have HC : Hid (C.length = k ∧ (∀ (j : Nat) u, C[j]? = some u → ∃ s, bs1[j]? = some s ∧ u = .string s) ∧ C = strs (someL (bs.map bys)) ∧ (someL (bs.map bys)).length = k) := Lib.hid (by
          refine ⟨by rw [← hC, List.length_map, HN1.out], fun j u hu => ?_, ?_, by rw [← HSOME.out, List.length_map, HN1.out]⟩
          · rw [← hC, List.getElem?_map] at hu
            cases hb : bs1[j]? with
            | none => rw [hb] at hu; cases hu
            | some s => rw [hb] at hu; simp at hu; exact ⟨s, rfl, hu.symm⟩
          · rw [← hC, ← HSOME.out]
            unfold strs
            rw [List.map_map]
            exact List.map_congr_left fun s _ => by simp [mkS_bys])
        have HALL : Hid (mgo h 0 (someL (bs.map bys)) = some sm) := Lib.hid (by
          have h3 := HM.out
          rw [List.take_of_length_le (by rw [HN1.out]; exact Nat.le_refl _), HSOME.out] at h3
          exact h3)
        obtain ⟨G1, hG1⟩ : ∃ G1, g + 1 = G1 := ⟨_, rfl⟩
        have HG1 : Hid ((g : Int) + 1 = (G1 : Int) ∧ (G1 : Int) ≤ 2000000) := Lib.hid (by omega)
        have HFIN : Hid (∀ (Lw : List Obj) (dw : Nat) (v9 : Value), L0.length ≤ Lw.length → (∀ p, p < L0.length → Lw[p]? = L0[p]?) → RowV (fun p => L0.length ≤ p) w Lw 1 k v9 C → ∀ (c : Array Value), c = mc h v9 sm G1 → ModQ w A l RR (.returned (.tuple #[.agg c, .int .i64 0])) (Wd w (Lw.set (l.length + 1) (Obj.cells c 34 (0, 0))) dw)) := Lib.hid fun Lw dw v9 h1 h2 h3 c hc => by
          have hl1 := HLT2.out
          have hpre : ∀ p, p < l.length → (Lw.set (l.length + 1) (Obj.cells c 34 (0, 0)))[p]? = l[p]? := fun p hp => by
            rw [List.getElem?_set_ne (by omega), h2 p (by omega)]; exact HPR.out p hp
          obtain ⟨g', hg'⟩ := prefix_of hpre
          have hR : RR = (⟨h, someL (bs.map bys), sm, G1⟩, 0) := by
            rw [← HRR.out]
            unfold Md.anew
            rw [show mgo h 0 (someL (bs.map bys)) = some sm from HALL.out, ← hG1]
          rw [hg', hR]
          refine ⟨v9, g', dw, by rw [hc]; rfl, rfl, ?_⟩
          rw [← hg']
          show RowV _ w _ 1 (someL (bs.map bys)).length v9 (strs (someL (bs.map bys)))
          rw [HC.out.2.2.2, ← HC.out.2.2.1]
          exact h3.mono fun p hp hlt => ⟨.inr (by omega), List.getElem?_set_ne (by omega)⟩
        clear hC hG1 HM hbx0 hb0g hblk
        go_wp2_with fail
        refine HK4.out _ _ ?_
        clear HK4
        refine wp_seq ?_
        refine wp_region_fine_drop 9 (TL [eqv (.pointer (some ⟨w.heap.size + l.length, 0, none⟩)), eqv (.int .i64 (h : Int)), roB w L0.length 0 [], eqv (.slice (some ⟨b, o, none⟩) k c), roB w L0.length k C, eqv (.int .i64 (sm : Int)), eqv (.pointer (some ⟨w.heap.size + l.length, 3, none⟩)), eqv (.int .i64 (g : Int)), eqv (.int .i64 (G1 : Int))]) (by kernel_rfl) (by kernel_rfl) (by kernel_rfl) (by kernel_rfl) (TL_last (List.forall_mem_cons.2 ⟨eqv_last _, List.forall_mem_cons.2 ⟨eqv_last _, List.forall_mem_cons.2 ⟨roB_last _ _ _ _, List.forall_mem_cons.2 ⟨eqv_last _, List.forall_mem_cons.2 ⟨roB_last _ _ _ _, List.forall_mem_cons.2 ⟨eqv_last _, List.forall_mem_cons.2 ⟨eqv_last _, List.forall_mem_cons.2 ⟨eqv_last _, List.forall_mem_cons.2 ⟨eqv_last _, fun _ h => (List.not_mem_nil h).elim⟩⟩⟩⟩⟩⟩⟩⟩⟩)) (TL_no_guard (by kernel_rfl)) ?_ ?_
        · intro ix o ho a W hB hdep hfix
          simp only [List.take_succ_cons, List.take_zero] at ho hdep hfix
          match ix, ho with
          | 0, ho =>
            simp only [List.getElem?_cons_zero, Option.some.injEq] at ho; subst ho
            exact lays_eq _ rfl (exec_field (off := 0) (hfix 2 (by decide +kernel)) (by simp [go_sem]))
          | 1, ho =>
            simp only [List.getElem?_cons_zero, List.getElem?_cons_succ, Option.some.injEq] at ho; subst ho
            have e1 : a.tmps.getD 38 undef = .pointer (some ⟨w.heap.size + l.length, 0, none⟩) := hdep 0 _ 38 rfl rfl (by decide +kernel)
            obtain ⟨gS, dS, rfl⟩ := below_grows hB
            have hbx : blk (Wd w (L0 ++ gS) dS) (w.heap.size + l.length) = some (Obj.cells (mc h vt tk g) 34 (0, 0)) := by rw [blk_at]; exact app_some HBX.out
            exact lays_eq _ rfl (exec_load e1 (ldM0 (isa3 _) hbx))
          | 2, ho =>
            simp only [List.getElem?_cons_zero, List.getElem?_cons_succ, Option.some.injEq] at ho; subst ho
            obtain ⟨gS, dS, rfl⟩ := below_grows hB
            exact lays_bs0 (by rw [List.length_append]; omega) (fun _ _ h => h)
          | 3, ho =>
            simp only [List.getElem?_cons_zero, List.getElem?_cons_succ, Option.some.injEq] at ho; subst ho
            exact lays_eq _ rfl (exec_move (hfix 1 (by decide +kernel)))
          | 4, ho =>
            simp only [List.getElem?_cons_zero, List.getElem?_cons_succ, Option.some.injEq] at ho; subst ho
            have e1 : roB w L0.length 0 [] (a.tmps.getD 40 undef) W := hdep 2 _ 40 rfl rfl (by decide +kernel)
            have e2 : a.tmps.getD 41 undef = .slice (some ⟨b, o, none⟩) k c := hdep 3 _ 41 rfl rfl (by decide +kernel)
            obtain ⟨gS, dS, rfl⟩ := below_grows hB
            exact lays_app1T e1 e2 (by have := H1N.out; omega) HC.out.1 (fun j u hu => by
                  obtain ⟨s, hs, rfl⟩ := HC.out.2.1 j u hu
                  exact blk_cell (HX.out (L0 ++ gS) dS fun p hp => List.getElem?_append_left hp) (HXS.out j s hs)) (by omega) (fun _ _ h => h)
          | 5, ho =>
            simp only [List.getElem?_cons_zero, List.getElem?_cons_succ, Option.some.injEq] at ho; subst ho
            exact lays_eq _ rfl (exec_move (hfix 6 (by decide +kernel)))
          | 6, ho =>
            simp only [List.getElem?_cons_zero, List.getElem?_cons_succ, Option.some.injEq] at ho; subst ho
            exact lays_eq _ rfl (exec_field (off := 3) (hfix 2 (by decide +kernel)) (by simp [go_sem]))
          | 7, ho =>
            simp only [List.getElem?_cons_zero, List.getElem?_cons_succ, Option.some.injEq] at ho; subst ho
            have e1 : a.tmps.getD 44 undef = .pointer (some ⟨w.heap.size + l.length, 3, none⟩) := hdep 6 _ 44 rfl rfl (by decide +kernel)
            obtain ⟨gS, dS, rfl⟩ := below_grows hB
            have hbx : blk (Wd w (L0 ++ gS) dS) (w.heap.size + l.length) = some (Obj.cells (mc h vt tk g) 34 (0, 0)) := by rw [blk_at]; exact app_some HBX.out
            exact lays_eq _ rfl (exec_load e1 (ldM3 (isa3 _) hbx))
          | 8, ho =>
            simp only [List.getElem?_cons_zero, List.getElem?_cons_succ, Option.some.injEq] at ho; subst ho
            have e1 : a.tmps.getD 45 undef = .int .i64 (g : Int) := hdep 7 _ 45 rfl rfl (by decide +kernel)
            exact lays_eq _ rfl (exec_add e1 (b := 1) rfl HG1.out.1 (by have := HG1.out.2; have := HG1.out.1; omega))
          | ix + 9, ho => simp at ho
        · intro a W hB hd hsz hfix hT
          simp only [List.take_succ_cons, List.take_zero, List.drop_succ_cons, List.drop_zero] at hfix hT ⊢
          have f4 : a.tmps.getD 4 undef = .pointer (some ⟨w.heap.size + (l.length + 1), 0, none⟩) := hfix 4 (by decide +kernel)
          have f39 : a.tmps.getD 39 undef = .int .i64 (h : Int) := hT 1 _ 39 rfl rfl
          have f43 : a.tmps.getD 43 undef = .int .i64 (sm : Int) := hT 5 _ 43 rfl rfl
          have f46 : a.tmps.getD 46 undef = .int .i64 (G1 : Int) := hT 8 _ 46 rfl rfl
          have g42 : roB w L0.length k C (a.tmps.getD 42 undef) W := hT 4 _ 42 rfl rfl
          rw [frame_lit a 48 hsz hd]
          clear hfix hT hsz hd
          simp only [List.range, List.range.loop, List.map]
          generalize a.tmps = t at *
          simp only [f4, f39, f43, f46]
          clear f4 f39 f43 f46
          obtain ⟨gS, dS, rfl⟩ := below_grows hB
          obtain ⟨⟨L9, d9, e9, hb9, hr9⟩, _⟩ := g42
          obtain rfl := Wd_inj e9
          obtain ⟨q9, c9, f42⟩ := hr9.form
          rw [f42] at hr9
          simp only [f42]
          have hzz : (L0 ++ gS)[l.length + 1]? = some (Obj.cells (mc 0 (.slice none 0 0) 0 0) 34 (0, 0)) := app_some HZ.out
          have HR9 := Lib.hid hr9
          have HSW : Hid (L0.length ≤ (L0 ++ gS).length ∧ ∀ p, p < L0.length → (L0 ++ gS)[p]? = L0[p]?) := Lib.hid ⟨by rw [List.length_append]; omega, fun p hp => List.getElem?_append_left hp⟩
          obtain ⟨LS, hLS⟩ : ∃ LS, L0 ++ gS = LS := ⟨_, rfl⟩
          rw [hLS] at hzz HR9 HSW ⊢
          clear hr9 hb9 f42 e9 hLS hB
          go_wp2
          refine ret_mix2 (i := l.length + 1) (c := mc h (.slice q9 k c9) sm G1) (t := 34) (f := (0, 0)) rfl rfl rfl ag34 (set_some hzz) rfl rfl ?_
          exact HFIN.out _ _ _ HSW.out.1 HSW.out.2 HR9.out _ rfl
  by_cases h0 : N = 0
  · subst h0
    have HB0 : Hid (bs = []) := Lib.hid (List.length_eq_zero_iff.1 HNB.out)
    go_wp2
    exact hpost _ _ _ _ (w.heap.size + (l.length + 2)) 0 1 1 #[.string .empty] 9 (0, 0) (l ++ [Obj.cells (mc h vt tk g) 34 (0, 0), Obj.cells (mc 0 (.slice none 0 0) 0 0) 34 (0, 0), Obj.cells #[.string .empty] 9 (0, 0)]) d [.empty] (by rw [if_pos HB0.out]) rfl (Nat.le_refl _) (by omega) ⟨[.cells #[.string .empty] 9 (0, 0)], rfl⟩ (fun L d hL => by rw [blk_at, hL _ (by rw [List.length_append]; simp), List.getElem?_append_right (by omega), Nat.add_sub_cancel_left]; rfl) (fun k s hs => by
      match k, hs with
      | 0, hs => simp at hs; subst hs; rfl
      | k + 1, hs => simp at hs)
  · have hne : bs ≠ [] := fun e => h0 (by rw [← HNB.out, e]; rfl)
    obtain ⟨b, o, X, T, f, rfl, h1, h2⟩ := HVX.out hne
    have H1 := Lib.hid h1
    have H2 := Lib.hid h2
    have HNE := Lib.hid hne
    have hN0 : ¬ (N : Int) = 0 := by omega
    clear h1 h2 hne
    go_wp2
    exact hpost _ _ _ _ b o vc N X T f (l ++ [Obj.cells (mc h vt tk g) 34 (0, 0), Obj.cells (mc 0 (.slice none 0 0) 0 0) 34 (0, 0)]) d bs (by rw [if_neg HNE.out]) HNB.out (by omega) hbs ⟨[], rfl⟩ (fun L d hL => H1.out L d fun p hp => by rw [hL p (by rw [List.length_append]; omega), List.getElem?_append_left hp]) H2.out
end Go.Proofs.YtjgfljckmckhcaaDoor

/- slices.Grow and slices.Concat over rows of steps: by contract. No condition but the sizes. | A step done on the disk; the turn of a journal: by contract. No condition but that the disk counts little. -/
import Derived.Test.YtjgfljckmckhcaaDoorZ27
import Derived.Test.YtjgfljckmckhcaaDoorZ30
import Derived.Lib.AppendZeros
namespace Go.Own
open Go Go.RowKit
/-- append(nil, make([]T, n)...) as an operation of the walk. -/
theorem wpList_zeros {P : Program} {ops : Array Oper} {rest : List Oper} {o : Oper} {a : Act} {Q : Exit → Act → World → Prop} {w : World} {l : List Obj} {d : Nat} (hgd : o.guard = none) (x y : Operand) (T K E : TypeId) (kn : IntKind)
    (ho : o.op = .call { callee := .builtin .append, args := #[x, y], argTypes := #[T, K] }) (hR : RowT P T E 1) (hKn : P.underlying K = some (.int kn)) (hv : a.eval x = .slice none 0 0) (n : Nat) (hu : a.eval y = .int .i64 (n : Int)) (h0 : 0 < n) (hs : n ≤ 1048576)
    (hK : ∀ (c : Nat) (X : List Value), Hid (X.length = c) → Hid (n ≤ c) → wpList P ops Q rest (a.put o.dst (.slice (some ⟨w.heap.size + l.length, 0, none⟩) n c)) (Wd w (l ++ [.cells X.toArray E (0, 0)]) (d + 1))) : wpList P ops Q (o :: rest) a (Wd w l d) := by
  refine wpList_plain hgd fun K0 hk => ?_
  obtain ⟨hT, ti, z, hi, hz, hsz, hzc, hb⟩ := hR
  have hnb : n * ti.bytes ≤ 281474976710656 := by
    have := Nat.mul_le_mul hs hb
    omega
  have hr := Lib.run_append_nil_zeros (P := P) (Wd w l d) T K o.type E ti z .i64 kn hT hKn hi hz n h0 (by omega) (by omega) hnb
  rw [Wd_drew, Wd_alloc, Wd_size] at hr
  have hge := grownCap_ge (Wd w l d) n 0 E
  unfold Oper.wp
  simp [execOp, ho, resolve, invoke, builtin, hv, hu, hr, Result.andThen]
  have := hK (grownCap (Wd w l d) n 0 E) (Builtin.zeroCells z.cells n ++ Builtin.zeroCells z.cells (grownCap (Wd w l d) n 0 E - n)).toList (by rw [Array.length_toList, Array.size_append, zeroCells_size, zeroCells_size, hzc]; exact Lib.hid (by omega)) (Lib.hid hge)
  rw [Array.toArray_toList] at this
  exact hk _ _ this
end Go.Own
namespace Go.Proofs.YtjgfljckmckhcaaDoor
open Go Go.RowKit Go.Own
attribute [-go_sem] Sm.execOp_bs run_string_add_if
attribute [local go_sem] agj78 isaj78 csj78 szj78 ldX_mix1
set_option maxRecDepth 100000 in
theorem grow_any (w : World) (l : List Obj) (d n : Nat) (hn : n ≤ 1000000) :
    Calls Tryd.prog 49 #[.slice none 0 0, .int .i64 (n : Int)] (Wd w l d) fun e w' => ∃ v g' d', e = .returned v ∧ w' = Wd w (l ++ g') d' ∧ RowV (fun p => l.length ≤ p) w (l ++ g') 1 0 v [] := by
  have hn0 : ¬ (n : Int) < 0 := by omega
  by_cases h0 : n = 0
  · subst h0
    go_enter Tryd.func49, Tryd.ntmps49
    go_wp2
    go_ret
    exact ⟨.slice none 0 0, rfl, [], ⟨_, by rw [List.append_nil]⟩, .inl ⟨rfl, rfl, rfl⟩⟩
  · have hp : (0 : Int) < (n : Int) := by omega
    have hpn : 0 < n := by omega
    clear h0
    go_enter Tryd.func49, Tryd.ntmps49
    go_wp2_with (refine wpList_zeros rfl (.tmp 20) (.tmp 21) 78 3 80 .i64 rfl rt78 (by kernel_rfl) rfl n rfl hpn (by omega) ?_)
    intro c X HX HC
    go_wp2
    go_ret
    exact ⟨_, _, _, rfl, rfl, .inr ⟨l.length, c, X, 80, Nat.le_refl _, rfl, by simp, by rw [HX.out, Nat.mul_one], Nat.zero_le _, by simp⟩⟩
theorem flat_take {α : Type} (cs : List (List α)) (k : Nat) (C : List α) (h : cs[k]? = some C) : (cs.take (k + 1)).flatten = (cs.take k).flatten ++ C := by
  rw [List.take_add_one, h]; simp
theorem flat_take_le {α : Type} (cs : List (List α)) (k : Nat) : (cs.take k).flatten.length ≤ cs.flatten.length := by
  have : cs.flatten = (cs.take k).flatten ++ (cs.drop k).flatten := by rw [← List.flatten_append, List.take_append_drop]
  rw [this, List.length_append]; omega
/-- A row of rows: their values, and what each holds. -/
def Rws (w : World) (l : List Obj) (n : Nat) (X : List Value) (cs : List (List Value)) : Prop :=
  cs.length = n ∧ n ≤ X.length ∧ ∀ (k : Nat) v C, X[k]? = some v → cs[k]? = some C → RowV (fun _ => True) w l 1 C.length v C ∧ ∀ u ∈ C, u.oneCell' = true
set_option maxRecDepth 100000 in
set_option maxHeartbeats 2000000 in
theorem concat_any (w : World) (l : List Obj) (d j n cap : Nat) (X : List Value) (T : TypeId) (cs : List (List Value)) (hj : l[j]? = some (.cells X.toArray T (0, 0))) (hX : Rws w l n X cs) (N : Nat) (hN : cs.flatten.length = N) (hb : N ≤ 500000) (hn : n ≤ 500000) :
    Calls Tryd.prog 38 #[.slice (some ⟨w.heap.size + j, 0, none⟩) n cap] (Wd w l d) fun e w' => ∃ v g' d', e = .returned v ∧ w' = Wd w (l ++ g') d' ∧ RowV (fun p => l.length ≤ p) w (l ++ g') 1 N v cs.flatten := by
  have HG := Lib.hid fun l d => grow_any w l d N (by omega)
  have HNN := Lib.hid hN
  have HX := Lib.hid hX
  have HJ := Lib.hid hj
  clear hX hj hN
  go_enter Tryd.func38, Tryd.ntmps38
  go_wp2_with fail
  go_loopw [3, 11] (fun e i wr => ∃ k : Nat, k ≤ n ∧ e = .int .i64 (((cs.take k).flatten.length : Nat) : Int) ∧ i = .int .i64 (k : Int) ∧ wr = Wd w l d) (fun _ i _ => n - (intOf i).toNat)
  case atStart => exact ⟨0, by omega, rfl, rfl, rfl⟩
  case round =>
    obtain ⟨k, hk, rfl, rfl, rfl⟩ := hrel
    by_cases hlt : k < n
    · obtain ⟨v, hv⟩ : ∃ v, X[k]? = some v := ⟨_, List.getElem?_eq_getElem (by have := HX.out.2.1; omega)⟩
      obtain ⟨C, hC⟩ : ∃ C, cs[k]? = some C := ⟨_, List.getElem?_eq_getElem (by have := HX.out.1; omega)⟩
      have hkx := HX.out.2.2 k v C hv hC
      obtain ⟨q, c, rfl⟩ := hkx.1.form
      have hF := flat_take cs k C hC
      have hle := flat_take_le cs (k + 1)
      rw [hF, List.length_append] at hle
      have HF := Lib.hid hF
      obtain ⟨s, hs⟩ : ∃ s, (cs.take k).flatten.length = s := ⟨_, rfl⟩
      rw [hs] at hle
      rw [hs]
      have HS := Lib.hid hs
      obtain ⟨m, hm⟩ : ∃ m, C.length = m := ⟨_, rfl⟩
      have HM := Lib.hid hm
      rw [hm] at hv hle
      have hsm : s + m ≤ 500000 := by have := HNN.out; omega
      have hsmi : ¬ ((s : Int) + (m : Int) < 0) := by omega
      have hva : X.toArray[k]? = some (.slice q m c) := by rw [List.getElem?_toArray]; exact hv
      have hblk : blk (Wd w l d) (w.heap.size + j) = some (.cells X.toArray T (0, 0)) := by rw [blk_at]; exact HJ.out
      have hki : (k : Int) < n := by omega
      clear hs hm hF hle hkx hC hv
      go_wp2
      go_roundw
      case rel => exact ⟨k + 1, by omega, by rw [HF.out, List.length_append, HS.out, HM.out]; congr 1, by go_num, trivial⟩
      case measure => simp [intOf]; omega
    · obtain rfl : k = n := by omega
      have he : (cs.take k).flatten.length = N := by rw [List.take_of_length_le (by rw [HX.out.1]; exact Nat.le_refl _), HNN.out]
      rw [he]
      clear he
      go_wp2_with fail
      refine (HG.out _ _).mono ?_
      rintro e w' ⟨v, g', d', rfl, rfl, hR⟩
      have hR1 : ∀ p, p < l.length → (l ++ g')[p]? = l[p]? := fun p hp => List.getElem?_append_left hp
      have hR2 : l.length ≤ (l ++ g').length := by rw [List.length_append]; omega
      obtain ⟨L0, hL0⟩ : ∃ L0, l ++ g' = L0 := ⟨_, rfl⟩
      rw [hL0] at hR hR1 hR2 ⊢
      have HR := Lib.hid hR
      have HL0 : Hid (l.length ≤ L0.length ∧ ∀ p, p < l.length → L0[p]? = l[p]?) := Lib.hid ⟨hR2, hR1⟩
      clear hR hR1 hR2 hL0 HG
      go_wp2
      go_loopw [6, 27] (fun e i wr => ∃ (m : Nat) (L : List Obj) (d : Nat), m ≤ k ∧ Hid (RowV (fun p => l.length ≤ p) w L 1 (cs.take m).flatten.length e (cs.take m).flatten) ∧ i = .int .i64 (m : Int) ∧ Hid (l.length ≤ L.length ∧ ∀ p, p < l.length → L[p]? = l[p]?) ∧ wr = Wd w L d) (fun _ i _ => k - (intOf i).toNat)
      case atStart => exact ⟨0, L0, d', by omega, HR, rfl, HL0, rfl⟩
      case round =>
        clear HR HL0
        obtain ⟨m, L, d2, hm, hRR, rfl, hLL, rfl⟩ := hrel
        by_cases hlt2 : m < k
        · obtain ⟨x, hx⟩ : ∃ x, X[m]? = some x := ⟨_, List.getElem?_eq_getElem (by have := HX.out.2.1; omega)⟩
          obtain ⟨C, hC⟩ : ∃ C, cs[m]? = some C := ⟨_, List.getElem?_eq_getElem (by have := HX.out.1; omega)⟩
          have hkx := HX.out.2.2 m x C hx hC
          have HF := Lib.hid (flat_take cs m C hC)
          have hle := flat_take_le cs (m + 1)
          rw [HF.out, List.length_append, HNN.out] at hle
          obtain ⟨S, hS⟩ : ∃ S, (cs.take m).flatten = S := ⟨_, rfl⟩
          have hRR' := hRR.out
          rw [hS] at hRR'
          have HRR := Lib.hid hRR'
          have HXR : Hid (RowV (fun _ => True) w L 1 C.length x C) := Lib.hid (hkx.1.mono fun p _ hlt => ⟨trivial, hLL.out.2 p hlt⟩)
          have HC1 := Lib.hid hkx.2
          rw [hS] at hle
          have HLE := Lib.hid hle
          have HS := Lib.hid hS
          have hva : X.toArray[m]? = some x := by rw [List.getElem?_toArray]; exact hx
          have hjl : j < l.length := (List.getElem?_eq_some_iff.1 HJ.out).1
          have hblk : blk (Wd w L d2) (w.heap.size + j) = some (.cells X.toArray T (0, 0)) := by rw [blk_at, hLL.out.2 j hjl]; exact HJ.out
          have hki : (m : Int) < k := by omega
          clear hle hS hRR hRR' hkx hC hx hjl
          go_wp2_with (refine wpList_row rfl (.tmp 31) (.tmp 32) 78 80 rfl rt78 (A := fun p => l.length ≤ p) (B := fun _ => True) (fun p hp => by have := hLL.out.1; omega) _ S.length S rfl HRR.out x C.length C rfl HXR.out HC1.out (by have := HLE.out; omega) ?_)
          intro v3 l3 d3 HR3 HG3 HS3
          have HOF : Hid (∀ p, p < l.length → l3[p]? = l[p]?) := Lib.hid fun p hp => by
            rw [HS3.out p (by have := hLL.out.1; omega) (rowV_off HRR.out (by omega))]; exact hLL.out.2 p hp
          go_wp2
          go_roundw
          case rel => exact ⟨m + 1, l3, d3, by omega, by rw [HF.out, HS.out, List.length_append]; exact HR3, by go_num, Lib.hid ⟨Nat.le_trans hLL.out.1 HG3.out, HOF.out⟩, rfl⟩
          case measure => simp [intOf]; omega
        · obtain rfl : m = k := by omega
          have he : (cs.take m).flatten = cs.flatten := by rw [List.take_of_length_le (by rw [HX.out.1]; exact Nat.le_refl _)]
          have hRR' := hRR.out
          rw [he, HNN.out] at hRR'
          have HRR := Lib.hid hRR'
          clear hRR' he
          go_wp2
          go_ret
          obtain ⟨g2, rfl⟩ := prefix_of hLL.out.2
          exact ⟨_, g2, d2, rfl, rfl, HRR.out⟩
end Go.Proofs.YtjgfljckmckhcaaDoor
namespace Go.Proofs.YtjgfljckmckhcaaDoor
open Go Go.RowKit Go.Own
/-! ### steps plainly -/
theorem runS_append (M : Dk) (a b : List Stp) : runS M (a ++ b) = if (runS M a).2 then runS (runS M a).1 b else runS M a := by
  induction a generalizing M with
  | nil => rfl
  | cons s r ih =>
    rw [List.cons_append, runS, runS]
    split
    · exact ih _
    · rfl
theorem runS_snoc (M N : Dk) (ss : List Stp) (k : Nat) (s : Stp) (hs : ss[k]? = some s) (h : runS M (ss.take k) = (N, true)) :
    ((s.run N).2 = 0 → runS M (ss.take (k + 1)) = ((s.run N).1, true)) ∧ ((s.run N).2 ≠ 0 → runS M ss = ((s.run N).1, false)) := by
  have e : ss.take (k + 1) = ss.take k ++ [s] := by rw [List.take_add_one, hs]; rfl
  refine ⟨fun h0 => ?_, fun h0 => ?_⟩
  · rw [e, runS_append, h]
    simp [runS, h0]
  · have e2 : ss = ss.take k ++ (s :: ss.drop (k + 1)) := by
      have h1 := (List.take_append_drop (k + 1) ss).symm
      rw [e, List.append_assoc] at h1
      exact h1
    rw [e2, runS_append, h]
    simp [runS, h0]
theorem run_count (M : Dk) (s : Stp) : (s.run M).1.count ≤ M.count + 1 := by
  cases s with
  | w a x =>
    show (M.write (a : Int) x).1.count ≤ _
    unfold Dk.write
    split
    · split
      · exact Nat.le_succ _
      · exact counted_count _
    · exact Nat.le_succ _
  | f =>
    show (M.flush).1.count ≤ _
    unfold Dk.flush
    split
    · exact Nat.le_succ _
    · split
      · exact Nat.zero_le _
      · exact Nat.le_succ_of_le (counted_count _)
theorem runS_count (ss : List Stp) : ∀ M : Dk, (runS M ss).1.count ≤ M.count + ss.length := by
  induction ss with
  | nil => intro M; exact Nat.le_refl _
  | cons s r ih =>
    intro M
    have h1 := run_count M s
    rw [runS, List.length_cons]
    split
    · have := ih (s.run M).1; omega
    · show (s.run M).1.count ≤ _
      omega
attribute [-go_sem] Sm.execOp_bs run_string_add_if
attribute [local go_sem] agj61 csj61 szj61 agj25 isaj25 csj25 szj25 agj9 isaj9 csj9 szj9 ldH0 ldH1 ldHA
set_option maxRecDepth 100000 in
/-- A write. -/
theorem wstep_any (w : World) (l : List Obj) (d i s q : Nat) (vw : Value) (O : Nat → Prop) (M : Dk) (h : DAt w l i s q vw O M) (hc : M.count < 1099511627776) (hO : ∀ p, O p → p < l.length) (b1 b2 b3 fi n g u : Nat) (vt : Value) (k : Nat) (y : ByteArray)
    (h1 : l[b1]? = some (.cells (hcl (.pointer (some ⟨w.heap.size + i, 0, none⟩)) fi n g vt u) 61 (0, 0))) (h2 : l[b2]? = some (.cells #[.int .i64 (k : Int)] 3 (0, 0))) (h3 : l[b3]? = some (.cells #[.string y] 9 (0, 0))) (hk : fi + k ≤ 1000000) :
    Calls Tryd.prog 52 #[.pointer (some ⟨w.heap.size + b1, 0, none⟩), .pointer (some ⟨w.heap.size + b2, 0, none⟩), .pointer (some ⟨w.heap.size + b3, 0, none⟩)] (Wd w l d) fun e w' => e = .returned (.int .i64 (((M.write ((fi + k : Nat) : Int) (bys y)).2 : Nat) : Int)) ∧ ∃ l' d' vw', w' = Wd w l' d' ∧ DAt w l' i s q vw' O (M.write ((fi + k : Nat) : Int) (bys y)).1 ∧ Kp O l l' := by
  have HW := Lib.hid fun d => write_any w l d i s q vw O M ((fi + k : Nat) : Int) y h hc hO
  have hsum : (fi : Int) + (k : Int) = ((fi + k : Nat) : Int) := by omega
  obtain ⟨a, ha⟩ : ∃ a, fi + k = a := ⟨_, rfl⟩
  rw [ha] at hk hsum HW ⊢
  clear ha h hO
  go_enter Tryd.func52, Tryd.ntmps52
  go_wp2_with fail
  refine (HW.out _).mono ?_
  rintro e w' ⟨rfl, l', d', vw', rfl, hD, hK⟩
  go_wp2
  go_ret
  exact ⟨rfl, _, _, _, rfl, hD, hK⟩
/-- The function value, called. -/
def stpCalls (v : Value) (w : World) (R : Ending → World → Prop) : Prop := ∃ f a b, v = .func (.func f) a b ∧ Calls Tryd.prog f (a ++ b) w R
theorem step_any (w : World) (l : List Obj) (d i sd q : Nat) (vw : Value) (O : Nat → Prop) (M : Dk) (h : DAt w l i sd q vw O M) (hc : M.count < 1099511627776) (hO : ∀ p, O p → p < l.length) (A : Nat → Prop) (v : Value) (s : Stp) (hs : StpAt w l A i v s) :
    stpCalls v (Wd w l d) fun e w' => e = .returned (.int .i64 (((s.run M).2 : Nat) : Int)) ∧ ∃ l' d' vw', w' = Wd w l' d' ∧ DAt w l' i sd q vw' O (s.run M).1 ∧ Kp O l l' := by
  cases s with
  | f => exact ⟨18, _, _, hs, flush_any w l d i sd q vw O M h (by omega) hO⟩
  | w a x =>
    obtain ⟨b1, b2, b3, fi, n, g, u, vt, at', y, _, _, _, hv, e1, e2, e3, rfl, rfl, h4⟩ := hs
    exact ⟨52, _, _, hv, wstep_any w l d i sd q vw O M h hc hO b1 b2 b3 fi n g u vt at' y e1 e2 e3 h4⟩
end Go.Proofs.YtjgfljckmckhcaaDoor

/- slices.Grow and slices.Concat over rows of steps: by contract. No condition but the sizes. | A step done on the disk; the turn of a journal: by contract. No condition but that the disk counts little. | The turn of a journal: by contract. No condition but that the disk counts little. -/
import Derived.Test.YtlogjpmdfimgdaaGreatDoorZ19
import Derived.Test.YtlogjpmdfimgdaaGreatDoorZ21
import Derived.Lib.AppendZeros
namespace Go.Own.Jf
open Go Go.RowKit
/-- append(nil, make([]T, n)...) as an operation of the walk. -/
theorem wpList_zeros {P : Program} {ops : Array Oper} {rest : List Oper} {o : Oper} {a : Act} {Q : Exit → Act → World → Prop} {w : World} {l : List Obj} {d : Nat} (hgd : o.guard = none) (x y : Operand) (T K E : TypeId) (kn : IntKind)
    (ho : o.op = .call { callee := .builtin .append, args := #[x, y], argTypes := #[T, K] }) (hR : RowT P T E 1) (hKn : P.underlying K = some (.int kn)) (hv : a.eval x = .slice none 0 0) (n : Nat) (hu : a.eval y = .int .i64 (n : Int)) (h0 : 0 < n) (hs : n ≤ 1048576)
    (hK : ∀ (c : Nat) (X : List Value), Hid (X.length = c) → Hid (n ≤ c) → wpList P ops Q rest (a.put o.dst (.slice (some ⟨w.heap.size + l.length, 0, none⟩) n c)) (Wd w (l ++ [.cells X.toArray E (0, 0)]) (d + 1))) : wpList P ops Q (o :: rest) a (Wd w l d) := by
  refine wpList_plain hgd fun K0 hk => ?_
  obtain ⟨hT, ti, z, hi, hz, hsz, hzc, hb⟩ := hR
  have hnb : n * ti.bytes ≤ 281474976710656 := by
    have := Nat.mul_le_mul hs hb
    omega
  have hr := Lib.run_append_nil_zeros (P := P) (Wd w l d) T K o.type E ti z .i64 kn hT hKn hi hz n h0 (by omega) (by omega) hnb
  rw [Wd_drew, Wd_alloc, Wd_size] at hr
  have hge := grownCap_ge (Wd w l d) n 0 E
  unfold Oper.wp
  simp [execOp, ho, resolve, invoke, builtin, hv, hu, hr, Result.andThen]
  have := hK (grownCap (Wd w l d) n 0 E) (Builtin.zeroCells z.cells n ++ Builtin.zeroCells z.cells (grownCap (Wd w l d) n 0 E - n)).toList (by rw [Array.length_toList, Array.size_append, zeroCells_size, zeroCells_size, hzc]; exact Lib.hid (by omega)) (Lib.hid hge)
  rw [Array.toArray_toList] at this
  exact hk _ _ this
end Go.Own.Jf
namespace Go.Proofs.YtlogjpmdfimgdaaGreatDoor.Jf
open Go Go.RowKit Go.Own.Jf
attribute [-go_sem] Sm.execOp_bs run_string_add_if
attribute [local go_sem] agj78 isaj78 csj78 szj78 ldX_mix1
set_option maxRecDepth 100000 in
theorem grow_any (w : World) (l : List Obj) (d n : Nat) (hn : n ≤ 1000000) :
    Calls Tryz.prog 82 #[.slice none 0 0, .int .i64 (n : Int)] (Wd w l d) fun e w' => ∃ v g' d', e = .returned v ∧ w' = Wd w (l ++ g') d' ∧ RowV (fun p => l.length ≤ p) w (l ++ g') 1 0 v [] := by
  have hn0 : ¬ (n : Int) < 0 := by omega
  by_cases h0 : n = 0
  · subst h0
    go_enter Tryz.func82, Tryz.ntmps82
    go_wp2
    go_ret
    exact ⟨.slice none 0 0, rfl, [], ⟨_, by rw [List.append_nil]⟩, .inl ⟨rfl, rfl, rfl⟩⟩
  · have hp : (0 : Int) < (n : Int) := by omega
    have hpn : 0 < n := by omega
    clear h0
    go_enter Tryz.func82, Tryz.ntmps82
    go_wp2_with (refine wpList_zeros rfl (.tmp 20) (.tmp 21) 129 3 131 .i64 rfl rt78 (by kernel_rfl) rfl n rfl hpn (by omega) ?_)
    intro c X HX HC
    go_wp2
    go_ret
    exact ⟨_, _, _, rfl, rfl, .inr ⟨l.length, c, X, 131, Nat.le_refl _, rfl, by simp, by rw [HX.out, Nat.mul_one], Nat.zero_le _, by simp⟩⟩
theorem flat_take {α : Type} (cs : List (List α)) (k : Nat) (C : List α) (h : cs[k]? = some C) : (cs.take (k + 1)).flatten = (cs.take k).flatten ++ C := by
  rw [List.take_add_one, h]; simp
theorem flat_take_le {α : Type} (cs : List (List α)) (k : Nat) : (cs.take k).flatten.length ≤ cs.flatten.length := by
  have : cs.flatten = (cs.take k).flatten ++ (cs.drop k).flatten := by rw [← List.flatten_append, List.take_append_drop]
  rw [this, List.length_append]; omega
/-- A row of rows: their values, and what each holds. -/
def Rws (w : World) (l : List Obj) (n : Nat) (X : List Value) (cs : List (List Value)) : Prop :=
  cs.length = n ∧ n ≤ X.length ∧ ∀ (k : Nat) v C, X[k]? = some v → cs[k]? = some C → RowV (fun _ => True) w l 1 C.length v C ∧ ∀ u ∈ C, u.oneCell' = true
set_option maxRecDepth 100000 in
set_option maxHeartbeats 2000000 in
theorem concat_any (w : World) (l : List Obj) (d j n cap : Nat) (X : List Value) (T : TypeId) (cs : List (List Value)) (hj : l[j]? = some (.cells X.toArray T (0, 0))) (hX : Rws w l n X cs) (N : Nat) (hN : cs.flatten.length = N) (hb : N ≤ 500000) (hn : n ≤ 500000) :
    Calls Tryz.prog 59 #[.slice (some ⟨w.heap.size + j, 0, none⟩) n cap] (Wd w l d) fun e w' => ∃ v g' d', e = .returned v ∧ w' = Wd w (l ++ g') d' ∧ RowV (fun p => l.length ≤ p) w (l ++ g') 1 N v cs.flatten := by
  have HG := Lib.hid fun l d => grow_any w l d N (by omega)
  have HNN := Lib.hid hN
  have HX := Lib.hid hX
  have HJ := Lib.hid hj
  clear hX hj hN
  go_enter Tryz.func59, Tryz.ntmps59
  go_wp2_with fail
  go_loopw [3, 11] (fun e i wr => ∃ k : Nat, k ≤ n ∧ e = .int .i64 (((cs.take k).flatten.length : Nat) : Int) ∧ i = .int .i64 (k : Int) ∧ wr = Wd w l d) (fun _ i _ => n - (intOf i).toNat)
  case atStart => exact ⟨0, by omega, rfl, rfl, rfl⟩
  case round =>
    obtain ⟨k, hk, rfl, rfl, rfl⟩ := hrel
    by_cases hlt : k < n
    · obtain ⟨v, hv⟩ : ∃ v, X[k]? = some v := ⟨_, List.getElem?_eq_getElem (by have := HX.out.2.1; omega)⟩
      obtain ⟨C, hC⟩ : ∃ C, cs[k]? = some C := ⟨_, List.getElem?_eq_getElem (by have := HX.out.1; omega)⟩
      have hkx := HX.out.2.2 k v C hv hC
      obtain ⟨q, c, rfl⟩ := hkx.1.form
      have hF := flat_take cs k C hC
      have hle := flat_take_le cs (k + 1)
      rw [hF, List.length_append] at hle
      have HF := Lib.hid hF
      obtain ⟨s, hs⟩ : ∃ s, (cs.take k).flatten.length = s := ⟨_, rfl⟩
      rw [hs] at hle
      rw [hs]
      have HS := Lib.hid hs
      obtain ⟨m, hm⟩ : ∃ m, C.length = m := ⟨_, rfl⟩
      have HM := Lib.hid hm
      rw [hm] at hv hle
      have hsm : s + m ≤ 500000 := by have := HNN.out; omega
      have hsmi : ¬ ((s : Int) + (m : Int) < 0) := by omega
      have hva : X.toArray[k]? = some (.slice q m c) := by rw [List.getElem?_toArray]; exact hv
      have hblk : blk (Wd w l d) (w.heap.size + j) = some (.cells X.toArray T (0, 0)) := by rw [blk_at]; exact HJ.out
      have hki : (k : Int) < n := by omega
      clear hs hm hF hle hkx hC hv
      go_wp2
      go_roundw
      case rel => exact ⟨k + 1, by omega, by rw [HF.out, List.length_append, HS.out, HM.out]; congr 1, by go_num, trivial⟩
      case measure => simp [intOf]; omega
    · obtain rfl : k = n := by omega
      have he : (cs.take k).flatten.length = N := by rw [List.take_of_length_le (by rw [HX.out.1]; exact Nat.le_refl _), HNN.out]
      rw [he]
      clear he
      go_wp2_with fail
      refine (HG.out _ _).mono ?_
      rintro e w' ⟨v, g', d', rfl, rfl, hR⟩
      have hR1 : ∀ p, p < l.length → (l ++ g')[p]? = l[p]? := fun p hp => List.getElem?_append_left hp
      have hR2 : l.length ≤ (l ++ g').length := by rw [List.length_append]; omega
      obtain ⟨L0, hL0⟩ : ∃ L0, l ++ g' = L0 := ⟨_, rfl⟩
      rw [hL0] at hR hR1 hR2 ⊢
      have HR := Lib.hid hR
      have HL0 : Hid (l.length ≤ L0.length ∧ ∀ p, p < l.length → L0[p]? = l[p]?) := Lib.hid ⟨hR2, hR1⟩
      clear hR hR1 hR2 hL0 HG
      go_wp2
      go_loopw [6, 27] (fun e i wr => ∃ (m : Nat) (L : List Obj) (d : Nat), m ≤ k ∧ Hid (RowV (fun p => l.length ≤ p) w L 1 (cs.take m).flatten.length e (cs.take m).flatten) ∧ i = .int .i64 (m : Int) ∧ Hid (l.length ≤ L.length ∧ ∀ p, p < l.length → L[p]? = l[p]?) ∧ wr = Wd w L d) (fun _ i _ => k - (intOf i).toNat)
      case atStart => exact ⟨0, L0, d', by omega, HR, rfl, HL0, rfl⟩
      case round =>
        clear HR HL0
        obtain ⟨m, L, d2, hm, hRR, rfl, hLL, rfl⟩ := hrel
        by_cases hlt2 : m < k
        · obtain ⟨x, hx⟩ : ∃ x, X[m]? = some x := ⟨_, List.getElem?_eq_getElem (by have := HX.out.2.1; omega)⟩
          obtain ⟨C, hC⟩ : ∃ C, cs[m]? = some C := ⟨_, List.getElem?_eq_getElem (by have := HX.out.1; omega)⟩
          have hkx := HX.out.2.2 m x C hx hC
          have HF := Lib.hid (flat_take cs m C hC)
          have hle := flat_take_le cs (m + 1)
          rw [HF.out, List.length_append, HNN.out] at hle
          obtain ⟨S, hS⟩ : ∃ S, (cs.take m).flatten = S := ⟨_, rfl⟩
          have hRR' := hRR.out
          rw [hS] at hRR'
          have HRR := Lib.hid hRR'
          have HXR : Hid (RowV (fun _ => True) w L 1 C.length x C) := Lib.hid (hkx.1.mono fun p _ hlt => ⟨trivial, hLL.out.2 p hlt⟩)
          have HC1 := Lib.hid hkx.2
          rw [hS] at hle
          have HLE := Lib.hid hle
          have HS := Lib.hid hS
          have hva : X.toArray[m]? = some x := by rw [List.getElem?_toArray]; exact hx
          have hjl : j < l.length := (List.getElem?_eq_some_iff.1 HJ.out).1
          have hblk : blk (Wd w L d2) (w.heap.size + j) = some (.cells X.toArray T (0, 0)) := by rw [blk_at, hLL.out.2 j hjl]; exact HJ.out
          have hki : (m : Int) < k := by omega
          clear hle hS hRR hRR' hkx hC hx hjl
          go_wp2_with (refine wpList_row rfl (.tmp 31) (.tmp 32) 129 131 rfl rt78 (A := fun p => l.length ≤ p) (B := fun _ => True) (fun p hp => by have := hLL.out.1; omega) _ S.length S rfl HRR.out x C.length C rfl HXR.out HC1.out (by have := HLE.out; omega) ?_)
          intro v3 l3 d3 HR3 HG3 HS3
          have HOF : Hid (∀ p, p < l.length → l3[p]? = l[p]?) := Lib.hid fun p hp => by
            rw [HS3.out p (by have := hLL.out.1; omega) (rowV_off HRR.out (by omega))]; exact hLL.out.2 p hp
          go_wp2
          go_roundw
          case rel => exact ⟨m + 1, l3, d3, by omega, by rw [HF.out, HS.out, List.length_append]; exact HR3, by go_num, Lib.hid ⟨Nat.le_trans hLL.out.1 HG3.out, HOF.out⟩, rfl⟩
          case measure => simp [intOf]; omega
        · obtain rfl : m = k := by omega
          have he : (cs.take m).flatten = cs.flatten := by rw [List.take_of_length_le (by rw [HX.out.1]; exact Nat.le_refl _)]
          have hRR' := hRR.out
          rw [he, HNN.out] at hRR'
          have HRR := Lib.hid hRR'
          clear hRR' he
          go_wp2
          go_ret
          obtain ⟨g2, rfl⟩ := prefix_of hLL.out.2
          exact ⟨_, g2, d2, rfl, rfl, HRR.out⟩
end Go.Proofs.YtlogjpmdfimgdaaGreatDoor.Jf
namespace Go.Proofs.YtlogjpmdfimgdaaGreatDoor.Jf
open Go Go.RowKit Go.Own.Jf
/-! ### steps plainly -/
theorem runS_append (M : Dk) (a b : List Stp) : runS M (a ++ b) = if (runS M a).2 then runS (runS M a).1 b else runS M a := by
  induction a generalizing M with
  | nil => rfl
  | cons s r ih =>
    rw [List.cons_append, runS, runS]
    split
    · exact ih _
    · rfl
theorem runS_snoc (M N : Dk) (ss : List Stp) (k : Nat) (s : Stp) (hs : ss[k]? = some s) (h : runS M (ss.take k) = (N, true)) :
    ((s.run N).2 = 0 → runS M (ss.take (k + 1)) = ((s.run N).1, true)) ∧ ((s.run N).2 ≠ 0 → runS M ss = ((s.run N).1, false)) := by
  have e : ss.take (k + 1) = ss.take k ++ [s] := by rw [List.take_add_one, hs]; rfl
  refine ⟨fun h0 => ?_, fun h0 => ?_⟩
  · rw [e, runS_append, h]
    simp [runS, h0]
  · have e2 : ss = ss.take k ++ (s :: ss.drop (k + 1)) := by
      have h1 := (List.take_append_drop (k + 1) ss).symm
      rw [e, List.append_assoc] at h1
      exact h1
    rw [e2, runS_append, h]
    simp [runS, h0]
theorem run_count (M : Dk) (s : Stp) : (s.run M).1.count ≤ M.count + 1 := by
  cases s with
  | w a x =>
    show (M.write (a : Int) x).1.count ≤ _
    unfold Dk.write
    split
    · split
      · exact Nat.le_succ _
      · exact counted_count _
    · exact Nat.le_succ _
  | f =>
    show (M.flush).1.count ≤ _
    unfold Dk.flush
    split
    · exact Nat.le_succ _
    · split
      · exact Nat.zero_le _
      · exact Nat.le_succ_of_le (counted_count _)
theorem runS_count (ss : List Stp) : ∀ M : Dk, (runS M ss).1.count ≤ M.count + ss.length := by
  induction ss with
  | nil => intro M; exact Nat.le_refl _
  | cons s r ih =>
    intro M
    have h1 := run_count M s
    rw [runS, List.length_cons]
    split
    · have := ih (s.run M).1; omega
    · show (s.run M).1.count ≤ _
      omega
attribute [-go_sem] Sm.execOp_bs run_string_add_if
attribute [local go_sem] agj61 csj61 szj61 agj25 isaj25 csj25 szj25 agj9 isaj9 csj9 szj9 ldH0 ldH1 ldHA
set_option maxRecDepth 100000 in
/-- A write. -/
theorem wstep_any (w : World) (l : List Obj) (d i s q : Nat) (vw : Value) (O : Nat → Prop) (M : Dk) (h : DAt w l i s q vw O M) (hc : M.count < 1099511627776) (hO : ∀ p, O p → p < l.length) (b1 b2 b3 fi n g u : Nat) (vt : Value) (k : Nat) (y : ByteArray)
    (h1 : l[b1]? = some (.cells (hcl (.pointer (some ⟨w.heap.size + i, 0, none⟩)) fi n g vt u) 107 (0, 0))) (h2 : l[b2]? = some (.cells #[.int .i64 (k : Int)] 3 (0, 0))) (h3 : l[b3]? = some (.cells #[.string y] 9 (0, 0))) (hk : fi + k ≤ 1000000) :
    Calls Tryz.prog 118 #[.pointer (some ⟨w.heap.size + b1, 0, none⟩), .pointer (some ⟨w.heap.size + b2, 0, none⟩), .pointer (some ⟨w.heap.size + b3, 0, none⟩)] (Wd w l d) fun e w' => e = .returned (.int .i64 (((M.write ((fi + k : Nat) : Int) (bys y)).2 : Nat) : Int)) ∧ ∃ l' d' vw', w' = Wd w l' d' ∧ DAt w l' i s q vw' O (M.write ((fi + k : Nat) : Int) (bys y)).1 ∧ Kp O l l' := by
  have HW := Lib.hid fun d => write_any w l d i s q vw O M ((fi + k : Nat) : Int) y h hc hO
  have hsum : (fi : Int) + (k : Int) = ((fi + k : Nat) : Int) := by omega
  obtain ⟨a, ha⟩ : ∃ a, fi + k = a := ⟨_, rfl⟩
  rw [ha] at hk hsum HW ⊢
  clear ha h hO
  go_enter Tryz.func118, Tryz.ntmps118
  go_wp2_with fail
  refine (HW.out _).mono ?_
  rintro e w' ⟨rfl, l', d', vw', rfl, hD, hK⟩
  go_wp2
  go_ret
  exact ⟨rfl, _, _, _, rfl, hD, hK⟩
/-- The function value, called. -/
def stpCalls (v : Value) (w : World) (R : Ending → World → Prop) : Prop := ∃ f a b, v = .func (.func f) a b ∧ Calls Tryz.prog f (a ++ b) w R
theorem step_any (w : World) (l : List Obj) (d i sd q : Nat) (vw : Value) (O : Nat → Prop) (M : Dk) (h : DAt w l i sd q vw O M) (hc : M.count < 1099511627776) (hO : ∀ p, O p → p < l.length) (A : Nat → Prop) (v : Value) (s : Stp) (hs : StpAt w l A i v s) :
    stpCalls v (Wd w l d) fun e w' => e = .returned (.int .i64 (((s.run M).2 : Nat) : Int)) ∧ ∃ l' d' vw', w' = Wd w l' d' ∧ DAt w l' i sd q vw' O (s.run M).1 ∧ Kp O l l' := by
  cases s with
  | f => exact ⟨86, _, _, hs, flush_any w l d i sd q vw O M h (by omega) hO⟩
  | w a x =>
    obtain ⟨b1, b2, b3, fi, n, g, u, vt, at', y, _, _, _, hv, e1, e2, e3, rfl, rfl, h4⟩ := hs
    exact ⟨118, _, _, hv, wstep_any w l d i sd q vw O M h hc hO b1 b2 b3 fi n g u vt at' y e1 e2 e3 h4⟩
end Go.Proofs.YtlogjpmdfimgdaaGreatDoor.Jf
namespace Go.Proofs.YtlogjpmdfimgdaaGreatDoor.Jf
open Go Go.RowKit Go.Own.Jf
attribute [-go_sem] Sm.execOp_bs run_string_add_if
attribute [local go_sem] agj61 csj61 szj61 agj25 isaj25 csj25 szj25 agj9 isaj9 csj9 szj9 agj78 isaj78 csj78 szj78 agj80 isaj80 csj80 szj80 ldX_mix1 ldH0 ldH1 ldH2 ldHA alXA stJ6 buj61b sz4
theorem stJAp {P : Program} {T ty : TypeId} {w : World} {l : List Obj} {d i : Nat} {dv vt : Value} {a n g u a' n' g' u' x c : Nat} {o : Bool} {p q : Option Addr} (h1 : (sizeOf T).run P (Wd w l d) = .ok 6 (Wd w l d)) (h2 : l[i]? = some (.cells (jcl dv a n g vt u o) ty (0, 0))) :
    stX P T 6 (some (.cells (jcl dv a n g vt u o) ty (0, 0))) w l d i 0 (.agg (hcl (.pointer p) a' n' g' (.slice q x c) u')) = .ok () (Wd w (l.set i (.cells (jcl (.pointer p) a' n' g' (.slice q x c) u' o) ty (0, 0))) d) := stJA rfl rfl h1 h2
attribute [local go_sem] stJAp
/-- What a turn leaves. -/
def TurnQ (w : World) (l : List Obj) (i sd q : Nat) (O : Nat → Prop) (M : Dk) (ss : List Stp) (jo fi n g : Nat) (vt : Value) (u : Nat) (o : Bool) (e : Ending) (w' : World) : Prop :=
  ∃ l' d' vw', e = .returned (.int .i64 (if (runS M ss).2 then 0 else 7)) ∧ w' = Wd w l' d' ∧ DAt w l' i sd q vw' O (runS M ss).1 ∧ l.length ≤ l'.length ∧ (∀ p, O p → p ≠ jo → l'[p]? = l[p]?) ∧
        l'[jo]? = some (.cells (if (runS M ss).2 then jcl (.pointer (some ⟨w.heap.size + i, 0, none⟩)) fi n g vt u o else jcl (.pointer (some ⟨w.heap.size + i, 0, none⟩)) 0 n 0 (.slice none 0 0) 0 true) 110 (0, 0))
set_option maxRecDepth 100000 in
set_option maxHeartbeats 4000000 in
theorem turn_any (w : World) (l : List Obj) (d i sd q : Nat) (vw : Value) (O : Nat → Prop) (M : Dk) (h : DAt w l i sd q vw O M) (hO : ∀ p, O p → p < l.length) (jo r m cap : Nat) (jd jv : Value) (ja jn jg ju : Nat) (o : Bool) (fi n g u tx tc : Nat) (tq : Option Addr) (X : List Value) (T : TypeId) (vs : List Value) (ss : List Stp)
    (hj : l[jo]? = some (.cells (jcl jd ja jn jg jv ju o) 110 (0, 0))) (hOj : O jo) (hr : l[r]? = some (.cells X.toArray T (0, 0))) (hOr : O r) (hmX : m ≤ X.length) (hX : X.take m = vs) (hss : ss.length = m) (hst : Steps w l O i vs ss) (hc : M.count + m < 1099511627776) (hm : m ≤ 1000000) :
    Calls Tryz.prog 58 #[.pointer (some ⟨w.heap.size + jo, 0, none⟩), .agg (hcl (.pointer (some ⟨w.heap.size + i, 0, none⟩)) fi n g (.slice tq tx tc) u), .slice (some ⟨w.heap.size + r, 0, none⟩) m cap] (Wd w l d) fun e w' =>
      TurnQ w l i sd q O M ss jo fi n g (.slice tq tx tc) u o e w' := by
  obtain ⟨O2, hO2⟩ : ∃ O2 : Nat → Prop, O2 = fun p => O p ∨ p = l.length := ⟨_, rfl⟩
  have hD0 : DAt w (l ++ [Obj.cells (hcl (.pointer (some ⟨w.heap.size + i, 0, none⟩)) fi n g (.slice tq tx tc) u) 107 (0, 0)]) i sd q vw O2 M := h.keep fun p hp hlt => ⟨by rw [hO2]; exact fun h' => h'.elim hp (fun e => by omega), List.getElem?_append_left hlt⟩
  have HOB : Hid (O2 l.length ∧ O2 jo ∧ O2 r ∧ jo < l.length ∧ r < l.length) := Lib.hid (by rw [hO2]; exact ⟨.inr rfl, .inl hOj, .inl hOr, hO _ hOj, hO _ hOr⟩)
  have HO1 : Hid (∀ p, O p → O2 p) := Lib.hid (by rw [hO2]; exact fun p hp => .inl hp)
  have HO2 : Hid (∀ p, O2 p → p < (l ++ [Obj.cells (hcl (.pointer (some ⟨w.heap.size + i, 0, none⟩)) fi n g (.slice tq tx tc) u) 107 (0, 0)]).length) := Lib.hid (by
    rw [hO2, List.length_append, List.length_singleton]
    rintro p (hp | hp)
    · have := hO p hp; omega
    · omega)
  have HLB : Hid ((l ++ [Obj.cells (hcl (.pointer (some ⟨w.heap.size + i, 0, none⟩)) fi n g (.slice tq tx tc) u) 107 (0, 0)])[l.length]? = some (Obj.cells (hcl (.pointer (some ⟨w.heap.size + i, 0, none⟩)) fi n g (.slice tq tx tc) u) 107 (0, 0))) := Lib.hid (by simp)
  have HLJ : Hid ((l ++ [Obj.cells (hcl (.pointer (some ⟨w.heap.size + i, 0, none⟩)) fi n g (.slice tq tx tc) u) 107 (0, 0)])[jo]? = some (.cells (jcl jd ja jn jg jv ju o) 110 (0, 0))) := Lib.hid (app_some hj)
  have HLR : Hid ((l ++ [Obj.cells (hcl (.pointer (some ⟨w.heap.size + i, 0, none⟩)) fi n g (.slice tq tx tc) u) 107 (0, 0)])[r]? = some (.cells X.toArray T (0, 0))) := Lib.hid (app_some hr)
  have HST : Hid (Steps w (l ++ [Obj.cells (hcl (.pointer (some ⟨w.heap.size + i, 0, none⟩)) fi n g (.slice tq tx tc) u) 107 (0, 0)]) O2 i vs ss) := Lib.hid (hst.mono fun p hp hlt => ⟨HO1.out p hp, List.getElem?_append_left hlt⟩)
  have HL1 : Hid ((l ++ [Obj.cells (hcl (.pointer (some ⟨w.heap.size + i, 0, none⟩)) fi n g (.slice tq tx tc) u) 107 (0, 0)]).length = l.length + 1 ∧ ∀ p, O p → (l ++ [Obj.cells (hcl (.pointer (some ⟨w.heap.size + i, 0, none⟩)) fi n g (.slice tq tx tc) u) 107 (0, 0)])[p]? = l[p]?) := Lib.hid ⟨by simp, fun p hp => List.getElem?_append_left (hO p hp)⟩
  obtain ⟨L0, hL0⟩ : ∃ L0, l ++ [Obj.cells (hcl (.pointer (some ⟨w.heap.size + i, 0, none⟩)) fi n g (.slice tq tx tc) u) 107 (0, 0)] = L0 := ⟨_, rfl⟩
  have HL0 := Lib.hid hL0
  rw [hL0] at hD0 HO2 HLB HLJ HLR HST HL1
  have HD0 := Lib.hid hD0
  have HX := Lib.hid hX
  have HMX := Lib.hid hmX
  have HSS := Lib.hid hss
  have HCM := Lib.hid hc
  have HO := Lib.hid hO
  have HON : Hid (∀ p, O2 p → ¬ O p → p = l.length) := Lib.hid (by rw [hO2]; exact fun p hp hn => hp.elim (fun h' => absurd h' hn) id)
  clear h hj hr hX hmX hss hst hc hO hD0 hOj hOr hL0 hO2
  go_enter Tryz.func58, Tryz.ntmps58
  go_wp2_with fail
  rw [HL0.out]
  go_loopw [11] (fun ix wr => ∃ (k : Nat) (L : List Obj) (d : Nat) (N : Dk) (vw2 : Value), k ≤ m ∧ ix = .int .i64 (k : Int) ∧ Hid (runS M (ss.take k) = (N, true)) ∧ Hid (N.count ≤ M.count + k) ∧ Hid (DAt w L i sd q vw2 O2 N) ∧ Hid (Kp O2 L0 L) ∧ wr = Wd w L d) (fun ix _ => m - (intOf ix).toNat)
  case atStart => exact ⟨0, L0, d, M, vw, by omega, rfl, Lib.hid rfl, Lib.hid (by omega), HD0, Lib.hid (Kp.refl _ _), rfl⟩
  case round =>
    clear HD0
    obtain ⟨k, L, d2, N, vw2, hk, rfl, HRUN, HCN, HD, HKP, rfl⟩ := hrel
    by_cases hlt : k < m
    · obtain ⟨v, hv⟩ : ∃ v, vs[k]? = some v := ⟨_, List.getElem?_eq_getElem (by rw [← HX.out, List.length_take]; have := HMX.out; omega)⟩
      obtain ⟨s, hs⟩ : ∃ s, ss[k]? = some s := ⟨_, List.getElem?_eq_getElem (by rw [HSS.out]; exact hlt)⟩
      have hst : StpAt w L O2 i v s := (HST.out.2 k v s hv hs).mono fun p hp hlt => ⟨hp, HKP.out.2 p hp hlt⟩
      have HSN := Lib.hid (runS_snoc M N ss k s hs HRUN.out)
      have hva : X.toArray[k]? = some v := by
        rw [List.getElem?_toArray]
        rw [← HX.out, List.getElem?_take_of_lt hlt] at hv
        exact hv
      have hblk : ∀ d, blk (Wd w L d) (w.heap.size + r) = some (.cells X.toArray T (0, 0)) := fun d => by rw [blk_at, HKP.out.2 r HOB.out.2.2.1 (by rw [HL1.out.1]; have := HOB.out.2.2.2.2; omega)]; exact HLR.out
      have hki : (k : Int) < m := by omega
      have hcn : N.count < 1099511627776 := by have := HCN.out; have := HCM.out; omega
      have hOL : ∀ p, O2 p → p < L.length := fun p hp => Nat.lt_of_lt_of_le (HO2.out p hp) HKP.out.1
      clear hv hs
      cases s with
      | f =>
        obtain rfl : v = .func (.func 86) #[.pointer (some ⟨w.heap.size + i, 0, none⟩)] #[] := hst
        have HCALL := Lib.hid fun d => flush_any w L d i sd q vw2 O2 N HD.out (by omega) hOL
        clear hcn hOL
        go_wp2_with fail
        refine (HCALL.out _).mono ?_
        rintro e w' ⟨rfl, l', d', vw3, rfl, hD2, hK2⟩
        obtain ⟨z, hz⟩ : ∃ z, (Stp.run N (.f)).2 = z := ⟨_, rfl⟩
        obtain ⟨N', hN'⟩ : ∃ N', (Stp.run N (.f)).1 = N' := ⟨_, rfl⟩
        have hz2 : (N.flush).2 = z := hz
        have hD3 : DAt w l' i sd q vw3 O2 N' := by rw [← hN']; exact hD2
        have HC' := Lib.hid (show N'.count ≤ N.count + 1 by rw [← hN']; exact run_count N _)
        have hsn := HSN.out
        rw [hz, hN'] at hsn
        rw [hz2]
        have HSN2 := Lib.hid hsn
        have HD3 := Lib.hid hD3
        have HKP2 := Lib.hid (HKP.out.trans hK2)
        have hbx : l'[l.length]? = some (Obj.cells (hcl (.pointer (some ⟨w.heap.size + i, 0, none⟩)) fi n g (.slice tq tx tc) u) 107 (0, 0)) := by rw [HKP2.out.2 _ HOB.out.1 (by rw [HL1.out.1]; omega)]; exact HLB.out
        have hjb : l'[jo]? = some (.cells (jcl jd ja jn jg jv ju o) 110 (0, 0)) := by rw [HKP2.out.2 _ HOB.out.2.1 (by rw [HL1.out.1]; have := HOB.out.2.2.2.1; omega)]; exact HLJ.out
        clear hD2 hK2 hsn hD3 hN' hz hz2 HCALL HSN hblk hva
        by_cases hz0 : z = 0
        · have HSN1 := Lib.hid (HSN2.out.1 hz0)
          subst hz0
          clear hbx hjb
          go_wp2
          go_roundw
          case rel => exact ⟨k + 1, l', d', N', vw3, by omega, by go_num, HSN1, Lib.hid (by have := HC'.out; have := HCN.out; omega), HD3, HKP2, rfl⟩
          case measure => simp [intOf]; omega
        · have HRUN2 := Lib.hid (HSN2.out.2 hz0)
          have hzi : ¬ (z : Int) = 0 := by omega
          have hzi2 : ((z : Int) != 0) = true := by simpa using hzi
          have hsj : ∀ Y, (l'.set jo Y)[jo]? = some Y := fun Y => set_some hjb
          clear hz0 hzi
          go_wp2
          go_ret
          unfold TurnQ
          rw [HRUN2.out]
          refine ⟨_, _, vw3, rfl, rfl, HD3.out.keep fun p hp hlt => ⟨fun h' => hp (HO1.out p h'), List.getElem?_set_ne (fun e : jo = p => hp (by rw [← e]; exact HOB.out.2.1))⟩, ?_, fun p hp hne => ?_, set_some hjb⟩
          · rw [List.length_set]; have := HKP2.out.1; have := HL1.out.1; omega
          · rw [List.getElem?_set_ne fun e => hne e.symm, HKP2.out.2 p (HO1.out p hp) (by have := HL1.out.1; have := HO.out p hp; omega)]; exact HL1.out.2 p hp
      | w a x =>
        obtain ⟨b1, b2, b3, fi', n', g', u', vt', at', y, _, _, _, rfl, e1, e2, e3, rfl, rfl, h4⟩ := hst
        have HCALL := Lib.hid fun d => wstep_any w L d i sd q vw2 O2 N HD.out hcn hOL b1 b2 b3 fi' n' g' u' vt' at' y e1 e2 e3 h4
        clear hcn hOL e1 e2 e3 h4
        go_wp2_with fail
        refine (HCALL.out _).mono ?_
        rintro e w' ⟨rfl, l', d', vw3, rfl, hD2, hK2⟩
        obtain ⟨z, hz⟩ : ∃ z, (Stp.run N (.w (fi' + at') (bys y))).2 = z := ⟨_, rfl⟩
        obtain ⟨N', hN'⟩ : ∃ N', (Stp.run N (.w (fi' + at') (bys y))).1 = N' := ⟨_, rfl⟩
        have hz2 : (N.write ((fi' + at' : Nat) : Int) (bys y)).2 = z := hz
        have hD3 : DAt w l' i sd q vw3 O2 N' := by rw [← hN']; exact hD2
        have HC' := Lib.hid (show N'.count ≤ N.count + 1 by rw [← hN']; exact run_count N _)
        have hsn := HSN.out
        rw [hz, hN'] at hsn
        rw [hz2]
        have HSN2 := Lib.hid hsn
        have HD3 := Lib.hid hD3
        have HKP2 := Lib.hid (HKP.out.trans hK2)
        have hbx : l'[l.length]? = some (Obj.cells (hcl (.pointer (some ⟨w.heap.size + i, 0, none⟩)) fi n g (.slice tq tx tc) u) 107 (0, 0)) := by rw [HKP2.out.2 _ HOB.out.1 (by rw [HL1.out.1]; omega)]; exact HLB.out
        have hjb : l'[jo]? = some (.cells (jcl jd ja jn jg jv ju o) 110 (0, 0)) := by rw [HKP2.out.2 _ HOB.out.2.1 (by rw [HL1.out.1]; have := HOB.out.2.2.2.1; omega)]; exact HLJ.out
        clear hD2 hK2 hsn hD3 hN' hz hz2 HCALL HSN hblk hva
        by_cases hz0 : z = 0
        · have HSN1 := Lib.hid (HSN2.out.1 hz0)
          subst hz0
          clear hbx hjb
          go_wp2
          go_roundw
          case rel => exact ⟨k + 1, l', d', N', vw3, by omega, by go_num, HSN1, Lib.hid (by have := HC'.out; have := HCN.out; omega), HD3, HKP2, rfl⟩
          case measure => simp [intOf]; omega
        · have HRUN2 := Lib.hid (HSN2.out.2 hz0)
          have hzi : ¬ (z : Int) = 0 := by omega
          have hzi2 : ((z : Int) != 0) = true := by simpa using hzi
          have hsj : ∀ Y, (l'.set jo Y)[jo]? = some Y := fun Y => set_some hjb
          clear hz0 hzi
          go_wp2
          go_ret
          unfold TurnQ
          rw [HRUN2.out]
          refine ⟨_, _, vw3, rfl, rfl, HD3.out.keep fun p hp hlt => ⟨fun h' => hp (HO1.out p h'), List.getElem?_set_ne (fun e : jo = p => hp (by rw [← e]; exact HOB.out.2.1))⟩, ?_, fun p hp hne => ?_, set_some hjb⟩
          · rw [List.length_set]; have := HKP2.out.1; have := HL1.out.1; omega
          · rw [List.getElem?_set_ne fun e => hne e.symm, HKP2.out.2 p (HO1.out p hp) (by have := HL1.out.1; have := HO.out p hp; omega)]; exact HL1.out.2 p hp
    · obtain rfl : k = m := by omega
      have hrun := HRUN.out
      rw [List.take_of_length_le (by rw [HSS.out]; exact Nat.le_refl _)] at hrun
      have HRUN2 := Lib.hid hrun
      have hbx : L[l.length]? = some (Obj.cells (hcl (.pointer (some ⟨w.heap.size + i, 0, none⟩)) fi n g (.slice tq tx tc) u) 107 (0, 0)) := by rw [HKP.out.2 _ HOB.out.1 (by rw [HL1.out.1]; omega)]; exact HLB.out
      have hjb : L[jo]? = some (.cells (jcl jd ja jn jg jv ju o) 110 (0, 0)) := by rw [HKP.out.2 _ HOB.out.2.1 (by rw [HL1.out.1]; have := HOB.out.2.2.2.1; omega)]; exact HLJ.out
      clear hrun
      go_wp2
      go_ret
      unfold TurnQ
      rw [HRUN2.out]
      refine ⟨_, _, vw2, rfl, rfl, HD.out.keep fun p hp hlt => ⟨fun h' => hp (HO1.out p h'), List.getElem?_set_ne (fun e : jo = p => hp (by rw [← e]; exact HOB.out.2.1))⟩, ?_, fun p hp hne => ?_, set_some hjb⟩
      · rw [List.length_set]; have := HKP.out.1; have := HL1.out.1; omega
      · rw [List.getElem?_set_ne fun e => hne e.symm, HKP.out.2 p (HO1.out p hp) (by have := HL1.out.1; have := HO.out p hp; omega)]; exact HL1.out.2 p hp
end Go.Proofs.YtlogjpmdfimgdaaGreatDoor.Jf

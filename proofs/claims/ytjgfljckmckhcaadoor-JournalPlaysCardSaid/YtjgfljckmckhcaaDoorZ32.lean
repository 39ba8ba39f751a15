/- The turn of a journal: by contract. No condition but that the disk counts little. | Rows of steps, and rows of such rows, in whatever has grown: what makes them, what joins them. No condition but the sizes. -/
import Derived.Test.YtjgfljckmckhcaaDoorZ31
namespace Go.Proofs.YtjgfljckmckhcaaDoor
open Go Go.RowKit Go.Own
attribute [-go_sem] Sm.execOp_bs run_string_add_if
attribute [local go_sem] agj61 csj61 szj61 agj25 isaj25 csj25 szj25 agj9 isaj9 csj9 szj9 agj78 isaj78 csj78 szj78 agj80 isaj80 csj80 szj80 ldX_mix1 ldH0 ldH1 ldH2 ldHA alXA stJ6 buj61b sz4
theorem stJAp {P : Program} {T ty : TypeId} {w : World} {l : List Obj} {d i : Nat} {dv vt : Value} {a n g u a' n' g' u' x c : Nat} {o : Bool} {p q : Option Addr} (h1 : (sizeOf T).run P (Wd w l d) = .ok 6 (Wd w l d)) (h2 : l[i]? = some (.cells (jcl dv a n g vt u o) ty (0, 0))) :
    stX P T 6 (some (.cells (jcl dv a n g vt u o) ty (0, 0))) w l d i 0 (.agg (hcl (.pointer p) a' n' g' (.slice q x c) u')) = .ok () (Wd w (l.set i (.cells (jcl (.pointer p) a' n' g' (.slice q x c) u' o) ty (0, 0))) d) := stJA rfl rfl h1 h2
attribute [local go_sem] stJAp
/-- What a turn leaves. -/
def TurnQ (w : World) (l : List Obj) (i sd q : Nat) (O : Nat → Prop) (M : Dk) (ss : List Stp) (jo fi n g : Nat) (vt : Value) (u : Nat) (o : Bool) (e : Ending) (w' : World) : Prop :=
  ∃ l' d' vw', e = .returned (.int .i64 (if (runS M ss).2 then 0 else 7)) ∧ w' = Wd w l' d' ∧ DAt w l' i sd q vw' O (runS M ss).1 ∧ l.length ≤ l'.length ∧ (∀ p, O p → p ≠ jo → l'[p]? = l[p]?) ∧
        l'[jo]? = some (.cells (if (runS M ss).2 then jcl (.pointer (some ⟨w.heap.size + i, 0, none⟩)) fi n g vt u o else jcl (.pointer (some ⟨w.heap.size + i, 0, none⟩)) 0 n 0 (.slice none 0 0) 0 true) 64 (0, 0))
set_option maxRecDepth 100000 in
set_option maxHeartbeats 4000000 in
theorem turn_any (w : World) (l : List Obj) (d i sd q : Nat) (vw : Value) (O : Nat → Prop) (M : Dk) (h : DAt w l i sd q vw O M) (hO : ∀ p, O p → p < l.length) (jo r m cap : Nat) (jd jv : Value) (ja jn jg ju : Nat) (o : Bool) (fi n g u tx tc : Nat) (tq : Option Addr) (X : List Value) (T : TypeId) (vs : List Value) (ss : List Stp)
    (hj : l[jo]? = some (.cells (jcl jd ja jn jg jv ju o) 64 (0, 0))) (hOj : O jo) (hr : l[r]? = some (.cells X.toArray T (0, 0))) (hOr : O r) (hmX : m ≤ X.length) (hX : X.take m = vs) (hss : ss.length = m) (hst : Steps w l O i vs ss) (hc : M.count + m < 1099511627776) (hm : m ≤ 1000000) :
    Calls Tryd.prog 37 #[.pointer (some ⟨w.heap.size + jo, 0, none⟩), .agg (hcl (.pointer (some ⟨w.heap.size + i, 0, none⟩)) fi n g (.slice tq tx tc) u), .slice (some ⟨w.heap.size + r, 0, none⟩) m cap] (Wd w l d) fun e w' =>
      TurnQ w l i sd q O M ss jo fi n g (.slice tq tx tc) u o e w' := by
  obtain ⟨O2, hO2⟩ : ∃ O2 : Nat → Prop, O2 = fun p => O p ∨ p = l.length := ⟨_, rfl⟩
  have hD0 : DAt w (l ++ [Obj.cells (hcl (.pointer (some ⟨w.heap.size + i, 0, none⟩)) fi n g (.slice tq tx tc) u) 61 (0, 0)]) i sd q vw O2 M := h.keep fun p hp hlt => ⟨by rw [hO2]; exact fun h' => h'.elim hp (fun e => by omega), List.getElem?_append_left hlt⟩
  have HOB : Hid (O2 l.length ∧ O2 jo ∧ O2 r ∧ jo < l.length ∧ r < l.length) := Lib.hid (by rw [hO2]; exact ⟨.inr rfl, .inl hOj, .inl hOr, hO _ hOj, hO _ hOr⟩)
  have HO1 : Hid (∀ p, O p → O2 p) := Lib.hid (by rw [hO2]; exact fun p hp => .inl hp)
  have HO2 : Hid (∀ p, O2 p → p < (l ++ [Obj.cells (hcl (.pointer (some ⟨w.heap.size + i, 0, none⟩)) fi n g (.slice tq tx tc) u) 61 (0, 0)]).length) := Lib.hid (by
    rw [hO2, List.length_append, List.length_singleton]
    rintro p (hp | hp)
    · have := hO p hp; omega
    · omega)
  have HLB : Hid ((l ++ [Obj.cells (hcl (.pointer (some ⟨w.heap.size + i, 0, none⟩)) fi n g (.slice tq tx tc) u) 61 (0, 0)])[l.length]? = some (Obj.cells (hcl (.pointer (some ⟨w.heap.size + i, 0, none⟩)) fi n g (.slice tq tx tc) u) 61 (0, 0))) := Lib.hid (by simp)
  have HLJ : Hid ((l ++ [Obj.cells (hcl (.pointer (some ⟨w.heap.size + i, 0, none⟩)) fi n g (.slice tq tx tc) u) 61 (0, 0)])[jo]? = some (.cells (jcl jd ja jn jg jv ju o) 64 (0, 0))) := Lib.hid (app_some hj)
  have HLR : Hid ((l ++ [Obj.cells (hcl (.pointer (some ⟨w.heap.size + i, 0, none⟩)) fi n g (.slice tq tx tc) u) 61 (0, 0)])[r]? = some (.cells X.toArray T (0, 0))) := Lib.hid (app_some hr)
  have HST : Hid (Steps w (l ++ [Obj.cells (hcl (.pointer (some ⟨w.heap.size + i, 0, none⟩)) fi n g (.slice tq tx tc) u) 61 (0, 0)]) O2 i vs ss) := Lib.hid (hst.mono fun p hp hlt => ⟨HO1.out p hp, List.getElem?_append_left hlt⟩)
  have HL1 : Hid ((l ++ [Obj.cells (hcl (.pointer (some ⟨w.heap.size + i, 0, none⟩)) fi n g (.slice tq tx tc) u) 61 (0, 0)]).length = l.length + 1 ∧ ∀ p, O p → (l ++ [Obj.cells (hcl (.pointer (some ⟨w.heap.size + i, 0, none⟩)) fi n g (.slice tq tx tc) u) 61 (0, 0)])[p]? = l[p]?) := Lib.hid ⟨by simp, fun p hp => List.getElem?_append_left (hO p hp)⟩
  obtain ⟨L0, hL0⟩ : ∃ L0, l ++ [Obj.cells (hcl (.pointer (some ⟨w.heap.size + i, 0, none⟩)) fi n g (.slice tq tx tc) u) 61 (0, 0)] = L0 := ⟨_, rfl⟩
  have HL0 := Lib.hid hL0
  rw [hL0] at hD0 HO2 HLB HLJ HLR HST HL1
  have HD0 := Lib.hid hD0
  have HX := Lib.hid hX
  have HMX := Lib.hid hmX
  have HSS := Lib.hid hss
  have HCM := Lib.hid hc
  have HO := Lib.hid hO
  have HON : Hid (∀ p, O2 p → ¬ O p → p = l.length) := Lib.hid (by rw [hO2]; exact fun p hp hn => hp.elim (fun h' => absurd h' hn) id)
  clear h hj hr hX hmX hss hst hc hO hD0 hOj hOr hL0 hO2
  go_enter Tryd.func37, Tryd.ntmps37
  go_wp2_with fail
  rw [HL0.out]
  go_loopw [11] (fun ix wr => ∃ (k : Nat) (L : List Obj) (d : Nat) (N : Dk) (vw2 : Value), k ≤ m ∧ ix = .int .i64 (k : Int) ∧ Hid (runS M (ss.take k) = (N, true)) ∧ Hid (N.count ≤ M.count + k) ∧ Hid (DAt w L i sd q vw2 O2 N) ∧ Hid (Kp O2 L0 L) ∧ wr = Wd w L d) (fun ix _ => m - (intOf ix).toNat)
  case atStart => exact ⟨0, L0, d, M, vw, by omega, rfl, Lib.hid rfl, Lib.hid (by omega), HD0, Lib.hid (Kp.refl _ _), rfl⟩
  case round =>
    clear HD0
    obtain ⟨k, L, d2, N, vw2, hk, rfl, HRUN, HCN, HD, HKP, rfl⟩ := hrel
    by_cases hlt : k < m
    · obtain ⟨v, hv⟩ : ∃ v, vs[k]? = some v := ⟨_, List.getElem?_eq_getElem (by rw [← HX.out, List.length_take]; have := HMX.out; omega)⟩
      obtain ⟨s, hs⟩ : ∃ s, ss[k]? = some s := ⟨_, List.getElem?_eq_getElem (by rw [HSS.out]; exact hlt)⟩
      have hst : StpAt w L O2 i v s := (HST.out.2 k v s hv hs).mono fun p hp hlt => ⟨hp, HKP.out.2 p hp hlt⟩
      have HSN := Lib.hid (runS_snoc M N ss k s hs HRUN.out)
      have hva : X.toArray[k]? = some v := by
        rw [List.getElem?_toArray]
        rw [← HX.out, List.getElem?_take_of_lt hlt] at hv
        exact hv
      have hblk : ∀ d, blk (Wd w L d) (w.heap.size + r) = some (.cells X.toArray T (0, 0)) := fun d => by rw [blk_at, HKP.out.2 r HOB.out.2.2.1 (by rw [HL1.out.1]; have := HOB.out.2.2.2.2; omega)]; exact HLR.out
      have hki : (k : Int) < m := by omega
      have hcn : N.count < 1099511627776 := by have := HCN.out; have := HCM.out; omega
      have hOL : ∀ p, O2 p → p < L.length := fun p hp => Nat.lt_of_lt_of_le (HO2.out p hp) HKP.out.1
      clear hv hs
      cases s with
      | f =>
        obtain rfl : v = .func (.func 18) #[.pointer (some ⟨w.heap.size + i, 0, none⟩)] #[] := hst
        have HCALL := Lib.hid fun d => flush_any w L d i sd q vw2 O2 N HD.out (by omega) hOL
        clear hcn hOL
        go_wp2_with fail
        refine (HCALL.out _).mono ?_
        rintro e w' ⟨rfl, l', d', vw3, rfl, hD2, hK2⟩
        obtain ⟨z, hz⟩ : ∃ z, (Stp.run N (.f)).2 = z := ⟨_, rfl⟩
        obtain ⟨N', hN'⟩ : ∃ N', (Stp.run N (.f)).1 = N' := ⟨_, rfl⟩
        have hz2 : (N.flush).2 = z := hz
        have hD3 : DAt w l' i sd q vw3 O2 N' := by rw [← hN']; exact hD2
        have HC' := Lib.hid (show N'.count ≤ N.count + 1 by rw [← hN']; exact run_count N _)
        have hsn := HSN.out
        rw [hz, hN'] at hsn
        rw [hz2]
        have HSN2 := Lib.hid hsn
        have HD3 := Lib.hid hD3
        have HKP2 := Lib.hid (HKP.out.trans hK2)
        have hbx : l'[l.length]? = some (Obj.cells (hcl (.pointer (some ⟨w.heap.size + i, 0, none⟩)) fi n g (.slice tq tx tc) u) 61 (0, 0)) := by rw [HKP2.out.2 _ HOB.out.1 (by rw [HL1.out.1]; omega)]; exact HLB.out
        have hjb : l'[jo]? = some (.cells (jcl jd ja jn jg jv ju o) 64 (0, 0)) := by rw [HKP2.out.2 _ HOB.out.2.1 (by rw [HL1.out.1]; have := HOB.out.2.2.2.1; omega)]; exact HLJ.out
        clear hD2 hK2 hsn hD3 hN' hz hz2 HCALL HSN hblk hva
        by_cases hz0 : z = 0
        · have HSN1 := Lib.hid (HSN2.out.1 hz0)
          subst hz0
          clear hbx hjb
          go_wp2
          go_roundw
          case rel => exact ⟨k + 1, l', d', N', vw3, by omega, by go_num, HSN1, Lib.hid (by have := HC'.out; have := HCN.out; omega), HD3, HKP2, rfl⟩
          case measure => simp [intOf]; omega
        · have HRUN2 := Lib.hid (HSN2.out.2 hz0)
          have hzi : ¬ (z : Int) = 0 := by omega
          have hzi2 : ((z : Int) != 0) = true := by simpa using hzi
          have hsj : ∀ Y, (l'.set jo Y)[jo]? = some Y := fun Y => set_some hjb
          clear hz0 hzi
          go_wp2
          go_ret
          unfold TurnQ
          rw [HRUN2.out]
          refine ⟨_, _, vw3, rfl, rfl, HD3.out.keep fun p hp hlt => ⟨fun h' => hp (HO1.out p h'), List.getElem?_set_ne (fun e : jo = p => hp (by rw [← e]; exact HOB.out.2.1))⟩, ?_, fun p hp hne => ?_, set_some hjb⟩
          · rw [List.length_set]; have := HKP2.out.1; have := HL1.out.1; omega
          · rw [List.getElem?_set_ne fun e => hne e.symm, HKP2.out.2 p (HO1.out p hp) (by have := HL1.out.1; have := HO.out p hp; omega)]; exact HL1.out.2 p hp
      | w a x =>
        obtain ⟨b1, b2, b3, fi', n', g', u', vt', at', y, _, _, _, rfl, e1, e2, e3, rfl, rfl, h4⟩ := hst
        have HCALL := Lib.hid fun d => wstep_any w L d i sd q vw2 O2 N HD.out hcn hOL b1 b2 b3 fi' n' g' u' vt' at' y e1 e2 e3 h4
        clear hcn hOL e1 e2 e3 h4
        go_wp2_with fail
        refine (HCALL.out _).mono ?_
        rintro e w' ⟨rfl, l', d', vw3, rfl, hD2, hK2⟩
        obtain ⟨z, hz⟩ : ∃ z, (Stp.run N (.w (fi' + at') (bys y))).2 = z := ⟨_, rfl⟩
        obtain ⟨N', hN'⟩ : ∃ N', (Stp.run N (.w (fi' + at') (bys y))).1 = N' := ⟨_, rfl⟩
        have hz2 : (N.write ((fi' + at' : Nat) : Int) (bys y)).2 = z := hz
        have hD3 : DAt w l' i sd q vw3 O2 N' := by rw [← hN']; exact hD2
        have HC' := Lib.hid (show N'.count ≤ N.count + 1 by rw [← hN']; exact run_count N _)
        have hsn := HSN.out
        rw [hz, hN'] at hsn
        rw [hz2]
        have HSN2 := Lib.hid hsn
        have HD3 := Lib.hid hD3
        have HKP2 := Lib.hid (HKP.out.trans hK2)
        have hbx : l'[l.length]? = some (Obj.cells (hcl (.pointer (some ⟨w.heap.size + i, 0, none⟩)) fi n g (.slice tq tx tc) u) 61 (0, 0)) := by rw [HKP2.out.2 _ HOB.out.1 (by rw [HL1.out.1]; omega)]; exact HLB.out
        have hjb : l'[jo]? = some (.cells (jcl jd ja jn jg jv ju o) 64 (0, 0)) := by rw [HKP2.out.2 _ HOB.out.2.1 (by rw [HL1.out.1]; have := HOB.out.2.2.2.1; omega)]; exact HLJ.out
        clear hD2 hK2 hsn hD3 hN' hz hz2 HCALL HSN hblk hva
        by_cases hz0 : z = 0
        · have HSN1 := Lib.hid (HSN2.out.1 hz0)
          subst hz0
          clear hbx hjb
          go_wp2
          go_roundw
          case rel => exact ⟨k + 1, l', d', N', vw3, by omega, by go_num, HSN1, Lib.hid (by have := HC'.out; have := HCN.out; omega), HD3, HKP2, rfl⟩
          case measure => simp [intOf]; omega
        · have HRUN2 := Lib.hid (HSN2.out.2 hz0)
          have hzi : ¬ (z : Int) = 0 := by omega
          have hzi2 : ((z : Int) != 0) = true := by simpa using hzi
          have hsj : ∀ Y, (l'.set jo Y)[jo]? = some Y := fun Y => set_some hjb
          clear hz0 hzi
          go_wp2
          go_ret
          unfold TurnQ
          rw [HRUN2.out]
          refine ⟨_, _, vw3, rfl, rfl, HD3.out.keep fun p hp hlt => ⟨fun h' => hp (HO1.out p h'), List.getElem?_set_ne (fun e : jo = p => hp (by rw [← e]; exact HOB.out.2.1))⟩, ?_, fun p hp hne => ?_, set_some hjb⟩
          · rw [List.length_set]; have := HKP2.out.1; have := HL1.out.1; omega
          · rw [List.getElem?_set_ne fun e => hne e.symm, HKP2.out.2 p (HO1.out p hp) (by have := HL1.out.1; have := HO.out p hp; omega)]; exact HL1.out.2 p hp
    · obtain rfl : k = m := by omega
      have hrun := HRUN.out
      rw [List.take_of_length_le (by rw [HSS.out]; exact Nat.le_refl _)] at hrun
      have HRUN2 := Lib.hid hrun
      have hbx : L[l.length]? = some (Obj.cells (hcl (.pointer (some ⟨w.heap.size + i, 0, none⟩)) fi n g (.slice tq tx tc) u) 61 (0, 0)) := by rw [HKP.out.2 _ HOB.out.1 (by rw [HL1.out.1]; omega)]; exact HLB.out
      have hjb : L[jo]? = some (.cells (jcl jd ja jn jg jv ju o) 64 (0, 0)) := by rw [HKP.out.2 _ HOB.out.2.1 (by rw [HL1.out.1]; have := HOB.out.2.2.2.1; omega)]; exact HLJ.out
      clear hrun
      go_wp2
      go_ret
      unfold TurnQ
      rw [HRUN2.out]
      refine ⟨_, _, vw2, rfl, rfl, HD.out.keep fun p hp hlt => ⟨fun h' => hp (HO1.out p h'), List.getElem?_set_ne (fun e : jo = p => hp (by rw [← e]; exact HOB.out.2.1))⟩, ?_, fun p hp hne => ?_, set_some hjb⟩
      · rw [List.length_set]; have := HKP.out.1; have := HL1.out.1; omega
      · rw [List.getElem?_set_ne fun e => hne e.symm, HKP.out.2 p (HO1.out p hp) (by have := HL1.out.1; have := HO.out p hp; omega)]; exact HL1.out.2 p hp
end Go.Proofs.YtjgfljckmckhcaaDoor
namespace Go.Proofs.YtjgfljckmckhcaaDoor
open Go Go.RowKit Go.Own
def srB (w : World) (B i : Nat) (ss : List Stp) (v : Value) (W : World) : Prop := ∃ vs L d, W = Wd w L d ∧ B ≤ L.length ∧ RowV (fun p => B ≤ p) w L 1 ss.length v vs ∧ Steps w L (fun p => B ≤ p) i vs ss
theorem srB_last (w : World) (B i : Nat) (ss : List Stp) : Lasts (srB w B i ss) := by
  rintro v W W' ⟨vs, L, d, rfl, hb, hr, hs⟩ hB
  obtain ⟨g, d', rfl⟩ := below_grows hB
  exact ⟨vs, L ++ g, d', rfl, by rw [List.length_append]; omega, hr.more g, hs.mono fun p hp hlt => ⟨hp, List.getElem?_append_left hlt⟩⟩
def rrB (w : World) (B i : Nat) (sss : List (List Stp)) (v : Value) (W : World) : Prop :=
  ∃ (b cap : Nat) (X : List Value) (T : TypeId) (css : List (List Value)) (L : List Obj) (d : Nat), W = Wd w L d ∧ B ≤ L.length ∧ B ≤ b ∧ v = .slice (some ⟨w.heap.size + b, 0, none⟩) sss.length cap ∧ L[b]? = some (.cells X.toArray T (0, 0)) ∧ sss.length ≤ X.length ∧ css.length = sss.length ∧
    ∀ (k : Nat) x vs ss, X[k]? = some x → css[k]? = some vs → sss[k]? = some ss → RowV (fun p => B ≤ p) w L 1 vs.length x vs ∧ Steps w L (fun p => B ≤ p) i vs ss
theorem rrB_last (w : World) (B i : Nat) (sss : List (List Stp)) : Lasts (rrB w B i sss) := by
  rintro v W W' ⟨b, cap, X, T, css, L, d, rfl, hb, hb2, hv, hx, hl, hcl, hr⟩ hB
  obtain ⟨g, d', rfl⟩ := below_grows hB
  refine ⟨b, cap, X, T, css, L ++ g, d', rfl, by rw [List.length_append]; omega, hb2, hv, app_some hx, hl, hcl, fun k x vs ss h1 h2 h3 => ?_⟩
  have := hr k x vs ss h1 h2 h3
  exact ⟨this.1.more g, this.2.mono fun p hp hlt => ⟨hp, List.getElem?_append_left hlt⟩⟩
theorem Steps.flatten {w : World} {L : List Obj} {A : Nat → Prop} {i : Nat} : ∀ (css : List (List Value)) (sss : List (List Stp)), css.length = sss.length → (∀ (k : Nat) vs ss, css[k]? = some vs → sss[k]? = some ss → Steps w L A i vs ss) → Steps w L A i css.flatten sss.flatten
  | [], [], _, _ => Steps.nil _ _ _ _
  | vs :: css, ss :: sss, hl, h => by
    rw [List.flatten_cons, List.flatten_cons]
    exact (h 0 vs ss rfl rfl).append (Steps.flatten css sss (by simpa using hl) fun k vs ss h1 h2 => h (k + 1) vs ss h1 h2)
  | [], _ :: _, hl, _ => by cases hl
  | _ :: _, [], hl, _ => by cases hl
theorem below_of (w : World) (L g : List Obj) (d d' : Nat) : Below (Wd w L d).heap.size (Wd w L d) (Wd w (L ++ g) d') := by
  have := (Grows.of (Wd w L d) g d').below
  rwa [Wd_wd] at this
theorem sr_of {w : World} {B i : Nat} {ss : List Stp} {v : Value} {vs : List Value} {L g : List Obj} {d : Nat} (hB : B ≤ L.length) (hr : RowV (fun p => L.length ≤ p) w (L ++ g) 1 vs.length v vs) (hs : Steps w (L ++ g) (fun p => L.length ≤ p) i vs ss) : srB w B i ss v (Wd w (L ++ g) d) :=
  ⟨vs, L ++ g, d, rfl, by rw [List.length_append]; omega, by rw [← hs.1]; exact hr.mono fun p hp _ => ⟨by omega, rfl⟩, hs.mono fun p hp _ => ⟨by omega, rfl⟩⟩
/-- Rows joined. -/
theorem concat_rr (w : World) (W : World) (B i : Nat) (sss : List (List Stp)) (v : Value) (h : rrB w B i sss v W) (hb : sss.flatten.length ≤ 500000) (hn : sss.length ≤ 500000) :
    Calls Tryd.prog 38 #[v] W fun e W' => ∃ v', e = .returned v' ∧ Below W.heap.size W W' ∧ srB w B i sss.flatten v' W' := by
  obtain ⟨b, cap, X, T, css, L, d, rfl, hB, hb2, rfl, hx, hl, hcl, hr⟩ := h
  have hs : Steps w L (fun p => B ≤ p) i css.flatten sss.flatten := Steps.flatten css sss hcl fun k vs ss h1 h2 => by
    have hk := (List.getElem?_eq_some_iff.1 h1).1
    exact (hr k _ vs ss (List.getElem?_eq_getElem (by omega)) h1 h2).2
  refine (concat_any w L d b sss.length cap X T css hx ⟨hcl, hl, fun k x C h1 h2 => ?_⟩ css.flatten.length rfl (by rw [hs.1]; exact hb) hn).mono ?_
  · have hk := (List.getElem?_eq_some_iff.1 h2).1
    have h3 : sss[k]? = some (sss[k]'(by omega)) := List.getElem?_eq_getElem _
    have := hr k x C _ h1 h2 h3
    exact ⟨this.1.mono fun p _ _ => ⟨trivial, rfl⟩, this.2.one⟩
  · rintro e W' ⟨v', g', d', he, rfl, hR⟩
    exact ⟨v', he, below_of _ _ _ _ _, css.flatten, L ++ g', d', rfl, by rw [List.length_append]; omega, by rw [← hs.1]; exact hR.mono fun p hp _ => ⟨by omega, rfl⟩, hs.mono fun p hp hlt => ⟨hp, List.getElem?_append_left hlt⟩⟩
theorem laying_sr (w : World) (hR : Sm.Roots w) (W : World) (L : List Obj) (d : Nat) (hW : W = Wd w L d) (B i fi n g u c : Nat) (hB : B ≤ L.length) (q : Option Addr) (ts : List (List Nat)) (t : ByteArray) (ht : t.size ≤ 65535) (hts : ts.length ≤ 100000) (hfi : fi ≤ 100000) (hu : u ≤ 100000) :
    Calls Tryd.prog 40 #[.agg (hcl (.pointer (some ⟨w.heap.size + i, 0, none⟩)) fi n g (.slice q ts.length c) u), .string t] W fun e W' => ∃ v', e = .returned v' ∧ Below W.heap.size W W' ∧ srB w B i ((⟨fi, n, g, u, ts⟩ : Hf).laying (bys t)) v' W' := by
  subst hW
  refine (laying_any w hR L d i fi n g u c q ts t ht hts hfi hu).mono ?_
  rintro e W' ⟨v, vs, g', d', he, rfl, hr, hs⟩
  exact ⟨v, he, below_of _ _ _ _ _, sr_of hB hr hs⟩
theorem ending_sr (w : World) (W : World) (L : List Obj) (d : Nat) (hW : W = Wd w L d) (B i fi n g u : Nat) (hB : B ≤ L.length) (vt : Value) (hu : u ≤ n) (hn : n ≤ 100000) (hfi : fi ≤ 100000) (ts : List (List Nat)) :
    Calls Tryd.prog 39 #[.agg (hcl (.pointer (some ⟨w.heap.size + i, 0, none⟩)) fi n g vt u)] W fun e W' => ∃ v', e = .returned v' ∧ Below W.heap.size W W' ∧ srB w B i (⟨fi, n, g, u, ts⟩ : Hf).ending v' W' := by
  subst hW
  refine (ending_any w L d i fi n g u vt hu hn hfi ts).mono ?_
  rintro e W' ⟨v, vs, g', d', he, rfl, hr, hs⟩
  exact ⟨v, he, below_of _ _ _ _ _, sr_of hB (by rw [hs.1]; exact hr) hs⟩
set_option maxRecDepth 100000 in
/-- A literal row of two rows. -/
theorem lays_rr2 {dst : Option Tmp} {ty : TypeId} {pos : String} {after : Array Edge} {guard : Option (Nat × Bool)} {x y : Operand} {W : World} {j : Nat} {ps : List (Value → World → Prop)} {a : Act} {w : World} {B i : Nat} {s1 s2 : List Stp}
    (h1 : srB w B i s1 (a.eval x) W) (h2 : srB w B i s2 (a.eval y) W) (hT : ∀ u W, rrB w B i [s1, s2] u W → TL ps j u W) : Lays Tryd.prog (TL ps) j { dst, op := .buildSlice 84 2 #[(0, x), (1, y)], type := ty, pos, after, guard } a W := by
  obtain ⟨v1, L, d, rfl, hb, r1, t1⟩ := h1
  obtain ⟨v2, L', d', e, _, r2, t2⟩ := h2
  obtain rfl := Wd_inj e
  have hbs := bsj842 (RowV.one r1) (RowV.one r2) w L d
  unfold bsN at hbs
  have he : (execOp a.eval { dst, op := .buildSlice 84 2 #[(0, x), (1, y)], type := ty, pos, after, guard }).run Tryd.prog (Wd w L d) = .ok (.value (.slice (some ⟨w.heap.size + L.length, 0, none⟩) 2 2)) (Wd w (L ++ [.cells #[a.eval x, a.eval y] 78 (0, 0)]) d) := by
    unfold execOp
    simp only [List.map_toArray, List.map_cons, List.map_nil, Sem.run_bind, hbs, Result.andThen_ok]
    rfl
  refine lays_value he (below_of _ _ _ _ _) (hT _ _ ⟨L.length, 2, [a.eval x, a.eval y], 78, [v1, v2], _, d, rfl, by rw [List.length_append]; omega, hb, rfl, by simp, Nat.le_refl _, rfl, fun k z vs ss hx hv hs => ?_⟩)
  match k, hx, hv, hs with
  | 0, hx, hv, hs =>
    simp at hx hv hs; subst hx; subst hv; subst hs
    exact ⟨by rw [t1.1]; exact RowV.more r1 _, t1.mono fun p hp hlt => ⟨hp, List.getElem?_append_left hlt⟩⟩
  | 1, hx, hv, hs =>
    simp at hx hv hs; subst hx; subst hv; subst hs
    exact ⟨by rw [t2.1]; exact RowV.more r2 _, t2.mono fun p hp hlt => ⟨hp, List.getElem?_append_left hlt⟩⟩
  | k + 2, hx, _, _ => simp at hx
end Go.Proofs.YtjgfljckmckhcaaDoor

/- The parts of a blob, and Parse: by contract. No condition but the sizes. -/
import Derived.Test.YtfamoakicgmfgaaZ2
import Derived.Laws.ResultCell
namespace Go.Proofs.Ytfamoakicgmfgaa.Lb
open Go.RowKit Go.Own.Lb
open Classical in
/-- A blob's head, and what is sealed. -/
noncomputable def partS (b : ByteArray) : Option (Hd × ByteArray) :=
  if takeS b 2 = markS ∧ rightH (hdR (restS b 2)) = true ∧ 16 ≤ (hdL (restS b 2)).size ∧ (hdL (restS b 2)).size ≤ 1040 then some (hdR (restS b 2), hdL (restS b 2)) else none
def partV (o : Option (Hd × ByteArray)) : Value := match o with
  | some (h, r) => .tuple #[hdV h, .string r, .bool true]
  | none => .tuple #[hdV noHd, .string { data := #[] }, .bool false]
theorem res3 {fn : Func} {p u v : Tmp} {ty : TypeId} (h : fn.results = #[.cell p ty, .tmp u, .tmp v]) (tmps : Array Value) (P : Program) (w : World) (r : Nat) (x y z : Value) (hp : tmps[p]? = some (.pointer (some ⟨r, 0, none⟩))) (hu : tmps[u]? = some y) (hv : tmps[v]? = some z) (hx : (loadVar ty ⟨r, 0, none⟩).run P w = .ok x w) :
    (results fn tmps).run P w = .ok (.tuple #[x, y, z]) w := by
  simp [results, h, asAddr, hp, hu, hv, hx]
theorem mark_list : markS.toList = [75, 49] := by rw [ByteArray.toList_eq]; rfl
theorem below_grown {n B : Nat} {w W W' : World} (h : Below n w W) (g : W.grownBy W' (some B)) (hn : n ≤ w.heap.size) (hB : n ≤ B) : Below n w W' :=
  ⟨g.os.trans h.os, g.tape.trans h.tape, g.output.trans h.output, Nat.le_trans h.size g.size, fun k hk => (g.block k (by have := h.size; omega) (fun e => by have := Option.some.inj e; omega)).trans (h.block k hk)⟩
set_option maxRecDepth 100000 in
set_option maxHeartbeats 2000000 in
theorem parted_any (b : ByteArray) (hs : b.size ≤ 1099511627776) (w : World) :
    Calls Try.prog 14 #[.string b] w fun e w' => e = .returned (partV (partS b)) ∧ Below w.heap.size w w' := by
  obtain ⟨W0, hW0⟩ : ∃ W0, w.alloc (.cells #[.string { data := #[] }, .int .i64 0, .string { data := #[] }] 23) = W0 := ⟨_, rfl⟩
  have hb0 : Below w.heap.size w W0 := hW0 ▸ (Below.refl _ w).alloc (Nat.le_refl _) _
  have hR0 : W0.heap[w.heap.size]? = some (.cells #[.string { data := #[] }, .int .i64 0, .string { data := #[] }] 23 (0, 0)) := hW0 ▸ heap_alloc_new w _
  obtain ⟨W1, hW1⟩ : ∃ W1, W0.alloc (.cells #[.string b] 9) = W1 := ⟨_, rfl⟩
  obtain ⟨B, hBB⟩ : ∃ B, W0.heap.size = B := ⟨_, rfl⟩
  have hne : w.heap.size ≠ B := by rw [← hBB, ← hW0]; simp
  have hB1 : Box W1 B b := hBB ▸ hW1 ▸ heap_alloc_new W0 _
  have hR1 : W1.heap[w.heap.size]? = some (.cells #[.string { data := #[] }, .int .i64 0, .string { data := #[] }] 23 (0, 0)) := hW1 ▸ keep_b ((Below.refl _ W0).alloc (Nat.le_refl _) _) hR0
  have hb1 : Below w.heap.size w W1 := hb0.trans (hW1 ▸ ((Below.refl _ W0).alloc hb0.size _))
  have HTK := Lib.hid (taker_any b W0)
  have HT1 := Lib.hid (take_any B b 2 W1 hB1)
  have HR1 := Lib.hid hR1
  have HB1 := Lib.hid hb1
  have HNE := Lib.hid hne
  have HBL : Hid (w.heap.size ≤ B) := Lib.hid (by have := hb0.size; omega)
  have HW0 := Lib.hid hW0
  have HW1 := Lib.hid hW1
  have HS := Lib.hid hs
  clear hB1 hR1 hb1 hne hW0 hW1 hs hR0 hb0
  by_cases hm : takeS b 2 = markS
  case neg =>
    have hP : partS b = none := if_neg fun h => hm h.1
    have hf : ((takeS b 2).toList == [75, 49]) = false := by
      have h := str_ff hm
      rwa [mark_list] at h
    rw [hP]
    clear hm hP
    obtain ⟨q, hq⟩ : ∃ q, takeS b 2 = q := ⟨_, rfl⟩
    rw [hq] at hf HT1
    clear hq
    go_enter Try.func14, Try.ntmps14
    go_wp2_with fail
    rw [HW0.out]
    go_wp2_with fail
    refine HTK.out.mono ?_
    rintro e w' ⟨rfl, rfl⟩
    rw [HW1.out]
    go_wp2_with fail
    refine HT1.out.mono ?_
    rintro e w1 ⟨rfl, hB1, hG1⟩
    have hR := keep_of hG1 HR1.out HNE.out
    have c0 := cell_of hR 0
    have c1 := cell_of hR 1
    have c2 := cell_of hR 2
    have f0 := free_of hR 0
    have f1 := free_of hR 1
    have f2 := free_of hR 2
    have HR := Lib.hid hR
    clear hR
    go_wp2
    refine bodyPost_ret (v := partV none) (res3 Try.results14 _ _ _ w.heap.size _ _ _ rfl rfl rfl (load3 (set3_at HR.out _ _ _) (by kernel_rfl) (by kernel_rfl))) rfl ⟨rfl, set3_below _ _ _ (Nat.le_refl _) (below_grown HB1.out hG1 (Nat.le_refl _) HBL.out)⟩
  have hf : ((takeS b 2).toList == [75, 49]) = true := by rw [hm, mark_list]; rfl
  have hP : partS b = if rightH (hdR (restS b 2)) = true ∧ 16 ≤ (hdL (restS b 2)).size ∧ (hdL (restS b 2)).size ≤ 1040 then some (hdR (restS b 2), hdL (restS b 2)) else none := by
    unfold partS
    by_cases hz : rightH (hdR (restS b 2)) = true ∧ 16 ≤ (hdL (restS b 2)).size ∧ (hdL (restS b 2)).size ≤ 1040
    · rw [if_pos ⟨hm, hz⟩, if_pos hz]
    · rw [if_neg (fun h => hz h.2), if_neg hz]
  rw [hP]
  clear hm hP
  obtain ⟨q, hq⟩ : ∃ q, takeS b 2 = q := ⟨_, rfl⟩
  rw [hq] at hf HT1
  clear hq
  have hs2 : (restS b 2).size ≤ 1099511627776 := by have := HS.out; rw [restS_size]; omega
  have HRD := Lib.hid fun W h => read_any B (restS b 2) hs2 W h
  obtain ⟨h, hh⟩ : ∃ h, hdR (restS b 2) = h := ⟨_, rfl⟩
  obtain ⟨r, hr⟩ : ∃ r, hdL (restS b 2) = r := ⟨_, rfl⟩
  have hrs : r.size ≤ b.size := by
    rw [← hr]; unfold hdL idL; simp only [restS_size]; omega
  have htk : takeS r b.size = r := by
    unfold takeS; rw [Nat.min_eq_right hrs]; exact ByteArray.extract_zero_size
  have HTR := Lib.hid fun W h => take_any B r b.size W h
  rw [htk] at HTR
  rw [hh, hr] at HRD ⊢
  have HRH := Lib.hid fun W => right_h h W
  obtain ⟨rb, hrb⟩ : ∃ rb, rightH h = rb := ⟨_, rfl⟩
  rw [hrb] at HRH ⊢
  clear htk hh hr hrb hs2
  have HRS : Hid (r.size ≤ b.size) := Lib.hid hrs
  clear hrs
  obtain ⟨i, v, n⟩ := h
  obtain ⟨ANS, hANS⟩ : ∃ A, (if rb = true ∧ 16 ≤ r.size ∧ r.size ≤ 1040 then some (⟨i, v, n⟩, r) else none : Option (Hd × ByteArray)) = A := ⟨_, rfl⟩
  rw [hANS]
  have HANS := Lib.hid hANS
  clear hANS
  unfold hdV at HRD HRH
  simp only at HRD HRH
  go_enter Try.func14, Try.ntmps14
  go_wp2_with fail
  rw [HW0.out]
  go_wp2_with fail
  refine HTK.out.mono ?_
  rintro e w' ⟨rfl, rfl⟩
  rw [HW1.out]
  go_wp2_with fail
  refine HT1.out.mono ?_
  rintro e w1 ⟨rfl, hB1, hG1⟩
  have HR1 := Lib.hid (keep_of hG1 HR1.out HNE.out)
  have HB1 := Lib.hid (below_grown HB1.out hG1 (Nat.le_refl _) HBL.out)
  have HX1 := Lib.hid hB1
  clear hB1 hG1
  go_wp2_with fail
  refine (HRD.out _ HX1.out).mono ?_
  rintro e w2 ⟨rfl, hB2, hG2⟩
  have HR2 := Lib.hid (keep_of hG2 HR1.out HNE.out)
  have HB2 := Lib.hid (below_grown HB1.out hG2 (Nat.le_refl _) HBL.out)
  have HX2 := Lib.hid hB2
  clear hB2 hG2
  go_wp2_with fail
  obtain ⟨W3, hW3⟩ : ∃ W3, w2.alloc (.cells #[.string i, .int .i64 v, .string n] 23) = W3 := ⟨_, rfl⟩
  have hq3 : w2.heap.size ≠ B := fun e => by
    have h9 := (Array.getElem?_eq_some_iff.1 HX2.out).1
    omega
  have HN3 := Lib.hid hq3
  have HP3 : Hid (W3.heap[w2.heap.size]? = some (.cells #[.string i, .int .i64 v, .string n] 23 (0, 0))) := Lib.hid (hW3 ▸ heap_alloc_new w2 _)
  have hA3 : Below w2.heap.size w2 W3 := hW3 ▸ (Below.refl _ w2).alloc (Nat.le_refl _) _
  have HR3 := Lib.hid (keep_b hA3 HR2.out)
  have HX3 : Hid (Box W3 B r) := Lib.hid (keep_b hA3 HX2.out)
  have HB3 := Lib.hid (HB2.out.trans (hA3.mono HB2.out.size))
  have HS3 : Hid (w2.heap.size < W3.heap.size ∧ w.heap.size ≤ w2.heap.size) := Lib.hid ⟨by rw [← hW3]; simp, HB2.out.size⟩
  rw [hW3]
  obtain ⟨b2, hb2⟩ : ∃ b2, w2.heap.size = b2 := ⟨_, rfl⟩
  rw [hb2] at HP3 HS3 HN3 ⊢
  clear hA3 hW3 hb2 hq3
  refine (HTR.out _ HX3.out).mono ?_
  rintro e w4 ⟨rfl, _, hG4⟩
  have HR4 := Lib.hid (keep_of hG4 HR3.out HNE.out)
  have HP4 := Lib.hid (keep_of hG4 HP3.out HN3.out)
  have HB4 := Lib.hid (below_grown HB3.out hG4 (Nat.le_refl _) HBL.out)
  clear hG4
  have c0 := cell_of HP4.out 0
  have c1 := cell_of HP4.out 1
  have c2 := cell_of HP4.out 2
  cases rb with
  | false =>
    have hP : Hid (ANS = none) := Lib.hid (HANS.out.symm.trans (if_neg fun h => by cases h.1))
    go_wp2_with fail
    refine (HRH.out _).mono ?_
    rintro e w5 ⟨rfl, hb5⟩
    have HR5 := Lib.hid (keep_b hb5 HR4.out)
    have HB5 := Lib.hid (HB4.out.trans (hb5.mono HB4.out.size))
    clear hb5 c0 c1 c2
    have c0 := cell_of HR5.out 0
    have c1 := cell_of HR5.out 1
    have c2 := cell_of HR5.out 2
    have f0 := free_of HR5.out 0
    have f1 := free_of HR5.out 1
    have f2 := free_of HR5.out 2
    go_wp2
    exact bodyPost_ret (v := partV none) (res3 Try.results14 _ _ _ w.heap.size _ _ _ rfl rfl rfl (load3 (set3_at HR5.out _ _ _) (by kernel_rfl) (by kernel_rfl))) rfl ⟨by rw [hP.out], set3_below _ _ _ (Nat.le_refl _) HB5.out⟩
  | true =>
    by_cases h16 : r.size < 16
    · have hP : Hid (ANS = none) := Lib.hid (HANS.out.symm.trans (if_neg fun h => by omega))
      have h16i : (r.size : Int) < 16 := by omega
      clear h16
      go_wp2_with fail
      refine (HRH.out _).mono ?_
      rintro e w5 ⟨rfl, hb5⟩
      have HR5 := Lib.hid (keep_b hb5 HR4.out)
      have HB5 := Lib.hid (HB4.out.trans (hb5.mono HB4.out.size))
      clear hb5 c0 c1 c2
      have c0 := cell_of HR5.out 0
      have c1 := cell_of HR5.out 1
      have c2 := cell_of HR5.out 2
      have f0 := free_of HR5.out 0
      have f1 := free_of HR5.out 1
      have f2 := free_of HR5.out 2
      go_wp2
      exact bodyPost_ret (v := partV none) (res3 Try.results14 _ _ _ w.heap.size _ _ _ rfl rfl rfl (load3 (set3_at HR5.out _ _ _) (by kernel_rfl) (by kernel_rfl))) rfl ⟨by rw [hP.out], set3_below _ _ _ (Nat.le_refl _) HB5.out⟩
    · by_cases h1040 : 1040 < r.size
      · have hP : Hid (ANS = none) := Lib.hid (HANS.out.symm.trans (if_neg fun h => by omega))
        have h16i : ¬ (r.size : Int) < 16 := by omega
        have h17i : 1040 < (r.size : Int) := by omega
        clear h16 h1040
        go_wp2_with fail
        refine (HRH.out _).mono ?_
        rintro e w5 ⟨rfl, hb5⟩
        have HR5 := Lib.hid (keep_b hb5 HR4.out)
        have HB5 := Lib.hid (HB4.out.trans (hb5.mono HB4.out.size))
        clear hb5 c0 c1 c2
        have c0 := cell_of HR5.out 0
        have c1 := cell_of HR5.out 1
        have c2 := cell_of HR5.out 2
        have f0 := free_of HR5.out 0
        have f1 := free_of HR5.out 1
        have f2 := free_of HR5.out 2
        go_wp2
        exact bodyPost_ret (v := partV none) (res3 Try.results14 _ _ _ w.heap.size _ _ _ rfl rfl rfl (load3 (set3_at HR5.out _ _ _) (by kernel_rfl) (by kernel_rfl))) rfl ⟨by rw [hP.out], set3_below _ _ _ (Nat.le_refl _) HB5.out⟩
      · have hP : Hid (ANS = some (⟨i, v, n⟩, r)) := Lib.hid (HANS.out.symm.trans (if_pos ⟨rfl, by omega, by omega⟩))
        have h16i : ¬ (r.size : Int) < 16 := by omega
        have h17i : ¬ 1040 < (r.size : Int) := by omega
        clear h16 h1040
        go_wp2_with fail
        refine (HRH.out _).mono ?_
        rintro e w5 ⟨rfl, hb5⟩
        have HR5 := Lib.hid (keep_b hb5 HR4.out)
        have HP5 := Lib.hid (keep_b hb5 HP4.out)
        have HB5 := Lib.hid (HB4.out.trans (hb5.mono HB4.out.size))
        clear hb5 c0 c1 c2
        have c0 := cell_of HR5.out 0
        have c1 := cell_of HR5.out 1
        have c2 := cell_of HR5.out 2
        have f0 := free_of HR5.out 0
        have f1 := free_of HR5.out 1
        have f2 := free_of HR5.out 2
        have d0 := cell_of HP5.out 0
        have d1 := cell_of HP5.out 1
        have d2 := cell_of HP5.out 2
        go_wp2
        exact bodyPost_ret (v := partV (some (⟨i, v, n⟩, r))) (res3 Try.results14 _ _ _ w.heap.size _ _ _ rfl rfl rfl (load3 (set3_at HR5.out _ _ _) (by kernel_rfl) (by kernel_rfl))) rfl ⟨by rw [hP.out], set3_below _ _ _ (Nat.le_refl _) HB5.out⟩
end Go.Proofs.Ytfamoakicgmfgaa.Lb

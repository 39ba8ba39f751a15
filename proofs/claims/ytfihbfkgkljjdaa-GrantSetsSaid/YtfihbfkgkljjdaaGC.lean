/- Is a grant narrower than another one? The program's Narrower and the document's, by contract. No condition but the sizes. -/
import Derived.Test.YtfihbfkgkljjdaaGB
namespace Go.Proofs.Ytfihbfkgkljjdaa
open Go.RowKit Go.Own Go.Maps Go.WideMaps
/-- Are all operations of one set another one's? -/
def setB (a b : Int) : Bool := bits .andNot .i64 a b == 0
def bv (x : Int) : BitVec 64 := BitVec.ofInt 64 x
def bw (X : BitVec 64) : Int := IntKind.i64.wrap (X.toNat : Int)
theorem bw_eq (X : BitVec 64) : bw X = if X.toNat < 9223372036854775808 then (X.toNat : Int) else (X.toNat : Int) - 18446744073709551616 := by
  have hX := X.isLt
  unfold bw
  simp [IntKind.wrap, IntKind.bits, IntKind.signed]
  split <;> split <;> omega
theorem bw_inj {X Y : BitVec 64} (h : bw X = bw Y) : X = Y := by
  have hX := X.isLt
  have hY := Y.isLt
  rw [bw_eq, bw_eq] at h
  apply BitVec.eq_of_toNat_eq
  split at h <;> split at h <;> omega
theorem bw_bv (x : Int) (h0 : 0 ≤ x) (h : x < 9223372036854775808) : bw (bv x) = x := by
  have e : (bv x).toNat = x.toNat := by unfold bv; rw [BitVec.toNat_ofInt]; omega
  rw [bw_eq, e]
  split <;> omega
theorem bits_and_bv (x y : Int) : bits .and .i64 x y = bw (bv x &&& bv y) := rfl
theorem bits_or_bv (x y : Int) : bits .or .i64 x y = bw (bv x ||| bv y) := rfl
theorem bits_not_bv (x y : Int) : bits .andNot .i64 x y = bw (bv x &&& ~~~ bv y) := rfl
theorem or_iff (A B : BitVec 64) : A ||| B = B ↔ A &&& ~~~ B = 0#64 := by
  constructor
  · intro h
    apply BitVec.eq_of_getLsbD_eq
    intro i hi
    have := congrArg (fun X => X.getLsbD i) h
    simp only [BitVec.getLsbD_or, BitVec.getLsbD_and, BitVec.getLsbD_not, BitVec.getLsbD_zero, hi, decide_true, Bool.true_and] at this ⊢
    revert this; cases A.getLsbD i <;> cases B.getLsbD i <;> simp
  · intro h
    apply BitVec.eq_of_getLsbD_eq
    intro i hi
    have := congrArg (fun X => X.getLsbD i) h
    simp only [BitVec.getLsbD_or, BitVec.getLsbD_and, BitVec.getLsbD_not, BitVec.getLsbD_zero, hi, decide_true, Bool.true_and] at this ⊢
    revert this; cases A.getLsbD i <;> cases B.getLsbD i <;> simp
theorem bw_zero : bw 0#64 = 0 := by decide
theorem setB_iff (a b : Int) : setB a b = true ↔ bv a &&& ~~~ bv b = 0#64 := by
  unfold setB
  rw [beq_iff_eq, bits_not_bv, ← bw_zero]
  exact ⟨bw_inj, fun h => by rw [h]⟩
theorem or_set (a b : Int) (_ha : 0 ≤ a ∧ a < 256) (hb : 0 ≤ b ∧ b < 256) : (bits .or .i64 a b == b) = setB a b := by
  rw [Bool.eq_iff_iff, setB_iff, beq_iff_eq, bits_or_bv, ← or_iff]
  exact ⟨fun h => bw_inj (h.trans (bw_bv b hb.1 (by omega)).symm), fun h => by rw [h]; exact bw_bv b hb.1 (by omega)⟩
noncomputable def narrowB (a b : Gr) : Bool := a.right && b.right && setB a.ops b.ops && takesB b a.need && (a.eq || !b.eq)
theorem narrow_doc_eq (a b : Gr) (ha : a.right = true) (hb : b.right = true) (hs : setB a.ops b.ops = true) :
    narrowB a b = (if b.eq = true then a.eq && eqB a.need b.need else subB b.need a.need) := by
  unfold narrowB takesB
  rw [ha, hb, hs, eqB_both, eqB_both]
  cases a.eq <;> cases b.eq <;> simp [Bool.and_comm]
theorem eq_false_of {x : Int} {b : Bool} (h : (x == 0) = b) : decide (x = 0) = b := by rw [← h]; rfl
theorem of_beq_ne {x y : Int} (h : (x == y) = false) : ¬ x = y := by simpa using h
theorem of_beq_eq {x y : Int} (h : (x == y) = true) : x = y := by simpa using h
set_option maxRecDepth 100000 in
set_option maxHeartbeats 4000000 in
theorem narrower_any (a b : Gr) (hsa : a.small) (hsb : b.small) (va vb : Value) (w : World) (hga : GrAt w va a) (hgb : GrAt w vb b) :
    Calls Try.prog 13 #[va, vb] w fun e w' => e = .returned (.bool (narrowB a b)) ∧ Below w.heap.size w w' := by
  have HR := Lib.hid (fun W h => right_grant a hsa va W h)
  have HS := Lib.hid (fun W h => right_grant b hsb vb W h)
  have HG := Lib.hid hga
  have HK := Lib.hid hgb
  have HT := Lib.hid (fun W c (hc : fitsL c) q qcap h1 h2 => takes_any b hsb vb c hc q qcap W h1 h2)
  obtain ⟨p, cap, rfl, hP⟩ := hga
  obtain ⟨q, dap, rfl, hQ⟩ := hgb
  have HP := Lib.hid hP
  replace HT : Hid (∀ W, GrAt W (grV b q dap) b → PsC W (.slice p a.need.length cap) a.need → Calls Try.prog 24 #[grV b q dap, .slice p a.need.length cap] W fun e w' => e = .returned (.bool (takesB b a.need)) ∧ Below W.heap.size W w') := Lib.hid (fun W h1 h2 => HT.out W a.need hsa.2.2 p cap h1 h2)
  unfold narrowB
  obtain ⟨r1, h1⟩ : ∃ x, a.right = x := ⟨_, rfl⟩
  obtain ⟨r2, h2⟩ : ∃ x, b.right = x := ⟨_, rfl⟩
  obtain ⟨r4, h4⟩ : ∃ x, takesB b a.need = x := ⟨_, rfl⟩
  rw [h1] at HR ⊢
  rw [h2] at HS ⊢
  rw [h4] at HT ⊢
  clear h1 h2 h4
  obtain ⟨ia, wa, ra, oa, na, ea⟩ := a
  obtain ⟨ib, wb, rb, ob, nb, eb⟩ := b
  simp only [grV] at HR HS HG HK HT HP ⊢
  obtain ⟨n, hn⟩ : ∃ n, na.length = n := ⟨_, rfl⟩
  obtain ⟨m, hm⟩ : ∃ n, nb.length = n := ⟨_, rfl⟩
  have HB := Lib.hid ((Bx.new w ⟨ia, wa, ra, oa, na, ea⟩ (.slice p na.length cap) 29).below ((Below.refl _ _).alloc (Nat.le_refl _) (.cells #[.int .i64 ib, .string wb, .string rb, .int .i64 ob, .slice q nb.length dap, .bool eb] 29)))
  have HC := Lib.hid (Bx.new (w.alloc (.cells #[.int .i64 ia, .string wa, .string ra, .int .i64 oa, .slice p na.length cap, .bool ea] 29)) ⟨ib, wb, rb, ob, nb, eb⟩ (.slice q nb.length dap) 29)
  rw [World.size_alloc] at HC
  simp only [hn, hm] at HR HS HG HK HT HP HB HC ⊢
  have hb : Hid (∀ o o2 : Obj, Below w.heap.size w ((w.alloc o).alloc o2)) := Lib.hid (fun o o2 => ((Below.refl w.heap.size w).alloc (Nat.le_refl _) o).alloc (by simp) o2)
  clear hsa hsb hn hm hP hQ
  obtain ⟨r3, h3⟩ : ∃ x, setB oa ob = x := ⟨_, rfl⟩
  simp only [h3]
  have hset : (bits .andNot .i64 oa ob == 0) = r3 := h3
  clear h3
  cases r1
  ·
    go_enter Try.func13, Try.ntmps13
    go_wp2_with fail
    refine (HR.out _ (HG.out.below (hb.out _ _))).mono ?_
    rintro e w1 ⟨rfl, hc⟩
    replace hc := Lib.hid ((hb.out _ _).trans (hc.mono (hb.out _ _).size))
    go_wp2
    go_ret
    exact ⟨by simp, hc.out⟩
  cases r2
  ·
    go_enter Try.func13, Try.ntmps13
    go_wp2_with fail
    refine (HR.out _ (HG.out.below (hb.out _ _))).mono ?_
    rintro e w1 ⟨rfl, hc⟩
    replace HB := Lib.hid (HB.out.below hc)
    replace HC := Lib.hid (HC.out.below hc)
    replace hc := Lib.hid ((hb.out _ _).trans (hc.mono (hb.out _ _).size))
    obtain ⟨c0, c1, c2, c3, c4, c5⟩ := HB.out
    obtain ⟨d0, d1, d2, d3, d4, d5⟩ := HC.out
    dsimp only at c0 c1 c2 c3 c4 c5 d0 d1 d2 d3 d4 d5
    go_wp2_with fail
    refine (HS.out _ (HK.out.below hc.out)).mono ?_
    rintro e w2 ⟨rfl, hd⟩
    clear c0 c1 c2 c3 c4 c5 d0 d1 d2 d3 d4 d5
    replace HB := Lib.hid (HB.out.below hd)
    replace HC := Lib.hid (HC.out.below hd)
    replace hc := Lib.hid (hc.out.trans (hd.mono hc.out.size))
    clear hd
    obtain ⟨c0, c1, c2, c3, c4, c5⟩ := HB.out
    obtain ⟨d0, d1, d2, d3, d4, d5⟩ := HC.out
    dsimp only at c0 c1 c2 c3 c4 c5 d0 d1 d2 d3 d4 d5
    go_wp2
    go_ret
    exact ⟨by simp, hc.out⟩
  cases r3
  ·
    have hset2 := of_beq_ne hset
    go_enter Try.func13, Try.ntmps13
    go_wp2_with fail
    refine (HR.out _ (HG.out.below (hb.out _ _))).mono ?_
    rintro e w1 ⟨rfl, hc⟩
    replace HB := Lib.hid (HB.out.below hc)
    replace HC := Lib.hid (HC.out.below hc)
    replace hc := Lib.hid ((hb.out _ _).trans (hc.mono (hb.out _ _).size))
    obtain ⟨c0, c1, c2, c3, c4, c5⟩ := HB.out
    obtain ⟨d0, d1, d2, d3, d4, d5⟩ := HC.out
    dsimp only at c0 c1 c2 c3 c4 c5 d0 d1 d2 d3 d4 d5
    go_wp2_with fail
    refine (HS.out _ (HK.out.below hc.out)).mono ?_
    rintro e w2 ⟨rfl, hd⟩
    clear c0 c1 c2 c3 c4 c5 d0 d1 d2 d3 d4 d5
    replace HB := Lib.hid (HB.out.below hd)
    replace HC := Lib.hid (HC.out.below hd)
    replace hc := Lib.hid (hc.out.trans (hd.mono hc.out.size))
    clear hd
    obtain ⟨c0, c1, c2, c3, c4, c5⟩ := HB.out
    obtain ⟨d0, d1, d2, d3, d4, d5⟩ := HC.out
    dsimp only at c0 c1 c2 c3 c4 c5 d0 d1 d2 d3 d4 d5
    go_wp2
    go_ret
    exact ⟨by simp, hc.out⟩
  have hset2 := of_beq_eq hset
  cases r4
  ·
    go_enter Try.func13, Try.ntmps13
    go_wp2_with fail
    refine (HR.out _ (HG.out.below (hb.out _ _))).mono ?_
    rintro e w1 ⟨rfl, hc⟩
    replace HB := Lib.hid (HB.out.below hc)
    replace HC := Lib.hid (HC.out.below hc)
    replace hc := Lib.hid ((hb.out _ _).trans (hc.mono (hb.out _ _).size))
    obtain ⟨c0, c1, c2, c3, c4, c5⟩ := HB.out
    obtain ⟨d0, d1, d2, d3, d4, d5⟩ := HC.out
    dsimp only at c0 c1 c2 c3 c4 c5 d0 d1 d2 d3 d4 d5
    go_wp2_with fail
    refine (HS.out _ (HK.out.below hc.out)).mono ?_
    rintro e w2 ⟨rfl, hd⟩
    clear c0 c1 c2 c3 c4 c5 d0 d1 d2 d3 d4 d5
    replace HB := Lib.hid (HB.out.below hd)
    replace HC := Lib.hid (HC.out.below hd)
    replace hc := Lib.hid (hc.out.trans (hd.mono hc.out.size))
    clear hd
    obtain ⟨c0, c1, c2, c3, c4, c5⟩ := HB.out
    obtain ⟨d0, d1, d2, d3, d4, d5⟩ := HC.out
    dsimp only at c0 c1 c2 c3 c4 c5 d0 d1 d2 d3 d4 d5
    go_wp2_with fail
    refine (HT.out _ (HK.out.below hc.out) (HP.out.below hc.out)).mono ?_
    rintro e w3 ⟨rfl, hd⟩
    clear c0 c1 c2 c3 c4 c5 d0 d1 d2 d3 d4 d5
    replace HB := Lib.hid (HB.out.below hd)
    replace HC := Lib.hid (HC.out.below hd)
    replace hc := Lib.hid (hc.out.trans (hd.mono hc.out.size))
    clear hd
    obtain ⟨c0, c1, c2, c3, c4, c5⟩ := HB.out
    obtain ⟨d0, d1, d2, d3, d4, d5⟩ := HC.out
    dsimp only at c0 c1 c2 c3 c4 c5 d0 d1 d2 d3 d4 d5
    go_wp2
    go_ret
    exact ⟨by simp, hc.out⟩
  cases ea <;> cases eb
  all_goals
    go_enter Try.func13, Try.ntmps13
    go_wp2_with fail
    refine (HR.out _ (HG.out.below (hb.out _ _))).mono ?_
    rintro e w1 ⟨rfl, hc⟩
    replace HB := Lib.hid (HB.out.below hc)
    replace HC := Lib.hid (HC.out.below hc)
    replace hc := Lib.hid ((hb.out _ _).trans (hc.mono (hb.out _ _).size))
    obtain ⟨c0, c1, c2, c3, c4, c5⟩ := HB.out
    obtain ⟨d0, d1, d2, d3, d4, d5⟩ := HC.out
    dsimp only at c0 c1 c2 c3 c4 c5 d0 d1 d2 d3 d4 d5
    go_wp2_with fail
    refine (HS.out _ (HK.out.below hc.out)).mono ?_
    rintro e w2 ⟨rfl, hd⟩
    clear c0 c1 c2 c3 c4 c5 d0 d1 d2 d3 d4 d5
    replace HB := Lib.hid (HB.out.below hd)
    replace HC := Lib.hid (HC.out.below hd)
    replace hc := Lib.hid (hc.out.trans (hd.mono hc.out.size))
    clear hd
    obtain ⟨c0, c1, c2, c3, c4, c5⟩ := HB.out
    obtain ⟨d0, d1, d2, d3, d4, d5⟩ := HC.out
    dsimp only at c0 c1 c2 c3 c4 c5 d0 d1 d2 d3 d4 d5
    go_wp2_with fail
    refine (HT.out _ (HK.out.below hc.out) (HP.out.below hc.out)).mono ?_
    rintro e w3 ⟨rfl, hd⟩
    clear c0 c1 c2 c3 c4 c5 d0 d1 d2 d3 d4 d5
    replace HB := Lib.hid (HB.out.below hd)
    replace HC := Lib.hid (HC.out.below hd)
    replace hc := Lib.hid (hc.out.trans (hd.mono hc.out.size))
    clear hd
    obtain ⟨c0, c1, c2, c3, c4, c5⟩ := HB.out
    obtain ⟨d0, d1, d2, d3, d4, d5⟩ := HC.out
    dsimp only at c0 c1 c2 c3 c4 c5 d0 d1 d2 d3 d4 d5
    go_wp2
    go_ret
    exact ⟨by simp, hc.out⟩
set_option maxRecDepth 100000 in
set_option maxHeartbeats 4000000 in
theorem narrower_doc (a b : Gr) (hsa : a.small) (hsb : b.small) (va vb : Value) (w : World) (hga : GrAt w va a) (hgb : GrAt w vb b) :
    Calls Try.prog 14 #[va, vb] w fun e w' => e = .returned (.bool (narrowB a b)) ∧ Below w.heap.size w w' := by
  have HR := Lib.hid (fun W h => right_doc a hsa va W h)
  have HS := Lib.hid (fun W h => right_doc b hsb vb W h)
  have HG := Lib.hid hga
  have HK := Lib.hid hgb
  have HT := Lib.hid (fun W p cap q dap h1 h2 => equal_doc a.need hsa.2.2 p cap b.need hsb.2.2 q dap W h1 h2)
  have HU := Lib.hid (fun W p cap q dap h1 h2 => refSubset_any b.need q dap hsb.2.2.1 hsb.2.2.2 a.need p cap hsa.2.2.1 hsa.2.2.2 W h1 h2)
  have HN : Hid (∀ x y, a.right = x → b.right = y → (x && y) = false → narrowB a b = false) := Lib.hid (fun x y hx hy h => by unfold narrowB; rw [hx, hy, h]; simp)
  have HN2 : Hid (a.right = true → b.right = true → setB a.ops b.ops = false → narrowB a b = false) := Lib.hid (fun hx hy h => by unfold narrowB; rw [hx, hy, h]; simp)
  have HN3 := Lib.hid (narrow_doc_eq a b)
  have HO := Lib.hid (fun h1 h2 => or_set a.ops b.ops (right_ops (g := a) h1) (right_ops (g := b) h2))
  obtain ⟨nar, hnar⟩ : ∃ x, narrowB a b = x := ⟨_, rfl⟩
  rw [hnar] at HN HN2 HN3 ⊢
  clear hnar
  obtain ⟨p, cap, rfl, hP⟩ := hga
  obtain ⟨q, dap, rfl, hQ⟩ := hgb
  have HP := Lib.hid hP
  have HQ := Lib.hid hQ
  replace HT := Lib.hid (fun W h1 h2 => HT.out W p cap q dap h1 h2)
  replace HU := Lib.hid (fun W h1 h2 => HU.out W p cap q dap h1 h2)
  obtain ⟨r1, h1⟩ : ∃ x, a.right = x := ⟨_, rfl⟩
  obtain ⟨r2, h2⟩ : ∃ x, b.right = x := ⟨_, rfl⟩
  obtain ⟨r4, h4⟩ : ∃ x, eqB a.need b.need = x := ⟨_, rfl⟩
  obtain ⟨r5, h5⟩ : ∃ x, subB b.need a.need = x := ⟨_, rfl⟩
  simp only [h1, h4, h5] at HR HT HU HN HN2 HN3 HO
  simp only [h2] at HS HN HN2 HN3 HO
  clear h1 h2 h4 h5
  obtain ⟨ia, wa, ra, oa, na, ea⟩ := a
  obtain ⟨ib, wb, rb, ob, nb, eb⟩ := b
  simp only [grV] at HR HS HG HK HT HU HP HQ HN HN2 HN3 HO ⊢
  obtain ⟨n, hn⟩ : ∃ n, na.length = n := ⟨_, rfl⟩
  obtain ⟨m, hm⟩ : ∃ n, nb.length = n := ⟨_, rfl⟩
  have HB := Lib.hid ((Bx.new w ⟨ia, wa, ra, oa, na, ea⟩ (.slice p na.length cap) 30).below ((Below.refl _ _).alloc (Nat.le_refl _) (.cells #[.int .i64 ib, .string wb, .string rb, .int .i64 ob, .slice q nb.length dap, .bool eb] 30)))
  have HC := Lib.hid (Bx.new (w.alloc (.cells #[.int .i64 ia, .string wa, .string ra, .int .i64 oa, .slice p na.length cap, .bool ea] 30)) ⟨ib, wb, rb, ob, nb, eb⟩ (.slice q nb.length dap) 30)
  rw [World.size_alloc] at HC
  simp only [hn, hm] at HR HS HG HK HT HU HP HQ HN HN2 HN3 HO HB HC ⊢
  have hb : Hid (∀ o o2 : Obj, Below w.heap.size w ((w.alloc o).alloc o2)) := Lib.hid (fun o o2 => ((Below.refl w.heap.size w).alloc (Nat.le_refl _) o).alloc (by simp) o2)
  clear hsa hsb hn hm hP hQ
  obtain ⟨r3, h3⟩ : ∃ x, setB oa ob = x := ⟨_, rfl⟩
  simp only [h3] at HN HN2 HN3 HO
  clear h3
  cases r1
  ·
    obtain rfl : nar = false := HN.out false r2 rfl rfl (by simp)
    go_enter Try.func14, Try.ntmps14
    go_wp2_with fail
    refine (HR.out _ (HG.out.below (hb.out _ _))).mono ?_
    rintro e w1 ⟨rfl, hc⟩
    replace hc := Lib.hid ((hb.out _ _).trans (hc.mono (hb.out _ _).size))
    go_wp2
    go_ret
    exact ⟨rfl, hc.out⟩
  cases r2
  ·
    obtain rfl : nar = false := HN.out true false rfl rfl (by simp)
    go_enter Try.func14, Try.ntmps14
    go_wp2_with fail
    refine (HR.out _ (HG.out.below (hb.out _ _))).mono ?_
    rintro e w1 ⟨rfl, hc⟩
    replace HB := Lib.hid (HB.out.below hc)
    replace HC := Lib.hid (HC.out.below hc)
    replace hc := Lib.hid ((hb.out _ _).trans (hc.mono (hb.out _ _).size))
    obtain ⟨c0, c1, c2, c3, c4, c5⟩ := HB.out
    obtain ⟨d0, d1, d2, d3, d4, d5⟩ := HC.out
    dsimp only at c0 c1 c2 c3 c4 c5 d0 d1 d2 d3 d4 d5
    go_wp2_with fail
    refine (HS.out _ (HK.out.below hc.out)).mono ?_
    rintro e w2 ⟨rfl, hd⟩
    clear c0 c1 c2 c3 c4 c5 d0 d1 d2 d3 d4 d5
    replace HB := Lib.hid (HB.out.below hd)
    replace HC := Lib.hid (HC.out.below hd)
    replace hc := Lib.hid (hc.out.trans (hd.mono hc.out.size))
    clear hd
    obtain ⟨c0, c1, c2, c3, c4, c5⟩ := HB.out
    obtain ⟨d0, d1, d2, d3, d4, d5⟩ := HC.out
    dsimp only at c0 c1 c2 c3 c4 c5 d0 d1 d2 d3 d4 d5
    go_wp2
    go_ret
    exact ⟨rfl, hc.out⟩
  have hor := HO.out rfl rfl
  cases r3
  ·
    obtain rfl : nar = false := HN2.out rfl rfl rfl
    have hset2 := of_beq_ne hor
    go_enter Try.func14, Try.ntmps14
    go_wp2_with fail
    refine (HR.out _ (HG.out.below (hb.out _ _))).mono ?_
    rintro e w1 ⟨rfl, hc⟩
    replace HB := Lib.hid (HB.out.below hc)
    replace HC := Lib.hid (HC.out.below hc)
    replace hc := Lib.hid ((hb.out _ _).trans (hc.mono (hb.out _ _).size))
    obtain ⟨c0, c1, c2, c3, c4, c5⟩ := HB.out
    obtain ⟨d0, d1, d2, d3, d4, d5⟩ := HC.out
    dsimp only at c0 c1 c2 c3 c4 c5 d0 d1 d2 d3 d4 d5
    go_wp2_with fail
    refine (HS.out _ (HK.out.below hc.out)).mono ?_
    rintro e w2 ⟨rfl, hd⟩
    clear c0 c1 c2 c3 c4 c5 d0 d1 d2 d3 d4 d5
    replace HB := Lib.hid (HB.out.below hd)
    replace HC := Lib.hid (HC.out.below hd)
    replace hc := Lib.hid (hc.out.trans (hd.mono hc.out.size))
    clear hd
    obtain ⟨c0, c1, c2, c3, c4, c5⟩ := HB.out
    obtain ⟨d0, d1, d2, d3, d4, d5⟩ := HC.out
    dsimp only at c0 c1 c2 c3 c4 c5 d0 d1 d2 d3 d4 d5
    go_wp2
    go_ret
    exact ⟨rfl, hc.out⟩
  have hset2 := of_beq_eq hor
  have hnar := HN3.out rfl rfl rfl
  cases eb
  ·
    simp only [Bool.false_eq_true, if_false] at hnar
    subst hnar
    go_enter Try.func14, Try.ntmps14
    go_wp2_with fail
    refine (HR.out _ (HG.out.below (hb.out _ _))).mono ?_
    rintro e w1 ⟨rfl, hc⟩
    replace HB := Lib.hid (HB.out.below hc)
    replace HC := Lib.hid (HC.out.below hc)
    replace hc := Lib.hid ((hb.out _ _).trans (hc.mono (hb.out _ _).size))
    obtain ⟨c0, c1, c2, c3, c4, c5⟩ := HB.out
    obtain ⟨d0, d1, d2, d3, d4, d5⟩ := HC.out
    dsimp only at c0 c1 c2 c3 c4 c5 d0 d1 d2 d3 d4 d5
    go_wp2_with fail
    refine (HS.out _ (HK.out.below hc.out)).mono ?_
    rintro e w2 ⟨rfl, hd⟩
    clear c0 c1 c2 c3 c4 c5 d0 d1 d2 d3 d4 d5
    replace HB := Lib.hid (HB.out.below hd)
    replace HC := Lib.hid (HC.out.below hd)
    replace hc := Lib.hid (hc.out.trans (hd.mono hc.out.size))
    clear hd
    obtain ⟨c0, c1, c2, c3, c4, c5⟩ := HB.out
    obtain ⟨d0, d1, d2, d3, d4, d5⟩ := HC.out
    dsimp only at c0 c1 c2 c3 c4 c5 d0 d1 d2 d3 d4 d5
    go_wp2_with fail
    refine (HU.out _ (HQ.out.below hc.out) (HP.out.below hc.out)).mono ?_
    rintro e w3 ⟨rfl, hd⟩
    clear c0 c1 c2 c3 c4 c5 d0 d1 d2 d3 d4 d5
    replace HB := Lib.hid (HB.out.below hd)
    replace HC := Lib.hid (HC.out.below hd)
    replace hc := Lib.hid (hc.out.trans (hd.mono hc.out.size))
    clear hd
    obtain ⟨c0, c1, c2, c3, c4, c5⟩ := HB.out
    obtain ⟨d0, d1, d2, d3, d4, d5⟩ := HC.out
    dsimp only at c0 c1 c2 c3 c4 c5 d0 d1 d2 d3 d4 d5
    go_wp2
    go_ret
    exact ⟨rfl, hc.out⟩
  cases ea
  ·
    simp only [if_true, Bool.false_and] at hnar
    subst hnar
    go_enter Try.func14, Try.ntmps14
    go_wp2_with fail
    refine (HR.out _ (HG.out.below (hb.out _ _))).mono ?_
    rintro e w1 ⟨rfl, hc⟩
    replace HB := Lib.hid (HB.out.below hc)
    replace HC := Lib.hid (HC.out.below hc)
    replace hc := Lib.hid ((hb.out _ _).trans (hc.mono (hb.out _ _).size))
    obtain ⟨c0, c1, c2, c3, c4, c5⟩ := HB.out
    obtain ⟨d0, d1, d2, d3, d4, d5⟩ := HC.out
    dsimp only at c0 c1 c2 c3 c4 c5 d0 d1 d2 d3 d4 d5
    go_wp2_with fail
    refine (HS.out _ (HK.out.below hc.out)).mono ?_
    rintro e w2 ⟨rfl, hd⟩
    clear c0 c1 c2 c3 c4 c5 d0 d1 d2 d3 d4 d5
    replace HB := Lib.hid (HB.out.below hd)
    replace HC := Lib.hid (HC.out.below hd)
    replace hc := Lib.hid (hc.out.trans (hd.mono hc.out.size))
    clear hd
    obtain ⟨c0, c1, c2, c3, c4, c5⟩ := HB.out
    obtain ⟨d0, d1, d2, d3, d4, d5⟩ := HC.out
    dsimp only at c0 c1 c2 c3 c4 c5 d0 d1 d2 d3 d4 d5
    go_wp2
    go_ret
    exact ⟨rfl, hc.out⟩
  ·
    simp only [if_true, Bool.true_and] at hnar
    subst hnar
    go_enter Try.func14, Try.ntmps14
    go_wp2_with fail
    refine (HR.out _ (HG.out.below (hb.out _ _))).mono ?_
    rintro e w1 ⟨rfl, hc⟩
    replace HB := Lib.hid (HB.out.below hc)
    replace HC := Lib.hid (HC.out.below hc)
    replace hc := Lib.hid ((hb.out _ _).trans (hc.mono (hb.out _ _).size))
    obtain ⟨c0, c1, c2, c3, c4, c5⟩ := HB.out
    obtain ⟨d0, d1, d2, d3, d4, d5⟩ := HC.out
    dsimp only at c0 c1 c2 c3 c4 c5 d0 d1 d2 d3 d4 d5
    go_wp2_with fail
    refine (HS.out _ (HK.out.below hc.out)).mono ?_
    rintro e w2 ⟨rfl, hd⟩
    clear c0 c1 c2 c3 c4 c5 d0 d1 d2 d3 d4 d5
    replace HB := Lib.hid (HB.out.below hd)
    replace HC := Lib.hid (HC.out.below hd)
    replace hc := Lib.hid (hc.out.trans (hd.mono hc.out.size))
    clear hd
    obtain ⟨c0, c1, c2, c3, c4, c5⟩ := HB.out
    obtain ⟨d0, d1, d2, d3, d4, d5⟩ := HC.out
    dsimp only at c0 c1 c2 c3 c4 c5 d0 d1 d2 d3 d4 d5
    go_wp2_with fail
    refine (HT.out _ (HP.out.below hc.out) (HQ.out.below hc.out)).mono ?_
    rintro e w3 ⟨rfl, hd⟩
    clear c0 c1 c2 c3 c4 c5 d0 d1 d2 d3 d4 d5
    replace HB := Lib.hid (HB.out.below hd)
    replace HC := Lib.hid (HC.out.below hd)
    replace hc := Lib.hid (hc.out.trans (hd.mono hc.out.size))
    clear hd
    obtain ⟨c0, c1, c2, c3, c4, c5⟩ := HB.out
    obtain ⟨d0, d1, d2, d3, d4, d5⟩ := HC.out
    dsimp only at c0 c1 c2 c3 c4 c5 d0 d1 d2 d3 d4 d5
    go_wp2
    go_ret
    exact ⟨rfl, hc.out⟩
end Go.Proofs.Ytfihbfkgkljjdaa

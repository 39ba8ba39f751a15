/- GrantNarrower's own walk. -/
import Derived.Test.YtfihbfkgkljjdaaGI
import Derived.Test.YtfihbfkgkljjdaaGP
import Derived.Test.YtfihbfkgkljjdaaO2
namespace Go.Proofs.Ytfihbfkgkljjdaa
open Go.RowKit Go.Own Go.Maps Go.WideMaps
/-- A grant's six cells. -/
def gc (g : Gr) (s : Value) : Array Value := #[.int .i64 g.id, .string g.who, .string g.ret, .int .i64 g.ops, s, .bool g.eq]
/-- Three grants in blocks of the call's own. -/
structure S3 (w W : World) (a b c : Gr) (sa sb sc : Value) : Prop where
  xa : Bx W w.heap.size a sa
  xb : Bx W (w.heap.size + 1) b sb
  xc : Bx W (w.heap.size + 1 + 1) c sc
  h : W.heap[w.heap.size + 1]? = some (.cells (gc b sb) 29 (0, 0))
  be : Below w.heap.size w W
theorem S3.below {w W W' : World} {a b c : Gr} {sa sb sc : Value} (h : S3 w W a b c sa sb sc) (hb : Below W.heap.size W W') : S3 w W' a b c sa sb sc :=
  ⟨h.xa.below hb, h.xb.below hb, h.xc.below hb, (hb.block _ (Array.getElem?_eq_some_iff.1 h.h).1).trans h.h, h.be.trans (hb.mono h.be.size)⟩
theorem S3.new (w : World) (a b c : Gr) (sa sb sc : Value) : S3 w (((w.alloc (.cells (gc a sa) 29)).alloc (.cells (gc b sb) 29)).alloc (.cells (gc c sc) 29)) a b c sa sb sc := by
  obtain ⟨w1, h1⟩ : ∃ w1, w.alloc (.cells (gc a sa) 29) = w1 := ⟨_, rfl⟩
  obtain ⟨w2, h2⟩ : ∃ w2, w1.alloc (.cells (gc b sb) 29) = w2 := ⟨_, rfl⟩
  have z1 : w1.heap.size = w.heap.size + 1 := by rw [← h1]; simp
  have z2 : w2.heap.size = w.heap.size + 1 + 1 := by rw [← h2]; simp [z1]
  have b1 : Below w.heap.size w w1 := by rw [← h1]; exact below_new _ _
  have b2 : Below w1.heap.size w1 w2 := by rw [← h2]; exact below_new _ _
  rw [h1, h2]
  have b3 := below_new w2 (.cells (gc c sc) 29)
  refine ⟨Bx.below (w := w1) ?_ (b2.trans (b3.mono b2.size)), Bx.below (w := w2) ?_ b3, ?_, (b3.block _ (by omega)).trans ?_, b1.trans ((b2.trans (b3.mono b2.size)).mono b1.size)⟩
  · rw [← h1]; exact Bx.new w a sa 29
  · rw [← h2, ← z1]; exact Bx.new w1 b sb 29
  · rw [← z2]; exact Bx.new w2 c sc 29
  · rw [← h2, ← z1]; exact heap_alloc_new w1 _
/-- The second one's Who turned. -/
theorem S3.set {w W : World} {a b c : Gr} {sa sb sc : Value} (h : S3 w W a b c sa sb sc) (x : ByteArray) :
    Bx (W.setCell ⟨w.heap.size + 1, 1, none⟩ (.string x)) w.heap.size a sa ∧ Bx (W.setCell ⟨w.heap.size + 1, 1, none⟩ (.string x)) (w.heap.size + 1) { b with who := x } sb ∧ Below w.heap.size w (W.setCell ⟨w.heap.size + 1, 1, none⟩ (.string x)) := by
  refine ⟨?_, ?_, h.be.setCell (Nat.le_succ _) _⟩
  · obtain ⟨h0, h1, h2, h3, h4, h5⟩ := h.xa
    have e : ∀ j, (W.setCell ⟨w.heap.size + 1, 1, none⟩ (.string x)).cell? ⟨w.heap.size, j, none⟩ = W.cell? ⟨w.heap.size, j, none⟩ := fun j => World.cell?_setCell_other _ _ _ _ (by simp)
    exact ⟨by rw [e]; exact h0, by rw [e]; exact h1, by rw [e]; exact h2, by rw [e]; exact h3, by rw [e]; exact h4, by rw [e]; exact h5⟩
  · obtain ⟨h0, h1, h2, h3, h4, h5⟩ := h.xb
    have e : ∀ j, j ≠ 1 → (W.setCell ⟨w.heap.size + 1, 1, none⟩ (.string x)).cell? ⟨w.heap.size + 1, j, none⟩ = W.cell? ⟨w.heap.size + 1, j, none⟩ := fun j hj => World.cell?_setCell_other _ _ _ _ (by simp; try omega)
    exact ⟨by rw [e 0 (by decide)]; exact h0, World.cell?_setCell_same _ _ _ h1, by rw [e 2 (by decide)]; exact h2, by rw [e 3 (by decide)]; exact h3, by rw [e 4 (by decide)]; exact h4, by rw [e 5 (by decide)]; exact h5⟩
set_option maxRecDepth 100000 in
set_option maxHeartbeats 4000000 in
theorem narrower_skip (a b c : Gr) (sa : sane a) (sb : sane b) (sc : sane c) (op : Int) (x : List P2) (hx : x.length ≤ 9223372036854775807) (hxs : ∀ y ∈ x, y.1.size ≤ 9223372036854775807 ∧ y.2.size ≤ 9223372036854775807) (q : Option Addr) (qcap : Nat) (va vb vc : Value) (w : World) (ha : GrAt w va a) (hb : GrAt w vb b) (hc : GrAt w vc c) (hq : PsC w (.slice q x.length qcap) x) (h : fewG a = false ∨ fewG b = false ∨ fewG c = false ∨ fewB x = false) :
    Calls Try.prog 4 #[va, vb, vc, .int .i64 op, .slice q x.length qcap] w fun e w' => e = .returned (.bool true) ∧ Below w.heap.size w w' := by
  have HAW := Lib.hid (fun W => awake_any W)
  have HF1 := Lib.hid (fun W h => fewG_any a sa va W h)
  have HF2 := Lib.hid (fun W h => fewG_any b sb vb W h)
  have HF3 := Lib.hid (fun W h => fewG_any c sc vc W h)
  have HF4 := Lib.hid (fun W h => few_any x q qcap hx hxs W h)
  have HGA := Lib.hid ha
  have HGB := Lib.hid hb
  have HGC := Lib.hid hc
  have HQ := Lib.hid hq
  obtain ⟨pa, ca, rfl, _⟩ := ha
  obtain ⟨pb, cb, rfl, _⟩ := hb
  obtain ⟨pc, cc, rfl, _⟩ := hc
  obtain ⟨fa, hfa⟩ : ∃ f, fewG a = f := ⟨_, rfl⟩
  obtain ⟨fb, hfb⟩ : ∃ f, fewG b = f := ⟨_, rfl⟩
  obtain ⟨fc, hfc⟩ : ∃ f, fewG c = f := ⟨_, rfl⟩
  obtain ⟨fx, hfx⟩ : ∃ f, fewB x = f := ⟨_, rfl⟩
  rw [hfa, hfb, hfc, hfx] at h
  rw [hfa] at HF1
  rw [hfb] at HF2
  rw [hfc] at HF3
  rw [hfx] at HF4
  have HS := Lib.hid (S3.new w a b c (.slice pa a.need.length ca) (.slice pb b.need.length cb) (.slice pc c.need.length cc))
  obtain ⟨ia, wa, ra, oa, na, ea⟩ := a
  obtain ⟨ib, wb, rb, ob, nb, eb⟩ := b
  obtain ⟨ic, wc, rc, oc, nc, ec⟩ := c
  simp only [grV, gc] at HF1 HF2 HF3 HF4 HGA HGB HGC HS ⊢
  obtain ⟨la, hla⟩ : ∃ n, na.length = n := ⟨_, rfl⟩
  obtain ⟨lb, hlb⟩ : ∃ n, nb.length = n := ⟨_, rfl⟩
  obtain ⟨lc, hlc⟩ : ∃ n, nc.length = n := ⟨_, rfl⟩
  obtain ⟨lx, hlx⟩ : ∃ n, x.length = n := ⟨_, rfl⟩
  simp only [hla, hlb, hlc, hlx] at HF1 HF2 HF3 HF4 HGA HGB HGC HS HQ ⊢
  clear sa sb sc hx hxs hq hla hlb hlc hlx hfa hfb hfc hfx
  cases fa
  ·
    go_enter Try.func4, Try.ntmps4
    go_wp2_with fail
    refine (HAW.out _).mono ?_
    rintro e w1 ⟨rfl, hw⟩
    replace HS := Lib.hid (HS.out.below hw)
    clear hw
    obtain ⟨c0, c1, c2, c3, c4, c5⟩ := HS.out.xa
    obtain ⟨d0, d1, d2, d3, d4, d5⟩ := HS.out.xb
    obtain ⟨e0, e1, e2, e3, e4, e5⟩ := HS.out.xc
    dsimp only at c0 c1 c2 c3 c4 c5 d0 d1 d2 d3 d4 d5 e0 e1 e2 e3 e4 e5
    go_wp2_with fail
    refine (HF1.out _ (HGA.out.below HS.out.be)).mono ?_
    rintro e w2 ⟨rfl, hw⟩
    clear c0 c1 c2 c3 c4 c5 d0 d1 d2 d3 d4 d5 e0 e1 e2 e3 e4 e5
    replace HS := Lib.hid (HS.out.below hw)
    clear hw
    obtain ⟨c0, c1, c2, c3, c4, c5⟩ := HS.out.xa
    obtain ⟨d0, d1, d2, d3, d4, d5⟩ := HS.out.xb
    obtain ⟨e0, e1, e2, e3, e4, e5⟩ := HS.out.xc
    dsimp only at c0 c1 c2 c3 c4 c5 d0 d1 d2 d3 d4 d5 e0 e1 e2 e3 e4 e5
    go_wp2
    go_ret
    exact ⟨rfl, HS.out.be⟩
  cases fb
  ·
    go_enter Try.func4, Try.ntmps4
    go_wp2_with fail
    refine (HAW.out _).mono ?_
    rintro e w1 ⟨rfl, hw⟩
    replace HS := Lib.hid (HS.out.below hw)
    clear hw
    obtain ⟨c0, c1, c2, c3, c4, c5⟩ := HS.out.xa
    obtain ⟨d0, d1, d2, d3, d4, d5⟩ := HS.out.xb
    obtain ⟨e0, e1, e2, e3, e4, e5⟩ := HS.out.xc
    dsimp only at c0 c1 c2 c3 c4 c5 d0 d1 d2 d3 d4 d5 e0 e1 e2 e3 e4 e5
    go_wp2_with fail
    refine (HF1.out _ (HGA.out.below HS.out.be)).mono ?_
    rintro e w2 ⟨rfl, hw⟩
    clear c0 c1 c2 c3 c4 c5 d0 d1 d2 d3 d4 d5 e0 e1 e2 e3 e4 e5
    replace HS := Lib.hid (HS.out.below hw)
    clear hw
    obtain ⟨c0, c1, c2, c3, c4, c5⟩ := HS.out.xa
    obtain ⟨d0, d1, d2, d3, d4, d5⟩ := HS.out.xb
    obtain ⟨e0, e1, e2, e3, e4, e5⟩ := HS.out.xc
    dsimp only at c0 c1 c2 c3 c4 c5 d0 d1 d2 d3 d4 d5 e0 e1 e2 e3 e4 e5
    go_wp2_with fail
    refine (HF2.out _ (HGB.out.below HS.out.be)).mono ?_
    rintro e w3 ⟨rfl, hw⟩
    clear c0 c1 c2 c3 c4 c5 d0 d1 d2 d3 d4 d5 e0 e1 e2 e3 e4 e5
    replace HS := Lib.hid (HS.out.below hw)
    clear hw
    obtain ⟨c0, c1, c2, c3, c4, c5⟩ := HS.out.xa
    obtain ⟨d0, d1, d2, d3, d4, d5⟩ := HS.out.xb
    obtain ⟨e0, e1, e2, e3, e4, e5⟩ := HS.out.xc
    dsimp only at c0 c1 c2 c3 c4 c5 d0 d1 d2 d3 d4 d5 e0 e1 e2 e3 e4 e5
    go_wp2
    go_ret
    exact ⟨rfl, HS.out.be⟩
  cases fc
  ·
    go_enter Try.func4, Try.ntmps4
    go_wp2_with fail
    refine (HAW.out _).mono ?_
    rintro e w1 ⟨rfl, hw⟩
    replace HS := Lib.hid (HS.out.below hw)
    clear hw
    obtain ⟨c0, c1, c2, c3, c4, c5⟩ := HS.out.xa
    obtain ⟨d0, d1, d2, d3, d4, d5⟩ := HS.out.xb
    obtain ⟨e0, e1, e2, e3, e4, e5⟩ := HS.out.xc
    dsimp only at c0 c1 c2 c3 c4 c5 d0 d1 d2 d3 d4 d5 e0 e1 e2 e3 e4 e5
    go_wp2_with fail
    refine (HF1.out _ (HGA.out.below HS.out.be)).mono ?_
    rintro e w2 ⟨rfl, hw⟩
    clear c0 c1 c2 c3 c4 c5 d0 d1 d2 d3 d4 d5 e0 e1 e2 e3 e4 e5
    replace HS := Lib.hid (HS.out.below hw)
    clear hw
    obtain ⟨c0, c1, c2, c3, c4, c5⟩ := HS.out.xa
    obtain ⟨d0, d1, d2, d3, d4, d5⟩ := HS.out.xb
    obtain ⟨e0, e1, e2, e3, e4, e5⟩ := HS.out.xc
    dsimp only at c0 c1 c2 c3 c4 c5 d0 d1 d2 d3 d4 d5 e0 e1 e2 e3 e4 e5
    go_wp2_with fail
    refine (HF2.out _ (HGB.out.below HS.out.be)).mono ?_
    rintro e w3 ⟨rfl, hw⟩
    clear c0 c1 c2 c3 c4 c5 d0 d1 d2 d3 d4 d5 e0 e1 e2 e3 e4 e5
    replace HS := Lib.hid (HS.out.below hw)
    clear hw
    obtain ⟨c0, c1, c2, c3, c4, c5⟩ := HS.out.xa
    obtain ⟨d0, d1, d2, d3, d4, d5⟩ := HS.out.xb
    obtain ⟨e0, e1, e2, e3, e4, e5⟩ := HS.out.xc
    dsimp only at c0 c1 c2 c3 c4 c5 d0 d1 d2 d3 d4 d5 e0 e1 e2 e3 e4 e5
    go_wp2_with fail
    refine (HF3.out _ (HGC.out.below HS.out.be)).mono ?_
    rintro e w4 ⟨rfl, hw⟩
    clear c0 c1 c2 c3 c4 c5 d0 d1 d2 d3 d4 d5 e0 e1 e2 e3 e4 e5
    replace HS := Lib.hid (HS.out.below hw)
    clear hw
    obtain ⟨c0, c1, c2, c3, c4, c5⟩ := HS.out.xa
    obtain ⟨d0, d1, d2, d3, d4, d5⟩ := HS.out.xb
    obtain ⟨e0, e1, e2, e3, e4, e5⟩ := HS.out.xc
    dsimp only at c0 c1 c2 c3 c4 c5 d0 d1 d2 d3 d4 d5 e0 e1 e2 e3 e4 e5
    go_wp2
    go_ret
    exact ⟨rfl, HS.out.be⟩
  cases fx
  ·
    go_enter Try.func4, Try.ntmps4
    go_wp2_with fail
    refine (HAW.out _).mono ?_
    rintro e w1 ⟨rfl, hw⟩
    replace HS := Lib.hid (HS.out.below hw)
    clear hw
    obtain ⟨c0, c1, c2, c3, c4, c5⟩ := HS.out.xa
    obtain ⟨d0, d1, d2, d3, d4, d5⟩ := HS.out.xb
    obtain ⟨e0, e1, e2, e3, e4, e5⟩ := HS.out.xc
    dsimp only at c0 c1 c2 c3 c4 c5 d0 d1 d2 d3 d4 d5 e0 e1 e2 e3 e4 e5
    go_wp2_with fail
    refine (HF1.out _ (HGA.out.below HS.out.be)).mono ?_
    rintro e w2 ⟨rfl, hw⟩
    clear c0 c1 c2 c3 c4 c5 d0 d1 d2 d3 d4 d5 e0 e1 e2 e3 e4 e5
    replace HS := Lib.hid (HS.out.below hw)
    clear hw
    obtain ⟨c0, c1, c2, c3, c4, c5⟩ := HS.out.xa
    obtain ⟨d0, d1, d2, d3, d4, d5⟩ := HS.out.xb
    obtain ⟨e0, e1, e2, e3, e4, e5⟩ := HS.out.xc
    dsimp only at c0 c1 c2 c3 c4 c5 d0 d1 d2 d3 d4 d5 e0 e1 e2 e3 e4 e5
    go_wp2_with fail
    refine (HF2.out _ (HGB.out.below HS.out.be)).mono ?_
    rintro e w3 ⟨rfl, hw⟩
    clear c0 c1 c2 c3 c4 c5 d0 d1 d2 d3 d4 d5 e0 e1 e2 e3 e4 e5
    replace HS := Lib.hid (HS.out.below hw)
    clear hw
    obtain ⟨c0, c1, c2, c3, c4, c5⟩ := HS.out.xa
    obtain ⟨d0, d1, d2, d3, d4, d5⟩ := HS.out.xb
    obtain ⟨e0, e1, e2, e3, e4, e5⟩ := HS.out.xc
    dsimp only at c0 c1 c2 c3 c4 c5 d0 d1 d2 d3 d4 d5 e0 e1 e2 e3 e4 e5
    go_wp2_with fail
    refine (HF3.out _ (HGC.out.below HS.out.be)).mono ?_
    rintro e w4 ⟨rfl, hw⟩
    clear c0 c1 c2 c3 c4 c5 d0 d1 d2 d3 d4 d5 e0 e1 e2 e3 e4 e5
    replace HS := Lib.hid (HS.out.below hw)
    clear hw
    obtain ⟨c0, c1, c2, c3, c4, c5⟩ := HS.out.xa
    obtain ⟨d0, d1, d2, d3, d4, d5⟩ := HS.out.xb
    obtain ⟨e0, e1, e2, e3, e4, e5⟩ := HS.out.xc
    dsimp only at c0 c1 c2 c3 c4 c5 d0 d1 d2 d3 d4 d5 e0 e1 e2 e3 e4 e5
    go_wp2_with fail
    refine (HF4.out _ (HQ.out.below HS.out.be)).mono ?_
    rintro e w5 ⟨rfl, hw⟩
    cases hw
    go_wp2
    go_ret
    exact ⟨rfl, HS.out.be⟩
  · simp at h
set_option maxRecDepth 100000 in
set_option maxHeartbeats 8000000 in
theorem narrower_main (a b c : Gr) (sa : sane a) (sb : sane b) (sc : sane c) (op : Int) (x : List P2) (hx : x.length ≤ 9223372036854775807) (hxs : ∀ y ∈ x, y.1.size ≤ 9223372036854775807 ∧ y.2.size ≤ 9223372036854775807) (q : Option Addr) (qcap : Nat) (va vb vc : Value) (w : World) (ha : GrAt w va a) (hb : GrAt w vb b) (hc : GrAt w vc c) (hq : PsC w (.slice q x.length qcap) x) (hfa0 : fewG a = true) (hfb0 : fewG b = true) (hfc0 : fewG c = true) (hfx0 : fewB x = true) :
    Calls Try.prog 4 #[va, vb, vc, .int .i64 op, .slice q x.length qcap] w fun e w' => e = .returned (.bool true) ∧ Below w.heap.size w w' := by
  have HAW := Lib.hid (fun W => awake_any W)
  have HF1 := Lib.hid (fun W h => fewG_any a sa va W h)
  have HF2 := Lib.hid (fun W h => fewG_any b sb vb W h)
  have HF3 := Lib.hid (fun W h => fewG_any c sc vc W h)
  have HF4 := Lib.hid (fun W h => few_any x q qcap hx hxs W h)
  have HGA := Lib.hid ha
  have HGB := Lib.hid hb
  have HGC := Lib.hid hc
  have HQ := Lib.hid hq
  have HN1 := Lib.hid (fun W h => narrower_any a a (fewG_small hfa0) (fewG_small hfa0) va va W h h)
  have HN2 := Lib.hid (fun W h1 h2 => narrower_any a b (fewG_small hfa0) (fewG_small hfb0) va vb W h1 h2)
  have HN3 := Lib.hid (fun W h1 h2 => narrower_any b c (fewG_small hfb0) (fewG_small hfc0) vb vc W h1 h2)
  have HN4 := Lib.hid (fun W h1 h2 => narrower_any a c (fewG_small hfa0) (fewG_small hfc0) va vc W h1 h2)
  have HRI := Lib.hid (fun W h => right_grant a (fewG_small hfa0) va W h)
  have hfx1 : fitsL x := by rw [fewB_iff] at hfx0; exact ⟨by omega, fun y hy => by have := hfx0.2 y hy; omega⟩
  have hsb2 : ({ b with who := a.who } : Gr).small := ⟨(fewG_small hfa0).1, (fewG_small hfb0).2⟩
  have HAL1 := Lib.hid (fun W h1 h2 => allows_any a (fewG_small hfa0) va a.who op x hfx1 q qcap W h1 h2)
  have HAL2 := Lib.hid (fun v W h1 h2 => allows_any { b with who := a.who } hsb2 v a.who op x hfx1 q qcap W h1 h2)
  have HN5 := Lib.hid (fun v W h1 h2 => narrower_any a { b with who := a.who } (fewG_small hfa0) hsb2 va v W h1 h2)
  have HT := Lib.hid (fun h1 h2 => narrow_trans (a := a) (b := b) (c := c) h1 h2)
  have HA := Lib.hid (fun h1 h2 => narrow_allows (a := a) (b := { b with who := a.who }) (op := op) (c := x) h1 rfl h2)
  rw [narrow_self] at HN1
  have HGB2 : Hid (∀ W v, GrAt W v b → ∀ p c2, v = grV b p c2 → GrAt W (grV { b with who := a.who } p c2) { b with who := a.who }) := Lib.hid (fun W v ⟨p1, c1, e1, h1⟩ p c2 e => ⟨p, c2, rfl, by
    rw [e1] at e
    simp only [grV, Value.agg.injEq, Array.mk.injEq, List.cons.injEq, Value.slice.injEq, true_and, and_true] at e
    obtain ⟨rfl, rfl⟩ := e
    exact h1⟩)
  obtain ⟨pa, ca, rfl, _⟩ := ha
  obtain ⟨pb, cb, rfl, _⟩ := hb
  obtain ⟨pc, cc, rfl, _⟩ := hc
  obtain ⟨fa, hfa⟩ : ∃ f, fewG a = f := ⟨_, rfl⟩
  obtain ⟨fb, hfb⟩ : ∃ f, fewG b = f := ⟨_, rfl⟩
  obtain ⟨fc, hfc⟩ : ∃ f, fewG c = f := ⟨_, rfl⟩
  obtain ⟨fx, hfx⟩ : ∃ f, fewB x = f := ⟨_, rfl⟩
  obtain rfl : fa = true := hfa.symm.trans hfa0
  obtain rfl : fb = true := hfb.symm.trans hfb0
  obtain rfl : fc = true := hfc.symm.trans hfc0
  obtain rfl : fx = true := hfx.symm.trans hfx0
  rw [hfa] at HF1
  rw [hfb] at HF2
  rw [hfc] at HF3
  rw [hfx] at HF4
  have HS := Lib.hid (S3.new w a b c (.slice pa a.need.length ca) (.slice pb b.need.length cb) (.slice pc c.need.length cc))
  have HGB3 := Lib.hid (fun W h => HGB2.out W _ (HGB.out.below (w' := W) h) pb cb rfl)
  clear HGB2
  replace HN5 := Lib.hid (fun W h1 h2 => HN5.out (grV { b with who := a.who } pb cb) W h1 h2)
  replace HAL2 := Lib.hid (fun W h1 h2 => HAL2.out (grV { b with who := a.who } pb cb) W h1 h2)
  obtain ⟨ra, hra⟩ : ∃ r, a.right = r := ⟨_, rfl⟩
  obtain ⟨r2, hr2⟩ : ∃ r, narrowB a b = r := ⟨_, rfl⟩
  obtain ⟨r3, hr3⟩ : ∃ r, narrowB b c = r := ⟨_, rfl⟩
  obtain ⟨r4, hr4⟩ : ∃ r, narrowB a c = r := ⟨_, rfl⟩
  obtain ⟨r5, hr5⟩ : ∃ r, narrowB a { b with who := a.who } = r := ⟨_, rfl⟩
  obtain ⟨r6, hr6⟩ : ∃ r, allowB a a.who op x = r := ⟨_, rfl⟩
  obtain ⟨r7, hr7⟩ : ∃ r, allowB { b with who := a.who } a.who op x = r := ⟨_, rfl⟩
  rw [hra] at HN1 HRI
  rw [hr2] at HN2 HT
  rw [hr3] at HN3 HT
  rw [hr4] at HN4 HT
  rw [hr5] at HN5 HA
  rw [hr6] at HAL1 HA
  rw [hr7] at HAL2 HA
  clear hra hr2 hr3 hr4 hr5 hr6 hr7 hfx1 hsb2
  obtain ⟨ia, wa, ra1, oa, na, ea⟩ := a
  obtain ⟨ib, wb, rb, ob, nb, eb⟩ := b
  obtain ⟨ic, wc, rc, oc, nc, ec⟩ := c
  simp only [grV, gc] at HF1 HF2 HF3 HF4 HGA HGB HGC HS HN1 HN2 HN3 HN4 HN5 HRI HAL1 HAL2 HGB3 ⊢
  obtain ⟨la, hla⟩ : ∃ n, na.length = n := ⟨_, rfl⟩
  obtain ⟨lb, hlb⟩ : ∃ n, nb.length = n := ⟨_, rfl⟩
  obtain ⟨lc, hlc⟩ : ∃ n, nc.length = n := ⟨_, rfl⟩
  obtain ⟨lx, hlx⟩ : ∃ n, x.length = n := ⟨_, rfl⟩
  simp only [hla, hlb, hlc, hlx] at HF1 HF2 HF3 HF4 HGA HGB HGC HS HN1 HN2 HN3 HN4 HN5 HRI HAL1 HAL2 HGB3 HQ ⊢
  clear hfa0 hfb0 hfc0 hfx0 sa sb sc hx hxs hq hla hlb hlc hlx hfa hfb hfc hfx
  have HTT : Hid (r2 = false ∨ (r2 = true ∧ r3 = false) ∨ (r2 = true ∧ r3 = true ∧ r4 = true)) := Lib.hid (by
    have := HT.out
    cases r2 <;> cases r3 <;> cases r4 <;> simp_all)
  rcases HTT.out with rfl | ⟨rfl, rfl⟩ | ⟨rfl, rfl, rfl⟩
  all_goals
    go_enter Try.func4, Try.ntmps4
    go_wp2_with fail
    refine (HAW.out _).mono ?_
    rintro e w1 ⟨rfl, hw⟩
    replace HS := Lib.hid (HS.out.below hw)
    clear hw
    obtain ⟨c0, c1, c2, c3, c4, c5⟩ := HS.out.xa
    obtain ⟨d0, d1, d2, d3, d4, d5⟩ := HS.out.xb
    obtain ⟨e0, e1, e2, e3, e4, e5⟩ := HS.out.xc
    dsimp only at c0 c1 c2 c3 c4 c5 d0 d1 d2 d3 d4 d5 e0 e1 e2 e3 e4 e5
    go_wp2_with fail
    refine (HF1.out _ (HGA.out.below HS.out.be)).mono ?_
    rintro e w2 ⟨rfl, hw⟩
    clear c0 c1 c2 c3 c4 c5 d0 d1 d2 d3 d4 d5 e0 e1 e2 e3 e4 e5
    replace HS := Lib.hid (HS.out.below hw)
    clear hw
    obtain ⟨c0, c1, c2, c3, c4, c5⟩ := HS.out.xa
    obtain ⟨d0, d1, d2, d3, d4, d5⟩ := HS.out.xb
    obtain ⟨e0, e1, e2, e3, e4, e5⟩ := HS.out.xc
    dsimp only at c0 c1 c2 c3 c4 c5 d0 d1 d2 d3 d4 d5 e0 e1 e2 e3 e4 e5
    go_wp2_with fail
    refine (HF2.out _ (HGB.out.below HS.out.be)).mono ?_
    rintro e w3 ⟨rfl, hw⟩
    clear c0 c1 c2 c3 c4 c5 d0 d1 d2 d3 d4 d5 e0 e1 e2 e3 e4 e5
    replace HS := Lib.hid (HS.out.below hw)
    clear hw
    obtain ⟨c0, c1, c2, c3, c4, c5⟩ := HS.out.xa
    obtain ⟨d0, d1, d2, d3, d4, d5⟩ := HS.out.xb
    obtain ⟨e0, e1, e2, e3, e4, e5⟩ := HS.out.xc
    dsimp only at c0 c1 c2 c3 c4 c5 d0 d1 d2 d3 d4 d5 e0 e1 e2 e3 e4 e5
    go_wp2_with fail
    refine (HF3.out _ (HGC.out.below HS.out.be)).mono ?_
    rintro e w4 ⟨rfl, hw⟩
    clear c0 c1 c2 c3 c4 c5 d0 d1 d2 d3 d4 d5 e0 e1 e2 e3 e4 e5
    replace HS := Lib.hid (HS.out.below hw)
    clear hw
    obtain ⟨c0, c1, c2, c3, c4, c5⟩ := HS.out.xa
    obtain ⟨d0, d1, d2, d3, d4, d5⟩ := HS.out.xb
    obtain ⟨e0, e1, e2, e3, e4, e5⟩ := HS.out.xc
    dsimp only at c0 c1 c2 c3 c4 c5 d0 d1 d2 d3 d4 d5 e0 e1 e2 e3 e4 e5
    go_wp2_with fail
    refine (HF4.out _ (HQ.out.below HS.out.be)).mono ?_
    rintro e w5 ⟨rfl, hw⟩
    cases hw
    clear c0 c1 c2 c3 c4 c5 d0 d1 d2 d3 d4 d5 e0 e1 e2 e3 e4 e5
    go_wp2
    have HSg : Hid (∀ g : Gw w4, S3 w g.1 ⟨ia, wa, ra1, oa, na, ea⟩ ⟨ib, wb, rb, ob, nb, eb⟩ ⟨ic, wc, rc, oc, nc, ec⟩ (.slice pa la ca) (.slice pb lb cb) (.slice pc lc cc)) := Lib.hid fun g => HS.out.below g.2
    have c0 := fun g => (HSg.out g).xa.1
    have c1 := fun g => (HSg.out g).xa.2.1
    have c2 := fun g => (HSg.out g).xa.2.2.1
    have c3 := fun g => (HSg.out g).xa.2.2.2.1
    have c4 := fun g => (HSg.out g).xa.2.2.2.2.1
    have c5 := fun g => (HSg.out g).xa.2.2.2.2.2
    have d0 := fun g => (HSg.out g).xb.1
    have d1 := fun g => (HSg.out g).xb.2.1
    have d2 := fun g => (HSg.out g).xb.2.2.1
    have d3 := fun g => (HSg.out g).xb.2.2.2.1
    have d4 := fun g => (HSg.out g).xb.2.2.2.2.1
    have d5 := fun g => (HSg.out g).xb.2.2.2.2.2
    have e0 := fun g => (HSg.out g).xc.1
    have e1 := fun g => (HSg.out g).xc.2.1
    have e2 := fun g => (HSg.out g).xc.2.2.1
    have e3 := fun g => (HSg.out g).xc.2.2.2.1
    have e4 := fun g => (HSg.out g).xc.2.2.2.2.1
    have e5 := fun g => (HSg.out g).xc.2.2.2.2.2
    dsimp only at c0 c1 c2 c3 c4 c5 d0 d1 d2 d3 d4 d5 e0 e1 e2 e3 e4 e5
    have R1 := Lib.hid (fun g : Gw w4 => grew_call (HN1.out g.1 (HGA.out.below (HSg.out g).be)))
    have R2 := Lib.hid (fun g : Gw w4 => grew_call (HN2.out g.1 (HGA.out.below (HSg.out g).be) (HGB.out.below (HSg.out g).be)))
    have R3 := Lib.hid (fun g : Gw w4 => grew_call (HN3.out g.1 (HGB.out.below (HSg.out g).be) (HGC.out.below (HSg.out g).be)))
    have R4 := Lib.hid (fun g : Gw w4 => grew_call (HN4.out g.1 (HGA.out.below (HSg.out g).be) (HGC.out.below (HSg.out g).be)))
    have R5 := Lib.hid (fun g : Gw w4 => grew_call (HRI.out g.1 (HGA.out.below (HSg.out g).be)))
    refine wp_region_grew (by kernel_rfl) (by kernel_rfl) ?_
    repeat (go_big_quiet_step ((first | (with_reducible exact R1.out _) | (with_reducible exact R2.out _) | (with_reducible exact R3.out _) | (with_reducible exact R4.out _) | (with_reducible exact R5.out _))))
    refine wpQuiet_nil ?_
    intro g
    replace HS := HSg.out g
    obtain ⟨W6, hW6⟩ : ∃ W6, g.1 = W6 := ⟨_, rfl⟩
    rw [hW6] at HS ⊢
    clear hW6 HSg R1 R2 R3 R4 R5 c0 c1 c2 c3 c4 c5 d0 d1 d2 d3 d4 d5 e0 e1 e2 e3 e4 e5 g
    replace HS := Lib.hid HS
    obtain ⟨hsa, hsb, hsbe⟩ := HS.out.set wa
    have a1 := HS.out.xa.2.1
    have b1 := HS.out.xb.2.1
    have hfz : W6.frozen? ⟨w.heap.size + 1, 1, none⟩ = false := by simp [World.frozen?, show W6.heap[w.heap.size + 1]? = _ from HS.out.h]
    obtain ⟨c0, c1, c2, c3, c4, c5⟩ := hsa
    obtain ⟨d0, d1, d2, d3, d4, d5⟩ := hsb
    dsimp only at a1 b1 c0 c1 c2 c3 c4 c5 d0 d1 d2 d3 d4 d5
    have HBE := Lib.hid hsbe
    clear hsbe
    go_wp2_with fail
    have HS2 : Hid (Bx (W6.setCell ⟨w.heap.size + 1, 1, none⟩ (.string wa)) w.heap.size ⟨ia, wa, ra1, oa, na, ea⟩ (.slice pa la ca) ∧ Bx (W6.setCell ⟨w.heap.size + 1, 1, none⟩ (.string wa)) (w.heap.size + 1) ⟨ib, wa, rb, ob, nb, eb⟩ (.slice pb lb cb)) := Lib.hid ⟨(HS.out.set wa).1, (HS.out.set wa).2.1⟩
    clear a1 b1 hfz c0 c1 c2 c3 c4 c5 d0 d1 d2 d3 d4 d5
    refine (HN5.out _ (HGA.out.below HBE.out) (HGB3.out _ HBE.out)).mono ?_
    rintro e w7 ⟨rfl, hw⟩
    replace HS2 := Lib.hid (And.intro (HS2.out.1.below hw) (HS2.out.2.below hw))
    replace HBE := Lib.hid (HBE.out.trans (hw.mono HBE.out.size))
    clear hw
    obtain ⟨c0, c1, c2, c3, c4, c5⟩ := HS2.out.1
    obtain ⟨d0, d1, d2, d3, d4, d5⟩ := HS2.out.2
    dsimp only at c0 c1 c2 c3 c4 c5 d0 d1 d2 d3 d4 d5
    cases r5
    · go_wp2
      go_ret
      exact ⟨rfl, HBE.out⟩
    go_wp2_with fail
    refine (HAL1.out _ (HGA.out.below HBE.out) (HQ.out.below HBE.out)).mono ?_
    rintro e w8 ⟨rfl, hw⟩
    clear c0 c1 c2 c3 c4 c5 d0 d1 d2 d3 d4 d5
    replace HS2 := Lib.hid (And.intro (HS2.out.1.below hw) (HS2.out.2.below hw))
    replace HBE := Lib.hid (HBE.out.trans (hw.mono HBE.out.size))
    clear hw
    obtain ⟨c0, c1, c2, c3, c4, c5⟩ := HS2.out.1
    obtain ⟨d0, d1, d2, d3, d4, d5⟩ := HS2.out.2
    dsimp only at c0 c1 c2 c3 c4 c5 d0 d1 d2 d3 d4 d5
    cases r6
    · go_wp2
      go_ret
      exact ⟨rfl, HBE.out⟩
    obtain rfl : r7 = true := by have := HA.out; simpa using this
    go_wp2_with fail
    refine (HAL2.out _ (HGB3.out _ HBE.out) (HQ.out.below HBE.out)).mono ?_
    rintro e w9 ⟨rfl, hw⟩
    clear c0 c1 c2 c3 c4 c5 d0 d1 d2 d3 d4 d5
    replace HBE := Lib.hid (HBE.out.trans (hw.mono HBE.out.size))
    clear hw
    go_wp2
    go_ret
    exact ⟨rfl, HBE.out⟩
end Go.Proofs.Ytfihbfkgkljjdaa

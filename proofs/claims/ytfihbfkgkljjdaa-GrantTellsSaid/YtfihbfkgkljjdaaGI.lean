/- Layer 13's own examples, by contract. No condition. -/
import Derived.Test.YtfihbfkgkljjdaaGG
import Derived.Test.YtfihbfkgkljjdaaGH
namespace Go.Proofs.Ytfihbfkgkljjdaa
open Go.RowKit Go.Own Go.Own.Fr Go.Maps Go.WideMaps
def xA : P2 := ({ data := #[97] }, { data := #[49] })
def xB : P2 := ({ data := #[98] }, { data := #[50] })
def ann : ByteArray := { data := #[97, 110, 110] }
def bob : ByteArray := { data := #[98, 111, 98] }
def tA : ByteArray := { data := #[1, 97, 1, 49] }
def gA : Gr := ⟨1, ann, { data := #[] }, 2, [xA], false⟩
def gN : Gr := ⟨1, ann, { data := #[] }, 2, [xA, xB], false⟩
def gW : Gr := ⟨1, ann, { data := #[] }, 2, [xA], true⟩
theorem sort_a : sortP [xA] = [xA] := by
  refine (sortP_eq (L := [xA]) (M := [xA]) (by decide) (List.Perm.refl _) ?_).symm
  simp
theorem rd_a : Own.rd 8 tA = [xA] := by decide +kernel
theorem need_a : needT gA = tA := by
  unfold needT gA
  rw [textP, sort_a]; decide
theorem ok_a : OkS tA := by
  unfold OkS
  rw [rd_a]
  exact ⟨by decide, by rw [textP, sort_a]; decide⟩
theorem right_gA : gA.right = true := by decide +kernel
theorem right_gN : gN.right = true := by decide +kernel
theorem right_gW : gW.right = true := by decide +kernel
theorem sub1 : subB [xA] [xB, xA] = true := by
  unfold subB
  rw [show rightP [xA] = true by decide, show rightP [xB, xA] = true by decide, inB_yes (fun x hx => by simp at hx ⊢; exact Or.inr hx)]; rfl
theorem sub2 : subB [xA] [xA, xB] = true := by
  unfold subB
  rw [show rightP [xA] = true by decide, show rightP [xA, xB] = true by decide, inB_yes (fun x hx => by simp at hx ⊢; exact Or.inl hx)]; rfl
theorem sub3 : subB [xA, xB] [xA] = false := by
  unfold subB
  rw [inB_no (x := xB) (by simp) (by simp; decide)]; simp
theorem al1 : allowB gA ann 1 [xB, xA] = true := by
  unfold allowB takesB
  rw [right_gA, show gA.need = [xA] from rfl, show gA.eq = false from rfl, sub1]; decide
theorem al2 : allowB gW ann 1 [xB, xA] = false := by
  have : takesB gW [xB, xA] = false := by unfold takesB; rw [show gW.eq = true from rfl, if_pos rfl]; simp [eqB, gW]
  unfold allowB; rw [this]; simp
theorem al3 : allowB gA ann 0 [xA] = false := by
  unfold allowB; rw [show hasB gA.ops 0 = false by decide]; simp
theorem al4 : allowB gA bob 1 [xA] = false := by
  unfold allowB; rw [show decide (bob = gA.who) = false by decide]; simp
theorem an1 : anyB [] ann ann 7 [] = true := by
  unfold anyB; simp [show opB 7 = true by decide, show rightP [] = true by decide]; decide
theorem an2 : anyB [] ann bob 7 [] = false := by
  unfold anyB; simp [show ¬ bob = ann by decide]
theorem na1 : narrowB gN gA = true := by
  unfold narrowB takesB
  rw [right_gA, right_gN, show gA.need = [xA] from rfl, show gN.need = [xA, xB] from rfl, show gA.eq = false from rfl, if_neg (by simp), sub2]; decide
theorem na2 : narrowB gA gN = false := by
  have : takesB gN gA.need = false := by unfold takesB; rw [show gN.eq = false from rfl, if_neg (by simp)]; exact sub3
  unfold narrowB; rw [this]; simp
theorem small2 {x y : P2} (hx : x.1.size ≤ 1 ∧ x.2.size ≤ 1) (hy : y.1.size ≤ 1 ∧ y.2.size ≤ 1) : fitsL [x, y] := ⟨by simp, fun z hz => by
  simp at hz; rcases hz with rfl | rfl <;> omega⟩
theorem fit_a : fitsL [xA] := ⟨by simp, fun z hz => by simp at hz; subst hz; decide⟩
theorem fit_ab : fitsL [xA, xB] := small2 (by decide) (by decide)
theorem fit_ba : fitsL [xB, xA] := small2 (by decide) (by decide)
theorem small_gA : gA.small := ⟨by decide, by decide, fit_a⟩
theorem small_gN : gN.small := ⟨by decide, by decide, fit_ab⟩
theorem small_gW : gW.small := ⟨by decide, by decide, fit_a⟩
theorem ps_one (w : World) (x : P2) (t : TypeId) : PsC (w.alloc (.cells #[.string x.1, .string x.2] t)) (.slice (some ⟨w.heap.size, 0, none⟩) 1 1) [x] := by
  refine ⟨_, _, rfl, Nat.le_refl _, fun j u hu => ⟨w.heap.size, 0, rfl, ?_⟩⟩
  rw [cell_new, Nat.zero_add]
  simpa [cellsP] using hu
theorem ps_two (w : World) (x y : P2) (t : TypeId) : PsC (w.alloc (.cells #[.string x.1, .string x.2, .string y.1, .string y.2] t)) (.slice (some ⟨w.heap.size, 0, none⟩) 2 2) [x, y] := by
  refine ⟨_, _, rfl, Nat.le_refl _, fun j u hu => ⟨w.heap.size, 0, rfl, ?_⟩⟩
  rw [cell_new, Nat.zero_add]
  simpa [cellsP] using hu
/-- The example's first four blocks. -/
def W0 (w : World) : World := (((w.alloc (.cells #[.string { data := #[97] }, .string { data := #[49] }] 42)).alloc (.cells #[.string { data := #[98] }, .string { data := #[50] }] 42)).alloc (.cells #[.string { data := #[97] }, .string { data := #[49] }] 42)).alloc
  (.cells #[.int .i64 1, .string { data := #[97, 110, 110] }, .string { data := #[] }, .int .i64 2, .slice (some ⟨w.heap.size + 1 + 1, 0, none⟩) 1 1, .bool false] 29)
/-- What stands in them, in whatever has grown. -/
structure K0 (w W : World) : Prop where
  a0 : W.cell? ⟨w.heap.size, 0, none⟩ = some (.string { data := #[97] })
  a1 : W.cell? ⟨w.heap.size, 1, none⟩ = some (.string { data := #[49] })
  b0 : W.cell? ⟨w.heap.size + 1, 0, none⟩ = some (.string { data := #[98] })
  b1 : W.cell? ⟨w.heap.size + 1, 1, none⟩ = some (.string { data := #[50] })
  ps : PsC W (.slice (some ⟨w.heap.size + 1 + 1, 0, none⟩) 1 1) [xA]
  bx : Bx W (w.heap.size + 1 + 1 + 1) gA (.slice (some ⟨w.heap.size + 1 + 1, 0, none⟩) 1 1)
  lt : w.heap.size + 1 + 1 + 1 < W.heap.size
  be : Below w.heap.size w W
theorem K0.below {w W W' : World} (h : K0 w W) (hb : Below W.heap.size W W') : K0 w W' :=
  ⟨cellOld hb h.a0, cellOld hb h.a1, cellOld hb h.b0, cellOld hb h.b1, h.ps.below hb, h.bx.below hb, Nat.lt_of_lt_of_le h.lt hb.size, h.be.trans (hb.mono h.be.size)⟩
theorem K0.gr {w W : World} (h : K0 w W) : GrAt W (.agg #[.int .i64 1, .string { data := #[97, 110, 110] }, .string { data := #[] }, .int .i64 2, .slice (some ⟨w.heap.size + 1 + 1, 0, none⟩) 1 1, .bool false]) gA := ⟨_, _, rfl, h.ps⟩
theorem below_new (W : World) (o : Obj) : Below W.heap.size W (W.alloc o) := (Below.refl _ _).alloc (Nat.le_refl _) o
theorem k0_new (w : World) : K0 w (W0 w) := by
  obtain ⟨w1, h1⟩ : ∃ w1, w.alloc (.cells #[.string { data := #[97] }, .string { data := #[49] }] 42) = w1 := ⟨_, rfl⟩
  obtain ⟨w2, h2⟩ : ∃ w2, w1.alloc (.cells #[.string { data := #[98] }, .string { data := #[50] }] 42) = w2 := ⟨_, rfl⟩
  obtain ⟨w3, h3⟩ : ∃ w3, w2.alloc (.cells #[.string { data := #[97] }, .string { data := #[49] }] 42) = w3 := ⟨_, rfl⟩
  have e : W0 w = w3.alloc (.cells #[.int .i64 1, .string { data := #[97, 110, 110] }, .string { data := #[] }, .int .i64 2, .slice (some ⟨w.heap.size + 1 + 1, 0, none⟩) 1 1, .bool false] 29) := by rw [← h3, ← h2, ← h1]; rfl
  have z1 : w1.heap.size = w.heap.size + 1 := by rw [← h1]; simp
  have z2 : w2.heap.size = w.heap.size + 1 + 1 := by rw [← h2]; simp [z1]
  have z3 : w3.heap.size = w.heap.size + 1 + 1 + 1 := by rw [← h3]; simp [z2]
  have b1 : Below w.heap.size w w1 := by rw [← h1]; exact below_new _ _
  have b2 : Below w1.heap.size w1 w2 := by rw [← h2]; exact below_new _ _
  have b3 : Below w2.heap.size w2 w3 := by rw [← h3]; exact below_new _ _
  rw [e]
  have b4 := below_new w3 (.cells #[.int .i64 1, .string { data := #[97, 110, 110] }, .string { data := #[] }, .int .i64 2, .slice (some ⟨w.heap.size + 1 + 1, 0, none⟩) 1 1, .bool false] 29)
  have ca : ∀ j, w1.cell? ⟨w.heap.size, j, none⟩ = (#[.string { data := #[97] }, .string { data := #[49] }] : Array Value)[j]? := fun j => by rw [← h1]; exact cell_new w _ 42 j
  have cb : ∀ j, w2.cell? ⟨w.heap.size + 1, j, none⟩ = (#[.string { data := #[98] }, .string { data := #[50] }] : Array Value)[j]? := fun j => by rw [← h2, ← z1]; exact cell_new w1 _ 42 j
  have b24 := b2.trans ((b3.trans (b4.mono b3.size)).mono b2.size)
  have b34 := b3.trans (b4.mono b3.size)
  refine ⟨cellOld b24 (ca 0), cellOld b24 (ca 1), cellOld b34 (cb 0), cellOld b34 (cb 1), PsC.below ?_ b4, ?_, by simp [z3], b1.trans (b24.mono b1.size)⟩
  · rw [← h3, ← z2]; exact ps_one w2 xA 42
  · rw [← z3]; exact Bx.new w3 gA _ 29
/-- The example's next four blocks. -/
def W1 (w w2 : World) (p : Option Addr) (c : Nat) : World := (((w2.alloc (.cells #[.int .i64 1, .string ann, .string { data := #[] }, .int .i64 2, .slice p 1 c, .bool false] 29)).alloc
  (.cells #[.int .i64 1, .string { data := #[97, 110, 110] }, .string { data := #[] }, .int .i64 2, .slice (some ⟨w2.heap.size + 1 + 1, 0, none⟩) 2 2, .bool false] 29)).alloc
  (.cells #[.string { data := #[97] }, .string { data := #[49] }, .string { data := #[98] }, .string { data := #[50] }] 42)).alloc
  (.cells #[.int .i64 1, .string { data := #[97, 110, 110] }, .string { data := #[] }, .int .i64 2, .slice (some ⟨w.heap.size + 1 + 1, 0, none⟩) 1 1, .bool true] 29)
structure K1 (w w2 W : World) : Prop where
  k : K0 w W
  h : W.cell? ⟨w2.heap.size, 1, none⟩ = some (.string { data := #[97, 110, 110] })
  ps : PsC W (.slice (some ⟨w2.heap.size + 1 + 1, 0, none⟩) 2 2) [xA, xB]
  bn : Bx W (w2.heap.size + 1) gN (.slice (some ⟨w2.heap.size + 1 + 1, 0, none⟩) 2 2)
  bw : Bx W (w2.heap.size + 1 + 1 + 1) gW (.slice (some ⟨w.heap.size + 1 + 1, 0, none⟩) 1 1)
  lt : w2.heap.size + 1 + 1 + 1 < W.heap.size
theorem K1.below {w w2 W W' : World} (h : K1 w w2 W) (hb : Below W.heap.size W W') : K1 w w2 W' :=
  ⟨h.k.below hb, cellOld hb h.h, h.ps.below hb, h.bn.below hb, h.bw.below hb, Nat.lt_of_lt_of_le h.lt hb.size⟩
theorem K1.gn {w w2 W : World} (h : K1 w w2 W) : GrAt W (.agg #[.int .i64 1, .string { data := #[97, 110, 110] }, .string { data := #[] }, .int .i64 2, .slice (some ⟨w2.heap.size + 1 + 1, 0, none⟩) 2 2, .bool false]) gN := ⟨_, _, rfl, h.ps⟩
theorem K1.gw {w w2 W : World} (h : K1 w w2 W) : GrAt W (.agg #[.int .i64 1, .string { data := #[97, 110, 110] }, .string { data := #[] }, .int .i64 2, .slice (some ⟨w.heap.size + 1 + 1, 0, none⟩) 1 1, .bool true]) gW := ⟨_, _, rfl, h.k.ps⟩
theorem k1_new {w w2 : World} (p : Option Addr) (c : Nat) (hk : K0 w w2) : K1 w w2 (W1 w w2 p c) := by
  obtain ⟨w3, h3⟩ : ∃ w3, w2.alloc (.cells #[.int .i64 1, .string ann, .string { data := #[] }, .int .i64 2, .slice p 1 c, .bool false] 29) = w3 := ⟨_, rfl⟩
  obtain ⟨w4, h4⟩ : ∃ w4, w3.alloc (.cells #[.int .i64 1, .string { data := #[97, 110, 110] }, .string { data := #[] }, .int .i64 2, .slice (some ⟨w2.heap.size + 1 + 1, 0, none⟩) 2 2, .bool false] 29) = w4 := ⟨_, rfl⟩
  obtain ⟨w5, h5⟩ : ∃ w5, w4.alloc (.cells #[.string { data := #[97] }, .string { data := #[49] }, .string { data := #[98] }, .string { data := #[50] }] 42) = w5 := ⟨_, rfl⟩
  have e : W1 w w2 p c = w5.alloc (.cells #[.int .i64 1, .string { data := #[97, 110, 110] }, .string { data := #[] }, .int .i64 2, .slice (some ⟨w.heap.size + 1 + 1, 0, none⟩) 1 1, .bool true] 29) := by rw [← h5, ← h4, ← h3]; rfl
  have z3 : w3.heap.size = w2.heap.size + 1 := by rw [← h3]; simp
  have z4 : w4.heap.size = w2.heap.size + 1 + 1 := by rw [← h4]; simp [z3]
  have z5 : w5.heap.size = w2.heap.size + 1 + 1 + 1 := by rw [← h5]; simp [z4]
  have b3 : Below w2.heap.size w2 w3 := by rw [← h3]; exact below_new _ _
  have b4 : Below w3.heap.size w3 w4 := by rw [← h4]; exact below_new _ _
  have b5 : Below w4.heap.size w4 w5 := by rw [← h5]; exact below_new _ _
  rw [e]
  have b6 := below_new w5 (.cells #[.int .i64 1, .string { data := #[97, 110, 110] }, .string { data := #[] }, .int .i64 2, .slice (some ⟨w.heap.size + 1 + 1, 0, none⟩) 1 1, .bool true] 29)
  have b46 := b5.trans (b6.mono b5.size)
  have b36 := b4.trans (b46.mono b4.size)
  have b26 := b3.trans (b36.mono b3.size)
  refine ⟨hk.below b26, cellOld b36 ?_, PsC.below ?_ b6, Bx.below ?_ b46, ?_, by simp [z5]⟩
  · rw [← h3]; exact cell_new w2 _ 29 1
  · rw [← h5, ← z4]; exact ps_two w4 xA xB 42
  · rw [← h4, ← z3]; exact Bx.new w3 gN _ 29
  · rw [← z5]; exact Bx.new w5 gW _ 29
theorem RG {w : World} (W : World) (h : K0 w W) : Calls Try.prog 9 #[.agg #[.int .i64 1, .string { data := #[97, 110, 110] }, .string { data := #[] }, .int .i64 2, .slice (some ⟨w.heap.size + 1 + 1, 0, none⟩) 1 1, .bool false]] W fun e w' => e = .returned (.bool true) ∧ Below W.heap.size W w' := by
  have := right_grant gA small_gA _ W h.gr
  rwa [right_gA] at this
theorem AL1 (W : World) {v : Value} (q : Option Addr) (c : Nat) (h : GrAt W v gA) (hp : PsC W (.slice q 2 c) [xB, xA]) : Calls Try.prog 11 #[v, .string { data := #[97, 110, 110] }, .int .i64 1, .slice q 2 c] W fun e w' => e = .returned (.bool true) ∧ Below W.heap.size W w' := by
  have := allows_any gA small_gA v ann 1 [xB, xA] fit_ba q c W h hp
  rwa [al1] at this
theorem AL2 (W : World) {v : Value} (q : Option Addr) (c : Nat) (h : GrAt W v gW) (hp : PsC W (.slice q 2 c) [xB, xA]) : Calls Try.prog 11 #[v, .string { data := #[97, 110, 110] }, .int .i64 1, .slice q 2 c] W fun e w' => e = .returned (.bool false) ∧ Below W.heap.size W w' := by
  have := allows_any gW small_gW v ann 1 [xB, xA] fit_ba q c W h hp
  rwa [al2] at this
theorem AL3 (W : World) {v : Value} (q : Option Addr) (c : Nat) (h : GrAt W v gA) (hp : PsC W (.slice q 1 c) [xA]) : Calls Try.prog 11 #[v, .string { data := #[97, 110, 110] }, .int .i64 0, .slice q 1 c] W fun e w' => e = .returned (.bool false) ∧ Below W.heap.size W w' := by
  have := allows_any gA small_gA v ann 0 [xA] fit_a q c W h hp
  rwa [al3] at this
theorem AL4 (W : World) {v : Value} (q : Option Addr) (c : Nat) (h : GrAt W v gA) (hp : PsC W (.slice q 1 c) [xA]) : Calls Try.prog 11 #[v, .string { data := #[98, 111, 98] }, .int .i64 1, .slice q 1 c] W fun e w' => e = .returned (.bool false) ∧ Below W.heap.size W w' := by
  have := allows_any gA small_gA v bob 1 [xA] fit_a q c W h hp
  rwa [al4] at this
theorem fit_nil : fitsL [] := ⟨by simp, fun x hx => by simp at hx⟩
theorem ps_nil (W : World) : PsC W (.slice none 0 0) [] := ⟨none, 0, rfl, Nat.le_refl _, fun j u hu => by simp [cellsP] at hu⟩
theorem AN1 (W : World) : Calls Try.prog 15 #[.slice none 0 0, .string { data := #[97, 110, 110] }, .string { data := #[97, 110, 110] }, .int .i64 7, .slice none 0 0] W fun e w' => e = .returned (.bool true) ∧ Below W.heap.size W w' := by
  have := any_any [] (by simp) (fun g hg => by simp at hg) none 0 ann ann 7 [] fit_nil none 0 W (RowG.nil W) (ps_nil W)
  rwa [an1] at this
theorem AN2 (W : World) : Calls Try.prog 15 #[.slice none 0 0, .string { data := #[97, 110, 110] }, .string { data := #[98, 111, 98] }, .int .i64 7, .slice none 0 0] W fun e w' => e = .returned (.bool false) ∧ Below W.heap.size W w' := by
  have := any_any [] (by simp) (fun g hg => by simp at hg) none 0 ann bob 7 [] fit_nil none 0 W (RowG.nil W) (ps_nil W)
  rwa [an2] at this
theorem NA1 {w w2 : World} (W : World) (h : K1 w w2 W) : Calls Try.prog 13 #[.agg #[.int .i64 1, .string { data := #[97, 110, 110] }, .string { data := #[] }, .int .i64 2, .slice (some ⟨w2.heap.size + 1 + 1, 0, none⟩) 2 2, .bool false], .agg #[.int .i64 1, .string { data := #[97, 110, 110] }, .string { data := #[] }, .int .i64 2, .slice (some ⟨w.heap.size + 1 + 1, 0, none⟩) 1 1, .bool false]] W fun e w' => e = .returned (.bool true) ∧ Below W.heap.size W w' := by
  have := narrower_any gN gA small_gN small_gA _ _ W h.gn h.k.gr
  rwa [na1] at this
theorem NA2 {w w2 : World} (W : World) (h : K1 w w2 W) : Calls Try.prog 13 #[.agg #[.int .i64 1, .string { data := #[97, 110, 110] }, .string { data := #[] }, .int .i64 2, .slice (some ⟨w.heap.size + 1 + 1, 0, none⟩) 1 1, .bool false], .agg #[.int .i64 1, .string { data := #[97, 110, 110] }, .string { data := #[] }, .int .i64 2, .slice (some ⟨w2.heap.size + 1 + 1, 0, none⟩) 2 2, .bool false]] W fun e w' => e = .returned (.bool false) ∧ Below W.heap.size W w' := by
  have := narrower_any gA gN small_gA small_gN _ _ W h.k.gr h.gn
  rwa [na2] at this
set_option maxRecDepth 100000 in
set_option maxHeartbeats 8000000 in
theorem awake_any (w : World) : Calls Try.prog 6 #[] w fun e w' => e = .returned (.bool true) ∧ Below w.heap.size w w' := by
  have HK := Lib.hid (k0_new w)
  obtain ⟨w0, hw0⟩ : ∃ w0, W0 w = w0 := ⟨_, rfl⟩
  rw [hw0] at HK
  have HPR := Lib.hid (print_any gA small_gA right_gA _ w0 HK.out.gr)
  have HW := Lib.hid hw0
  clear hw0
  go_enter Try.func6, Try.ntmps6
  go_wp2_with fail
  show Calls Try.prog 17 _ (W0 w) _
  rw [HW.out]
  refine HPR.out.mono ?_
  rintro e w1 ⟨bl, rfl, hbl, hble, hb1⟩
  rw [need_a] at hbl
  have HK1 := Lib.hid (HK.out.below hb1)
  have HPA := Lib.hid (parse_list gA tA (by decide) ok_a small_gA right_gA (by rw [rd_a]; rfl) need_a bl w1 hbl)
  have hbl1 := (Array.getElem?_eq_some_iff.1 hbl).1
  clear hbl hble hb1
  go_wp2_with fail
  refine HPA.out.mono ?_
  rintro e w2 ⟨v2, rfl, hv2, hb2⟩
  obtain ⟨p2, c2, rfl, hP2⟩ := hv2
  replace HK1 := Lib.hid (HK1.out.below hb2)
  simp only [grV, gA, List.length_cons, List.length_nil, Nat.zero_add] at hP2 ⊢
  have HP2 := Lib.hid hP2
  clear hb2 hbl1 hP2
  have k1 := HK1.out.a0
  have k2 := HK1.out.a1
  have k3 := HK1.out.b0
  have k4 := HK1.out.b1
  obtain ⟨g0, g1, g2, g3, g4, g5⟩ := HK1.out.bx
  simp only [gA, ann] at g0 g1 g2 g3 g4 g5
  have l3 := HK1.out.lt
  have l2 : w.heap.size + 1 + 1 < w2.heap.size := by omega
  have l1 : w.heap.size + 1 < w2.heap.size := by omega
  have l0 : w.heap.size < w2.heap.size := by omega
  go_wp2_with fail
  clear k1 k2 k3 k4 g0 g1 g2 g3 g4 g5 l0 l1 l2 l3
  have HK2 := Lib.hid (k1_new p2 c2 HK1.out)
  show Calls Try.prog 18 _ (W1 w w2 p2 c2) _
  obtain ⟨w3, hw3⟩ : ∃ w3, W1 w w2 p2 c2 = w3 := ⟨_, rfl⟩
  rw [hw3] at HK2 ⊢
  clear hw3
  refine (parse_text { data := #[120] } w3).mono ?_
  rintro e w4 ⟨rfl, hb⟩
  replace HK2 := Lib.hid (HK2.out.below hb)
  clear hb
  have k1 := HK2.out.k.a0
  have k2 := HK2.out.k.a1
  have k3 := HK2.out.k.b0
  have k4 := HK2.out.k.b1
  have h1 := HK2.out.h
  obtain ⟨g0, g1, g2, g3, g4, g5⟩ := HK2.out.k.bx
  obtain ⟨n0, n1, n2, n3, n4, n5⟩ := HK2.out.bn
  obtain ⟨v0, v1, v2, v3, v4, v5⟩ := HK2.out.bw
  simp only [gA, gN, gW, ann] at g0 g1 g2 g3 g4 g5 n0 n1 n2 n3 n4 n5 v0 v1 v2 v3 v4 v5
  have l3 := HK2.out.k.lt
  have l2 : w.heap.size + 1 + 1 < w4.heap.size := by omega
  have l1 : w.heap.size + 1 < w4.heap.size := by omega
  have l0 : w.heap.size < w4.heap.size := by omega
  have m3 := HK2.out.lt
  have m1 : w2.heap.size + 1 < w4.heap.size := by omega
  have m0 : w2.heap.size < w4.heap.size := by omega
  go_wp2_with fail
  have HK3 := Lib.hid (HK2.out.below (below_new w4 (.cells #[.int .i64 0, .string { data := #[] }, .string { data := #[] }, .int .i64 0, .slice none 0 0, .bool false] 29)))
  refine (RG _ HK3.out.k).mono ?_
  rintro e w5 ⟨rfl, hb⟩
  clear k1 k2 k3 k4 h1 g0 g1 g2 g3 g4 g5 n0 n1 n2 n3 n4 n5 v0 v1 v2 v3 v4 v5 l0 l1 l2 l3 m0 m1 m3
  replace HK2 := Lib.hid (HK3.out.below hb)
  clear hb HK3
  have k1 := HK2.out.k.a0
  have k2 := HK2.out.k.a1
  have k3 := HK2.out.k.b0
  have k4 := HK2.out.k.b1
  have h1 := HK2.out.h
  obtain ⟨g0, g1, g2, g3, g4, g5⟩ := HK2.out.k.bx
  obtain ⟨n0, n1, n2, n3, n4, n5⟩ := HK2.out.bn
  obtain ⟨v0, v1, v2, v3, v4, v5⟩ := HK2.out.bw
  simp only [gA, gN, gW, ann] at g0 g1 g2 g3 g4 g5 n0 n1 n2 n3 n4 n5 v0 v1 v2 v3 v4 v5
  have l3 := HK2.out.k.lt
  have l2 : w.heap.size + 1 + 1 < w5.heap.size := by omega
  have l1 : w.heap.size + 1 < w5.heap.size := by omega
  have l0 : w.heap.size < w5.heap.size := by omega
  have m3 := HK2.out.lt
  have m1 : w2.heap.size + 1 < w5.heap.size := by omega
  have m0 : w2.heap.size < w5.heap.size := by omega
  go_wp2_with fail
  have HK3 := Lib.hid (HK2.out.below (below_new w5 (.cells #[.string { data := #[98] }, .string { data := #[50] }, .string { data := #[97] }, .string { data := #[49] }] 42)))
  refine (AL1 _ _ 2 HK3.out.k.gr (ps_two w5 xB xA 42)).mono ?_
  rintro e w6 ⟨rfl, hb⟩
  clear k1 k2 k3 k4 h1 g0 g1 g2 g3 g4 g5 n0 n1 n2 n3 n4 n5 v0 v1 v2 v3 v4 v5 l0 l1 l2 l3 m0 m1 m3
  replace HK2 := Lib.hid (HK3.out.below hb)
  clear hb HK3
  have k1 := HK2.out.k.a0
  have k2 := HK2.out.k.a1
  have k3 := HK2.out.k.b0
  have k4 := HK2.out.k.b1
  have h1 := HK2.out.h
  obtain ⟨g0, g1, g2, g3, g4, g5⟩ := HK2.out.k.bx
  obtain ⟨n0, n1, n2, n3, n4, n5⟩ := HK2.out.bn
  obtain ⟨v0, v1, v2, v3, v4, v5⟩ := HK2.out.bw
  simp only [gA, gN, gW, ann] at g0 g1 g2 g3 g4 g5 n0 n1 n2 n3 n4 n5 v0 v1 v2 v3 v4 v5
  have l3 := HK2.out.k.lt
  have l2 : w.heap.size + 1 + 1 < w6.heap.size := by omega
  have l1 : w.heap.size + 1 < w6.heap.size := by omega
  have l0 : w.heap.size < w6.heap.size := by omega
  have m3 := HK2.out.lt
  have m1 : w2.heap.size + 1 < w6.heap.size := by omega
  have m0 : w2.heap.size < w6.heap.size := by omega
  go_wp2_with fail
  have HK3 := Lib.hid (HK2.out.below (below_new w6 (.cells #[.string { data := #[98] }, .string { data := #[50] }, .string { data := #[97] }, .string { data := #[49] }] 42)))
  refine (AL2 _ _ 2 HK3.out.gw (ps_two w6 xB xA 42)).mono ?_
  rintro e w7 ⟨rfl, hb⟩
  clear k1 k2 k3 k4 h1 g0 g1 g2 g3 g4 g5 n0 n1 n2 n3 n4 n5 v0 v1 v2 v3 v4 v5 l0 l1 l2 l3 m0 m1 m3
  replace HK2 := Lib.hid (HK3.out.below hb)
  clear hb HK3
  have k1 := HK2.out.k.a0
  have k2 := HK2.out.k.a1
  have k3 := HK2.out.k.b0
  have k4 := HK2.out.k.b1
  have h1 := HK2.out.h
  obtain ⟨g0, g1, g2, g3, g4, g5⟩ := HK2.out.k.bx
  obtain ⟨n0, n1, n2, n3, n4, n5⟩ := HK2.out.bn
  obtain ⟨v0, v1, v2, v3, v4, v5⟩ := HK2.out.bw
  simp only [gA, gN, gW, ann] at g0 g1 g2 g3 g4 g5 n0 n1 n2 n3 n4 n5 v0 v1 v2 v3 v4 v5
  have l3 := HK2.out.k.lt
  have l2 : w.heap.size + 1 + 1 < w7.heap.size := by omega
  have l1 : w.heap.size + 1 < w7.heap.size := by omega
  have l0 : w.heap.size < w7.heap.size := by omega
  have m3 := HK2.out.lt
  have m1 : w2.heap.size + 1 < w7.heap.size := by omega
  have m0 : w2.heap.size < w7.heap.size := by omega
  go_wp2_with fail
  have HK3 := Lib.hid (HK2.out.below (below_new w7 (.cells #[.string { data := #[97] }, .string { data := #[49] }] 42)))
  refine (AL3 _ _ 1 HK3.out.k.gr (ps_one w7 xA 42)).mono ?_
  rintro e w8 ⟨rfl, hb⟩
  clear k1 k2 k3 k4 h1 g0 g1 g2 g3 g4 g5 n0 n1 n2 n3 n4 n5 v0 v1 v2 v3 v4 v5 l0 l1 l2 l3 m0 m1 m3
  replace HK2 := Lib.hid (HK3.out.below hb)
  clear hb HK3
  have k1 := HK2.out.k.a0
  have k2 := HK2.out.k.a1
  have k3 := HK2.out.k.b0
  have k4 := HK2.out.k.b1
  have h1 := HK2.out.h
  obtain ⟨g0, g1, g2, g3, g4, g5⟩ := HK2.out.k.bx
  obtain ⟨n0, n1, n2, n3, n4, n5⟩ := HK2.out.bn
  obtain ⟨v0, v1, v2, v3, v4, v5⟩ := HK2.out.bw
  simp only [gA, gN, gW, ann] at g0 g1 g2 g3 g4 g5 n0 n1 n2 n3 n4 n5 v0 v1 v2 v3 v4 v5
  have l3 := HK2.out.k.lt
  have l2 : w.heap.size + 1 + 1 < w8.heap.size := by omega
  have l1 : w.heap.size + 1 < w8.heap.size := by omega
  have l0 : w.heap.size < w8.heap.size := by omega
  have m3 := HK2.out.lt
  have m1 : w2.heap.size + 1 < w8.heap.size := by omega
  have m0 : w2.heap.size < w8.heap.size := by omega
  go_wp2_with fail
  have HK3 := Lib.hid (HK2.out.below (below_new w8 (.cells #[.string { data := #[97] }, .string { data := #[49] }] 42)))
  refine (AL4 _ _ 1 HK3.out.k.gr (ps_one w8 xA 42)).mono ?_
  rintro e w9 ⟨rfl, hb⟩
  clear k1 k2 k3 k4 h1 g0 g1 g2 g3 g4 g5 n0 n1 n2 n3 n4 n5 v0 v1 v2 v3 v4 v5 l0 l1 l2 l3 m0 m1 m3
  replace HK2 := Lib.hid (HK3.out.below hb)
  clear hb HK3
  have k1 := HK2.out.k.a0
  have k2 := HK2.out.k.a1
  have k3 := HK2.out.k.b0
  have k4 := HK2.out.k.b1
  have h1 := HK2.out.h
  obtain ⟨g0, g1, g2, g3, g4, g5⟩ := HK2.out.k.bx
  obtain ⟨n0, n1, n2, n3, n4, n5⟩ := HK2.out.bn
  obtain ⟨v0, v1, v2, v3, v4, v5⟩ := HK2.out.bw
  simp only [gA, gN, gW, ann] at g0 g1 g2 g3 g4 g5 n0 n1 n2 n3 n4 n5 v0 v1 v2 v3 v4 v5
  have l3 := HK2.out.k.lt
  have l2 : w.heap.size + 1 + 1 < w9.heap.size := by omega
  have l1 : w.heap.size + 1 < w9.heap.size := by omega
  have l0 : w.heap.size < w9.heap.size := by omega
  have m3 := HK2.out.lt
  have m1 : w2.heap.size + 1 < w9.heap.size := by omega
  have m0 : w2.heap.size < w9.heap.size := by omega
  go_wp2_with fail
  refine (AN1 w9).mono ?_
  rintro e w10 ⟨rfl, hb⟩
  clear k1 k2 k3 k4 h1 g0 g1 g2 g3 g4 g5 n0 n1 n2 n3 n4 n5 v0 v1 v2 v3 v4 v5 l0 l1 l2 l3 m0 m1 m3
  replace HK2 := Lib.hid (HK2.out.below hb)
  clear hb
  have k1 := HK2.out.k.a0
  have k2 := HK2.out.k.a1
  have k3 := HK2.out.k.b0
  have k4 := HK2.out.k.b1
  have h1 := HK2.out.h
  obtain ⟨g0, g1, g2, g3, g4, g5⟩ := HK2.out.k.bx
  obtain ⟨n0, n1, n2, n3, n4, n5⟩ := HK2.out.bn
  obtain ⟨v0, v1, v2, v3, v4, v5⟩ := HK2.out.bw
  simp only [gA, gN, gW, ann] at g0 g1 g2 g3 g4 g5 n0 n1 n2 n3 n4 n5 v0 v1 v2 v3 v4 v5
  have l3 := HK2.out.k.lt
  have l2 : w.heap.size + 1 + 1 < w10.heap.size := by omega
  have l1 : w.heap.size + 1 < w10.heap.size := by omega
  have l0 : w.heap.size < w10.heap.size := by omega
  have m3 := HK2.out.lt
  have m1 : w2.heap.size + 1 < w10.heap.size := by omega
  have m0 : w2.heap.size < w10.heap.size := by omega
  go_wp2_with fail
  refine (AN2 w10).mono ?_
  rintro e w11 ⟨rfl, hb⟩
  clear k1 k2 k3 k4 h1 g0 g1 g2 g3 g4 g5 n0 n1 n2 n3 n4 n5 v0 v1 v2 v3 v4 v5 l0 l1 l2 l3 m0 m1 m3
  replace HK2 := Lib.hid (HK2.out.below hb)
  clear hb
  have k1 := HK2.out.k.a0
  have k2 := HK2.out.k.a1
  have k3 := HK2.out.k.b0
  have k4 := HK2.out.k.b1
  have h1 := HK2.out.h
  obtain ⟨g0, g1, g2, g3, g4, g5⟩ := HK2.out.k.bx
  obtain ⟨n0, n1, n2, n3, n4, n5⟩ := HK2.out.bn
  obtain ⟨v0, v1, v2, v3, v4, v5⟩ := HK2.out.bw
  simp only [gA, gN, gW, ann] at g0 g1 g2 g3 g4 g5 n0 n1 n2 n3 n4 n5 v0 v1 v2 v3 v4 v5
  have l3 := HK2.out.k.lt
  have l2 : w.heap.size + 1 + 1 < w11.heap.size := by omega
  have l1 : w.heap.size + 1 < w11.heap.size := by omega
  have l0 : w.heap.size < w11.heap.size := by omega
  have m3 := HK2.out.lt
  have m1 : w2.heap.size + 1 < w11.heap.size := by omega
  have m0 : w2.heap.size < w11.heap.size := by omega
  go_wp2_with fail
  refine (NA1 w11 HK2.out).mono ?_
  rintro e w12 ⟨rfl, hb⟩
  clear k1 k2 k3 k4 h1 g0 g1 g2 g3 g4 g5 n0 n1 n2 n3 n4 n5 v0 v1 v2 v3 v4 v5 l0 l1 l2 l3 m0 m1 m3
  replace HK2 := Lib.hid (HK2.out.below hb)
  clear hb
  have k1 := HK2.out.k.a0
  have k2 := HK2.out.k.a1
  have k3 := HK2.out.k.b0
  have k4 := HK2.out.k.b1
  have h1 := HK2.out.h
  obtain ⟨g0, g1, g2, g3, g4, g5⟩ := HK2.out.k.bx
  obtain ⟨n0, n1, n2, n3, n4, n5⟩ := HK2.out.bn
  obtain ⟨v0, v1, v2, v3, v4, v5⟩ := HK2.out.bw
  simp only [gA, gN, gW, ann] at g0 g1 g2 g3 g4 g5 n0 n1 n2 n3 n4 n5 v0 v1 v2 v3 v4 v5
  have l3 := HK2.out.k.lt
  have l2 : w.heap.size + 1 + 1 < w12.heap.size := by omega
  have l1 : w.heap.size + 1 < w12.heap.size := by omega
  have l0 : w.heap.size < w12.heap.size := by omega
  have m3 := HK2.out.lt
  have m1 : w2.heap.size + 1 < w12.heap.size := by omega
  have m0 : w2.heap.size < w12.heap.size := by omega
  go_wp2_with fail
  refine (NA2 w12 HK2.out).mono ?_
  rintro e w13 ⟨rfl, hb⟩
  clear k1 k2 k3 k4 h1 g0 g1 g2 g3 g4 g5 n0 n1 n2 n3 n4 n5 v0 v1 v2 v3 v4 v5 l0 l1 l2 l3 m0 m1 m3
  replace HK2 := Lib.hid (HK2.out.below hb)
  clear hb
  have k1 := HK2.out.k.a0
  have k2 := HK2.out.k.a1
  have k3 := HK2.out.k.b0
  have k4 := HK2.out.k.b1
  have h1 := HK2.out.h
  obtain ⟨g0, g1, g2, g3, g4, g5⟩ := HK2.out.k.bx
  obtain ⟨n0, n1, n2, n3, n4, n5⟩ := HK2.out.bn
  obtain ⟨v0, v1, v2, v3, v4, v5⟩ := HK2.out.bw
  simp only [gA, gN, gW, ann] at g0 g1 g2 g3 g4 g5 n0 n1 n2 n3 n4 n5 v0 v1 v2 v3 v4 v5
  have l3 := HK2.out.k.lt
  have l2 : w.heap.size + 1 + 1 < w13.heap.size := by omega
  have l1 : w.heap.size + 1 < w13.heap.size := by omega
  have l0 : w.heap.size < w13.heap.size := by omega
  have m3 := HK2.out.lt
  have m1 : w2.heap.size + 1 < w13.heap.size := by omega
  have m0 : w2.heap.size < w13.heap.size := by omega
  go_wp2
  go_ret
  exact ⟨rfl, HK2.out.k.be⟩
end Go.Proofs.Ytfihbfkgkljjdaa

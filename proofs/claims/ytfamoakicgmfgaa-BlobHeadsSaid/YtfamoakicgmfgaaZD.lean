/- Layer 12's own examples, given what the layer below answers: by contract. No condition. -/
import Derived.Test.YtfamoakicgmfgaaZC
import Derived.Test.YtfamoakicgmfgaaLF1
import Derived.RegionTactic
import Derived.ChangeAlike
import Derived.Deep.RegionWith
namespace Go.Proofs.Ytfamoakicgmfgaa.Lb
open Go.RowKit Go.Own.Lb
def xA : P2 := ({ data := #[97] }, { data := #[49] })
def xB : P2 := ({ data := #[98] }, { data := #[50] })
def hd0 : Hd := ⟨{ data := #[107, 101, 121] }, 1, { data := #[49, 50, 51, 52, 53, 54, 55, 56, 57, 48, 49, 50] }⟩
def textS : ByteArray := { data := #[116, 101, 120, 116] }
/-- What the examples come to. -/
structure Wake (sA : ByteArray → ByteArray → ByteArray → ByteArray → ByteArray) (oA : ByteArray → ByteArray → ByteArray → ByteArray → ByteArray × Int) (k b r : ByteArray) : Prop where
  built : buildA sA k hd0 [xA, xB] textS = (b, 0)
  size : b.size = 39
  part : partS b = some (hd0, r)
  same : openA oA k b [xB, xA] = (textS, 0)
  less : openA oA k b [xA] = ({ data := #[] }, 8)
variable {sA : ByteArray → ByteArray → ByteArray → ByteArray → ByteArray} {oA : ByteArray → ByteArray → ByteArray → ByteArray → ByteArray × Int}
theorem ps_new (w : World) (x y : P2) : PsC (w.alloc (.cells #[.string x.1, .string x.2, .string y.1, .string y.2] 33)) (.slice (some ⟨w.heap.size, 0, none⟩) 2 2) [x, y] := by
  refine ⟨_, _, rfl, Nat.le_refl _, fun j u hu => ⟨w.heap.size, 0, rfl, ?_⟩⟩
  rw [cell_new, Nat.zero_add]
  simpa [cellsP] using hu
theorem small2 {x y : P2} (hx : x.1.size ≤ 1 ∧ x.2.size ≤ 1) (hy : y.1.size ≤ 1 ∧ y.2.size ≤ 1) : ∀ z ∈ [x, y], z.1.size ≤ 1000000 ∧ z.2.size ≤ 1000000 := fun z hz => by
  simp at hz; rcases hz with rfl | rfl <;> omega
set_option maxRecDepth 100000 in
set_option maxHeartbeats 4000000 in
theorem awake_any (H : Under sA oA) (k b r : ByteArray) (HC : ∀ w, Calls Try.prog 7 #[.int .u8 0, .int .i64 32] w fun e w' => e = .returned (.string k) ∧ Below w.heap.size w w') (A : Wake sA oA k b r) (w : World) :
    Calls Try.prog 4 #[] w fun e w' => e = .returned (.bool true) ∧ Below w.heap.size w w' := by
  have hsAB : ∀ z ∈ [xA, xB], z.1.size ≤ 1000000 ∧ z.2.size ≤ 1000000 := small2 (by decide) (by decide)
  have hsBA : ∀ z ∈ [xB, xA], z.1.size ≤ 1000000 ∧ z.2.size ≤ 1000000 := small2 (by decide) (by decide)
  have hsA : ∀ z ∈ [xA], z.1.size ≤ 1000000 ∧ z.2.size ≤ 1000000 := fun z hz => hsAB z (by simp at hz; simp [hz])
  have hbs : (b.size : Int) = 39 := by rw [A.size]; rfl
  have HB := Lib.hid fun W p cap hP => build_any H k hd0 [xA, xB] p cap textS (by decide) hsAB W hP
  have HP := Lib.hid fun W => parse_any b (by rw [A.size]; decide) W
  have HP2 := Lib.hid fun W => parse_any { data := #[75, 49] } (by decide) W
  have HO1 := Lib.hid fun W p cap hP => open_any H k b [xB, xA] p cap (by rw [A.size]; decide) (by decide) hsBA W hP
  have HO2 := Lib.hid fun W p cap hP => open_any H k b [xA] p cap (by rw [A.size]; decide) (by decide) hsA W hP
  rw [A.built] at HB
  rw [A.part] at HP
  rw [partS_none (Or.inl (by decide))] at HP2
  rw [A.same] at HO1
  rw [A.less] at HO2
  unfold parseV hdV hd0 textS at *
  unfold noHd at HP2
  simp only [List.length_cons, List.length_nil, Nat.zero_add, Nat.reduceAdd] at *
  have HCC := Lib.hid HC
  clear hsAB hsBA hsA A H HC
  go_enter Try.func4, Try.ntmps4
  go_wp2_with fail
  refine (HCC.out _).mono ?_
  rintro e w1 ⟨rfl, hb1⟩
  have HB1 := Lib.hid hb1
  clear hb1
  go_wp2_with fail
  obtain ⟨w2, hw2⟩ : ∃ w2, w1.alloc (.cells #[.string { data := #[107, 101, 121] }, .int .i64 1, .string { data := #[49, 50, 51, 52, 53, 54, 55, 56, 57, 48, 49, 50] }] 23) = w2 := ⟨_, rfl⟩
  have hz2 : w2.heap.size = w1.heap.size + 1 := by rw [← hw2]; simp
  obtain ⟨w3, hw3⟩ : ∃ w3, w2.alloc (.cells #[.string { data := #[97] }, .string { data := #[49] }, .string { data := #[98] }, .string { data := #[50] }] 33) = w3 := ⟨_, rfl⟩
  have hH2 : w2.heap[w1.heap.size]? = some (.cells #[.string { data := #[107, 101, 121] }, .int .i64 1, .string { data := #[49, 50, 51, 52, 53, 54, 55, 56, 57, 48, 49, 50] }] 23 (0, 0)) := hw2 ▸ heap_alloc_new w1 _
  have hH3 : w3.heap[w1.heap.size]? = some (.cells #[.string { data := #[107, 101, 121] }, .int .i64 1, .string { data := #[49, 50, 51, 52, 53, 54, 55, 56, 57, 48, 49, 50] }] 23 (0, 0)) := hw3 ▸ keep_b ((Below.refl _ w2).alloc (Nat.le_refl _) _) hH2
  have hQ3 : w3.heap[w1.heap.size + 1]? = some (.cells #[.string { data := #[97] }, .string { data := #[49] }, .string { data := #[98] }, .string { data := #[50] }] 33 (0, 0)) := by rw [← hz2, ← hw3]; exact heap_alloc_new w2 _
  have hP3 : PsC w3 (.slice (some ⟨w1.heap.size + 1, 0, none⟩) 2 2) [xA, xB] := by rw [← hz2, ← hw3]; exact ps_new w2 xA xB
  have hB3 : Below w.heap.size w w3 := hw3 ▸ (hw2 ▸ HB1.out.alloc HB1.out.size _).alloc (by rw [hz2]; have := HB1.out.size; omega) _
  have HH3 := Lib.hid hH3
  have HQ3 := Lib.hid hQ3
  have HP3 := Lib.hid hP3
  have HB3 := Lib.hid hB3
  rw [hw2, hw3]
  clear hH2 hH3 hQ3 hP3 hB3 hz2 hw2 hw3
  refine (HB.out _ _ _ HP3.out).mono ?_
  rintro e w4 ⟨rfl, hb4⟩
  have HB4 := Lib.hid (HB3.out.trans (hb4.mono HB3.out.size))
  have HH4 := Lib.hid (keep_b hb4 HH3.out)
  have HQ4 := Lib.hid (keep_b hb4 HQ3.out)
  have HP4 := Lib.hid (HP3.out.below hb4)
  clear hb4
  go_wp2_with fail
  refine (HP.out _).mono ?_
  rintro e w5 ⟨rfl, hb5⟩
  have HB5 := Lib.hid (HB4.out.trans (hb5.mono HB4.out.size))
  have HH5 := Lib.hid (keep_b hb5 HH4.out)
  have HQ5 := Lib.hid (keep_b hb5 HQ4.out)
  have HP5 := Lib.hid (HP4.out.below hb5)
  clear hb5
  have q0 := fun o => cell_of (keep_b ((Below.refl _ w5).alloc (Nat.le_refl _) o) HQ5.out) 0
  have q1 := fun o => cell_of (keep_b ((Below.refl _ w5).alloc (Nat.le_refl _) o) HQ5.out) 1
  have q2 := fun o => cell_of (keep_b ((Below.refl _ w5).alloc (Nat.le_refl _) o) HQ5.out) 2
  have q3 := fun o => cell_of (keep_b ((Below.refl _ w5).alloc (Nat.le_refl _) o) HQ5.out) 3
  go_wp2_with fail
  obtain ⟨w6, hw6⟩ : ∃ w6, w5.alloc (.cells #[.string { data := #[107, 101, 121] }, .int .i64 1, .string { data := #[49, 50, 51, 52, 53, 54, 55, 56, 57, 48, 49, 50] }] 23) = w6 := ⟨_, rfl⟩
  have hb6 : Below w5.heap.size w5 w6 := hw6 ▸ (Below.refl _ w5).alloc (Nat.le_refl _) _
  have HG6 : Hid (w6.heap[w5.heap.size]? = some (.cells #[.string { data := #[107, 101, 121] }, .int .i64 1, .string { data := #[49, 50, 51, 52, 53, 54, 55, 56, 57, 48, 49, 50] }] 23 (0, 0))) := Lib.hid (hw6 ▸ heap_alloc_new w5 _)
  have HB6 := Lib.hid (HB5.out.trans (hb6.mono HB5.out.size))
  have HH6 := Lib.hid (keep_b hb6 HH5.out)
  have HQ6 := Lib.hid (keep_b hb6 HQ5.out)
  have HP6 := Lib.hid (HP5.out.below hb6)
  clear q0 q1 q2 q3
  have q0 := cell_of HQ6.out 0
  have q1 := cell_of HQ6.out 1
  have q2 := cell_of HQ6.out 2
  have q3 := cell_of HQ6.out 3
  rw [hw6]
  clear hb6 hw6
  have hd6 : Below w6.heap.size w6 ((w6.alloc (.cells #[.string { data := #[98] }, .string { data := #[50] }, .string { data := #[97] }, .string { data := #[49] }] 33)).drew) := below_drewN ((Below.refl _ w6).alloc (Nat.le_refl _) _) 1
  have hPd : PsC ((w6.alloc (.cells #[.string { data := #[98] }, .string { data := #[50] }, .string { data := #[97] }, .string { data := #[49] }] 33)).drew) (.slice (some ⟨w6.heap.size, 0, none⟩) 2 2) [xB, xA] := (ps_new w6 xB xA).below (below_drewN (Below.refl _ _) 1)
  have HD6 := Lib.hid hd6
  have HPD := Lib.hid hPd
  clear hd6 hPd
  go_region_with (go_at_call 9; refine (HO1.out _ _ _ HPD.out).mono ?_; rintro e w7 ⟨rfl, hb7⟩)
  all_goals
    have HB7 := Lib.hid ((HB6.out.trans (HD6.out.mono HB6.out.size)).trans (hb7.mono (HB6.out.trans (HD6.out.mono HB6.out.size)).size))
    have HH7 := Lib.hid (keep_b hb7 (keep_b HD6.out HH6.out))
    have HG7 := Lib.hid (keep_b hb7 (keep_b HD6.out HG6.out))
    have HP7 := Lib.hid ((HP6.out.below HD6.out).below hb7)
    clear hb7 q0 q1 q2 q3
    have HPF := Lib.hid (HP7.out.first 1 (by decide))
    go_wp2_with fail
    refine (HO2.out _ _ _ HPF.out).mono ?_
    rintro e w8 ⟨rfl, hb8⟩
    have HB8 := Lib.hid (HB7.out.trans (hb8.mono HB7.out.size))
    have HH8 := Lib.hid (keep_b hb8 HH7.out)
    have HG8 := Lib.hid (keep_b hb8 HG7.out)
    clear hb8
    go_wp2_with fail
    refine (HP2.out _).mono ?_
    rintro e w9 ⟨rfl, hb9⟩
    have HB9 := Lib.hid (HB8.out.trans (hb9.mono HB8.out.size))
    have HH9 := Lib.hid (keep_b hb9 HH8.out)
    have HG9 := Lib.hid (keep_b hb9 HG8.out)
    clear hb9
    have c0 := fun o => cell_of (keep_b ((Below.refl _ w9).alloc (Nat.le_refl _) o) HH9.out) 0
    have c1 := fun o => cell_of (keep_b ((Below.refl _ w9).alloc (Nat.le_refl _) o) HH9.out) 1
    have c2 := fun o => cell_of (keep_b ((Below.refl _ w9).alloc (Nat.le_refl _) o) HH9.out) 2
    have d0 := fun o => cell_of (keep_b ((Below.refl _ w9).alloc (Nat.le_refl _) o) HG9.out) 0
    have d1 := fun o => cell_of (keep_b ((Below.refl _ w9).alloc (Nat.le_refl _) o) HG9.out) 1
    have d2 := fun o => cell_of (keep_b ((Below.refl _ w9).alloc (Nat.le_refl _) o) HG9.out) 2
    have HBX := fun o => Lib.hid (HB9.out.alloc HB9.out.size o)
    go_wp2
    go_ret
    exact ⟨rfl, (HBX _).out⟩
end Go.Proofs.Ytfamoakicgmfgaa.Lb

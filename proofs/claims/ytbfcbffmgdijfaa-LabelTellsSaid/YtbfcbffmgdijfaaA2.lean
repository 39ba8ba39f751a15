/- Layer 6's own examples, by contract. No condition. -/
import Derived.Test.YtbfcbffmgdijfaaA1
set_option pp.deepTerms true
set_option pp.maxSteps 1000000
namespace Go.Proofs.Ytbfcbffmgdijfaa
open Go.RowKit Go.Own Go.Maps
theorem ps_new (w : World) (x y : P2) : PsC (w.alloc (.cells #[.string x.1, .string x.2, .string y.1, .string y.2] 39)) (.slice (some ⟨w.heap.size, 0, none⟩) 2 2) [x, y] := by
  refine ⟨_, _, rfl, Nat.le_refl _, fun j u hu => ⟨w.heap.size, 0, rfl, ?_⟩⟩
  rw [cell_new, Nat.zero_add]
  simpa [cellsP] using hu
theorem small2 {x y : P2} (hx : x.1.size ≤ 1 ∧ x.2.size ≤ 1) (hy : y.1.size ≤ 1 ∧ y.2.size ≤ 1) : ∀ z ∈ [x, y], z.1.size ≤ 1000000 ∧ z.2.size ≤ 1000000 := fun z hz => by
  simp at hz; rcases hz with rfl | rfl <;> omega
set_option maxRecDepth 100000 in
set_option maxHeartbeats 4000000 in
theorem awake_any (w : World) : Calls Try.prog 7 #[] w fun e w' => e = .returned (.bool true) ∧ Below w.heap.size w w' := by
  have hsBA : ∀ z ∈ [xB, xA], z.1.size ≤ 1000000 ∧ z.2.size ≤ 1000000 := small2 (by decide) (by decide)
  have hsAB : ∀ z ∈ [xA, xB], z.1.size ≤ 1000000 ∧ z.2.size ≤ 1000000 := small2 (by decide) (by decide)
  have hsA : ∀ z ∈ [xA], z.1.size ≤ 1000000 ∧ z.2.size ≤ 1000000 := fun z hz => hsAB z (by simp at hz; simp [hz])
  obtain ⟨w0, hw0⟩ : ∃ w0, w.alloc (.cells #[.string { data := #[98] }, .string { data := #[50] }, .string { data := #[97] }, .string { data := #[49] }] 39) = w0 := ⟨_, rfl⟩
  have hB0 : Below w.heap.size w w0 := by rw [← hw0]; exact (Below.refl _ w).alloc (Nat.le_refl _) _
  have hP0 : PsC w0 (.slice (some ⟨w.heap.size, 0, none⟩) 2 2) [xB, xA] := by rw [← hw0]; exact ps_new w xB xA
  have HT := Lib.hid (text_any [xB, xA] (some ⟨w.heap.size, 0, none⟩) 2 (by decide) hsBA w0 hP0)
  rw [text_ba] at HT
  have HB0 := Lib.hid hB0
  have HP0 := Lib.hid hP0
  have HS1 := Lib.hid hsBA
  have HS2 := Lib.hid hsAB
  have HS3 := Lib.hid hsA
  have HW0 := Lib.hid hw0
  clear hB0 hP0 hsBA hsAB hsA hw0
  go_enter Try.func7, Try.ntmps7
  go_wp2_with fail
  rw [HW0.out]
  refine HT.out.mono ?_
  rintro e w1 ⟨rfl, hb1⟩
  have HP1 := Lib.hid (HP0.out.below hb1)
  have HB1 := Lib.hid (HB0.out.trans (hb1.mono HB0.out.size))
  clear hb1
  go_wp2_with fail
  refine (parse_ok sAB (by decide) ok_ab w1).mono ?_
  rintro e w2 ⟨v, rfl, hM, hb2⟩
  rw [rd_ab] at hM
  have HP2 := Lib.hid (HP1.out.below hb2)
  have HB2 := Lib.hid (HB1.out.trans (hb2.mono HB1.out.size))
  have HM2 := Lib.hid hM
  clear hb2 hM
  obtain ⟨p, cap, rfl, hcap, _⟩ := HM2.out
  go_wp2_with fail
  refine (parse_bad { data := #[1] } (by decide) bad_1 w2).mono ?_
  rintro e w3 ⟨rfl, hb3⟩
  have HP3 := Lib.hid (HP2.out.below hb3)
  have HM3 := Lib.hid (HM2.out.below hb3)
  have HB3 := Lib.hid (HB2.out.trans (hb3.mono HB2.out.size))
  clear hb3
  obtain ⟨b, o, rfl, _, _⟩ := HM3.out.at (k := 0) (x := xA) rfl
  have HPg : Hid (∀ g : Gw w3, PsC g.1 (.slice (some ⟨w.heap.size, 0, none⟩) 2 2) [xB, xA]) := Lib.hid fun g => HP3.out.below g.2
  have HMg : Hid (∀ g : Gw w3, PsC g.1 (.slice (some ⟨b, o, none⟩) 2 cap) [xA, xB]) := Lib.hid fun g => HM3.out.below g.2
  have HM1g : Hid (∀ g : Gw w3, PsC g.1 (.slice (some ⟨b, o, none⟩) 1 cap) [xA]) := Lib.hid fun g => (HMg.out g).first 1 (by decide)
  have hc12 : ∀ g : Gw w3, g.1.cell? ⟨b, o, none⟩ = some (.string { data := #[97] }) ∧ g.1.cell? ⟨b, o + 1, none⟩ = some (.string { data := #[49] }) := fun g => by
    obtain ⟨b', o', e, h0, h1⟩ := (HMg.out g).at (k := 0) (x := xA) rfl
    simp only [Option.some.injEq, Addr.mk.injEq] at e
    obtain ⟨rfl, rfl, _⟩ := e
    exact ⟨h0, h1⟩
  have hc34 : ∀ g : Gw w3, g.1.cell? ⟨w.heap.size, 2, none⟩ = some (.string { data := #[97] }) ∧ g.1.cell? ⟨w.heap.size, 3, none⟩ = some (.string { data := #[49] }) := fun g => by
    obtain ⟨b', o', e, h0, h1⟩ := (HPg.out g).at (k := 1) (x := xA) rfl
    simp only [Option.some.injEq, Addr.mk.injEq] at e
    obtain ⟨rfl, rfl, _⟩ := e
    exact ⟨h0, h1⟩
  have hc1 := fun g => (hc12 g).1
  have hc2 := fun g => (hc12 g).2
  have hc3 := fun g => (hc34 g).1
  have hc4 := fun g => (hc34 g).2
  clear hc12 hc34
  have HR1 : Hid (∀ g : Gw w3, Calls Try.prog 15 #[.string { data := #[107, 101, 121, 45, 49] }] g.1 fun x w' => x = .returned (.bool true) ∧ Grew w3 w') := Lib.hid fun g => grew_call (by have := right_any { data := #[107, 101, 121, 45, 49] } g.1; rwa [runes_key1] at this)
  have HR2 : Hid (∀ g : Gw w3, Calls Try.prog 14 #[.string { data := #[206, 177, 50] }] g.1 fun x w' => x = .returned (.int .i64 2) ∧ Grew w3 w') := Lib.hid fun g => grew_call (by have := runes_any { data := #[206, 177, 50] } g.1; rwa [runes_al2] at this)
  have HR3 : Hid (∀ g : Gw w3, Calls Try.prog 15 #[.string { data := #[75, 101, 121] }] g.1 fun x w' => x = .returned (.bool false) ∧ Grew w3 w') := Lib.hid fun g => grew_call (by have := right_any { data := #[75, 101, 121] } g.1; rwa [runes_Key] at this)
  have HR4 : Hid (∀ g : Gw w3, Calls Try.prog 15 #[.string { data := #[45, 97] }] g.1 fun x w' => x = .returned (.bool false) ∧ Grew w3 w') := Lib.hid fun g => grew_call (by have := right_any { data := #[45, 97] } g.1; rwa [runes_da] at this)
  have HR5 : Hid (∀ g : Gw w3, Calls Try.prog 19 #[.slice (some ⟨w.heap.size, 0, none⟩) 2 2, .slice (some ⟨b, o, none⟩) 2 cap] g.1 fun x w' => x = .returned (.bool true) ∧ Grew w3 w') := Lib.hid fun g => grew_call (by
    have := equal_any [xB, xA] (some ⟨w.heap.size, 0, none⟩) 2 (by decide) HS1.out [xA, xB] (some ⟨b, o, none⟩) cap (by decide) HS2.out g.1 (HPg.out g) (HMg.out g)
    rwa [eq_ba] at this)
  have HR6 : Hid (∀ g : Gw w3, Calls Try.prog 17 #[.slice (some ⟨b, o, none⟩) 1 cap, .slice (some ⟨w.heap.size, 0, none⟩) 2 2] g.1 fun x w' => x = .returned (.bool true) ∧ Grew w3 w') := Lib.hid fun g => grew_call (by
    have := subset_any [xA] (some ⟨b, o, none⟩) cap (by decide) HS3.out [xB, xA] (some ⟨w.heap.size, 0, none⟩) 2 (by decide) HS1.out g.1 (HM1g.out g) (HPg.out g)
    rwa [sub_a] at this)
  have HR7 : Hid (∀ g : Gw w3, Calls Try.prog 17 #[.slice (some ⟨w.heap.size, 0, none⟩) 2 2, .slice (some ⟨b, o, none⟩) 1 cap] g.1 fun x w' => x = .returned (.bool false) ∧ Grew w3 w') := Lib.hid fun g => grew_call (by
    have := subset_any [xB, xA] (some ⟨w.heap.size, 0, none⟩) 2 (by decide) HS1.out [xA] (some ⟨b, o, none⟩) cap (by decide) HS3.out g.1 (HPg.out g) (HM1g.out g)
    rwa [sub_b] at this)
  have hcap1 : 1 ≤ cap := by simp at hcap; omega
  clear hcap
  unfold sAB
  go_wp2
  refine wp_region_grew (by kernel_rfl) (by kernel_rfl) ?_
  repeat (go_big_quiet_step ((first | (with_reducible exact HR1.out _) | (with_reducible exact HR2.out _) | (with_reducible exact HR3.out _) | (with_reducible exact HR4.out _) | (with_reducible exact HR5.out _) | (with_reducible exact HR6.out _) | (with_reducible exact HR7.out _))))
  refine wpQuiet_nil ?_
  intro g
  have HB4 := Lib.hid (HB3.out.trans (g.2.mono HB3.out.size))
  go_wp2
  go_ret
  exact ⟨rfl, HB4.out⟩
end Go.Proofs.Ytbfcbffmgdijfaa

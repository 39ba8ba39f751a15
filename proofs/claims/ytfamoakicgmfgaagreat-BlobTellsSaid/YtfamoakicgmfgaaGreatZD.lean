/- Are pairs few and short enough? By contract. No condition but that each string is one that fits. | What was built is parted into its head and what was sealed. No condition but the sizes. | Layer 12's own examples, given what the layer below answers: by contract. No condition. -/
import Derived.Test.YtfamoakicgmfgaaGreatLC3
import Derived.Test.YtfamoakicgmfgaaGreatZA
import Derived.RegionTactic
import Derived.ChangeAlike
import Derived.Deep.RegionWith
namespace Go.Own.Lb
open Go
def shortP (x : P2) : Bool := decide (x.1.size ≤ 200) && decide (x.2.size ≤ 200)
/-- Are pairs few and short enough? -/
def fewB (L : List P2) : Bool := decide (L.length ≤ 20) && L.all shortP
theorem fewB_iff (L : List P2) : fewB L = true ↔ L.length ≤ 20 ∧ ∀ x ∈ L, x.1.size ≤ 200 ∧ x.2.size ≤ 200 := by
  simp only [fewB, shortP, Bool.and_eq_true, decide_eq_true_eq, List.all_eq_true]
theorem few_not {L : List P2} {k : Nat} {x : P2} (hx : L[k]? = some x) (h : 200 < x.1.size ∨ 200 < x.2.size) : fewB L = false := by
  cases h2 : fewB L with
  | false => rfl
  | true => have := ((fewB_iff L).1 h2).2 x (List.mem_of_getElem? hx); omega
theorem few_long {L : List P2} (h : 20 < L.length) : fewB L = false := by
  cases h2 : fewB L with
  | false => rfl
  | true => have := ((fewB_iff L).1 h2).1; omega
end Go.Own.Lb
namespace Go.Proofs.YtfamoakicgmfgaaGreat.Lb
open Go.RowKit Go.Own.Lb
set_option maxRecDepth 100000 in
set_option maxHeartbeats 1000000 in
theorem few_any (L : List P2) (p : Option Addr) (cap : Nat) (hL : L.length ≤ 9223372036854775807) (hs : ∀ x ∈ L, x.1.size ≤ 9223372036854775807 ∧ x.2.size ≤ 9223372036854775807) (w : World) (hP : PsC w (.slice p L.length cap) L) :
    Calls Tryz.prog 5 #[.slice p L.length cap] w fun e w' => e = .returned (.bool (fewB L)) ∧ w = w' := by
  obtain ⟨n, hn⟩ : ∃ n, L.length = n := ⟨_, rfl⟩
  rw [hn] at hL ⊢
  have HN := Lib.hid hn
  have HP := Lib.hid hP
  have HS := Lib.hid hs
  clear hn hP hs
  go_enter Tryz.func5, Tryz.ntmps5
  go_wp2
  go_loop [3] (fun i => ∃ k : Nat, k ≤ n ∧ k ≤ 20 ∧ i = .int .i64 (k : Int) ∧ Hid (∀ x ∈ L.take k, x.1.size ≤ 200 ∧ x.2.size ≤ 200)) (fun i => n - (intOf i).toNat)
  case atStart => exact ⟨0, Nat.zero_le _, by omega, rfl, Lib.hid (fun x hx => by simp at hx)⟩
  case round =>
    obtain ⟨k, hk, hk20, rfl, HI⟩ := hrel
    by_cases hlt : k < n
    · obtain ⟨x, hx⟩ : ∃ x, L[k]? = some x := ⟨_, List.getElem?_eq_getElem (by rw [HN.out]; exact hlt)⟩
      obtain ⟨b, o, rfl, c0, c1⟩ := HP.out.at hx
      have hsx := HS.out x (List.mem_of_getElem? hx)
      obtain ⟨hs1, hs2⟩ := hsx
      by_cases h20 : k = 20
      · have HZ : Hid (fewB L = false) := Lib.hid (few_long (by rw [HN.out]; omega))
        have d1 : decide ((20 : Int) ≤ (k : Int)) = true := by simp; omega
        clear hx h20
        go_wp2
        go_ret
        exact ⟨by rw [HZ.out]; rfl, rfl⟩
      · have d1 : decide ((20 : Int) ≤ (k : Int)) = false := by simp; omega
        by_cases h1 : 200 < x.1.size
        · have HZ : Hid (fewB L = false) := Lib.hid (few_not hx (Or.inl h1))
          have d2 : decide ((200 : Int) < (x.1.size : Int)) = true := by simp; omega
          clear hx
          go_wp2
          go_ret
          exact ⟨by rw [HZ.out]; rfl, rfl⟩
        · have d2 : decide ((200 : Int) < (x.1.size : Int)) = false := by simp; omega
          by_cases h2 : 200 < x.2.size
          · have HZ : Hid (fewB L = false) := Lib.hid (few_not hx (Or.inr h2))
            have d3 : decide ((200 : Int) < (x.2.size : Int)) = true := by simp; omega
            clear hx
            go_wp2
            go_ret
            exact ⟨by rw [HZ.out]; rfl, rfl⟩
          · have d3 : decide ((200 : Int) < (x.2.size : Int)) = false := by simp; omega
            have HN2 : Hid (∀ y ∈ L.take (k + 1), y.1.size ≤ 200 ∧ y.2.size ≤ 200) := Lib.hid (by
              rw [take_succ_at L k x hx]
              intro y hy
              rcases List.mem_append.1 hy with h | h
              · exact HI.out y h
              · rw [List.mem_singleton.1 h]; omega)
            clear hx
            go_wp2
            go_round
            case rel => exact ⟨k + 1, by omega, by omega, by go_num, HN2⟩
            case measure => simp [intOf]; omega
    · obtain rfl : k = n := by omega
      have HZ : Hid (fewB L = true) := Lib.hid ((fewB_iff L).2 ⟨by rw [HN.out]; exact hk20, fun x hx => HI.out x (by rw [List.take_of_length_le (by rw [HN.out]; exact Nat.le_refl _)]; exact hx)⟩)
      go_wp2
      go_ret
      exact ⟨by rw [HZ.out]; rfl, rfl⟩
end Go.Proofs.YtfamoakicgmfgaaGreat.Lb
namespace Go.Proofs.YtfamoakicgmfgaaGreat.Lb
open Go.RowKit Go.Own.Lb
theorem bys_oneS {n : Nat} (h : n < 256) : bys (oneS n) = [n] := by
  unfold oneS bys
  simp
  omega
theorem bys_laid {h : Hd} (hi : h.id.size ≤ 64) (hv : h.ver.toNat ≤ 8) (S : ByteArray) : bys (laidH h ++ S) = [75, 49, h.id.size] ++ (bys h.id ++ (h.ver.toNat :: (bys h.nonce ++ bys S))) := by
  unfold laidH
  simp only [bys_append, bys_oneS (show h.id.size < 256 by omega), bys_oneS (show h.ver.toNat < 256 by omega)]
  rw [show bys markS = [75, 49] by decide]
  simp
theorem drop_len {α : Type} {A B : List α} {a : Nat} (h : A.length = a) : (A ++ B).drop a = B := List.drop_left' h
theorem take_len {α : Type} {A B : List α} {a : Nat} (h : A.length = a) : (A ++ B).take a = A := List.take_left' h
theorem gi_drop (l : List Nat) (i : Nat) {x : Nat} {r : List Nat} (h : l.drop i = x :: r) : gi l i = x := by
  have h1 : (l.drop i)[0]? = some x := by rw [h]; rfl
  rw [List.getElem?_drop] at h1
  simp only [Nat.add_zero] at h1
  simp [gi, List.getD_eq_getElem?_getD, h1]
theorem partS_laid (h : Hd) (S : ByteArray) (hr : rightH h = true) (h16 : 16 ≤ S.size) (hS : S.size ≤ 1040) : partS (laidH h ++ S) = some (h, S) := by
  obtain ⟨z1, z2, z3, z4⟩ := right_parts hr
  have hb := bys_laid z1 (by omega) S
  have hls := laidH_size h
  obtain ⟨b, hbb⟩ : ∃ b, laidH h ++ S = b := ⟨_, rfl⟩
  have hbs : b.size = 16 + h.id.size + S.size := by rw [← hbb, ByteArray.size_append]; omega
  rw [hbb] at hb ⊢
  obtain ⟨id, ver, nonce⟩ := h
  simp only at *
  have hil := bys_length id
  have hnl := bys_length nonce
  have hsl := bys_length S
  generalize hv : ver.toNat = v at *
  have hvv : ver = (v : Int) := by omega
  have d2 : (bys b).drop 2 = id.size :: (bys id ++ (v :: (bys nonce ++ bys S))) := by rw [hb]; rfl
  have d3 : (bys b).drop 3 = bys id ++ (v :: (bys nonce ++ bys S)) := by rw [hb]; rfl
  have g2 : gi (bys b) 2 = id.size := gi_drop _ _ d2
  have d4 : (bys b).drop (3 + id.size) = v :: (bys nonce ++ bys S) := by rw [← List.drop_drop, d3, drop_len hil]
  have g3 : gi (bys b) (3 + id.size) = v := gi_drop _ _ d4
  have d5 : (bys b).drop (4 + id.size) = bys nonce ++ bys S := by
    rw [show 4 + id.size = (3 + id.size) + 1 by omega, ← List.drop_drop, d4]; rfl
  have d6 : (bys b).drop (16 + id.size) = bys S := by
    rw [show 16 + id.size = (4 + id.size) + 12 by omega, ← List.drop_drop, d5, drop_len (by omega)]
  have hd : hdD b = ⟨id, ver, nonce⟩ := by
    unfold hdD
    rw [g2, g3]
    congr 1
    · apply bys_inj
      rw [bys_extract, d3, take_len (by omega)]
    · exact hvv.symm
    · apply bys_inj
      rw [bys_extract, d5, take_len (by omega)]
  have e := partS_some (b := b) (by omega) (by
    apply bys_inj
    rw [bys_extract, List.drop_zero, hb, show bys markS = [75, 49] by decide]; rfl) (by omega) (by omega) (by rw [hd]; exact hr)
  rw [e, hd, g2]
  congr 2
  apply bys_inj
  rw [bys_extract, d6, List.take_of_length_le (by omega)]
/-- Heads that are unlike make unlike blobs. -/
theorem laid_inj {g h : Hd} {S T : ByteArray} (hg : rightH g = true) (hh : rightH h = true) (hS : 16 ≤ S.size) (hS2 : S.size ≤ 1040) (hT : 16 ≤ T.size) (hT2 : T.size ≤ 1040) (e : laidH g ++ S = laidH h ++ T) : g = h := by
  have h1 := partS_laid g S hg hS hS2
  rw [e, partS_laid h T hh hT hT2] at h1
  exact (Prod.mk.inj (Option.some.inj h1)).1.symm
end Go.Proofs.YtfamoakicgmfgaaGreat.Lb
namespace Go.Proofs.YtfamoakicgmfgaaGreat.Lb
open Go.RowKit Go.Own.Lb
def xA : P2 := ({ data := #[97] }, { data := #[49] })
def xB : P2 := ({ data := #[98] }, { data := #[50] })
def hd0 : Hd := ⟨{ data := #[107, 101, 121] }, 1, { data := #[49, 50, 51, 52, 53, 54, 55, 56, 57, 48, 49, 50] }⟩
def textS : ByteArray := { data := #[116, 101, 120, 116] }
/-- What the examples come to. -/
structure Wake (sA : ByteArray → ByteArray → ByteArray → ByteArray → ByteArray) (oA : ByteArray → ByteArray → ByteArray → ByteArray → ByteArray × Int) (k b r : ByteArray) : Prop where
  built : buildA sA k hd0 [xA, xB] textS = (b, 0)
  size : b.size = 39
  part : partS b = some (hd0, r)
  same : openA oA k b [xB, xA] = (textS, 0)
  less : openA oA k b [xA] = ({ data := #[] }, 8)
variable {sA : ByteArray → ByteArray → ByteArray → ByteArray → ByteArray} {oA : ByteArray → ByteArray → ByteArray → ByteArray → ByteArray × Int}
theorem ps_new (w : World) (x y : P2) : PsC (w.alloc (.cells #[.string x.1, .string x.2, .string y.1, .string y.2] 42)) (.slice (some ⟨w.heap.size, 0, none⟩) 2 2) [x, y] := by
  refine ⟨_, _, rfl, Nat.le_refl _, fun j u hu => ⟨w.heap.size, 0, rfl, ?_⟩⟩
  rw [cell_new, Nat.zero_add]
  simpa [cellsP] using hu
theorem small2 {x y : P2} (hx : x.1.size ≤ 1 ∧ x.2.size ≤ 1) (hy : y.1.size ≤ 1 ∧ y.2.size ≤ 1) : ∀ z ∈ [x, y], z.1.size ≤ 1000000 ∧ z.2.size ≤ 1000000 := fun z hz => by
  simp at hz; rcases hz with rfl | rfl <;> omega
set_option maxRecDepth 100000 in
set_option maxHeartbeats 4000000 in
theorem awake_any (H : Under sA oA) (k b r : ByteArray) (HC : ∀ w, Calls Tryz.prog 12 #[.int .u8 0, .int .i64 32] w fun e w' => e = .returned (.string k) ∧ Below w.heap.size w w') (A : Wake sA oA k b r) (w : World) :
    Calls Tryz.prog 4 #[] w fun e w' => e = .returned (.bool true) ∧ Below w.heap.size w w' := by
  have hsAB : ∀ z ∈ [xA, xB], z.1.size ≤ 1000000 ∧ z.2.size ≤ 1000000 := small2 (by decide) (by decide)
  have hsBA : ∀ z ∈ [xB, xA], z.1.size ≤ 1000000 ∧ z.2.size ≤ 1000000 := small2 (by decide) (by decide)
  have hsA : ∀ z ∈ [xA], z.1.size ≤ 1000000 ∧ z.2.size ≤ 1000000 := fun z hz => hsAB z (by simp at hz; simp [hz])
  have hbs : (b.size : Int) = 39 := by rw [A.size]; rfl
  have HB := Lib.hid fun W p cap hP => build_any H k hd0 [xA, xB] p cap textS (by decide) hsAB W hP
  have HP := Lib.hid fun W => parse_any b (by rw [A.size]; decide) W
  have HP2 := Lib.hid fun W => parse_any { data := #[75, 49] } (by decide) W
  have HO1 := Lib.hid fun W p cap hP => open_any H k b [xB, xA] p cap (by rw [A.size]; decide) (by decide) hsBA W hP
  have HO2 := Lib.hid fun W p cap hP => open_any H k b [xA] p cap (by rw [A.size]; decide) (by decide) hsA W hP
  rw [A.built] at HB
  rw [A.part] at HP
  rw [partS_none (Or.inl (by decide))] at HP2
  rw [A.same] at HO1
  rw [A.less] at HO2
  unfold parseV hdV hd0 textS at *
  unfold noHd at HP2
  simp only [List.length_cons, List.length_nil, Nat.zero_add, Nat.reduceAdd] at *
  have HCC := Lib.hid HC
  clear hsAB hsBA hsA A H HC
  go_enter Tryz.func4, Tryz.ntmps4
  go_wp2_with fail
  refine (HCC.out _).mono ?_
  rintro e w1 ⟨rfl, hb1⟩
  have HB1 := Lib.hid hb1
  clear hb1
  go_wp2_with fail
  obtain ⟨w2, hw2⟩ : ∃ w2, w1.alloc (.cells #[.string { data := #[107, 101, 121] }, .int .i64 1, .string { data := #[49, 50, 51, 52, 53, 54, 55, 56, 57, 48, 49, 50] }] 23) = w2 := ⟨_, rfl⟩
  have hz2 : w2.heap.size = w1.heap.size + 1 := by rw [← hw2]; simp
  obtain ⟨w3, hw3⟩ : ∃ w3, w2.alloc (.cells #[.string { data := #[97] }, .string { data := #[49] }, .string { data := #[98] }, .string { data := #[50] }] 42) = w3 := ⟨_, rfl⟩
  have hH2 : w2.heap[w1.heap.size]? = some (.cells #[.string { data := #[107, 101, 121] }, .int .i64 1, .string { data := #[49, 50, 51, 52, 53, 54, 55, 56, 57, 48, 49, 50] }] 23 (0, 0)) := hw2 ▸ heap_alloc_new w1 _
  have hH3 : w3.heap[w1.heap.size]? = some (.cells #[.string { data := #[107, 101, 121] }, .int .i64 1, .string { data := #[49, 50, 51, 52, 53, 54, 55, 56, 57, 48, 49, 50] }] 23 (0, 0)) := hw3 ▸ keep_b ((Below.refl _ w2).alloc (Nat.le_refl _) _) hH2
  have hQ3 : w3.heap[w1.heap.size + 1]? = some (.cells #[.string { data := #[97] }, .string { data := #[49] }, .string { data := #[98] }, .string { data := #[50] }] 42 (0, 0)) := by rw [← hz2, ← hw3]; exact heap_alloc_new w2 _
  have hP3 : PsC w3 (.slice (some ⟨w1.heap.size + 1, 0, none⟩) 2 2) [xA, xB] := by rw [← hz2, ← hw3]; exact ps_new w2 xA xB
  have hB3 : Below w.heap.size w w3 := hw3 ▸ (hw2 ▸ HB1.out.alloc HB1.out.size _).alloc (by rw [hz2]; have := HB1.out.size; omega) _
  have HH3 := Lib.hid hH3
  have HQ3 := Lib.hid hQ3
  have HP3 := Lib.hid hP3
  have HB3 := Lib.hid hB3
  rw [hw2, hw3]
  clear hH2 hH3 hQ3 hP3 hB3 hz2 hw2 hw3
  refine (HB.out _ _ _ HP3.out).mono ?_
  rintro e w4 ⟨rfl, hb4⟩
  have HB4 := Lib.hid (HB3.out.trans (hb4.mono HB3.out.size))
  have HH4 := Lib.hid (keep_b hb4 HH3.out)
  have HQ4 := Lib.hid (keep_b hb4 HQ3.out)
  have HP4 := Lib.hid (HP3.out.below hb4)
  clear hb4
  go_wp2_with fail
  refine (HP.out _).mono ?_
  rintro e w5 ⟨rfl, hb5⟩
  have HB5 := Lib.hid (HB4.out.trans (hb5.mono HB4.out.size))
  have HH5 := Lib.hid (keep_b hb5 HH4.out)
  have HQ5 := Lib.hid (keep_b hb5 HQ4.out)
  have HP5 := Lib.hid (HP4.out.below hb5)
  clear hb5
  have q0 := fun o => cell_of (keep_b ((Below.refl _ w5).alloc (Nat.le_refl _) o) HQ5.out) 0
  have q1 := fun o => cell_of (keep_b ((Below.refl _ w5).alloc (Nat.le_refl _) o) HQ5.out) 1
  have q2 := fun o => cell_of (keep_b ((Below.refl _ w5).alloc (Nat.le_refl _) o) HQ5.out) 2
  have q3 := fun o => cell_of (keep_b ((Below.refl _ w5).alloc (Nat.le_refl _) o) HQ5.out) 3
  go_wp2_with fail
  obtain ⟨w6, hw6⟩ : ∃ w6, w5.alloc (.cells #[.string { data := #[107, 101, 121] }, .int .i64 1, .string { data := #[49, 50, 51, 52, 53, 54, 55, 56, 57, 48, 49, 50] }] 23) = w6 := ⟨_, rfl⟩
  have hb6 : Below w5.heap.size w5 w6 := hw6 ▸ (Below.refl _ w5).alloc (Nat.le_refl _) _
  have HG6 : Hid (w6.heap[w5.heap.size]? = some (.cells #[.string { data := #[107, 101, 121] }, .int .i64 1, .string { data := #[49, 50, 51, 52, 53, 54, 55, 56, 57, 48, 49, 50] }] 23 (0, 0))) := Lib.hid (hw6 ▸ heap_alloc_new w5 _)
  have HB6 := Lib.hid (HB5.out.trans (hb6.mono HB5.out.size))
  have HH6 := Lib.hid (keep_b hb6 HH5.out)
  have HQ6 := Lib.hid (keep_b hb6 HQ5.out)
  have HP6 := Lib.hid (HP5.out.below hb6)
  clear q0 q1 q2 q3
  have q0 := cell_of HQ6.out 0
  have q1 := cell_of HQ6.out 1
  have q2 := cell_of HQ6.out 2
  have q3 := cell_of HQ6.out 3
  rw [hw6]
  clear hb6 hw6
  have hd6 : Below w6.heap.size w6 ((w6.alloc (.cells #[.string { data := #[98] }, .string { data := #[50] }, .string { data := #[97] }, .string { data := #[49] }] 42)).drew) := below_drewN ((Below.refl _ w6).alloc (Nat.le_refl _) _) 1
  have hPd : PsC ((w6.alloc (.cells #[.string { data := #[98] }, .string { data := #[50] }, .string { data := #[97] }, .string { data := #[49] }] 42)).drew) (.slice (some ⟨w6.heap.size, 0, none⟩) 2 2) [xB, xA] := (ps_new w6 xB xA).below (below_drewN (Below.refl _ _) 1)
  have HD6 := Lib.hid hd6
  have HPD := Lib.hid hPd
  clear hd6 hPd
  go_region_with (go_at_call 10; refine (HO1.out _ _ _ HPD.out).mono ?_; rintro e w7 ⟨rfl, hb7⟩)
  all_goals
    have HB7 := Lib.hid ((HB6.out.trans (HD6.out.mono HB6.out.size)).trans (hb7.mono (HB6.out.trans (HD6.out.mono HB6.out.size)).size))
    have HH7 := Lib.hid (keep_b hb7 (keep_b HD6.out HH6.out))
    have HG7 := Lib.hid (keep_b hb7 (keep_b HD6.out HG6.out))
    have HP7 := Lib.hid ((HP6.out.below HD6.out).below hb7)
    clear hb7 q0 q1 q2 q3
    have HPF := Lib.hid (HP7.out.first 1 (by decide))
    go_wp2_with fail
    refine (HO2.out _ _ _ HPF.out).mono ?_
    rintro e w8 ⟨rfl, hb8⟩
    have HB8 := Lib.hid (HB7.out.trans (hb8.mono HB7.out.size))
    have HH8 := Lib.hid (keep_b hb8 HH7.out)
    have HG8 := Lib.hid (keep_b hb8 HG7.out)
    clear hb8
    go_wp2_with fail
    refine (HP2.out _).mono ?_
    rintro e w9 ⟨rfl, hb9⟩
    have HB9 := Lib.hid (HB8.out.trans (hb9.mono HB8.out.size))
    have HH9 := Lib.hid (keep_b hb9 HH8.out)
    have HG9 := Lib.hid (keep_b hb9 HG8.out)
    clear hb9
    have c0 := fun o => cell_of (keep_b ((Below.refl _ w9).alloc (Nat.le_refl _) o) HH9.out) 0
    have c1 := fun o => cell_of (keep_b ((Below.refl _ w9).alloc (Nat.le_refl _) o) HH9.out) 1
    have c2 := fun o => cell_of (keep_b ((Below.refl _ w9).alloc (Nat.le_refl _) o) HH9.out) 2
    have d0 := fun o => cell_of (keep_b ((Below.refl _ w9).alloc (Nat.le_refl _) o) HG9.out) 0
    have d1 := fun o => cell_of (keep_b ((Below.refl _ w9).alloc (Nat.le_refl _) o) HG9.out) 1
    have d2 := fun o => cell_of (keep_b ((Below.refl _ w9).alloc (Nat.le_refl _) o) HG9.out) 2
    have HBX := fun o => Lib.hid (HB9.out.alloc HB9.out.size o)
    go_wp2
    go_ret
    exact ⟨rfl, (HBX _).out⟩
end Go.Proofs.YtfamoakicgmfgaaGreat.Lb

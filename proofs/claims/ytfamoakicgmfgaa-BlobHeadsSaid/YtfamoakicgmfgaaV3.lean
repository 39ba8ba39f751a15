/- The product of two blocks, by shifts of two words: by contract. No condition. | The product by shifts of two words is the document's product. No condition but that both are blocks. -/
import Derived.Test.YtfamoakicgmfgaaV1
import Derived.Test.YtfamoakicgmfgaaW1
import Derived.Test.YtfamoakicgmfgaaG1
namespace Go.Own
open Go.RowKit
theorem ba64l (a n : Nat) : bits .and .u64 (a : Int) (no_index (OfNat.ofNat n)) = ((and64 a n : Nat) : Int) := ba64 a n
theorem ba64r (a n : Nat) : bits .and .u64 (no_index (OfNat.ofNat n)) (a : Int) = ((and64 n a : Nat) : Int) := ba64 n a
theorem neg64_and (a b : Nat) : IntKind.u64.wrap (-((and64 a b : Nat) : Int)) = ((neg64 (and64 a b) : Nat) : Int) := neg64_op _ (Nat.le_of_lt (and64_lt a b))
theorem set_same {L : List Obj} {m : Nat} {X : Obj} (h : (L[m]?).isSome = true) : (L.set m X)[m]? = some X := by
  have hm : m < L.length := by
    rcases Nat.lt_or_ge m L.length with h' | h'
    · exact h'
    · rw [List.getElem?_eq_none h'] at h; cases h
  rw [List.getElem?_set_self hm]
/-- All ones, if the bit is 1; else noughts. -/
def tMask (C : List Nat) (i : Nat) : Nat := neg64 (and64 (shr64 (gi C (i / 64)) (63 - i % 64)) 1)
def tSum1 (S P : List Nat) (m : Nat) : List Nat := spl S 0 [xor64 (gi S 0) (and64 (gi P 0) m)]
def tSum (S P : List Nat) (m : Nat) : List Nat := spl (tSum1 S P m) 1 [xor64 (gi (tSum1 S P m) 1) (and64 (gi P 1) m)]
def tPow1 (P : List Nat) : List Nat := spl P 1 [or64 (shr64 (gi P 1) 1) (shl64 (gi P 0) 63)]
def tPow (P : List Nat) : List Nat := spl (tPow1 P) 0 [xor64 (shr64 (gi (tPow1 P) 0) 1) (and64 16212958658533785600 (neg64 (and64 (gi P 1) 1)))]
/-- The power, and the sum, when k bits have been gone through. -/
def tP (Y : List Nat) : Nat → List Nat
  | 0 => Y
  | k + 1 => tPow (tP Y k)
def tS (C Y : List Nat) : Nat → List Nat
  | 0 => rep 2
  | k + 1 => tSum (tS C Y k) (tP Y k) (tMask C k)
theorem spl_len1 {s : List Nat} {o x : Nat} (h : o < s.length) : (spl s o [x]).length = s.length := spl_length _ _ _ (by simp; omega)
theorem tSum1_length {S P : List Nat} {m : Nat} (h : S.length = 2) : (tSum1 S P m).length = 2 := by rw [tSum1, spl_len1 (by omega), h]
theorem tSum_length {S P : List Nat} {m : Nat} (h : S.length = 2) : (tSum S P m).length = 2 := by rw [tSum, spl_len1 (by rw [tSum1_length h]; omega), tSum1_length h]
theorem tPow1_length {P : List Nat} (h : P.length = 2) : (tPow1 P).length = 2 := by rw [tPow1, spl_len1 (by omega), h]
theorem tPow_length {P : List Nat} (h : P.length = 2) : (tPow P).length = 2 := by rw [tPow, spl_len1 (by rw [tPow1_length h]; omega), tPow1_length h]
theorem tP_length {Y : List Nat} (h : Y.length = 2) : ∀ k, (tP Y k).length = 2
  | 0 => h
  | k + 1 => tPow_length (tP_length h k)
theorem tS_length (C Y : List Nat) : ∀ k, (tS C Y k).length = 2
  | 0 => rep_length _
  | k + 1 => tSum_length (tS_length C Y k)
/-- Two words as a block. -/
def unw (S : List Nat) : List Nat := hfL (gi S 0) 8 ++ hfL (gi S 1) 8
theorem unw_length (S : List Nat) : (unw S).length = 16 := by simp [unw, hfL_length]
theorem unw_B8 (S : List Nat) : B8 (unw S) := (hfL_B8 _ _).append (hfL_B8 _ _)
def timesL (x y : List Nat) : List Nat := unw (tS (wst2 x 16) (wst2 y 16) 128)
end Go.Own
namespace Go.Proofs.Ytfamoakicgmfgaa
open Go.RowKit Go.Own
attribute [local go_sem] z5 ag5 cs5 sz5 isa5 ag60 cs60 sz60 z60 ag116 cs116 sz116 z116 ag75 cs75 sz75 isa75 ba64l ba64r neg64_and set_same List.getElem?_set_ne
attribute [-go_sem] run_string_add_if
/-- What holds while the two words are made, in whatever order. -/
structure TInv (x y V1 V2 : List Nat) (w : World) (b : Nat → Bool) (x5 x6 x11 x12 x13 x14 : Value) (i5 i6 : Nat) (l : List Obj) : Prop where
  r0 : l[0]? = some (.cells (cv .u8 x) 60 (0, 0))
  r1 : l[1]? = some (.cells (cv .u8 y) 60 (0, 0))
  r2 : l[2]? = some (.cells (cv .u8 (rep 16)) 60 (0, 0))
  h0 : b 0 = true → x11 = .agg (cv .u8 x)
  h1 : b 1 = true → x12 = .agg (cv .u64 V1)
  h2 : b 2 = true → x13 = .agg (cv .u8 y)
  h3 : b 3 = true → x14 = .agg (cv .u64 V2)
  h4 : b 4 = true → x5 = .pointer (some ⟨w.heap.size + i5, 0, none⟩) ∧ 3 ≤ i5 ∧ l[i5]? = some (.cells (cv .u64 (if b 6 then V1 else rep 2)) 116 (0, 0))
  h5 : b 5 = true → x6 = .pointer (some ⟨w.heap.size + i6, 0, none⟩) ∧ 3 ≤ i6 ∧ l[i6]? = some (.cells (cv .u64 (if b 7 then V2 else rep 2)) 116 (0, 0))
  ne : b 4 = true → b 5 = true → i5 ≠ i6
  c6 : b 6 = true → b 4 = true
  c7 : b 7 = true → b 5 = true
theorem TInv.app {x y V1 V2 : List Nat} {w : World} {b : Nat → Bool} {x5 x6 x11 x12 x13 x14 : Value} {i5 i6 : Nat} {l : List Obj} (h : TInv x y V1 V2 w b x5 x6 x11 x12 x13 x14 i5 i6 l) (g : List Obj) :
    TInv x y V1 V2 w b x5 x6 x11 x12 x13 x14 i5 i6 (l ++ g) := by
  have e : ∀ {i : Nat} {o : Obj}, l[i]? = some o → (l ++ g)[i]? = some o := fun {i o} hi => by rw [List.getElem?_append_left (List.getElem?_eq_some_iff.1 hi).1]; exact hi
  exact ⟨e h.r0, e h.r1, e h.r2, h.h0, h.h1, h.h2, h.h3, fun k => ⟨(h.h4 k).1, (h.h4 k).2.1, e (h.h4 k).2.2⟩, fun k => ⟨(h.h5 k).1, (h.h5 k).2.1, e (h.h5 k).2.2⟩, h.ne, h.c6, h.c7⟩
def upd (b : Nat → Bool) (i j : Nat) : Bool := if i = j then true else b j
theorem upd_of {done : Array Bool} {i : Nat} (h : done.getD i true = false) : (fun j => (done.setIfInBounds i true).getD j false) = upd (fun j => done.getD j false) i := by
  funext j
  unfold upd
  by_cases e : i = j
  · subst e
    rw [if_pos rfl]
    have hs : i < done.size := by
      rcases Nat.lt_or_ge i done.size with h' | h'
      · exact h'
      · simp [h'] at h
    simp [hs]
  · rw [if_neg e, getD_set_ne false e]
set_option maxRecDepth 100000 in
set_option maxHeartbeats 4000000 in
theorem times_any (x y : List Nat) (hx : x.length = 16) (hy : y.length = 16) (hx8 : ∀ i, gi x i < 256) (hy8 : ∀ i, gi y i < 256) (w : World) :
    Calls Try.prog 63 #[.agg (cv .u8 x), .agg (cv .u8 y)] w fun e w' => e = .returned (.agg (cv .u8 (timesL x y))) ∧ Grows w w' := by
  have HX8 := Lib.hid (fun W => words2_any x hx hx8 W)
  have HY8 := Lib.hid (fun W => words2_any y hy hy8 W)
  clear hx8 hy8
  refine calls_wd ?_
  go_enter Try.func63, Try.ntmps63
  go_wp2
  rename_i Q' K hK
  obtain ⟨V1, hV1⟩ : ∃ V, wst2 x 16 = V := ⟨_, rfl⟩
  obtain ⟨V2, hV2⟩ : ∃ V, wst2 y 16 = V := ⟨_, rfl⟩
  have hV1l : V1.length = 2 := hV1 ▸ wst2_length x 16 (Nat.le_refl _)
  have hV2l : V2.length = 2 := hV2 ▸ wst2_length y 16 (Nat.le_refl _)
  have HT : Hid (timesL x y = unw (tS V1 V2 128)) := Lib.hid (by rw [timesL, hV1, hV2])
  rw [hV1] at HX8
  rw [hV2] at HY8
  have hpost : ∀ (x11 x12 x13 x14 : Value) (i5 i6 : Nat) (l : List Obj) (d : Nat), i5 ≠ i6 → 3 ≤ i5 → 3 ≤ i6 → l[2]? = some (.cells (cv .u8 (rep 16)) 60 (0, 0)) → l[i5]? = some (.cells (cv .u64 V1) 116 (0, 0)) → l[i6]? = some (.cells (cv .u64 V2) 116 (0, 0)) →
      K { tmps := List.toArray (.agg (cv .u8 x) :: .agg (cv .u8 y) :: .pointer (some ⟨w.heap.size, 0, none⟩) :: .pointer (some ⟨w.heap.size + 1, 0, none⟩) :: .pointer (some ⟨w.heap.size + 2, 0, none⟩) :: .pointer (some ⟨w.heap.size + i5, 0, none⟩) :: .pointer (some ⟨w.heap.size + i6, 0, none⟩) :: undef :: undef :: undef :: undef :: x11 :: x12 :: x13 :: x14 :: undef :: undef :: undef :: undef :: undef :: undef :: undef :: undef :: undef :: undef :: undef :: undef :: undef :: undef :: undef :: undef :: undef :: undef :: undef :: undef :: undef :: undef :: undef :: undef :: undef :: undef :: undef :: undef :: undef :: undef :: undef :: undef :: undef :: undef :: undef :: undef :: undef :: undef :: undef :: undef :: undef :: undef :: undef :: undef :: undef :: undef :: undef :: undef :: undef :: undef :: undef :: undef :: undef :: undef :: undef :: undef :: undef :: []), defers := [] } (Wd w l d) := by
    intro x11 x12 x13 x14 i5 i6 l d hne h5 h6 hr0 hr1 hr2
    refine hK _ _ ?_
    clear hK HX8 HY8
    obtain ⟨m, hm⟩ : ∃ m, l.length = m := ⟨_, rfl⟩
    have hb2 : 2 < m := by rw [← hm]; exact (List.getElem?_eq_some_iff.1 hr0).1
    have hb5 : i5 < m := by rw [← hm]; exact (List.getElem?_eq_some_iff.1 hr1).1
    have hb6 : i6 < m := by rw [← hm]; exact (List.getElem?_eq_some_iff.1 hr2).1
    have hL0 : (l ++ [Obj.cells (cv .u64 (rep 2)) 116 (0, 0)])[2]? = some (.cells (cv .u8 (rep 16)) 60 (0, 0)) := by rw [List.getElem?_append_left (by omega)]; exact hr0
    have hL1 : (l ++ [Obj.cells (cv .u64 (rep 2)) 116 (0, 0)])[i5]? = some (.cells (cv .u64 V1) 116 (0, 0)) := by rw [List.getElem?_append_left (by omega)]; exact hr1
    have hL2 : (l ++ [Obj.cells (cv .u64 (rep 2)) 116 (0, 0)])[i6]? = some (.cells (cv .u64 V2) 116 (0, 0)) := by rw [List.getElem?_append_left (by omega)]; exact hr2
    have hL3 : (l ++ [Obj.cells (cv .u64 (rep 2)) 116 (0, 0)])[m]? = some (.cells (cv .u64 (rep 2)) 116 (0, 0)) := by rw [List.getElem?_append_right (by omega), hm]; simp
    have hA : Hid ((l ++ [Obj.cells (cv .u64 (rep 2)) 116 (0, 0)])[2]? = some (.cells (cv .u8 (rep 16)) 60 (0, 0)) ∧ (l ++ [Obj.cells (cv .u64 (rep 2)) 116 (0, 0)])[i5]? = some (.cells (cv .u64 V1) 116 (0, 0)) ∧ (l ++ [Obj.cells (cv .u64 (rep 2)) 116 (0, 0)])[i6]? = some (.cells (cv .u64 V2) 116 (0, 0)) ∧ (l ++ [Obj.cells (cv .u64 (rep 2)) 116 (0, 0)])[m]? = some (.cells (cv .u64 (rep 2)) 116 (0, 0))) := Lib.hid ⟨hL0, hL1, hL2, hL3⟩
    clear hL0 hL1 hL2 hL3 hr0 hr1 hr2
    have hn2 : ¬ (i5 = 2) := by omega
    have hn3 : ¬ (i6 = 2) := by omega
    have hn4 : ¬ (m = 2) := by omega
    have hn5 : ¬ (m = i5) := by omega
    have hn6 : ¬ (m = i6) := by omega
    have hn7 : ¬ (i6 = i5) := by omega
    have hn8 : ¬ (i6 = m) := by omega
    clear hb2 hb5 hb6 h5 h6
    go_wp2
    go_loopw [15] (fun i wr => ∃ (k d : Nat) (L : List Obj), k ≤ 128 ∧ i = .int .i64 k ∧ Hid (L[2]? = some (.cells (cv .u8 (rep 16)) 60 (0, 0)) ∧ L[i5]? = some (.cells (cv .u64 V1) 116 (0, 0)) ∧ L[i6]? = some (.cells (cv .u64 (tP V2 k)) 116 (0, 0)) ∧ L[m]? = some (.cells (cv .u64 (tS V1 V2 k)) 116 (0, 0))) ∧ wr = Wd w L d) (fun i _ => 128 - (intOf i).toNat)
    case atStart => exact ⟨0, d, _, by omega, rfl, hA, rfl⟩
    case round =>
      obtain ⟨k, d, L, hk, rfl, hL, rfl⟩ := hrel
      obtain ⟨l0, l1, l2, l3⟩ := hL.out
      have hPl := tP_length hV2l k
      have hSl := tS_length V1 V2 k
      by_cases hlt : k < 128
      · have HP : Hid (tP V2 (k + 1) = tPow (tP V2 k)) := rfl
        have HS : Hid (tS V1 V2 (k + 1) = tSum (tS V1 V2 k) (tP V2 k) (tMask V1 k)) := rfl
        obtain ⟨P, hP⟩ : ∃ P, tP V2 k = P := ⟨_, rfl⟩
        obtain ⟨S, hS⟩ : ∃ S, tS V1 V2 k = S := ⟨_, rfl⟩
        rw [hP] at hPl l2 HP HS
        rw [hS] at hSl l3 HS
        obtain ⟨q, hq⟩ : ∃ q, k / 64 = q := ⟨_, rfl⟩
        obtain ⟨r, hr⟩ : ∃ r, k % 64 = r := ⟨_, rfl⟩
        obtain ⟨z, hz⟩ : ∃ z, 63 - r = z := ⟨_, rfl⟩
        have hMk : Hid (tMask V1 k = neg64 (and64 (shr64 (gi V1 q) z) 1)) := Lib.hid (by rw [tMask, hq, hr, hz])
        have e1 := tSum1_length (P := P) (m := tMask V1 k) hSl
        have e2 := tPow1_length hPl
        clear hP hS hL
        rw [hMk.out] at HS e1
        unfold tSum1 at e1
        unfold tPow1 at e2
        have HQ := Lib.hid hq
        have HR := Lib.hid hr
        have HZ := Lib.hid hz
        clear hq hr hz
        have hlti : (k : Int) < 128 := by omega
        iterate 14 go_step
        have hq := HQ.out
        have hr := HR.out
        have hz := HZ.out
        have hq2 : q < 2 := by omega
        have hqi : (k : Int).tdiv 64 = (q : Int) := by rw [Int.tdiv_eq_ediv_of_nonneg (by omega)]; omega
        have hqi2 : (k : Int) / 64 = (q : Int) := by omega
        have hri : (k : Int).tmod 64 = (r : Int) := by rw [Int.tmod_eq_emod_of_nonneg (by omega)]; omega
        have hri2 : (k : Int) % 64 = (r : Int) := by omega
        have hzi : 63 - (r : Int) = (z : Int) := by omega
        have hz64 : z ≤ 64 := by omega
        clear hq hr hz
        go_wp2
        go_roundw
        case rel =>
          refine ⟨k + 1, _, _, by omega, by go_num, ?_, rfl⟩
          have b2 := (List.getElem?_eq_some_iff.1 l2).1
          have b3 := (List.getElem?_eq_some_iff.1 l3).1
          rw [HP.out, HS.out]
          refine Lib.hid ⟨?_, ?_, ?_, ?_⟩
          · simp only [List.getElem?_set_ne hn3, List.getElem?_set_ne hn4, l0]
          · simp only [List.getElem?_set_ne hn7, List.getElem?_set_ne hn5, l1]
          · rw [set_same (by simp only [List.getElem?_set_ne hn6, l2, Option.isSome_some])]; rfl
          · simp only [List.getElem?_set_ne hn8]; rw [set_same (by simp only [l3, Option.isSome_some])]; rfl
        case measure => simp [intOf]; omega
      · obtain rfl : k = 128 := by omega
        obtain ⟨S, hS⟩ : ∃ S, tS V1 V2 128 = S := ⟨_, rfl⟩
        rw [hS] at hSl l3 HT
        clear hS hL
        have H1 : Hid (∀ W, Calls Try.prog 41 #[.int .u64 (gi S 0 : Nat), .int .i64 8] W fun e w' => e = .returned (.string (mkS (hfL (gi S 0) 8))) ∧ Grows W w') := Lib.hid fun W => highFirst_any (gi S 0) 8 (by decide) W
        have H2 : Hid (∀ W, Calls Try.prog 41 #[.int .u64 (gi S 1 : Nat), .int .i64 8] W fun e w' => e = .returned (.string (mkS (hfL (gi S 1) 8))) ∧ Grows W w') := Lib.hid fun W => highFirst_any (gi S 1) 8 (by decide) W
        have H3 : Hid (∀ W, Calls Try.prog 39 #[.string (mkS (unw S))] W fun e w' => e = .returned (.agg (cv .u8 (unw S))) ∧ Grows W w') := Lib.hid fun W => by
          have := filled_any (mkS (unw S)) W
          rwa [bys_mkS _ (unw_B8 S), fillL_full (unw_length S)] at this
        have hadd : ∀ W, (Op.stringOp .add (mkS (hfL (gi S 0) 8)) (mkS (hfL (gi S 1) 8))).run Try.prog W = .ok (.string (mkS (unw S))) W := fun W => by
          rw [run_string_add_sum W _ _ (by rw [mkS_size, mkS_size, hfL_length, hfL_length]; decide), unw]
          congr 2
        have hul := unw_length S
        have HB1 := Lib.hid fun (g' : List Obj) (e : Nat) => big_call (L := fun g' => L ++ g') (g := g') (e := e) (w := w) (l0 := L) (fun _ _ => by simp) (fun _ => rfl) (H1.out _)
        have HB2 := Lib.hid fun (g' : List Obj) (e : Nat) => big_call (L := fun g' => L ++ g') (g := g') (e := e) (w := w) (l0 := L) (fun _ _ => by simp) (fun _ => rfl) (H2.out _)
        have HB3 := Lib.hid fun (g' : List Obj) (e : Nat) => big_call (L := fun g' => L ++ g') (g := g') (e := e) (w := w) (l0 := L) (fun _ _ => by simp) (fun _ => rfl) (H3.out _)
        have hlm : m < L.length := (List.getElem?_eq_some_iff.1 l3).1
        have hl2 : 2 < L.length := (List.getElem?_eq_some_iff.1 l0).1
        have k3 : ∀ g, (L ++ g)[m]? = some (.cells (cv .u64 S) 116 (0, 0)) := fun g => by rw [List.getElem?_append_left hlm, l3]
        have k2 : ∀ g, (L ++ g)[2]? = some (.cells (cv .u8 (rep 16)) 60 (0, 0)) := fun g => by rw [List.getElem?_append_left hl2, l0]
        clear hlm hl2
        go_wp2
        refine wp_region_big 8 (by kernel_rfl) (by kernel_rfl) ?_
        simp only [List.take_succ_cons, List.take_zero, List.drop_succ_cons, List.drop_zero]
        repeat (go_big_quiet_step ((intro _; first | (with_reducible exact HB1.out _ _) | (with_reducible exact HB2.out _ _) | (with_reducible exact HB3.out _ _))))
        refine wpQuiet_nil ?_
        intro gR eR
        go_wp2
        exact ret_cell (i := 2) rfl rfl ag60 (set_same (by rw [k2]; rfl)) hul rfl ⟨by rw [HT.out], Grows.of _ _ _⟩
  clear hK
  refine wp_region_any (by kernel_rfl) ?_
  refine wpAny_of_inv (fun done a wr => ∃ (x5 x6 x11 x12 x13 x14 : Value) (i5 i6 : Nat) (l : List Obj) (d : Nat), a = { tmps := List.toArray (.agg (cv .u8 x) :: .agg (cv .u8 y) :: .pointer (some ⟨w.heap.size, 0, none⟩) :: .pointer (some ⟨w.heap.size + 1, 0, none⟩) :: .pointer (some ⟨w.heap.size + 2, 0, none⟩) :: x5 :: x6 :: undef :: undef :: undef :: undef :: x11 :: x12 :: x13 :: x14 :: undef :: undef :: undef :: undef :: undef :: undef :: undef :: undef :: undef :: undef :: undef :: undef :: undef :: undef :: undef :: undef :: undef :: undef :: undef :: undef :: undef :: undef :: undef :: undef :: undef :: undef :: undef :: undef :: undef :: undef :: undef :: undef :: undef :: undef :: undef :: undef :: undef :: undef :: undef :: undef :: undef :: undef :: undef :: undef :: undef :: undef :: undef :: undef :: undef :: undef :: undef :: undef :: undef :: undef :: undef :: undef :: undef :: []), defers := [] } ∧ wr = Wd w l d ∧ TInv x y V1 V2 w (fun j => done.getD j false) x5 x6 x11 x12 x13 x14 i5 i6 l) (by kernel_rfl) ?step ?fin _ _ _ _ (by simp) (by decide +kernel) ?start
  case start =>
    have hz : ∀ n j, (Array.replicate n false).getD j false ≠ true := fun n j h => by rw [getD_replicate_false] at h; cases h
    exact ⟨undef, undef, undef, undef, undef, undef, 0, 0, _, _, rfl, rfl, ⟨rfl, rfl, rfl, fun h => absurd h (hz _ _), fun h => absurd h (hz _ _), fun h => absurd h (hz _ _), fun h => absurd h (hz _ _), fun h => absurd h (hz _ _), fun h => absurd h (hz _ _), fun h => absurd h (hz _ _), fun h => absurd h (hz _ _), fun h => absurd h (hz _ _)⟩⟩
  case fin =>
    rintro done a wr ⟨x5, x6, x11, x12, x13, x14, i5, i6, l, d, rfl, rfl, hI⟩ hall
    have b4 := hI.h4 (hall 4 (by decide))
    have b5 := hI.h5 (hall 5 (by decide))
    have e6 : done.getD 6 false = true := hall 6 (by decide)
    have e7 : done.getD 7 false = true := hall 7 (by decide)
    obtain ⟨rfl, q1, q2⟩ := b4
    obtain ⟨rfl, q3, q4⟩ := b5
    rw [e6, if_pos rfl] at q2
    rw [e7, if_pos rfl] at q4
    exact hpost _ _ _ _ i5 i6 l d (hI.ne (hall 4 (by decide)) (hall 5 (by decide))) q1 q3 hI.r2 q2 q4
  case step =>
    rintro done a wr i ⟨x5, x6, x11, x12, x13, x14, i5, i6, l, d, rfl, rfl, hI⟩ hnd hdep hlt
    have hU := Lib.hid (upd_of hnd)
    have hi8 : i = 0 ∨ i = 1 ∨ i = 2 ∨ i = 3 ∨ i = 4 ∨ i = 5 ∨ i = 6 ∨ i = 7 := by
      have : i < 8 := hlt
      omega
    have HI := Lib.hid hI
    have HD := Lib.hid hdep
    clear hpost hdep
    have r0 := hI.r0
    have r1 := hI.r1
    clear hI
    rcases hi8 with rfl | rfl | rfl | rfl | rfl | rfl | rfl | rfl
    · refine wpOp_lit (by decide) fun o ho => ?_
      simp only [List.getElem?_cons_zero, Option.some.injEq] at ho
      subst ho
      refine ⟨rfl, fun K' hK' => ?_⟩
      go_simp
      refine hK' _ _ ⟨x5, x6, _, x12, x13, x14, i5, i6, l, d, rfl, rfl, ?_⟩
      have hI := HI.out
      rw [hU.out]
      generalize (fun j => done.getD j false) = b at hI
      exact ⟨hI.r0, hI.r1, hI.r2, fun _ => rfl, hI.h1, hI.h2, hI.h3, hI.h4, hI.h5, hI.ne, hI.c6, hI.c7⟩
    · refine wpOp_lit (by decide) fun o ho => ?_
      simp only [List.getElem?_cons_zero, List.getElem?_cons_succ, Option.some.injEq] at ho
      subst ho
      refine ⟨rfl, fun K' hK' => ?_⟩
      have e0 := HI.out.h0 (HD.out _ rfl ⟨0, .data⟩ (by simp) rfl)
      subst e0
      go_simp
      refine (HX8.out _).mono ?_
      rintro e w' ⟨rfl, g, dd, rfl⟩
      rw [Wd_wd]
      go_simp
      refine hK' _ _ ⟨x5, x6, _, _, x13, x14, i5, i6, l ++ g, _, rfl, rfl, ?_⟩
      have hI := HI.out.app g
      rw [hU.out]
      generalize (fun j => done.getD j false) = b at hI
      exact ⟨hI.r0, hI.r1, hI.r2, hI.h0, fun _ => rfl, hI.h2, hI.h3, hI.h4, hI.h5, hI.ne, hI.c6, hI.c7⟩
    · refine wpOp_lit (by decide) fun o ho => ?_
      simp only [List.getElem?_cons_zero, List.getElem?_cons_succ, Option.some.injEq] at ho
      subst ho
      refine ⟨rfl, fun K' hK' => ?_⟩
      go_simp
      refine hK' _ _ ⟨x5, x6, x11, x12, _, x14, i5, i6, l, d, rfl, rfl, ?_⟩
      have hI := HI.out
      rw [hU.out]
      generalize (fun j => done.getD j false) = b at hI
      exact ⟨hI.r0, hI.r1, hI.r2, hI.h0, hI.h1, fun _ => rfl, hI.h3, hI.h4, hI.h5, hI.ne, hI.c6, hI.c7⟩
    · refine wpOp_lit (by decide) fun o ho => ?_
      simp only [List.getElem?_cons_zero, List.getElem?_cons_succ, Option.some.injEq] at ho
      subst ho
      refine ⟨rfl, fun K' hK' => ?_⟩
      have e0 := HI.out.h2 (HD.out _ rfl ⟨2, .data⟩ (by simp) rfl)
      subst e0
      go_simp
      refine (HY8.out _).mono ?_
      rintro e w' ⟨rfl, g, dd, rfl⟩
      rw [Wd_wd]
      go_simp
      refine hK' _ _ ⟨x5, x6, x11, x12, _, _, i5, i6, l ++ g, _, rfl, rfl, ?_⟩
      have hI := HI.out.app g
      rw [hU.out]
      generalize (fun j => done.getD j false) = b at hI
      exact ⟨hI.r0, hI.r1, hI.r2, hI.h0, hI.h1, hI.h2, fun _ => rfl, hI.h4, hI.h5, hI.ne, hI.c6, hI.c7⟩
    · refine wpOp_lit (by decide) fun o ho => ?_
      simp only [List.getElem?_cons_zero, List.getElem?_cons_succ, Option.some.injEq] at ho
      subst ho
      refine ⟨rfl, fun K' hK' => ?_⟩
      go_simp
      refine hK' _ _ ⟨_, x6, x11, x12, x13, x14, l.length, i6, _, _, rfl, rfl, ?_⟩
      have hI0 := HI.out
      have hI := HI.out.app [.cells (cv .u64 (rep 2)) 116 (0, 0)]
      rw [hU.out]
      have hz : (fun j => done.getD j false) 4 = false := by
        cases hz : done.getD 4 false with
        | false => exact hz
        | true => rw [getD_both hnd] at hz; cases hz
      generalize (fun j => done.getD j false) = b at hI hI0 hz
      have hz2 : b 6 = false := by
        cases hz2 : b 6 with
        | false => rfl
        | true => rw [hI.c6 hz2] at hz; cases hz
      have hb : b 5 = true → i6 < l.length := fun k => (List.getElem?_eq_some_iff.1 (hI0.h5 k).2.2).1
      have hl3 : 3 ≤ l.length := (List.getElem?_eq_some_iff.1 hI0.r2).1
      exact ⟨hI.r0, hI.r1, hI.r2, hI.h0, hI.h1, hI.h2, hI.h3, fun _ => ⟨rfl, hl3, by rw [show upd b 4 6 = false from hz2, if_neg (by decide), List.getElem?_append_right (Nat.le_refl _), Nat.sub_self]; rfl⟩, hI.h5, fun _ k => Ne.symm (Nat.ne_of_lt (hb k)), fun k => absurd (hz2.symm.trans k) (by decide), hI.c7⟩
    · refine wpOp_lit (by decide) fun o ho => ?_
      simp only [List.getElem?_cons_zero, List.getElem?_cons_succ, Option.some.injEq] at ho
      subst ho
      refine ⟨rfl, fun K' hK' => ?_⟩
      go_simp
      refine hK' _ _ ⟨x5, _, x11, x12, x13, x14, i5, l.length, _, _, rfl, rfl, ?_⟩
      have hI0 := HI.out
      have hI := HI.out.app [.cells (cv .u64 (rep 2)) 116 (0, 0)]
      rw [hU.out]
      have hz : (fun j => done.getD j false) 5 = false := by
        cases hz : done.getD 5 false with
        | false => exact hz
        | true => rw [getD_both hnd] at hz; cases hz
      generalize (fun j => done.getD j false) = b at hI hI0 hz
      have hz2 : b 7 = false := by
        cases hz2 : b 7 with
        | false => rfl
        | true => rw [hI.c7 hz2] at hz; cases hz
      have hb : b 4 = true → i5 < l.length := fun k => (List.getElem?_eq_some_iff.1 (hI0.h4 k).2.2).1
      have hl3 : 3 ≤ l.length := (List.getElem?_eq_some_iff.1 hI0.r2).1
      exact ⟨hI.r0, hI.r1, hI.r2, hI.h0, hI.h1, hI.h2, hI.h3, hI.h4, fun _ => ⟨rfl, hl3, by rw [show upd b 5 7 = false from hz2, if_neg (by decide), List.getElem?_append_right (Nat.le_refl _), Nat.sub_self]; rfl⟩, fun k _ => Nat.ne_of_lt (hb k), hI.c6, fun k => absurd (hz2.symm.trans k) (by decide)⟩
    · refine wpOp_lit (by decide) fun o ho => ?_
      simp only [List.getElem?_cons_zero, List.getElem?_cons_succ, Option.some.injEq] at ho
      subst ho
      refine ⟨rfl, fun K' hK' => ?_⟩
      have d4 := HD.out _ rfl ⟨4, .data⟩ (by simp) rfl
      have e1 := HI.out.h1 (HD.out _ rfl ⟨1, .data⟩ (by simp) rfl)
      obtain ⟨rfl, q1, q2⟩ := HI.out.h4 d4
      subst e1
      have e6 : done.getD 6 false = false := by
        cases hz : done.getD 6 false with
        | false => rfl
        | true => rw [getD_both hnd] at hz; cases hz
      simp only [e6, Bool.false_eq_true, if_false] at q2
      go_simp
      refine hK' _ _ ⟨_, x6, x11, _, x13, x14, i5, i6, _, _, rfl, rfl, ?_⟩
      have hI := HI.out
      rw [hU.out]
      have hd : (fun j => done.getD j false) 4 = true := d4
      generalize (fun j => done.getD j false) = b at hI hd
      exact ⟨(List.getElem?_set_ne (by omega)).trans hI.r0, (List.getElem?_set_ne (by omega)).trans hI.r1, (List.getElem?_set_ne (by omega)).trans hI.r2, hI.h0, hI.h1, hI.h2, hI.h3, fun _ => ⟨rfl, q1, set_same (by rw [q2]; rfl)⟩, fun k => ⟨(hI.h5 k).1, (hI.h5 k).2.1, (List.getElem?_set_ne (hI.ne hd k)).trans (hI.h5 k).2.2⟩, hI.ne, fun _ => hd, hI.c7⟩
    · refine wpOp_lit (by decide) fun o ho => ?_
      simp only [List.getElem?_cons_zero, List.getElem?_cons_succ, Option.some.injEq] at ho
      subst ho
      refine ⟨rfl, fun K' hK' => ?_⟩
      have d4 := HD.out _ rfl ⟨5, .data⟩ (by simp) rfl
      have e1 := HI.out.h3 (HD.out _ rfl ⟨3, .data⟩ (by simp) rfl)
      obtain ⟨rfl, q1, q2⟩ := HI.out.h5 d4
      subst e1
      have e6 : done.getD 7 false = false := by
        cases hz : done.getD 7 false with
        | false => rfl
        | true => rw [getD_both hnd] at hz; cases hz
      simp only [e6, Bool.false_eq_true, if_false] at q2
      go_simp
      refine hK' _ _ ⟨x5, _, x11, x12, x13, _, i5, i6, _, _, rfl, rfl, ?_⟩
      have hI := HI.out
      rw [hU.out]
      have hd : (fun j => done.getD j false) 5 = true := d4
      generalize (fun j => done.getD j false) = b at hI hd
      exact ⟨(List.getElem?_set_ne (by omega)).trans hI.r0, (List.getElem?_set_ne (by omega)).trans hI.r1, (List.getElem?_set_ne (by omega)).trans hI.r2, hI.h0, hI.h1, hI.h2, hI.h3, fun k => ⟨(hI.h4 k).1, (hI.h4 k).2.1, (List.getElem?_set_ne (Ne.symm (hI.ne k hd))).trans (hI.h4 k).2.2⟩, fun _ => ⟨rfl, q1, set_same (by rw [q2]; rfl)⟩, hI.ne, hI.c6, fun _ => hd⟩
end Go.Proofs.Ytfamoakicgmfgaa
namespace Go.Own
open Go.RowKit
/-- The bit of two words of number i. -/
def wb (S : List Nat) (i : Nat) : Bool := (gi S (i / 64)).testBit (63 - i % 64)
def wN (S : List Nat) : Nat := xsum (fun i => if wb S i then 2 ^ i else 0) 128
theorem wN_lt (S : List Nat) : wN S < 2 ^ 128 := bitsum_lt _ _
theorem wN_bit (S : List Nat) (i : Nat) (h : i < 128) : (wN S).testBit i = wb S i := by
  unfold wN
  rw [bitsum_testBit, decide_eq_true h, Bool.true_and]
theorem wN_ext {S : List Nat} {a : Nat} (ha : a < 2 ^ 128) (h : ∀ i, i < 128 → wb S i = a.testBit i) : wN S = a := by
  apply Nat.eq_of_testBit_eq
  intro i
  by_cases hi : i < 128
  · rw [wN_bit S i hi, h i hi]
  · rw [Nat.testBit_lt_two_pow (Nat.lt_of_lt_of_le (wN_lt S) (Nat.pow_le_pow_right (by decide) (by omega))), Nat.testBit_lt_two_pow (Nat.lt_of_lt_of_le ha (Nat.pow_le_pow_right (by decide) (by omega)))]
theorem m64 : (18446744073709551616 : Nat) = 2 ^ 64 := by decide
theorem xor64_bit (a b j : Nat) : (xor64 a b).testBit j = (decide (j < 64) && (a.testBit j ^^ b.testBit j)) := by
  unfold xor64; rw [m64, Nat.testBit_mod_two_pow, Nat.testBit_xor]
theorem and64_bit (a b j : Nat) : (and64 a b).testBit j = (decide (j < 64) && (a.testBit j && b.testBit j)) := by
  unfold and64; rw [m64, Nat.testBit_mod_two_pow, Nat.testBit_and]
theorem or64_bit (a b j : Nat) : (or64 a b).testBit j = (decide (j < 64) && (a.testBit j || b.testBit j)) := by
  unfold or64; rw [m64, Nat.testBit_mod_two_pow, Nat.testBit_or]
theorem shl64_bit (a n j : Nat) : (shl64 a n).testBit j = (decide (j < 64) && (decide (n ≤ j) && a.testBit (j - n))) := by
  unfold shl64; rw [m64, Nat.testBit_mod_two_pow, ← Nat.shiftLeft_eq, Nat.testBit_shiftLeft]
theorem shr64_bit (a n j : Nat) : (shr64 a n).testBit j = a.testBit (n + j) := by
  unfold shr64; rw [← Nat.shiftRight_eq_div_pow, Nat.testBit_shiftRight]
/-- The mask of one bit. -/
theorem mask_bit (a j : Nat) (hj : j < 64) : (neg64 (and64 a 1)).testBit j = a.testBit 0 := by
  have e : and64 a 1 = a % 2 := by
    unfold and64; rw [Nat.and_one_is_mod]; omega
  have h2 : a % 2 = 0 ∨ a % 2 = 1 := by omega
  have h0 : a.testBit 0 = decide (a % 2 = 1) := Nat.testBit_zero a
  rw [e, h0]
  rcases h2 with h | h
  · rw [h]
    show (0 : Nat).testBit j = _
    simp
  · rw [h]
    have : neg64 1 = 2 ^ 64 - 1 := by decide
    rw [this, Nat.testBit_two_pow_sub_one]
    simp [hj]
theorem gi_pair (a b j : Nat) (h : j < 2) : gi [a, b] j = if j = 0 then a else b := by
  have : j = 0 ∨ j = 1 := by omega
  rcases this with rfl | rfl <;> rfl
theorem wb_pair (a b i : Nat) (h : i < 128) : wb [a, b] i = if i < 64 then a.testBit (63 - i % 64) else b.testBit (63 - i % 64) := by
  unfold wb
  rw [gi_pair _ _ _ (by omega)]
  by_cases hi : i < 64
  · rw [if_pos (by omega), if_pos hi]
  · rw [if_neg (by omega), if_neg hi]
theorem tSum_pair (s0 s1 p0 p1 m : Nat) : tSum [s0, s1] [p0, p1] m = [xor64 s0 (and64 p0 m), xor64 s1 (and64 p1 m)] := rfl
theorem tPow_pair (p0 p1 : Nat) : tPow [p0, p1] = [xor64 (shr64 p0 1) (and64 16212958658533785600 (neg64 (and64 p1 1))), or64 (shr64 p1 1) (shl64 p0 63)] := rfl
theorem rest_bit : ∀ i, i < 64 → (16212958658533785600 : Nat).testBit (63 - i) = (135 : Nat).testBit i := by decide +kernel
theorem xt_bit (a i : Nat) (hi : i < 128) : (xt a).testBit i = ((decide (1 ≤ i) && a.testBit (i - 1)) ^^ (a.testBit 127 && (135 : Nat).testBit i)) := by
  unfold xt
  rw [Nat.testBit_xor, Nat.testBit_mod_two_pow, decide_eq_true hi, Bool.true_and]
  have e : a * 2 = a <<< 1 := by rw [Nat.shiftLeft_eq]
  rw [e, Nat.testBit_shiftLeft]
  congr 1
  cases a.testBit 127 <;> simp
theorem small_bit {a j : Nat} (h : a < 18446744073709551616) (hj : 64 ≤ j) : a.testBit j = false :=
  Nat.testBit_lt_two_pow (Nat.lt_of_lt_of_le h (by rw [m64]; exact Nat.pow_le_pow_right (by decide) hj))
theorem tPow_xt (p0 p1 : Nat) (h0 : p0 < 18446744073709551616) (h1 : p1 < 18446744073709551616) : wN (tPow [p0, p1]) = xt (wN [p0, p1]) := by
  refine wN_ext (xt_lt _) fun i hi => ?_
  rw [tPow_pair, xt_bit _ _ hi, wN_bit _ 127 (by decide), wb_pair _ _ _ hi, wb_pair _ _ 127 (by decide)]
  rw [if_neg (show ¬ 127 < 64 by decide), show 63 - 127 % 64 = 0 from rfl]
  by_cases h64 : i < 64
  · rw [if_pos h64, show i % 64 = i by omega, xor64_bit, and64_bit, mask_bit _ _ (by omega), shr64_bit, rest_bit i h64, decide_eq_true (show 63 - i < 64 by omega)]
    by_cases hz : i = 0
    · subst hz
      rw [small_bit h0 (by omega)]
      simp [Bool.and_comm]
    · rw [wN_bit _ _ (by omega), wb_pair _ _ _ (by omega), if_pos (by omega), show 63 - (i - 1) % 64 = 1 + (63 - i) by omega, decide_eq_true (show 1 ≤ i by omega)]
      simp [Bool.and_comm]
  · have hr : (135 : Nat).testBit i = false := Nat.testBit_lt_two_pow (Nat.lt_of_lt_of_le (show 135 < 2 ^ 8 by decide) (Nat.pow_le_pow_right (by decide) (by omega)))
    rw [if_neg h64, or64_bit, shr64_bit, shl64_bit, hr, Bool.and_false, Bool.xor_false, wN_bit _ _ (by omega), wb_pair _ _ _ (by omega), decide_eq_true (show 63 - i % 64 < 64 by omega), decide_eq_true (show 1 ≤ i by omega)]
    by_cases hz : i = 64
    · subst hz
      rw [small_bit h1 (by decide)]
      rw [if_pos (by decide)]
      simp
    · rw [if_neg (show ¬ i - 1 < 64 by omega), decide_eq_false (show ¬ 63 ≤ 63 - i % 64 by omega), show 63 - (i - 1) % 64 = 1 + (63 - i % 64) by omega]
      simp
theorem tSum_xor (s0 s1 p0 p1 a : Nat) : wN (tSum [s0, s1] [p0, p1] (neg64 (and64 a 1))) = wN [s0, s1] ^^^ (if a.testBit 0 then wN [p0, p1] else 0) := by
  refine wN_ext (Nat.xor_lt_two_pow (wN_lt _) (by split; exact wN_lt _; decide)) fun i hi => ?_
  rw [tSum_pair, wb_pair _ _ _ hi, Nat.testBit_xor, wN_bit _ _ hi, wb_pair _ _ _ hi]
  have e : (if a.testBit 0 = true then wN [p0, p1] else 0).testBit i = (a.testBit 0 && wb [p0, p1] i) := by
    cases a.testBit 0
    · simp
    · simp [wN_bit _ _ hi]
  rw [e, wb_pair _ _ _ hi]
  by_cases h64 : i < 64
  · rw [if_pos h64, if_pos h64, if_pos h64, xor64_bit, and64_bit, mask_bit _ _ (by omega), decide_eq_true (show 63 - i % 64 < 64 by omega)]
    simp [Bool.and_comm]
  · rw [if_neg h64, if_neg h64, if_neg h64, xor64_bit, and64_bit, mask_bit _ _ (by omega), decide_eq_true (show 63 - i % 64 < 64 by omega)]
    simp [Bool.and_comm]
/-- Two words. -/
def Pair (S : List Nat) : Prop := ∃ a b, S = [a, b] ∧ a < 18446744073709551616 ∧ b < 18446744073709551616
theorem tP_pair {Y : List Nat} (h : Pair Y) : ∀ k, Pair (tP Y k)
  | 0 => h
  | k + 1 => by
    obtain ⟨a, b, e, _, _⟩ := tP_pair h k
    rw [tP, e, tPow_pair]
    exact ⟨_, _, rfl, xor64_lt _ _, or64_lt _ _⟩
theorem tS_pair (C : List Nat) {Y : List Nat} (h : Pair Y) : ∀ k, Pair (tS C Y k)
  | 0 => ⟨0, 0, rfl, by decide, by decide⟩
  | k + 1 => by
    obtain ⟨a, b, e, _, _⟩ := tP_pair h k
    obtain ⟨c, d, e2, _, _⟩ := tS_pair C h k
    rw [tS, e, e2, tSum_pair]
    exact ⟨_, _, rfl, xor64_lt _ _, xor64_lt _ _⟩
theorem tP_it {Y : List Nat} (h : Pair Y) : ∀ k, wN (tP Y k) = it k (wN Y)
  | 0 => rfl
  | k + 1 => by
    obtain ⟨a, b, e, ha, hb⟩ := tP_pair h k
    rw [tP, it, ← tP_it h k, e, tPow_xt _ _ ha hb]
theorem tS_sum (C : List Nat) {Y : List Nat} (h : Pair Y) : ∀ k, wN (tS C Y k) = xsum (fun i => if wb C i then it i (wN Y) else 0) k
  | 0 => by
    refine wN_ext (show (0 : Nat) < 2 ^ 128 by decide) fun i hi => ?_
    show wb [0, 0] i = _
    rw [wb_pair _ _ _ hi]
    simp [xsum]
  | k + 1 => by
    obtain ⟨a, b, e, ha, hb⟩ := tP_pair h k
    obtain ⟨c, d, e2, _, _⟩ := tS_pair C h k
    rw [tS, xsum, ← tS_sum C h k, ← tP_it h k, e, e2]
    unfold tMask
    rw [tSum_xor, shr64_bit]
    rfl
theorem times_gmul {C Y : List Nat} (h : Pair Y) : wN (tS C Y 128) = gmul (wN Y) (wN C) := by
  rw [tS_sum C h]
  unfold gmul
  exact xsum_congr 128 fun i hi => by rw [wN_bit C i hi]
/-- A word out of bytes. -/
def wv (x : List Nat) (q : Nat) : Nat → Nat
  | 0 => 0
  | m + 1 => or64 (shl64 (wv x q m) 8) (gi x (8 * q + m))
theorem wst2_lo (x : List Nat) : ∀ k, k ≤ 8 → wst2 x k = [wv x 0 k, 0]
  | 0, _ => rfl
  | k + 1, h => by
    rw [wst2, wst2_lo x k (by omega), show k / 8 = 0 by omega]
    show [or64 (shl64 (wv x 0 k) 8) (gi x k), 0] = _
    rw [wv, show 8 * 0 + k = k by omega]
theorem wst2_hi (x : List Nat) : ∀ k, k ≤ 8 → wst2 x (8 + k) = [wv x 0 8, wv x 1 k]
  | 0, _ => wst2_lo x 8 (by decide)
  | k + 1, h => by
    rw [show 8 + (k + 1) = (8 + k) + 1 by omega, wst2, wst2_hi x k (by omega), show (8 + k) / 8 = 1 by omega]
    show [wv x 0 8, or64 (shl64 (wv x 1 k) 8) (gi x (8 + k))] = _
    rw [show wv x 1 (k + 1) = or64 (shl64 (wv x 1 k) 8) (gi x (8 * 1 + k)) from rfl, show 8 * 1 + k = 8 + k by omega]
theorem wv_bit (x : List Nat) (h8 : ∀ i, gi x i < 256) (q : Nat) : ∀ m, m ≤ 8 → ∀ j, (wv x q m).testBit j = (decide (j < 8 * m) && (gi x (8 * q + (m - 1 - j / 8))).testBit (j % 8))
  | 0, _, j => by simp [wv]
  | m + 1, h, j => by
    rw [wv, or64_bit, shl64_bit, wv_bit x h8 q m (by omega)]
    by_cases h1 : j < 8
    · rw [decide_eq_true (show j < 64 by omega), decide_eq_false (show ¬ 8 ≤ j by omega), decide_eq_true (show j < 8 * (m + 1) by omega), show m + 1 - 1 - j / 8 = m by omega, show j % 8 = j by omega]
      simp
    · have hb : (gi x (8 * q + m)).testBit j = false := Nat.testBit_lt_two_pow (Nat.lt_of_lt_of_le (h8 _) (show 2 ^ 8 ≤ 2 ^ j from Nat.pow_le_pow_right (by decide) (by omega)))
      rw [hb, decide_eq_true (show 8 ≤ j by omega), show (j - 8) % 8 = j % 8 by omega]
      by_cases h2 : j < 8 * (m + 1)
      · rw [decide_eq_true h2, decide_eq_true (show j < 64 by omega), decide_eq_true (show j - 8 < 8 * m by omega), show m - 1 - (j - 8) / 8 = m + 1 - 1 - j / 8 by omega]
        simp
      · rw [decide_eq_false h2, decide_eq_false (show ¬ j - 8 < 8 * m by omega)]
        simp
theorem wst2_pair (x : List Nat) : Pair (wst2 x 16) := by
  refine ⟨wv x 0 8, wv x 1 8, wst2_hi x 8 (by decide), ?_, ?_⟩
  · exact or64_lt _ _
  · exact or64_lt _ _
theorem wst2_toN (x : List Nat) (h8 : ∀ i, gi x i < 256) : wN (wst2 x 16) = toN x := by
  refine wN_ext (toN_lt x) fun i hi => ?_
  rw [toN_bit x i hi, wst2_hi x 8 (by decide), wb_pair _ _ _ hi]
  unfold xbB
  by_cases h64 : i < 64
  · rw [if_pos h64, wv_bit x h8 0 8 (by decide), decide_eq_true (by omega), show 8 * 0 + (8 - 1 - (63 - i % 64) / 8) = i / 8 by omega, show (63 - i % 64) % 8 = 7 - i % 8 by omega, Bool.true_and]
  · rw [if_neg h64, wv_bit x h8 1 8 (by decide), decide_eq_true (by omega), show 8 * 1 + (8 - 1 - (63 - i % 64) / 8) = i / 8 by omega, show (63 - i % 64) % 8 = 7 - i % 8 by omega, Bool.true_and]
theorem gi_hfL (n L i : Nat) (h : i < L) : gi (hfL n L) i = hfF n L i := by
  unfold hfL; simp [gi, List.getD, h]
theorem unw_toN (S : List Nat) : toN (unw S) = wN S := by
  symm
  refine wN_ext (toN_lt _) fun i hi => ?_
  rw [toN_bit _ i hi]
  unfold xbB unw wb
  have hg : gi (hfL (gi S 0) 8 ++ hfL (gi S 1) 8) (i / 8) = hfF (gi S (i / 64)) 8 (i / 8 % 8) := by
    by_cases h64 : i < 64
    · have : gi (hfL (gi S 0) 8 ++ hfL (gi S 1) 8) (i / 8) = gi (hfL (gi S 0) 8) (i / 8) := by
        simp only [gi, List.getD_eq_getElem?_getD]
        rw [List.getElem?_append_left (by rw [hfL_length]; omega)]
      rw [this, gi_hfL _ _ _ (by omega), show i / 64 = 0 by omega, show i / 8 % 8 = i / 8 by omega]
    · have : gi (hfL (gi S 0) 8 ++ hfL (gi S 1) 8) (i / 8) = gi (hfL (gi S 1) 8) (i / 8 - 8) := by
        simp only [gi, List.getD_eq_getElem?_getD]
        rw [List.getElem?_append_right (by rw [hfL_length]; omega), hfL_length]
      rw [this, gi_hfL _ _ _ (by omega), show i / 64 = 1 by omega, show i / 8 % 8 = i / 8 - 8 by omega]
  rw [hg]
  unfold hfF
  rw [show (256 : Nat) = 2 ^ 8 by decide, Nat.testBit_mod_two_pow, decide_eq_true (show 7 - i % 8 < 8 by omega), Bool.true_and, shr64_bit]
  congr 1
  omega
theorem timesL_prodL {x y : List Nat} (hx8 : ∀ i, gi x i < 256) (hy8 : ∀ i, gi y i < 256) : timesL x y = prodL x y := by
  refine toN_inj (unw_B8 _) (prodL_B8 _ _) (unw_length _) (prodL_length _ _) ?_
  rw [prodL_gmul]
  unfold timesL
  rw [unw_toN, times_gmul (wst2_pair y), wst2_toN x hx8, wst2_toN y hy8]
  exact gmul_comm (toN_lt _) (toN_lt _)
end Go.Own

/- Layer 4 of the document: the tag: by contract (the cipher's own contract is asked). -/
import Derived.Test.YtmhhekiliojifaaT4
import Derived.Deep.RegionLaw
namespace Go.Own
open Go.RowKit
/-- What is hashed. -/
def hashedL (bes b : List Nat) : List Nat := wholeL bes ++ wholeL b ++ fourL 0 ++ fourL (8 * bes.length) ++ fourL 0 ++ fourL (8 * b.length)
/-- The hash, so many blocks of it. -/
def hashS (h all : List Nat) : Nat → List Nat
  | 0 => rep 16
  | c + 1 => prodL (xorL (hashS h all c) ((all.drop (16 * c)).take 16)) h
/-- The tag. -/
def tagG (cip : List Nat → List Nat) (nonce bes b : List Nat) : List Nat := xorL (hashS (cip (rep 16)) (hashedL bes b) ((hashedL bes b).length / 16)) (cip (nonce ++ fourL 1))
theorem wholeL_length (x : List Nat) : (wholeL x).length = x.length + fillN x.length := by rw [wholeL, List.length_append, rep_length]
theorem hashedL_length (bes b : List Nat) : (hashedL bes b).length % 16 = 0 ∧ (hashedL bes b).length ≤ bes.length + b.length + 48 := by
  unfold hashedL
  simp only [List.length_append, wholeL_length]
  show (bes.length + fillN bes.length + (b.length + fillN b.length) + 4 + 4 + 4 + 4) % 16 = 0 ∧ bes.length + fillN bes.length + (b.length + fillN b.length) + 4 + 4 + 4 + 4 ≤ bes.length + b.length + 48
  unfold fillN
  omega
theorem hashS_length (h all : List Nat) : ∀ c, (hashS h all c).length = 16
  | 0 => rep_length 16
  | _ + 1 => prodL_length _ _
theorem hashS_B8 (h all : List Nat) : ∀ c, B8 (hashS h all c)
  | 0 => B8.rep 16
  | _ + 1 => prodL_B8 _ _
theorem B8.whole {x : List Nat} (h : B8 x) : B8 (wholeL x) := h.append (B8.rep _)
end Go.Own
namespace Go.Proofs.Ytmhhekiliojifaa
open Go.RowKit Go.Own
attribute [local go_sem] ag5t cs5t sz5t isa5t ag44t ldX32 bxN_two
attribute [-go_sem] run_string_add_if
/-- Two texts, one behind the other. -/
theorem add_mkS (a b : List Nat) (h : a.length + b.length ≤ 1000000000) (W : World) : (Op.stringOp .add (mkS a) (mkS b)).run Try.prog W = .ok (.string (mkS (a ++ b))) W := by
  rw [run_string_add_sum W _ _ (by rw [mkS_size, mkS_size]; omega), mkS_append]
set_option maxRecDepth 100000 in
set_option maxHeartbeats 4000000 in
theorem tag_any (kx ky : Value) (cip : List Nat → List Nat) (hcl : ∀ t, (cip t).length = 16) (hc8 : ∀ t, B8 (cip t)) (Rdy : World → Prop) (hrdy : ∀ w w' : World, Rdy w → Grows w w' → Rdy w')
    (HP : ∀ (W : World) (t : ByteArray), Rdy W → t.size = 16 → Calls Try.prog 36 #[.agg #[kx, ky], .string t] W fun e w' => e = .returned (.tuple #[.string (mkS (cip (bys t))), .int .i64 0]) ∧ Grows W w')
    (nonce bes bo : ByteArray) (hn : nonce.size = 12) (hb1 : bes.size ≤ 1000000) (hb2 : bo.size ≤ 1000000) (w : World) (hR : Rdy w) :
    Calls Try.prog 20 #[.agg #[kx, ky], .string nonce, .string bes, .string bo] w fun e w' => e = .returned (.string (mkS (tagG cip (bys nonce) (bys bes) (bys bo)))) ∧ Grows w w' := by
  have hmk : (Try.prog.info? 5).map (fun i => (i.zero, i.size, i.bytes)) = some (some (.int .u8 0), 1, 1) := by kernel_rfl
  have hz5 : zeroOf Try.prog 5 = .int .u8 0 := by kernel_rfl
  obtain ⟨x, hx⟩ : ∃ x, bys bes = x := ⟨_, rfl⟩
  obtain ⟨y, hy⟩ : ∃ y, bys bo = y := ⟨_, rfl⟩
  have hxl : Hid (x.length ≤ 1000000) := Lib.hid (by rw [← hx, bys_length]; exact hb1)
  have hyl : Hid (y.length ≤ 1000000) := Lib.hid (by rw [← hy, bys_length]; exact hb2)
  obtain ⟨nx, hnx⟩ : ∃ n, 8 * bes.size = n := ⟨_, rfl⟩
  obtain ⟨ny, hny⟩ : ∃ n, 8 * bo.size = n := ⟨_, rfl⟩
  have hnxi : 8 * (bes.size : Int) = nx := by omega
  have hnyi : 8 * (bo.size : Int) = ny := by omega
  have hnxb : (nx : Int) ≤ 8000000 := by omega
  have hnyb : (ny : Int) ≤ 8000000 := by omega
  obtain ⟨h, hh⟩ : ∃ h, cip (rep 16) = h := ⟨_, rfl⟩
  have hhl : Hid (h.length = 16) := Lib.hid (by rw [← hh]; exact hcl _)
  have hh8 : Hid (B8 h) := Lib.hid (by rw [← hh]; exact hc8 _)
  have H0 : ∀ W, Rdy W → Calls Try.prog 36 #[.agg #[kx, ky], .string (mkS (rep 16))] W fun e w' => e = .returned (.tuple #[.string (mkS h), .int .i64 0]) ∧ Grows W w' := fun W hW => by
    have := HP W (mkS (rep 16)) hW (by rw [mkS_size, rep_length])
    rwa [bys_mkS _ (B8.rep 16), hh] at this
  have HH0 := Lib.hid H0
  obtain ⟨t, hT⟩ : ∃ t, nonce ++ mkS (fourL 1) = t := ⟨_, rfl⟩
  have htb : bys t = bys nonce ++ fourL 1 := by rw [← hT, cat_bys, bys_mkS _ (fourL_B8 1), bys_mkS _ ((B8.bys nonce).append (fourL_B8 1))]
  have hts : t.size = 16 := by rw [← bys_length, htb, List.length_append, bys_length, hn]; rfl
  have hadd1 : ∀ W, (Op.stringOp .add nonce (mkS (fourL 1))).run Try.prog W = .ok (.string t) W := fun W => by
    rw [run_string_add_sum W _ _ (by rw [hn, mkS_size]; show 12 + 4 ≤ _; decide), hT]
  obtain ⟨s1, hs1⟩ : ∃ s1, cip (bys t) = s1 := ⟨_, rfl⟩
  have hs1l : Hid (s1.length = 16) := Lib.hid (by rw [← hs1]; exact hcl _)
  have hs18 : Hid (B8 s1) := Lib.hid (by rw [← hs1]; exact hc8 _)
  have H1 : ∀ W, Rdy W → Calls Try.prog 36 #[.agg #[kx, ky], .string t] W fun e w' => e = .returned (.tuple #[.string (mkS s1), .int .i64 0]) ∧ Grows W w' := fun W hW => by
    have := HP W t hW hts
    rwa [hs1] at this
  have HH1 := Lib.hid H1
  have HW1 := Lib.hid (whole_any bes (by omega))
  have HW2 := Lib.hid (whole_any bo (by omega))
  rw [hx] at HW1
  rw [hy] at HW2
  have HF0 : Hid (∀ W : World, Calls Try.prog 37 #[.int .i64 0] W fun e w' => e = .returned (.string (mkS (fourL 0))) ∧ Grows W w') := Lib.hid fun W => four_any 0 (by decide) W
  have HF1 : Hid (∀ W : World, Calls Try.prog 37 #[.int .i64 1] W fun e w' => e = .returned (.string (mkS (fourL 1))) ∧ Grows W w') := Lib.hid fun W => four_any 1 (by decide) W
  have HFx := Lib.hid (four_any nx (by omega))
  have HFy := Lib.hid (four_any ny (by omega))
  have hwx : Hid ((wholeL x).length ≤ 1000016) := Lib.hid (by rw [wholeL_length]; have := hxl.out; unfold fillN; omega)
  have hwy : Hid ((wholeL y).length ≤ 1000016) := Lib.hid (by rw [wholeL_length]; have := hyl.out; unfold fillN; omega)
  obtain ⟨A, hA⟩ : ∃ A, hashedL x y = A := ⟨_, rfl⟩
  have hAe : Hid (wholeL x ++ wholeL y ++ fourL 0 ++ fourL nx ++ fourL 0 ++ fourL ny = A) := Lib.hid (by
    rw [← hA, hashedL, ← hnx, ← hny, ← bys_length bes, ← bys_length bo, hx, hy])
  obtain ⟨N, hN⟩ : ∃ N, A.length / 16 = N := ⟨_, rfl⟩
  have hAl : Hid (A.length = 16 * N ∧ A.length ≤ 2000048) := Lib.hid (by
    have := hashedL_length x y
    rw [hA] at this
    have h1 := hxl.out
    have h2 := hyl.out
    omega)
  have hA8 : Hid (B8 A) := Lib.hid (by
    rw [← hA, hashedL]
    have bx : B8 x := by rw [← hx]; exact B8.bys bes
    have by' : B8 y := by rw [← hy]; exact B8.bys bo
    exact (((((B8.whole bx).append (B8.whole by')).append (fourL_B8 _)).append (fourL_B8 _)).append (fourL_B8 _)).append (fourL_B8 _))
  have hTG : Hid (tagG cip (bys nonce) (bys bes) (bys bo) = xorL (hashS h A N) s1) := Lib.hid (by
    rw [tagG, hx, hy, hA, hN, hh, ← hs1, htb])
  have l4 : ∀ n, (fourL n).length = 4 := fun _ => rfl
  have L4 := Lib.hid l4
  have a1 : ∀ W, (Op.stringOp .add (mkS (wholeL x)) (mkS (wholeL y))).run Try.prog W = .ok (.string (mkS (wholeL x ++ wholeL y))) W := fun W => add_mkS _ _ (by have := hwx.out; have := hwy.out; omega) W
  have a2 : ∀ W, (Op.stringOp .add (mkS (wholeL x ++ wholeL y)) (mkS (fourL 0))).run Try.prog W = .ok (.string (mkS (wholeL x ++ wholeL y ++ fourL 0))) W := fun W => add_mkS _ _ (by simp only [List.length_append, L4.out]; have := hwx.out; have := hwy.out; omega) W
  have a3 : ∀ W, (Op.stringOp .add (mkS (wholeL x ++ wholeL y ++ fourL 0)) (mkS (fourL nx))).run Try.prog W = .ok (.string (mkS (wholeL x ++ wholeL y ++ fourL 0 ++ fourL nx))) W := fun W => add_mkS _ _ (by simp only [List.length_append, L4.out]; have := hwx.out; have := hwy.out; omega) W
  have a4 : ∀ W, (Op.stringOp .add (mkS (wholeL x ++ wholeL y ++ fourL 0 ++ fourL nx)) (mkS (fourL 0))).run Try.prog W = .ok (.string (mkS (wholeL x ++ wholeL y ++ fourL 0 ++ fourL nx ++ fourL 0))) W := fun W => add_mkS _ _ (by simp only [List.length_append, L4.out]; have := hwx.out; have := hwy.out; omega) W
  have a5 : ∀ W, (Op.stringOp .add (mkS (wholeL x ++ wholeL y ++ fourL 0 ++ fourL nx ++ fourL 0)) (mkS (fourL ny))).run Try.prog W = .ok (.string (mkS A)) W := fun W => by
    rw [← hAe.out]; exact add_mkS _ _ (by simp only [List.length_append, L4.out]; have := hwx.out; have := hwy.out; omega) W
  generalize wholeL x ++ wholeL y ++ fourL 0 ++ fourL nx ++ fourL 0 = s5 at *
  generalize wholeL x ++ wholeL y ++ fourL 0 ++ fourL nx = s4 at *
  generalize wholeL x ++ wholeL y ++ fourL 0 = s3 at *
  generalize wholeL x ++ wholeL y = s2 at *
  have HRD := Lib.hid hR
  have HRR := Lib.hid hrdy
  have hnb : Hid (N ≤ 125003) := Lib.hid (by have := hAl.out; omega)
  clear hh hT htb hts hs1 H0 H1 hx hy hA hN hcl hc8 hrdy HP hR hb1 hb2 hnx hny hn l4
  refine calls_wd ?_
  go_enter Try.func20, Try.ntmps20
  go_wp2
  go_region_law (go_simp; go_at_call 36; refine (HH0.out _ (HRR.out _ _ HRD.out (Grows.of _ _ _))).mono ?_; rintro e w' ⟨rfl, g, d, rfl⟩; rw [Wd_wd])
  all_goals
    go_wp2_with fail
    refine (HW1.out _).mono ?_
    rintro e w' ⟨rfl, g2, d2, rfl⟩
    rw [Wd_wd]
    go_wp2_with fail
    refine (HW2.out _).mono ?_
    rintro e w' ⟨rfl, g3, d3, rfl⟩
    rw [Wd_wd]
    go_wp2_with fail
    refine (HF0.out _).mono ?_
    rintro e w' ⟨rfl, g4, d4, rfl⟩
    rw [Wd_wd]
    go_wp2_with fail
    refine (HFx.out _).mono ?_
    rintro e w' ⟨rfl, g5, d5, rfl⟩
    rw [Wd_wd]
    go_wp2_with fail
    refine (HF0.out _).mono ?_
    rintro e w' ⟨rfl, g6, d6, rfl⟩
    rw [Wd_wd]
    go_wp2_with fail
    refine (HFy.out _).mono ?_
    rintro e w' ⟨rfl, g7, d7, rfl⟩
    rw [Wd_wd]
    go_wp2
    go_loopw [12, 13] (fun o i wr => ∃ (c p d : Nat) (Y : List Nat) (g : List Obj), c ≤ N ∧ 16 * c = p ∧ i = .int .i64 p ∧ o = .string (mkS Y) ∧ Hid (hashS h A c = Y) ∧ wr = Wd w (.cells #[kx, ky] 44 (0, 0) :: g) d) (fun _ i _ => 16 * N + 16 - (intOf i).toNat)
    case atStart => exact ⟨0, 0, _, rep 16, _, by omega, rfl, rfl, rfl, Lib.hid rfl, rfl⟩
    case round =>
      obtain ⟨c, p, d, Y, g, hc, hp, rfl, rfl, hY, rfl⟩ := hrel
      have HPc := Lib.hid hp
      have hAs : (mkS A).size = 16 * N := by rw [mkS_size]; exact hAl.out.1
      have hYl : Hid (Y.length = 16) := Lib.hid (by rw [← hY.out]; exact hashS_length _ _ _)
      have hY8 : Hid (B8 Y) := Lib.hid (by rw [← hY.out]; exact hashS_B8 _ _ _)
      obtain ⟨M, hM⟩ : ∃ M, 16 * N = M := ⟨_, rfl⟩
      have HM := Lib.hid hM
      rw [hM] at hAs
      clear hp hM
      by_cases hlt : p < M
      · have hpi : (p : Int) < M := by omega
        obtain ⟨p2, hp2⟩ : ∃ p2, p + 16 = p2 := ⟨_, rfl⟩
        have hp2i : (p : Int) + 16 = p2 := by omega
        have hp2M : p2 ≤ M := by have := HPc.out; have := HM.out; omega
        have hpp2 : (p : Int) ≤ (p2 : Int) := by omega
        have hp2Mi : (p2 : Int) ≤ (M : Int) := by omega
        have hcN : c < N := by have := HPc.out; have := HM.out; omega
        have HP2 := Lib.hid hp2
        have hMb : (M : Int) ≤ 2000048 := by have := HM.out; have := hAl.out.2; have := hAl.out.1; omega
        obtain ⟨E, hE⟩ : ∃ E, (mkS A).extract p p2 = E := ⟨_, rfl⟩
        have hEb : Hid (bys E = (A.drop (16 * c)).take 16) := Lib.hid (by
          rw [← hE, bys_extract, bys_mkS A hA8.out, HPc.out, ← HP2.out, Nat.add_sub_cancel_left])
        have hEs : Hid (E.size = 16) := Lib.hid (by
          rw [← bys_length, hEb.out, List.length_take, List.length_drop]
          have := hAl.out.1
          omega)
        have hXR := Lib.hid (xor_any (mkS Y) E (by rw [mkS_size, hYl.out, hEs.out]; exact Nat.le_refl _) (by rw [mkS_size, hYl.out]; decide))
        obtain ⟨Z, hZ⟩ : ∃ Z, xorL (bys (mkS Y)) (bys E) = Z := ⟨_, rfl⟩
        rw [hZ] at hXR
        have hZl : Hid (Z.length = 16) := Lib.hid (by rw [← hZ, xorL_length, bys_mkS Y hY8.out]; exact hYl.out)
        have hZ8 : Hid (B8 Z) := Lib.hid (by rw [← hZ]; exact xorL_B8 _ _)
        have hPR := Lib.hid (product_any (mkS Z) (mkS h) (by rw [mkS_size]; exact hZl.out) (by rw [mkS_size]; exact hhl.out))
        have hNX : Hid (prodL (bys (mkS Z)) (bys (mkS h)) = hashS h A (c + 1)) := Lib.hid (by
          rw [bys_mkS Z hZ8.out, bys_mkS h hh8.out, hashS, ← hZ, bys_mkS Y hY8.out, hY.out, hEb.out])
        rw [hNX.out] at hPR
        obtain ⟨Y2, hY2⟩ : ∃ Y2, hashS h A (c + 1) = Y2 := ⟨_, rfl⟩
        rw [hY2] at hPR
        have HY2 := Lib.hid hY2
        clear hY2 hZ hNX hp2
        go_wp2_with fail
        refine (hXR.out _).mono ?_
        rintro e w' ⟨rfl, g8, d8, rfl⟩
        rw [Wd_wd]
        go_wp2_with fail
        refine (hPR.out _).mono ?_
        rintro e w' ⟨rfl, g9, d9, rfl⟩
        rw [Wd_wd]
        go_wp2
        go_roundw
        case rel => exact ⟨c + 1, p2, _, Y2, _, hcN, by have := HPc.out; have := HP2.out; omega, by go_num, rfl, HY2, rfl⟩
        case measure => have := HP2.out; have := HM.out; simp [intOf]; omega
      · have hpi : ¬ (p : Int) < M := by omega
        obtain rfl : c = N := by have := HPc.out; have := HM.out; omega
        have hXR := Lib.hid (xor_any (mkS Y) (mkS s1) (by rw [mkS_size, hYl.out, mkS_size, hs1l.out]; exact Nat.le_refl _) (by rw [mkS_size, hYl.out]; decide))
        rw [bys_mkS Y hY8.out, bys_mkS s1 hs18.out, ← hY.out, ← hTG.out] at hXR
        have HB1 := Lib.hid fun (g' : List Obj) (e : Nat) => big_call (L := fun g' => Obj.cells #[kx, ky] 44 (0, 0) :: (g ++ g')) (g := g') (e := e) (w := w) (l0 := Obj.cells #[kx, ky] 44 (0, 0) :: g) (fun _ _ => by simp) (fun _ => rfl) (HF1.out _)
        have HB2 := Lib.hid fun (g' : List Obj) (e : Nat) => big_call (L := fun g' => Obj.cells #[kx, ky] 44 (0, 0) :: (g ++ g')) (g := g') (e := e) (w := w) (l0 := Obj.cells #[kx, ky] 44 (0, 0) :: g) (fun _ _ => by simp) (fun _ => rfl) (HH1.out _ (HRR.out _ _ HRD.out (Grows.of _ _ _)))
        go_wp2
        refine wp_region_big_all (by kernel_rfl) (by kernel_rfl) ?_
        repeat (go_big_quiet_step ((intro _; first | (with_reducible exact HB1.out _ _) | (with_reducible exact HB2.out _ _))))
        refine wpQuiet_nil ?_
        intro gR eR
        go_wp2_with fail
        rw [hY.out] at hXR
        refine (hXR.out _).mono ?_
        rintro e w' ⟨rfl, g9, d9, rfl⟩
        rw [Wd_wd]
        go_wp2
        go_ret
        exact ⟨rfl, Grows.of _ _ _⟩
end Go.Proofs.Ytmhhekiliojifaa

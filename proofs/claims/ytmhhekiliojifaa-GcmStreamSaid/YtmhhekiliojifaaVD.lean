/- The answers that the document fixes: awake is true. No condition. -/
import Derived.Test.YtmhhekiliojifaaVC
namespace Go.Proofs.Ytmhhekiliojifaa
open Go.RowKit Go.Own
attribute [local go_sem] z5 ag5 cs5 sz5 isa5
def sK : ByteArray := mkS (rep 32)
def sN : ByteArray := mkS (rep 12)
def sZ : ByteArray := mkS (rep 16)
def sE : ByteArray := { data := #[] }
def sX : ByteArray := { data := #[120] }
def lit0 : ByteArray := { data := #[83, 15, 138, 251, 199, 69, 54, 185, 169, 99, 180, 241, 196, 203, 115, 139] }
def lit1 : ByteArray := { data := #[206, 167, 64, 61, 77, 96, 107, 110, 7, 78, 197, 211, 186, 243, 157, 24, 208, 209, 200, 167, 153, 153, 107, 240, 38, 91, 152, 181, 212, 138, 185, 25] }
def tag2 : List Nat := [208, 209, 200, 167, 153, 153, 107, 240, 38, 91, 152, 181, 212, 138, 185, 25]
def tagX : List Nat := [106, 54, 35, 91, 67, 100, 39, 68, 49, 5, 33, 44, 180, 169, 168, 254]
theorem bsK : bys sK = rep 32 := bys_mkS _ (B8.rep _)
theorem bsNn : bys sN = rep 12 := bys_mkS _ (B8.rep _)
theorem bsZ : bys sZ = rep 16 := bys_mkS _ (B8.rep _)
theorem bsE : bys sE = [] := rfl
theorem bsX : bys sX = [120] := rfl
theorem k2_B8 : B8 k2Lit := b8_of (by decide)
theorem cip_h : pressL (cipher (bys sK)) (rep 16) = hLit := by rw [bsK, cipher_lit, h_lit]
theorem cip_k1 : pressL (cipher (bys sK)) (bys sN ++ hfL 1 4) = k1Lit := by rw [bsK, bsNn, cipher_lit, k1_lit]
theorem cip_k2 : pressL (cipher (bys sK)) (bys sN ++ hfL 2 4) = k2Lit := by rw [bsK, bsNn, cipher_lit, k2_lit]
theorem turn0 : turnP sK sN sE = [] := by rw [turnP_tLn]; rfl
theorem turn_one {t : ByteArray} (h : t.size = 16) : turnP sK sN t = tL1 (cipher (bys sK)) (bys sN) 2 (bys t) := by
  rw [turnP_tLn, h]
  show tLn _ _ _ (0 + 1) = _
  rw [tLn_succ]
  have e : pcL (bys t) 0 = bys t := by unfold pcL; rw [Nat.mul_zero, List.drop_zero, List.take_of_length_le (by rw [bys_length]; omega)]
  rw [e]
  exact List.nil_append _
theorem turn1 : turnP sK sN sZ = k2Lit := by
  rw [turn_one (show sZ.size = 16 by unfold sZ; rw [mkS_size]; rfl)]
  unfold tL1
  rw [cip_k2, bsZ]
  decide
theorem turn2 : turnP sK sN (mkS k2Lit) = rep 16 := by
  rw [turn_one (by rw [mkS_size]; rfl)]
  unfold tL1
  rw [cip_k2, bys_mkS _ k2_B8]
  decide
theorem hLt_nil (h s : List Nat) : hLt h s [] = s := rfl
theorem hLt_one (h s x : List Nat) (hx : (x.length + 15) / 16 = 1) (hl : x.length ≤ 16) : hLt h s x = hL1 h s x := by
  unfold hLt
  rw [hx]
  show hL1 h (hLn h s x 0) (pcL x 0) = _
  have e : pcL x 0 = x := by unfold pcL; rw [Nat.mul_zero, List.drop_zero, List.take_of_length_le hl]
  rw [e]; rfl
theorem mac0 : macP sK sN sE (mkS []) = k1Lit := by
  rw [macP_hLt, cip_h, cip_k1, bsE, hLt_nil]
  rw [show bys (mkS []) = [] from rfl, hLt_nil, show sE.size = 0 from rfl, show (mkS []).size = 0 from rfl, hLt_one _ _ _ (by decide) (by decide), show lensL 0 0 = rep 16 by decide, pr0]
  decide
theorem mac2 : macP sK sN sE (mkS k2Lit) = tag2 := by
  rw [macP_hLt, cip_h, cip_k1, bsE, hLt_nil, bys_mkS _ k2_B8, hLt_one hLit (rep 16) k2Lit (by decide) (by decide), pr1, show sE.size = 0 from rfl, show (mkS k2Lit).size = 16 by rw [mkS_size]; rfl, hLt_one _ _ _ (by decide) (by decide), pr2]
  decide
theorem macX : macP sK sN sX (mkS k2Lit) = tagX := by
  rw [macP_hLt, cip_h, cip_k1, bsX, hLt_one hLit (rep 16) [120] (by decide) (by decide), pr3, bys_mkS _ k2_B8, hLt_one hLit q1Lit k2Lit (by decide) (by decide), pr4, show sX.size = 1 from rfl, show (mkS k2Lit).size = 16 by rw [mkS_size]; rfl, hLt_one _ _ _ (by decide) (by decide), pr5]
  decide
theorem sizeK : sK.size = 32 := by unfold sK; rw [mkS_size]; rfl
theorem sizeN : sN.size = 12 := by unfold sN; rw [mkS_size]; rfl
theorem sizeZ : sZ.size = 16 := by unfold sZ; rw [mkS_size]; rfl
theorem lit1_mk : lit1 = mkS (k2Lit ++ tag2) := rfl
theorem lit1_size : lit1.size = 32 := by rw [lit1_mk, mkS_size]; rfl
theorem ext_mkS (x : List Nat) (hx : B8 x) (a b : Nat) : (mkS x).extract a b = mkS ((x.drop a).take (b - a)) := by
  apply bys_inj
  rw [bys_extract, bys_mkS _ hx, bys_mkS _ (fun n hn => hx n (List.mem_of_mem_drop (List.mem_of_mem_take hn)))]
theorem lit1_B8 : B8 (k2Lit ++ tag2) := b8_of (by decide)
theorem lit1_lo : lit1.extract 0 (lit1.size - 16) = mkS k2Lit := by rw [lit1_size, lit1_mk, ext_mkS _ lit1_B8]; rfl
theorem lit1_hi : lit1.extract (lit1.size - 16) lit1.size = mkS tag2 := by rw [lit1_size, lit1_mk, ext_mkS _ lit1_B8]; rfl
set_option maxRecDepth 100000 in
theorem noughts_any (n : Nat) (hn : n ≤ 1000) (w : World) :
    Calls Try.prog 12 #[.int .i64 n] w fun e w' => e = .returned (.string (mkS (rep n))) ∧ Grows w w' := by
  have hmk := hmk5
  have hc : n ≤ 140737488355328 := by omega
  refine calls_wd ?_
  go_enter Try.func12, Try.ntmps12
  go_wp2
  go_ret
  exact ⟨rfl, Grows.of _ _ _⟩
theorem wd0 {f : FuncId} {args : Array Value} {W : World} {v : Value} (h : Calls Try.prog f args W fun e w' => e = .returned v ∧ Below W.heap.size W w') : Calls Try.prog f args (Wd W [] 0) fun e w' => e = .returned v ∧ Below W.heap.size W w' := by rwa [Wd_nil]
theorem same_le {w W w' : World} (h : Below w.heap.size w W) (k : Below W.heap.size W w') : Below w.heap.size w w' := h.trans (k.mono h.size)
theorem nou (n : Nat) (hn : n ≤ 1000) (W : World) : Calls Try.prog 12 #[.int .i64 n] (Wd W [] 0) fun e w' => e = .returned (.string (mkS (rep n))) ∧ Below W.heap.size W w' :=
  wd0 ((noughts_any n hn W).mono fun _ _ ⟨h1, h2⟩ => ⟨h1, h2.below⟩)
theorem seal0 (W : World) : Calls Try.prog 7 #[.string sK, .string sN, .string sE, .string sE] (Wd W [] 0) fun e w' => e = .returned (.tuple #[.string lit0, .int .i64 0]) ∧ Below W.heap.size W w' := by
  have := pseal_ok sK sN sE sE sizeK sizeN (by decide) (by decide) (by rw [turn0]; decide) W
  rw [turn0, mac0] at this
  exact wd0 this
theorem seal1 (W : World) : Calls Try.prog 7 #[.string sK, .string sN, .string sE, .string sZ] (Wd W [] 0) fun e w' => e = .returned (.tuple #[.string lit1, .int .i64 0]) ∧ Below W.heap.size W w' := by
  have := pseal_ok sK sN sE sZ sizeK sizeN (by decide) (by rw [sizeZ]; decide) (by rw [turn1]; decide) W
  rw [turn1, mac2] at this
  exact wd0 this
theorem open1 (W : World) : Calls Try.prog 9 #[.string sK, .string sN, .string sE, .string lit1] (Wd W [] 0) fun e w' => e = .returned (.tuple #[.string sZ, .int .i64 0]) ∧ Below W.heap.size W w' := by
  have := popen_ok sK sN sE lit1 sizeK sizeN (by decide) (by rw [lit1_size]; decide) (by rw [lit1_size]; decide) W
  rw [lit1_lo, lit1_hi, mac2, turn2, if_pos (by unfold sameB; exact decide_eq_true rfl)] at this
  exact wd0 this
theorem open2 (W : World) : Calls Try.prog 9 #[.string sK, .string sN, .string sX, .string lit1] (Wd W [] 0) fun e w' => e = .returned (.tuple #[.string (mkS []), .int .i64 8]) ∧ Below W.heap.size W w' := by
  have := popen_ok sK sN sX lit1 sizeK sizeN (by decide) (by rw [lit1_size]; decide) (by rw [lit1_size]; decide) W
  rw [lit1_lo, lit1_hi, macX, if_neg (by
    unfold sameB
    intro h
    have h2 := congrArg bys (of_decide_eq_true h)
    rw [bys_mkS _ (b8_of (by decide)), bys_mkS _ (b8_of (by decide))] at h2
    exact absurd h2 (by decide))] at this
  exact wd0 this
theorem open3 (W : World) : Calls Try.prog 9 #[.string sE, .string sE, .string sE, .string sE] (Wd W [] 0) fun e w' => e = .returned (.tuple #[.string (mkS []), .int .i64 2]) ∧ Below W.heap.size W w' := by
  have := popen_bad sE sE sE sE (Or.inl (by decide)) (by decide) W
  exact wd0 (this.mono fun _ _ ⟨h1, h2⟩ => ⟨h1, h2 ▸ Below.refl _ _⟩)
set_option maxRecDepth 100000 in
set_option maxHeartbeats 4000000 in
theorem awake_any (w : World) : Calls Try.prog 6 #[] w fun e w' => e = .returned (.bool true) ∧ Below w.heap.size w w' := by
  obtain ⟨K, hK⟩ : ∃ K, sK = K := ⟨_, rfl⟩
  obtain ⟨N, hN⟩ : ∃ N, sN = N := ⟨_, rfl⟩
  obtain ⟨Z, hZ⟩ : ∃ Z, sZ = Z := ⟨_, rfl⟩
  have HK : Hid (∀ W, Calls Try.prog 12 #[.int .i64 32] (Wd W [] 0) fun e w' => e = .returned (.string K) ∧ Below W.heap.size W w') := Lib.hid fun W => hK ▸ nou 32 (by decide) W
  have HN : Hid (∀ W, Calls Try.prog 12 #[.int .i64 12] (Wd W [] 0) fun e w' => e = .returned (.string N) ∧ Below W.heap.size W w') := Lib.hid fun W => hN ▸ nou 12 (by decide) W
  have HZ : Hid (∀ W, Calls Try.prog 12 #[.int .i64 16] (Wd W [] 0) fun e w' => e = .returned (.string Z) ∧ Below W.heap.size W w') := Lib.hid fun W => hZ ▸ nou 16 (by decide) W
  have HS0 := Lib.hid fun W => seal0 W
  have HS1 := Lib.hid fun W => seal1 W
  have HO1 := Lib.hid fun W => open1 W
  have HO2 := Lib.hid fun W => open2 W
  have HO3 := Lib.hid fun W => open3 W
  rw [hK, hN] at HS0 HS1 HO1 HO2
  rw [hZ] at HS1 HO1
  clear hK hN hZ
  have hl0 : lit0.toList = [83, 15, 138, 251, 199, 69, 54, 185, 169, 99, 180, 241, 196, 203, 115, 139] := by rw [ByteArray.toList_eq]; rfl
  have hl1 : lit1.toList = [206, 167, 64, 61, 77, 96, 107, 110, 7, 78, 197, 211, 186, 243, 157, 24, 208, 209, 200, 167, 153, 153, 107, 240, 38, 91, 152, 181, 212, 138, 185, 25] := by rw [ByteArray.toList_eq]; rfl
  have HB0 : Hid (Below w.heap.size w w) := Lib.hid (Below.refl _ _)
  refine calls_wd ?_
  go_enter Try.func6, Try.ntmps6
  go_wp2_with fail
  refine (HK.out _).mono ?_
  rintro e w1 ⟨rfl, hB⟩
  have HB1 := Lib.hid (same_le HB0.out hB)
  clear hB
  rw [← Wd_nil w1]
  go_wp2_with fail
  refine (HN.out _).mono ?_
  rintro e w2 ⟨rfl, hB⟩
  have HB2 := Lib.hid (same_le HB1.out hB)
  clear hB
  rw [← Wd_nil w2]
  go_wp2_with fail
  refine (HS0.out _).mono ?_
  rintro e w3 ⟨rfl, hB⟩
  have HB3 := Lib.hid (same_le HB2.out hB)
  clear hB
  rw [← Wd_nil w3]
  go_wp2_with fail
  refine (HK.out _).mono ?_
  rintro e w4 ⟨rfl, hB⟩
  have HB4 := Lib.hid (same_le HB3.out hB)
  clear hB
  rw [← Wd_nil w4]
  go_wp2_with fail
  refine (HN.out _).mono ?_
  rintro e w5 ⟨rfl, hB⟩
  have HB5 := Lib.hid (same_le HB4.out hB)
  clear hB
  rw [← Wd_nil w5]
  go_wp2_with fail
  refine (HZ.out _).mono ?_
  rintro e w6 ⟨rfl, hB⟩
  have HB6 := Lib.hid (same_le HB5.out hB)
  clear hB
  rw [← Wd_nil w6]
  go_wp2_with fail
  refine (HS1.out _).mono ?_
  rintro e w7 ⟨rfl, hB⟩
  have HB7 := Lib.hid (same_le HB6.out hB)
  clear hB
  rw [← Wd_nil w7]
  go_wp2_with fail
  refine (HK.out _).mono ?_
  rintro e w8 ⟨rfl, hB⟩
  have HB8 := Lib.hid (same_le HB7.out hB)
  clear hB
  rw [← Wd_nil w8]
  go_wp2_with fail
  refine (HN.out _).mono ?_
  rintro e w9 ⟨rfl, hB⟩
  have HB9 := Lib.hid (same_le HB8.out hB)
  clear hB
  rw [← Wd_nil w9]
  go_wp2_with fail
  refine (HO1.out _).mono ?_
  rintro e w10 ⟨rfl, hB⟩
  have HB10 := Lib.hid (same_le HB9.out hB)
  clear hB
  rw [← Wd_nil w10]
  go_wp2_with fail
  refine (HK.out _).mono ?_
  rintro e w11 ⟨rfl, hB⟩
  have HB11 := Lib.hid (same_le HB10.out hB)
  clear hB
  rw [← Wd_nil w11]
  go_wp2_with fail
  refine (HN.out _).mono ?_
  rintro e w12 ⟨rfl, hB⟩
  have HB12 := Lib.hid (same_le HB11.out hB)
  clear hB
  rw [← Wd_nil w12]
  go_wp2_with fail
  refine (HO2.out _).mono ?_
  rintro e w13 ⟨rfl, hB⟩
  have HB13 := Lib.hid (same_le HB12.out hB)
  clear hB
  rw [← Wd_nil w13]
  go_wp2_with fail
  refine (HO3.out _).mono ?_
  rintro e w14 ⟨rfl, hB⟩
  have HB14 := Lib.hid (same_le HB13.out hB)
  clear hB
  rw [← Wd_nil w14]
  go_wp2_with fail
  refine (HZ.out _).mono ?_
  rintro e w15 ⟨rfl, hB⟩
  have HB15 := Lib.hid (same_le HB14.out hB)
  clear hB
  rw [← Wd_nil w15]
  go_wp2
  go_ret
  exact ⟨rfl, HB15.out⟩
end Go.Proofs.Ytmhhekiliojifaa

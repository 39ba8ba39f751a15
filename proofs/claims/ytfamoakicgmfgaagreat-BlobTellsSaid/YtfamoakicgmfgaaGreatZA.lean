/- The document's head: whether it is right, its bytes, and what Parse reads: by contract. No condition but the sizes. | The document's Parse: by contract. No condition but the sizes. | The document's Build, given what its Seal answers: by contract. No condition but the sizes. | The document's Open, given what Open of the layer below answers: by contract. No condition but the sizes. -/
import Derived.Test.YtfamoakicgmfgaaGreatZ4
import Derived.Test.YtfamoakicgmfgaaGreatLR6
import Derived.Test.YtfamoakicgmfgaaGreatZ6
namespace Go.Proofs.YtfamoakicgmfgaaGreat.Lb
open Go.RowKit Go.Own.Lb
theorem takeS_ext {b : ByteArray} {a k : Nat} (h : a + k ≤ b.size) : takeS (b.extract a b.size) k = b.extract a (a + k) := by
  unfold takeS
  rw [ByteArray.extract_extract, ByteArray.size_extract]
  congr 1
  omega
theorem restS_ext {b : ByteArray} {a k : Nat} (h : a + k ≤ b.size) : restS (b.extract a b.size) k = b.extract (a + k) b.size := by
  unfold restS
  rw [ByteArray.extract_extract, ByteArray.size_extract]
  congr 1 <;> omega
theorem numS_ext {b : ByteArray} {a : Nat} (h : a < b.size) : numS (b.extract a (a + 1)) = gi (bys b) a := by
  unfold numS
  rw [if_neg (by rw [ByteArray.size_extract]; omega), bys_extract]
  simp [gi, List.getD_eq_getElem?_getD]
theorem whole_ext (b : ByteArray) : b.extract 0 b.size = b := ByteArray.extract_zero_size
/-- The head that the document reads, if there are bytes enough. -/
def hdD (b : ByteArray) : Hd := ⟨b.extract 3 (3 + gi (bys b) 2), (gi (bys b) (3 + gi (bys b) 2) : Nat), b.extract (4 + gi (bys b) 2) (16 + gi (bys b) 2)⟩
theorem hdR_eq {b : ByteArray} (h : 16 + gi (bys b) 2 ≤ b.size) : hdR (restS b 2) = hdD b ∧ hdL (restS b 2) = b.extract (16 + gi (bys b) 2) b.size := by
  have e0 : restS b 2 = b.extract 2 b.size := by
    have := restS_ext (b := b) (a := 0) (k := 2) (by omega)
    rwa [whole_ext, Nat.zero_add] at this
  have e1 : numS (takeS (restS b 2) 1) = gi (bys b) 2 := by rw [e0, takeS_ext (by omega), numS_ext (by omega)]
  unfold hdD
  obtain ⟨g, hg⟩ : ∃ g, gi (bys b) 2 = g := ⟨_, rfl⟩
  rw [hg] at e1 h ⊢
  clear hg
  have e2 : restS (restS b 2) 1 = b.extract 3 b.size := by rw [e0, restS_ext (by omega)]
  have e3 : idR (restS b 2) = b.extract 3 (3 + g) := by unfold idR; rw [e1, e2, takeS_ext (by omega)]
  have e4 : idL (restS b 2) = b.extract (3 + g) b.size := by unfold idL; rw [e1, e2, restS_ext (by omega)]
  have e5 : numS (takeS (idL (restS b 2)) 1) = gi (bys b) (3 + g) := by rw [e4, takeS_ext (by omega), numS_ext (by omega)]
  have e6 : restS (idL (restS b 2)) 1 = b.extract (4 + g) b.size := by rw [e4, restS_ext (by omega), show 3 + g + 1 = 4 + g by omega]
  refine ⟨?_, ?_⟩
  · unfold hdR
    rw [e3, e5, e6, takeS_ext (by omega), show 4 + g + 12 = 16 + g by omega]
  · unfold hdL
    rw [e6, restS_ext (by omega), show 4 + g + 12 = 16 + g by omega]
theorem hdR_short {b : ByteArray} (h3 : 3 ≤ b.size) (h : b.size < 16 + gi (bys b) 2) : rightH (hdR (restS b 2)) = false := by
  cases hr : rightH (hdR (restS b 2)) with
  | false => rfl
  | true =>
    exfalso
    obtain ⟨_, _, _, h4⟩ := right_parts hr
    have e0 : restS b 2 = b.extract 2 b.size := by
      have := restS_ext (b := b) (a := 0) (k := 2) (by omega)
      rwa [whole_ext, Nat.zero_add] at this
    have e1 : numS (takeS (restS b 2) 1) = gi (bys b) 2 := by rw [e0, takeS_ext (by omega), numS_ext (by omega)]
    unfold hdR at h4
    simp only at h4
    rw [takeS_size, restS_size] at h4
    unfold idL at h4
    rw [e1, restS_size, restS_size, restS_size] at h4
    omega
theorem hdR_none {b : ByteArray} (h3 : b.size < 3) : rightH (hdR (restS b 2)) = false := by
  cases hr : rightH (hdR (restS b 2)) with
  | false => rfl
  | true =>
    exfalso
    obtain ⟨_, _, _, h4⟩ := right_parts hr
    unfold hdR at h4
    simp only at h4
    rw [takeS_size, restS_size] at h4
    unfold idL at h4
    rw [restS_size, restS_size, restS_size] at h4
    omega
/-- What is parted, as the document's words say it. -/
theorem partS_none {b : ByteArray} (h : b.size < 3 ∨ b.extract 0 2 ≠ markS ∨ b.size < 32 + gi (bys b) 2 ∨ 1056 + gi (bys b) 2 < b.size ∨ rightH (hdD b) = false) : partS b = none := by
  unfold partS
  refine if_neg ?_
  rintro ⟨h1, h2, h3, h4⟩
  by_cases h5 : b.size < 3
  · rw [hdR_none h5] at h2; cases h2
  by_cases h6 : b.size < 16 + gi (bys b) 2
  · rw [hdR_short (by omega) h6] at h2; cases h2
  obtain ⟨e1, e2⟩ := hdR_eq (b := b) (by omega)
  rw [e1] at h2
  rw [e2, ByteArray.size_extract] at h3 h4
  have e3 : takeS b 2 = b.extract 0 2 := by unfold takeS; congr 1; omega
  rw [e3] at h1
  rcases h with h | h | h | h | h
  · exact h5 h
  · exact h h1
  · omega
  · omega
  · rw [h] at h2; cases h2
theorem partS_some {b : ByteArray} (h1 : 3 ≤ b.size) (h2 : b.extract 0 2 = markS) (h3 : 32 + gi (bys b) 2 ≤ b.size) (h4 : b.size ≤ 1056 + gi (bys b) 2) (h5 : rightH (hdD b) = true) : partS b = some (hdD b, b.extract (16 + gi (bys b) 2) b.size) := by
  obtain ⟨e1, e2⟩ := hdR_eq (b := b) (by omega)
  have e3 : takeS b 2 = b.extract 0 2 := by unfold takeS; congr 1; omega
  unfold partS
  rw [e1, e2, e3, if_pos]
  refine ⟨h2, h5, ?_, ?_⟩ <;> rw [ByteArray.size_extract] <;> omega
set_option maxRecDepth 100000 in
set_option maxHeartbeats 1000000 in
theorem rright_h (h : Hd) (hi : h.id.size ≤ 1099511627776) (w : World) : Calls Tryz.prog 18 #[hdV h] w fun e w' => e = .returned (.bool (rightH h)) ∧ Below w.heap.size w w' := by
  obtain ⟨id, ver, nonce⟩ := h
  unfold rightH hdV
  simp only at hi ⊢
  obtain ⟨W0, hW0⟩ : ∃ W0, w.alloc (.cells #[.string id, .int .i64 ver, .string nonce] 32) = W0 := ⟨_, rfl⟩
  have hb0 := Lib.hid (show Below w.heap.size w W0 from hW0 ▸ (Below.refl _ w).alloc (Nat.le_refl _) _)
  have hR0 : W0.heap[w.heap.size]? = some (.cells #[.string id, .int .i64 ver, .string nonce] 32 (0, 0)) := hW0 ▸ heap_alloc_new w _
  have c0 := cell_of hR0 0
  have c1 := cell_of hR0 1
  have c2 := cell_of hR0 2
  have HR := Lib.hid (refRunes_any id hi W0)
  have HW0 := Lib.hid hW0
  have q2 : ((nonce.size : Int) == 12) = decide (nonce.size = 12) := by rw [Bool.eq_iff_iff]; simp; omega
  generalize decide (nonce.size = 12) = a2 at *
  clear hW0 hi
  have HR0 := Lib.hid hR0
  clear hR0
  obtain ⟨rn, hrn⟩ : ∃ rn, runesN id = rn := ⟨_, rfl⟩
  rw [hrn] at HR ⊢
  clear hrn
  by_cases hz : 0 < rn
  case neg =>
    have hd : decide (0 < rn) = false := decide_eq_false hz
    rw [hd]
    simp only [Bool.false_and]
    go_enter Tryz.func18, Tryz.ntmps18
    go_wp2_with fail
    rw [HW0.out]
    go_wp2_with fail
    refine HR.out.mono ?_
    rintro e w' ⟨rfl, rfl⟩
    go_wp2
    go_ret
    exact ⟨rfl, hb0.out⟩
  case pos =>
    have hd : decide (0 < rn) = true := decide_eq_true hz
    rw [hd]
    simp only [Bool.true_and]
    clear hd
    by_cases h1 : 1 ≤ ver
    case neg =>
      have hd : decide (1 ≤ ver) = false := decide_eq_false h1
      rw [hd]
      simp only [Bool.false_and]
      go_enter Tryz.func18, Tryz.ntmps18
      go_wp2_with fail
      rw [HW0.out]
      go_wp2_with fail
      refine HR.out.mono ?_
      rintro e w' ⟨rfl, rfl⟩
      go_wp2
      go_ret
      exact ⟨rfl, hb0.out⟩
    have hd : decide (1 ≤ ver) = true := decide_eq_true h1
    rw [hd]
    simp only [Bool.true_and]
    by_cases h2 : ver ≤ 8
    case neg =>
      have hd : decide (ver ≤ 8) = false := decide_eq_false h2
      rw [hd]
      simp only [Bool.false_and]
      go_enter Tryz.func18, Tryz.ntmps18
      go_wp2_with fail
      rw [HW0.out]
      go_wp2_with fail
      refine HR.out.mono ?_
      rintro e w' ⟨rfl, rfl⟩
      go_wp2
      go_ret
      exact ⟨rfl, hb0.out⟩
    have hd : decide (ver ≤ 8) = true := decide_eq_true h2
    rw [hd]
    simp only [Bool.true_and]
    clear hd
    go_enter Tryz.func18, Tryz.ntmps18
    go_wp2_with fail
    rw [HW0.out]
    go_wp2_with fail
    refine HR.out.mono ?_
    rintro e w' ⟨rfl, rfl⟩
    go_wp2
    go_ret
    exact ⟨rfl, hb0.out⟩
set_option maxRecDepth 100000 in
set_option maxHeartbeats 1000000 in
theorem rbytes_h (h : Hd) (hi : h.id.size ≤ 1000000) (hv : 0 ≤ h.ver) (hn : h.nonce.size ≤ 1000000) (w : World) : Calls Tryz.prog 20 #[hdV h] w fun e w' => e = .returned (.string (laidH h)) ∧ Below w.heap.size w w' := by
  obtain ⟨id, ver, nonce⟩ := h
  unfold laidH hdV
  simp only at hi hv hn ⊢
  obtain ⟨v, rfl⟩ : ∃ v : Nat, ver = v := ⟨ver.toNat, by omega⟩
  rw [Int.toNat_natCast]
  have o1 := oneS_size id.size
  have o2 := oneS_size v
  have o3 : markS.size = 2 := rfl
  have w1 : ∀ W, (convert 3 5 (.int .i64 (id.size : Int))).run Tryz.prog W = .ok (.int .u8 ((id.size % 256 : Nat) : Int)) W := fun W => by
    have e : (convert 3 5 (.int .i64 (id.size : Int))).run Tryz.prog W = .ok (.int .u8 (IntKind.u8.wrap (id.size : Int))) W := by kernel_rfl
    rw [e, wrapu8]
  have w2 : ∀ W, (convert 3 5 (.int .i64 (v : Int))).run Tryz.prog W = .ok (.int .u8 ((v % 256 : Nat) : Int)) W := fun W => by
    have e : (convert 3 5 (.int .i64 (v : Int))).run Tryz.prog W = .ok (.int .u8 (IntKind.u8.wrap (v : Int))) W := by kernel_rfl
    rw [e, wrapu8]
  have k1 := fun W => conv1 W (id.size % 256) ((id.size % 256 : Nat) : Int) rfl
  have k2 := fun W => conv1 W (v % 256) ((v % 256 : Nat) : Int) rfl
  rw [oneS_mod] at k1 k2
  have a1 : ∀ W, (Op.stringOp .add { data := #[75, 49] } (oneS id.size)).run Tryz.prog W = .ok (.string (markS ++ oneS id.size)) W := fun W => run_string_add_sum W _ _ (by rw [show ({ data := #[75, 49] } : ByteArray).size = 2 from rfl]; omega)
  have a2 : ∀ W, (Op.stringOp .add (markS ++ oneS id.size) id).run Tryz.prog W = .ok (.string (markS ++ oneS id.size ++ id)) W := fun W => run_string_add_sum W _ _ (by rw [ByteArray.size_append]; omega)
  have a3 : ∀ W, (Op.stringOp .add (markS ++ oneS id.size ++ id) (oneS v)).run Tryz.prog W = .ok (.string (markS ++ oneS id.size ++ id ++ oneS v)) W := fun W => run_string_add_sum W _ _ (by rw [ByteArray.size_append, ByteArray.size_append]; omega)
  have a4 : ∀ W, (Op.stringOp .add (markS ++ oneS id.size ++ id ++ oneS v) nonce).run Tryz.prog W = .ok (.string (markS ++ oneS id.size ++ id ++ oneS v ++ nonce)) W := fun W => run_string_add_sum W _ _ (by rw [ByteArray.size_append, ByteArray.size_append, ByteArray.size_append]; omega)
  generalize markS ++ oneS id.size ++ id ++ oneS v ++ nonce = s4 at *
  generalize markS ++ oneS id.size ++ id ++ oneS v = s3 at *
  generalize markS ++ oneS id.size ++ id = s2 at *
  generalize markS ++ oneS id.size = s1 at *
  generalize oneS id.size = t1 at *
  generalize oneS v = t2 at *
  generalize id.size % 256 = m1 at *
  generalize v % 256 = m2 at *
  obtain ⟨W0, hW0⟩ : ∃ W0, w.alloc (.cells #[.string id, .int .i64 (v : Int), .string nonce] 32) = W0 := ⟨_, rfl⟩
  have hb0 := Lib.hid (show Below w.heap.size w W0 from hW0 ▸ (Below.refl _ w).alloc (Nat.le_refl _) _)
  have hR0 : W0.heap[w.heap.size]? = some (.cells #[.string id, .int .i64 (v : Int), .string nonce] 32 (0, 0)) := hW0 ▸ heap_alloc_new w _
  have hW1 := keep_b ((Below.refl _ W0).alloc (Nat.le_refl _) (.cells #[.int .u8 (m1 : Int)] 5)) hR0
  have hW2 := keep_b ((Below.refl _ (W0.alloc (.cells #[.int .u8 (m1 : Int)] 5))).alloc (Nat.le_refl _) (.cells #[.int .u8 (m2 : Int)] 5)) hW1
  have c0 := cell_of hR0 0
  have c1 := cell_of hR0 1
  have c2 := cell_of hR0 2
  have d0 := cell_of hW1 0
  have d1 := cell_of hW1 1
  have d2 := cell_of hW1 2
  have e0 := cell_of hW2 0
  have e1 := cell_of hW2 1
  have e2 := cell_of hW2 2
  have hz0 : W0.heap.size = w.heap.size + 1 := by rw [← hW0]; simp
  have k1 := k1 W0
  have k2 := k2 (W0.alloc (.cells #[.int .u8 (m1 : Int)] 5))
  rw [show (W0.alloc (.cells #[.int .u8 (m1 : Int)] 5)).heap.size = W0.heap.size + 1 by simp] at k2
  rw [hz0] at k1 k2
  clear hz0
  have HB := Lib.hid ((hb0.out.alloc hb0.out.size (.cells #[.int .u8 (m1 : Int)] 5)).alloc (by have := hb0.out.size; simp; omega) (.cells #[.int .u8 (m2 : Int)] 5))
  clear o1 o2 o3 hi hv hn hR0 hW1 hW2 hb0
  subst hW0
  go_enter Tryz.func20, Tryz.ntmps20
  go_wp2
  go_ret
  exact ⟨rfl, HB.out⟩
end Go.Proofs.YtfamoakicgmfgaaGreat.Lb
namespace Go.Proofs.YtfamoakicgmfgaaGreat.Lb
open Go.RowKit Go.Own.Lb
theorem rix (b : ByteArray) (i : Nat) (h : i < b.size) (W : World) : (Instr.index 9 (.string b) (.int .i64 (i : Int))).run Tryz.prog W = .ok (.int .u8 ((gi (bys b) i : Nat) : Int)) W := by
  rw [gi_at b i h]
  have := run_index_string (P := Tryz.prog) W 9 b .i64 (i : Int) Tryz.underlying9
  rw [dif_pos ⟨by omega, by omega⟩] at this
  exact this
set_option maxRecDepth 100000 in
set_option maxHeartbeats 2000000 in
theorem rparse_any (b : ByteArray) (hs : b.size ≤ 1099511627776) (w : World) :
    Calls Tryz.prog 9 #[.string b] w fun e w' => e = .returned (parseV (partS b)) ∧ Below w.heap.size w w' := by
  obtain ⟨W0, hW0⟩ : ∃ W0, w.alloc (.cells #[.string { data := #[] }, .int .i64 0, .string { data := #[] }] 32) = W0 := ⟨_, rfl⟩
  have hb0 : Below w.heap.size w W0 := hW0 ▸ (Below.refl _ w).alloc (Nat.le_refl _) _
  have hR0 : W0.heap[w.heap.size]? = some (.cells #[.string { data := #[] }, .int .i64 0, .string { data := #[] }] 32 (0, 0)) := hW0 ▸ heap_alloc_new w _
  have c0 := cell_of hR0 0
  have c1 := cell_of hR0 1
  have c2 := cell_of hR0 2
  have f0 := free_of hR0 0
  have f1 := free_of hR0 1
  have f2 := free_of hR0 2
  have BAD : ∀ tmps : Array Value, tmps[2]? = some (.pointer (some ⟨w.heap.size, 0, none⟩)) → tmps[3]? = some (.int .i64 2) → ∀ W, W.heap[w.heap.size]? = some (.cells #[.string { data := #[] }, .int .i64 0, .string { data := #[] }] 32 (0, 0)) → (results Tryz.f9 tmps).run Tryz.prog W = .ok (parseV none) W := fun tmps h1 h2 W hW =>
    res2 Tryz.results9 tmps _ W w.heap.size _ _ h1 h2 (load3 hW (by kernel_rfl) (by kernel_rfl))
  have HR0 := Lib.hid hR0
  have HB0 := Lib.hid hb0
  clear hb0 hR0
  obtain ⟨ANS, hANS⟩ : ∃ A, partS b = A := ⟨_, rfl⟩
  rw [hANS]
  have HANS := Lib.hid hANS
  clear hANS
  have HBAD := Lib.hid BAD
  clear BAD
  by_cases h3 : b.size < 3
  · have hP : Hid (ANS = none) := Lib.hid (HANS.out.symm.trans (partS_none (Or.inl h3)))
    have h3i : (b.size : Int) < 3 := by omega
    clear h3 hs
    go_enter Tryz.func9, Tryz.ntmps9
    go_wp2
    exact bodyPost_ret (HBAD.out _ rfl rfl _ (set3_at HR0.out _ _ _)) rfl ⟨by rw [hP.out], set3_below _ _ _ (Nat.le_refl _) HB0.out⟩
  have h3i : ¬ (b.size : Int) < 3 := by omega
  have q1 : (2 : Int) ≤ (b.size : Int) := by omega
  by_cases hm : b.extract 0 2 = markS
  case neg =>
    have hP : Hid (ANS = none) := Lib.hid (HANS.out.symm.trans (partS_none (Or.inr (Or.inl hm))))
    have hf : ((b.extract 0 2).toList == [75, 49]) = false := by
      have h := str_ff hm
      rwa [mark_list] at h
    have hse : (2 : Nat) ≤ b.size := by omega
    obtain ⟨q, hq⟩ : ∃ q, b.extract 0 2 = q := ⟨_, rfl⟩
    rw [hq] at hf
    clear hm hs h3
    go_enter Tryz.func9, Tryz.ntmps9
    go_wp2
    exact bodyPost_ret (HBAD.out _ rfl rfl _ (set3_at HR0.out _ _ _)) rfl ⟨by rw [hP.out], set3_below _ _ _ (Nat.le_refl _) HB0.out⟩
  have hf : ((b.extract 0 2).toList == [75, 49]) = true := by rw [hm, mark_list]; rfl
  have hix : ∀ W, (Instr.index 9 (.string b) (.int .i64 2)).run Tryz.prog W = .ok (.int .u8 ((gi (bys b) 2 : Nat) : Int)) W := rix b 2 (by omega)
  have hg := gi_bys_lt b 2
  have hPN := fun h => HANS.out.symm.trans (partS_none (b := b) h)
  have hPS := fun h1 h2 h3 h4 h5 => HANS.out.symm.trans (partS_some (b := b) h1 h2 h3 h4 h5)
  have hRR := fun W => rright_h (hdD b) (by unfold hdD; simp only; rw [ByteArray.size_extract]; omega) W
  have hHD : hdV (hdD b) = .agg #[.string (b.extract 3 (3 + gi (bys b) 2)), .int .i64 ((gi (bys b) (3 + gi (bys b) 2) : Nat) : Int), .string (b.extract (3 + gi (bys b) 2 + 1) (3 + gi (bys b) 2 + 13))] := by
    unfold hdV hdD
    simp only
    rw [show 4 + gi (bys b) 2 = 3 + gi (bys b) 2 + 1 by omega, show 16 + gi (bys b) 2 = 3 + gi (bys b) 2 + 13 by omega]
  obtain ⟨H, hH⟩ : ∃ H, hdD b = H := ⟨_, rfl⟩
  rw [hH] at hPN hPS hRR hHD
  clear hH
  obtain ⟨g, hgg⟩ : ∃ g, gi (bys b) 2 = g := ⟨_, rfl⟩
  rw [hgg] at hix hg hPN hPS hHD
  clear hgg
  obtain ⟨n, hn⟩ : ∃ n, 3 + g = n := ⟨_, rfl⟩
  rw [hn] at hHD
  obtain ⟨n13, hn13⟩ : ∃ n13, n + 13 = n13 := ⟨_, rfl⟩
  obtain ⟨n1, hn1⟩ : ∃ n1, n + 1 = n1 := ⟨_, rfl⟩
  rw [hn13, hn1] at hHD
  obtain ⟨n29, hn29⟩ : ∃ n29, n13 + 16 = n29 := ⟨_, rfl⟩
  obtain ⟨nn, hnn⟩ : ∃ nn, n29 + 1024 = nn := ⟨_, rfl⟩
  have E1 : Hid (wrap64 (g : Int) = (g : Int)) := Lib.hid (IntWalk.wrap64_in _ (by omega))
  have E2 : Hid (wrap64 (3 + (g : Int)) = (n : Int)) := Lib.hid (by rw [IntWalk.wrap64_in _ (by omega)]; omega)
  have E3 : Hid (wrap64 ((n : Int) + 13) = (n13 : Int)) := Lib.hid (by rw [IntWalk.wrap64_in _ (by omega)]; omega)
  have E4 : Hid (wrap64 ((n13 : Int) + 16) = (n29 : Int)) := Lib.hid (by rw [IntWalk.wrap64_in _ (by omega)]; omega)
  have E5 : Hid (wrap64 ((n29 : Int) + 1024) = (nn : Int)) := Lib.hid (by rw [IntWalk.wrap64_in _ (by omega)]; omega)
  have E6 : Hid (wrap64 ((n : Int) + 1) = (n1 : Int)) := Lib.hid (by rw [IntWalk.wrap64_in _ (by omega)]; omega)
  obtain ⟨q, hq⟩ : ∃ q, b.extract 0 2 = q := ⟨_, rfl⟩
  rw [hq] at hf hm hPN hPS
  by_cases h32 : b.size < n29
  · have hP : Hid (ANS = none) := Lib.hid (hPN (Or.inr (Or.inr (Or.inl (by omega)))))
    have h32i : (b.size : Int) < (n29 : Int) := by omega
    clear hm hs h3 h32 hPN hPS hRR hHD hn hn13 hn1 hn29 hnn hg
    go_enter Tryz.func9, Tryz.ntmps9
    have e1 := E1.out
    have e2 := E2.out
    have e3 := E3.out
    have e4 := E4.out
    have e5 := E5.out
    go_wp2
    exact bodyPost_ret (HBAD.out _ rfl rfl _ (set3_at HR0.out _ _ _)) rfl ⟨by rw [hP.out], set3_below _ _ _ (Nat.le_refl _) HB0.out⟩
  have h32i : ¬ (b.size : Int) < (n29 : Int) := by omega
  by_cases h56 : nn < b.size
  · have hP : Hid (ANS = none) := Lib.hid (hPN (Or.inr (Or.inr (Or.inr (Or.inl (by omega))))))
    have h56i : (nn : Int) < (b.size : Int) := by omega
    clear hm hs h3 h32 h56 hPN hPS hRR hHD hn hn13 hn1 hn29 hnn hg
    go_enter Tryz.func9, Tryz.ntmps9
    have e1 := E1.out
    have e2 := E2.out
    have e3 := E3.out
    have e4 := E4.out
    have e5 := E5.out
    go_wp2
    exact bodyPost_ret (HBAD.out _ rfl rfl _ (set3_at HR0.out _ _ _)) rfl ⟨by rw [hP.out], set3_below _ _ _ (Nat.le_refl _) HB0.out⟩
  have h56i : ¬ (nn : Int) < (b.size : Int) := by omega
  have hix2 := rix b n (by omega)
  obtain ⟨v, hv⟩ : ∃ v, gi (bys b) n = v := ⟨_, rfl⟩
  have hvb : v < 256 := by rw [← hv]; exact gi_bys_lt b n
  rw [hv] at hix2 hHD
  have E7 : Hid (wrap64 (v : Int) = (v : Int)) := Lib.hid (IntWalk.wrap64_in _ (by omega))
  have E8 : Hid ((3 : Int) ≤ (n : Int) ∧ (n : Int) ≤ (b.size : Int) ∧ (n1 : Int) ≤ (n13 : Int) ∧ (n13 : Int) ≤ (b.size : Int) ∧ ¬ (n13 : Int) = (n1 : Int) ∧ 3 ≤ n ∧ n ≤ b.size ∧ n1 ≤ n13 ∧ n13 ≤ b.size) := Lib.hid (by omega)
  rw [hHD] at hRR
  have HRR := Lib.hid hRR
  cases hr : rightH H with
  | false =>
    have hP : Hid (ANS = none) := Lib.hid (hPN (Or.inr (Or.inr (Or.inr (Or.inr hr)))))
    rw [hr] at HRR
    clear hm hs h3 h32 h56 hPN hPS hRR hHD hn hn13 hn1 hn29 hnn hg hr hv hvb
    go_enter Tryz.func9, Tryz.ntmps9
    have e1 := E1.out
    have e2 := E2.out
    have e3 := E3.out
    have e4 := E4.out
    have e5 := E5.out
    have e6 := E6.out
    have e7 := E7.out
    obtain ⟨s1, s2, s3, s4, s5, s6, s7, s8, s9⟩ := E8.out
    go_wp2_with fail
    go_region
    go_wp2_with fail
    refine (HRR.out _).mono ?_
    rintro e w5 ⟨rfl, hb5⟩
    have hbd : Below W0.heap.size W0 (W0.alloc (.cells #[.string (b.extract 3 n), .int .i64 (v : Int), .string (b.extract n1 n13)] 32)).drew := below_drewN ((Below.refl _ W0).alloc (Nat.le_refl _) _) 1
    have hnew : ((W0.alloc (.cells #[.string (b.extract 3 n), .int .i64 (v : Int), .string (b.extract n1 n13)] 32)).drew).heap[W0.heap.size]? = some (.cells #[.string (b.extract 3 n), .int .i64 (v : Int), .string (b.extract n1 n13)] 32 (0, 0)) := heap_alloc_new W0 _
    have HR5 := Lib.hid (keep_b hb5 (keep_b hbd HR0.out))
    have HP5 := Lib.hid (keep_b hb5 hnew)
    have HB5 := Lib.hid ((HB0.out.trans (hbd.mono HB0.out.size)).trans (hb5.mono (HB0.out.trans (hbd.mono HB0.out.size)).size))
    clear hb5 hbd hnew c0 c1 c2 f0 f1 f2
    have c0 := cell_of HR5.out 0
    have c1 := cell_of HR5.out 1
    have c2 := cell_of HR5.out 2
    have f0 := free_of HR5.out 0
    have f1 := free_of HR5.out 1
    have f2 := free_of HR5.out 2
    have d0 := cell_of HP5.out 0
    have d1 := cell_of HP5.out 1
    have d2 := cell_of HP5.out 2
    go_wp2
    exact bodyPost_ret (HBAD.out _ rfl rfl _ (set3_at HR5.out _ _ _)) rfl ⟨by rw [hP.out], set3_below _ _ _ (Nat.le_refl _) HB5.out⟩
  | true =>
    have hP : Hid (ANS = some (H, b.extract (16 + g) b.size)) := Lib.hid (hPS (by omega) hm (by omega) (by omega) hr)
    have HHD := Lib.hid hHD
    rw [hr] at HRR
    clear hm hs h3 h32 h56 hPN hPS hRR hHD hn hn13 hn1 hn29 hnn hg hr hv hvb
    go_enter Tryz.func9, Tryz.ntmps9
    have e1 := E1.out
    have e2 := E2.out
    have e3 := E3.out
    have e4 := E4.out
    have e5 := E5.out
    have e6 := E6.out
    have e7 := E7.out
    obtain ⟨s1, s2, s3, s4, s5, s6, s7, s8, s9⟩ := E8.out
    go_wp2_with fail
    go_region
    go_wp2_with fail
    refine (HRR.out _).mono ?_
    rintro e w5 ⟨rfl, hb5⟩
    have hbd : Below W0.heap.size W0 (W0.alloc (.cells #[.string (b.extract 3 n), .int .i64 (v : Int), .string (b.extract n1 n13)] 32)).drew := below_drewN ((Below.refl _ W0).alloc (Nat.le_refl _) _) 1
    have hnew : ((W0.alloc (.cells #[.string (b.extract 3 n), .int .i64 (v : Int), .string (b.extract n1 n13)] 32)).drew).heap[W0.heap.size]? = some (.cells #[.string (b.extract 3 n), .int .i64 (v : Int), .string (b.extract n1 n13)] 32 (0, 0)) := heap_alloc_new W0 _
    have HR5 := Lib.hid (keep_b hb5 (keep_b hbd HR0.out))
    have HP5 := Lib.hid (keep_b hb5 hnew)
    have HB5 := Lib.hid ((HB0.out.trans (hbd.mono HB0.out.size)).trans (hb5.mono (HB0.out.trans (hbd.mono HB0.out.size)).size))
    clear hb5 hbd hnew c0 c1 c2 f0 f1 f2
    have c0 := cell_of HR5.out 0
    have c1 := cell_of HR5.out 1
    have c2 := cell_of HR5.out 2
    have f0 := free_of HR5.out 0
    have f1 := free_of HR5.out 1
    have f2 := free_of HR5.out 2
    have d0 := cell_of HP5.out 0
    have d1 := cell_of HP5.out 1
    have d2 := cell_of HP5.out 2
    go_wp2
    exact bodyPost_ret (res2 Tryz.results9 _ _ _ w.heap.size _ _ rfl rfl (load3 (set3_at HR5.out _ _ _) (by kernel_rfl) (by kernel_rfl))) rfl ⟨by rw [hP.out]; unfold parseV; simp only; rw [HHD.out]; rfl, set3_below _ _ _ (Nat.le_refl _) HB5.out⟩
end Go.Proofs.YtfamoakicgmfgaaGreat.Lb
namespace Go.Proofs.YtfamoakicgmfgaaGreat.Lb
open Go.RowKit Go.Own.Lb
variable {sA : ByteArray → ByteArray → ByteArray → ByteArray → ByteArray} {oA : ByteArray → ByteArray → ByteArray → ByteArray → ByteArray × Int}
set_option maxRecDepth 100000 in
set_option maxHeartbeats 2000000 in
theorem rbuild_any (H : Under sA oA) (k : ByteArray) (h : Hd) (L : List P2) (p : Option Addr) (cap : Nat) (t : ByteArray) (hL : L.length ≤ 1000) (hid : h.id.size ≤ 1099511627776) (hs : ∀ x ∈ L, x.1.size ≤ 1000000 ∧ x.2.size ≤ 1000000) (w : World) (hP : PsC w (.slice p L.length cap) L) :
    Calls Tryz.prog 7 #[.string k, hdV h, .slice p L.length cap, .string t] w fun e w' => e = .returned (.tuple #[.string (buildA sA k h L t).1, .int .i64 (buildA sA k h L t).2]) ∧ Below w.heap.size w w' := by
  obtain ⟨W0, hW0⟩ : ∃ W0, w.alloc (.cells #[.string h.id, .int .i64 h.ver, .string h.nonce] 32) = W0 := ⟨_, rfl⟩
  have hb0 : Below w.heap.size w W0 := hW0 ▸ (Below.refl _ w).alloc (Nat.le_refl _) _
  have hR0 : W0.heap[w.heap.size]? = some (.cells #[.string h.id, .int .i64 h.ver, .string h.nonce] 32 (0, 0)) := hW0 ▸ heap_alloc_new w _
  have HT := Lib.hid (refText_any L p cap hL hs W0 (hP.below hb0))
  have HRH := Lib.hid fun W => rright_h h hid W
  obtain ⟨ANS, hANS⟩ : ∃ A, buildA sA k h L t = A := ⟨_, rfl⟩
  rw [hANS]
  have HANS := Lib.hid hANS
  have HR0 := Lib.hid hR0
  have HB0 := Lib.hid hb0
  have HW0 := Lib.hid hW0
  obtain ⟨n, hn⟩ : ∃ n, L.length = n := ⟨_, rfl⟩
  rw [hn] at HT ⊢
  clear hid hL hs hP hb0 hR0 hANS hW0 hn
  cases hrh : rightH h with
  | false =>
    have hA : Hid (ANS = ({ data := #[] }, 2)) := Lib.hid (HANS.out.symm.trans (if_neg fun h => by rw [hrh] at h; cases h.2.1))
    rw [hrh] at HRH
    obtain ⟨x, e, hx⟩ : ∃ x e, textR L = .tuple #[.string x, .int .i64 e] := by
      unfold textR; split
      · exact ⟨_, _, rfl⟩
      · exact ⟨_, _, rfl⟩
    rw [hx] at HT
    clear hrh H hx
    unfold hdV at *
    go_enter Tryz.func7, Tryz.ntmps7
    go_wp2_with fail
    rw [HW0.out]
    go_wp2_with fail
    refine HT.out.mono ?_
    rintro e w1 ⟨rfl, hb1⟩
    have HB1 := Lib.hid (HB0.out.trans (hb1.mono HB0.out.size))
    have HR1 := Lib.hid (keep_b hb1 HR0.out)
    have c0 := cell_of HR1.out 0
    have c1 := cell_of HR1.out 1
    have c2 := cell_of HR1.out 2
    clear hb1
    go_wp2_with fail
    refine (HRH.out _).mono ?_
    rintro e w2 ⟨rfl, hb2⟩
    have HB2 := Lib.hid (HB1.out.trans (hb2.mono HB1.out.size))
    clear hb2
    go_wp2
    go_ret2
    exact ⟨by rw [hA.out]; rfl, HB2.out⟩
  | true =>
  rw [hrh] at HRH
  obtain ⟨z1, z2, z3, z4⟩ := right_parts hrh
  cases hr : rightP L with
  | false =>
    have hA : Hid (ANS = ({ data := #[] }, 2)) := Lib.hid (HANS.out.symm.trans (if_neg fun h => by rw [hr] at h; cases h.1))
    have hE : textR L = .tuple #[.string { data := #[] }, .int .i64 2] := by unfold textR; rw [if_neg (by rw [hr]; decide)]
    rw [hE] at HT
    clear hE hr H hrh z1 z2 z3 z4
    unfold hdV at *
    go_enter Tryz.func7, Tryz.ntmps7
    go_wp2_with fail
    rw [HW0.out]
    go_wp2_with fail
    refine HT.out.mono ?_
    rintro e w1 ⟨rfl, hb1⟩
    have HB1 := Lib.hid (HB0.out.trans (hb1.mono HB0.out.size))
    have HR1 := Lib.hid (keep_b hb1 HR0.out)
    have c0 := cell_of HR1.out 0
    have c1 := cell_of HR1.out 1
    have c2 := cell_of HR1.out 2
    clear hb1
    go_wp2_with fail
    refine (HRH.out _).mono ?_
    rintro e w2 ⟨rfl, hb2⟩
    have HB2 := Lib.hid (HB1.out.trans (hb2.mono HB1.out.size))
    clear hb2
    go_wp2
    go_ret2
    exact ⟨by rw [hA.out]; rfl, HB2.out⟩
  | true =>
  have hE : textR L = .tuple #[.string (mkS (textP L)), .int .i64 0] := by unfold textR; rw [if_pos hr]
  have hlen := text_len hr
  rw [hE] at HT
  clear hE
  obtain ⟨x, hx⟩ : ∃ x, mkS (textP L) = x := ⟨_, rfl⟩
  rw [hx] at HT hlen
  by_cases hk : k.size = 32
  case neg =>
    have hA : Hid (ANS = ({ data := #[] }, 2)) := Lib.hid (HANS.out.symm.trans (if_neg fun h => hk h.2.2))
    have hki : ((k.size : Int) != 32) = true := by simp; omega
    clear hr hrh H hlen hx hk z1 z2 z3 z4
    unfold hdV at *
    go_enter Tryz.func7, Tryz.ntmps7
    go_wp2_with fail
    rw [HW0.out]
    go_wp2_with fail
    refine HT.out.mono ?_
    rintro e w1 ⟨rfl, hb1⟩
    have HB1 := Lib.hid (HB0.out.trans (hb1.mono HB0.out.size))
    have HR1 := Lib.hid (keep_b hb1 HR0.out)
    have c0 := cell_of HR1.out 0
    have c1 := cell_of HR1.out 1
    have c2 := cell_of HR1.out 2
    clear hb1
    go_wp2_with fail
    refine (HRH.out _).mono ?_
    rintro e w2 ⟨rfl, hb2⟩
    have HB2 := Lib.hid (HB1.out.trans (hb2.mono HB1.out.size))
    clear hb2
    go_wp2
    go_ret2
    exact ⟨by rw [hA.out]; rfl, HB2.out⟩
  have hki : ((k.size : Int) != 32) = false := by simp; omega
  by_cases ht : t.size ≤ 1024
  case neg =>
    have hA : Hid (ANS = ({ data := #[] }, 3)) := Lib.hid (HANS.out.symm.trans ((if_pos ⟨hr, hrh, hk⟩).trans (if_neg ht)))
    have hti : 1024 < (t.size : Int) := by omega
    clear hr hrh H hlen hx hk z1 z2 z3 z4 ht
    unfold hdV at *
    go_enter Tryz.func7, Tryz.ntmps7
    go_wp2_with fail
    rw [HW0.out]
    go_wp2_with fail
    refine HT.out.mono ?_
    rintro e w1 ⟨rfl, hb1⟩
    have HB1 := Lib.hid (HB0.out.trans (hb1.mono HB0.out.size))
    have HR1 := Lib.hid (keep_b hb1 HR0.out)
    have c0 := cell_of HR1.out 0
    have c1 := cell_of HR1.out 1
    have c2 := cell_of HR1.out 2
    clear hb1
    go_wp2_with fail
    refine (HRH.out _).mono ?_
    rintro e w2 ⟨rfl, hb2⟩
    have HB2 := Lib.hid (HB1.out.trans (hb2.mono HB1.out.size))
    clear hb2
    go_wp2
    go_ret2
    exact ⟨by rw [hA.out]; rfl, HB2.out⟩
  have hA : Hid (ANS = (laidH h ++ sA k h.nonce (laidH h ++ mkS (textP L)) t, 0)) := Lib.hid (HANS.out.symm.trans ((if_pos ⟨hr, hrh, hk⟩).trans (if_pos ht)))
  have hti : ¬ 1024 < (t.size : Int) := by omega
  have HL := Lib.hid fun W => rbytes_h h (by omega) (by omega) (by omega) W
  have hls := laidH_size h
  have hss := H.size k h.nonce (laidH h ++ x) t
  have hHS := Lib.hid fun W => H.rseal k h.nonce (laidH h ++ x) t W hk z4 (by rw [ByteArray.size_append]; omega) ht
  have a1 : ∀ W, (Op.stringOp .add (laidH h) x).run Tryz.prog W = .ok (.string (laidH h ++ x)) W := fun W => run_string_add_sum W _ _ (by omega)
  have a2 : ∀ W, (Op.stringOp .add (laidH h) (sA k h.nonce (laidH h ++ x) t)).run Tryz.prog W = .ok (.string (laidH h ++ sA k h.nonce (laidH h ++ x) t)) W := fun W => run_string_add_sum W _ _ (by omega)
  rw [hx] at hA
  generalize laidH h ++ sA k h.nonce (laidH h ++ x) t = y2 at *
  generalize sA k h.nonce (laidH h ++ x) t = y1 at *
  generalize laidH h ++ x = y0 at *
  generalize laidH h = ll at *
  clear hr hrh H hlen hx hk z1 z2 z3 z4 ht hls hss
  unfold hdV at *
  go_enter Tryz.func7, Tryz.ntmps7
  go_wp2_with fail
  rw [HW0.out]
  go_wp2_with fail
  refine HT.out.mono ?_
  rintro e w1 ⟨rfl, hb1⟩
  have HB1 := Lib.hid (HB0.out.trans (hb1.mono HB0.out.size))
  have HR1 := Lib.hid (keep_b hb1 HR0.out)
  have c0 := cell_of HR1.out 0
  have c1 := cell_of HR1.out 1
  have c2 := cell_of HR1.out 2
  clear hb1
  go_wp2_with fail
  refine (HRH.out _).mono ?_
  rintro e w2 ⟨rfl, hb2⟩
  have HB2 := Lib.hid (HB1.out.trans (hb2.mono HB1.out.size))
  have HR2 := Lib.hid (keep_b hb2 HR1.out)
  clear c0 c1 c2 hb2
  have HL2 : Hid (∀ g : Gw w2, Calls Tryz.prog 20 #[.agg #[.string h.id, .int .i64 h.ver, .string h.nonce]] g.1 fun x w' => x = .returned (.string ll) ∧ Grew w2 w') := Lib.hid fun g => grew_call (HL.out _)
  have HS2 : Hid (∀ g : Gw w2, Calls Tryz.prog 19 #[.string k, .string h.nonce, .string y0, .string t] g.1 fun x w' => x = .returned (.tuple #[.string y1, .int .i64 0]) ∧ Grew w2 w') := Lib.hid fun g => grew_call (hHS.out _)
  have c0 : ∀ g : Gw w2, g.1.cell? ⟨w.heap.size, 0, none⟩ = some (.string h.id) := fun g => cell_of (keep_b g.2 HR2.out) 0
  have c1 : ∀ g : Gw w2, g.1.cell? ⟨w.heap.size, 1, none⟩ = some (.int .i64 h.ver) := fun g => cell_of (keep_b g.2 HR2.out) 1
  have c2 : ∀ g : Gw w2, g.1.cell? ⟨w.heap.size, 2, none⟩ = some (.string h.nonce) := fun g => cell_of (keep_b g.2 HR2.out) 2
  go_wp2_with fail
  refine wp_region_grew (by kernel_rfl) (by kernel_rfl) ?_
  repeat (go_big_quiet_step ((first | (with_reducible exact HL2.out _) | (with_reducible exact HS2.out _))))
  refine wpQuiet_nil ?_
  intro g
  have HB3 := Lib.hid (HB2.out.trans (g.2.mono HB2.out.size))
  go_wp2_with fail
  refine (HL.out _).mono ?_
  rintro e w4 ⟨rfl, hb4⟩
  have HB4 := Lib.hid (HB3.out.trans (hb4.mono HB3.out.size))
  clear hb4
  go_wp2
  go_ret2
  exact ⟨by rw [hA.out]; rfl, HB4.out⟩
end Go.Proofs.YtfamoakicgmfgaaGreat.Lb
namespace Go.Proofs.YtfamoakicgmfgaaGreat.Lb
open Go.RowKit Go.Own.Lb
variable {sA : ByteArray → ByteArray → ByteArray → ByteArray → ByteArray} {oA : ByteArray → ByteArray → ByteArray → ByteArray → ByteArray × Int}
/-- What is sealed lies behind the head. -/
theorem parts_rest {b : ByteArray} {h : Hd} {r : ByteArray} (hp : partS b = some (h, r)) : r = b.extract (laidH h).size b.size ∧ (laidH h).size ≤ b.size := by
  have hno := fun h' => (partS_none (b := b) h').symm.trans hp
  have h3 : 3 ≤ b.size := by
    rcases Nat.lt_or_ge b.size 3 with h' | h'
    · cases hno (Or.inl h')
    · exact h'
  have h32 : 32 + gi (bys b) 2 ≤ b.size := by
    rcases Nat.lt_or_ge b.size (32 + gi (bys b) 2) with h' | h'
    · cases hno (Or.inr (Or.inr (Or.inl h')))
    · exact h'
  obtain ⟨e1, e2⟩ := hdR_eq (b := b) (by omega)
  have h5 : h = hdD b ∧ r = b.extract (16 + gi (bys b) 2) b.size := by
    unfold partS at hp
    split at hp
    · obtain ⟨rfl, rfl⟩ := Prod.mk.inj (Option.some.inj hp)
      exact ⟨e1, e2⟩
    · cases hp
  obtain ⟨rfl, rfl⟩ := h5
  have hl : (laidH (hdD b)).size = 16 + gi (bys b) 2 := by
    rw [laidH_size]
    unfold hdD
    simp only [ByteArray.size_extract]
    omega
  rw [hl]
  exact ⟨rfl, by omega⟩
set_option maxRecDepth 100000 in
set_option maxHeartbeats 2000000 in
theorem ropen_any (H : Under sA oA) (k b : ByteArray) (L : List P2) (p : Option Addr) (cap : Nat) (hb : b.size ≤ 1099511627776) (hL : L.length ≤ 1000) (hs : ∀ x ∈ L, x.1.size ≤ 1000000 ∧ x.2.size ≤ 1000000) (w : World) (hP : PsC w (.slice p L.length cap) L) :
    Calls Tryz.prog 11 #[.string k, .string b, .slice p L.length cap] w fun e w' => e = .returned (.tuple #[.string (openA oA k b L).1, .int .i64 (openA oA k b L).2]) ∧ Below w.heap.size w w' := by
  have HPT := Lib.hid (rparse_any b hb w)
  have HT := Lib.hid fun W h => refText_any L p cap hL hs W h
  have HP := Lib.hid hP
  obtain ⟨ANS, hANS⟩ : ∃ A, openA oA k b L = A := ⟨_, rfl⟩
  rw [hANS]
  have HANS := Lib.hid hANS
  obtain ⟨n, hn⟩ : ∃ n, L.length = n := ⟨_, rfl⟩
  rw [hn] at HT HP ⊢
  clear hL hs hP hANS hb hn
  cases ho : partS b with
  | none =>
    have hA : Hid (ANS = ({ data := #[] }, 2)) := Lib.hid (HANS.out.symm.trans (by unfold openA; rw [ho]))
    rw [ho] at HPT
    obtain ⟨x, hx⟩ : ∃ x, textR L = x := ⟨_, rfl⟩
    obtain ⟨x1, x2, hx2⟩ : ∃ s z, textR L = .tuple #[.string s, .int .i64 z] := by
      unfold textR; split
      · exact ⟨_, _, rfl⟩
      · exact ⟨_, _, rfl⟩
    rw [hx2] at HT
    clear ho H hx hx2
    unfold parseV hdV noHd at HPT
    simp only at HPT
    go_enter Tryz.func11, Tryz.ntmps11
    go_wp2_with fail
    refine HPT.out.mono ?_
    rintro e w1 ⟨rfl, hb1⟩
    have HP1 := Lib.hid (HP.out.below hb1)
    have HB1 := Lib.hid hb1
    clear hb1
    go_wp2_with fail
    refine (HT.out _ (HP1.out.below ((Below.refl _ w1).alloc (Nat.le_refl _) _))).mono ?_
    rintro e w2 ⟨rfl, hb2⟩
    have HB2 := Lib.hid ((HB1.out.trans ((Below.refl _ w1).alloc HB1.out.size _)).trans (hb2.mono (by have := HB1.out.size; simp; omega)))
    clear hb2
    go_wp2
    go_ret2
    exact ⟨by rw [hA.out]; rfl, HB2.out⟩
  | some q =>
  obtain ⟨h, r⟩ := q
  obtain ⟨hrh, hr16, hr1040⟩ := parts_ok ho
  obtain ⟨z1, z2, z3, z4⟩ := right_parts hrh
  rw [ho] at HPT
  have hO : ANS = if rightP L = true ∧ k.size = 32 then oA k h.nonce (laidH h ++ mkS (textP L)) r else ({ data := #[] }, 2) := HANS.out.symm.trans (by unfold openA; rw [ho])
  have hrp := ho
  clear ho
  unfold parseV hdV at HPT
  simp only at HPT
  cases hr : rightP L with
  | false =>
    have hA : Hid (ANS = ({ data := #[] }, 2)) := Lib.hid (hO.trans (if_neg fun h => by rw [hr] at h; cases h.1))
    have hE : textR L = .tuple #[.string { data := #[] }, .int .i64 2] := by unfold textR; rw [if_neg (by rw [hr]; decide)]
    rw [hE] at HT
    clear hrp hE hr H hO hrh hr16 hr1040 z1 z2 z3 z4
    go_enter Tryz.func11, Tryz.ntmps11
    go_wp2_with fail
    refine HPT.out.mono ?_
    rintro e w1 ⟨rfl, hb1⟩
    have HP1 := Lib.hid (HP.out.below hb1)
    have HB1 := Lib.hid hb1
    clear hb1
    go_wp2_with fail
    refine (HT.out _ (HP1.out.below ((Below.refl _ w1).alloc (Nat.le_refl _) _))).mono ?_
    rintro e w2 ⟨rfl, hb2⟩
    have HB2 := Lib.hid ((HB1.out.trans ((Below.refl _ w1).alloc HB1.out.size _)).trans (hb2.mono (by have := HB1.out.size; simp; omega)))
    clear hb2
    go_wp2
    go_ret2
    exact ⟨by rw [hA.out]; rfl, HB2.out⟩
  | true =>
  have hE : textR L = .tuple #[.string (mkS (textP L)), .int .i64 0] := by unfold textR; rw [if_pos hr]
  have hlen := text_len hr
  rw [hE] at HT
  clear hE
  obtain ⟨x, hx⟩ : ∃ x, mkS (textP L) = x := ⟨_, rfl⟩
  rw [hx] at HT hlen hO
  by_cases hk : k.size = 32
  case neg =>
    have hA : Hid (ANS = ({ data := #[] }, 2)) := Lib.hid (hO.trans (if_neg fun h => hk h.2))
    have hki : ((k.size : Int) != 32) = true := by simp; omega
    clear hrp hr H hO hrh hr16 hr1040 z1 z2 z3 z4 hk hlen hx
    go_enter Tryz.func11, Tryz.ntmps11
    go_wp2_with fail
    refine HPT.out.mono ?_
    rintro e w1 ⟨rfl, hb1⟩
    have HP1 := Lib.hid (HP.out.below hb1)
    have HB1 := Lib.hid hb1
    clear hb1
    go_wp2_with fail
    refine (HT.out _ (HP1.out.below ((Below.refl _ w1).alloc (Nat.le_refl _) _))).mono ?_
    rintro e w2 ⟨rfl, hb2⟩
    have HB2 := Lib.hid ((HB1.out.trans ((Below.refl _ w1).alloc HB1.out.size _)).trans (hb2.mono (by have := HB1.out.size; simp; omega)))
    clear hb2
    go_wp2
    go_ret2
    exact ⟨by rw [hA.out]; rfl, HB2.out⟩
  have hki : ((k.size : Int) != 32) = false := by simp; omega
  have hA : Hid (ANS = oA k h.nonce (laidH h ++ x) r) := Lib.hid (hO.trans (if_pos ⟨hr, hk⟩))
  have hls := laidH_size h
  obtain ⟨hrest, hrl⟩ := parts_rest hrp
  have hsl : ((laidH h).size : Int) ≤ (b.size : Int) := by omega
  have hL := fun W => rbytes_h h (by omega) (by omega) (by omega) W
  have hS := fun W => H.ropn k h.nonce (laidH h ++ x) r W hk z4 (by rw [ByteArray.size_append]; omega) hr16 hr1040
  have a1 : ∀ W, (Op.stringOp .add (laidH h) x).run Tryz.prog W = .ok (.string (laidH h ++ x)) W := fun W => run_string_add_sum W _ _ (by omega)
  have hre : b.extract (laidH h).size b.size = r := hrest.symm
  have hr16' : ¬ (b.size : Int) = ((laidH h).size : Int) := fun e => by rw [hrest, ByteArray.size_extract] at hr16; omega
  clear hrest
  generalize oA k h.nonce (laidH h ++ x) r = y1 at *
  obtain ⟨y1a, y1b⟩ := y1
  simp only at hS hA
  generalize laidH h ++ x = y0 at *
  generalize laidH h = ll at *
  unfold hdV at hL
  clear hr H hO hrh hr16 hr1040 z1 z2 z3 z4 hk hlen hx hls hrp
  go_enter Tryz.func11, Tryz.ntmps11
  go_wp2_with fail
  refine HPT.out.mono ?_
  rintro e w1 ⟨rfl, hb1⟩
  have HP1 := Lib.hid (HP.out.below hb1)
  have HB1 := Lib.hid hb1
  clear hb1
  have HL := Lib.hid hL
  have HS := Lib.hid hS
  clear hL hS
  go_wp2_with fail
  refine (HT.out _ (HP1.out.below ((Below.refl _ w1).alloc (Nat.le_refl _) _))).mono ?_
  rintro e w2 ⟨rfl, hb2⟩
  have HR2 := Lib.hid (keep_b hb2 (heap_alloc_new w1 (.cells #[.string h.id, .int .i64 h.ver, .string h.nonce] 32)))
  have HB2 := Lib.hid ((HB1.out.trans ((Below.refl _ w1).alloc HB1.out.size _)).trans (hb2.mono (by have := HB1.out.size; simp; omega)))
  have HL2 : Hid (∀ g : Gw w2, Calls Tryz.prog 20 #[.agg #[.string h.id, .int .i64 h.ver, .string h.nonce]] g.1 fun x w' => x = .returned (.string ll) ∧ Grew w2 w') := Lib.hid fun g => grew_call (HL.out _)
  have HS2 : Hid (∀ g : Gw w2, Calls Tryz.prog 23 #[.string k, .string h.nonce, .string y0, .string r] g.1 fun x w' => x = .returned (.tuple #[.string y1a, .int .i64 y1b]) ∧ Grew w2 w') := Lib.hid fun g => grew_call (HS.out _)
  have c0 : ∀ g : Gw w2, g.1.cell? ⟨w1.heap.size, 0, none⟩ = some (.string h.id) := fun g => cell_of (keep_b g.2 HR2.out) 0
  have c1 : ∀ g : Gw w2, g.1.cell? ⟨w1.heap.size, 1, none⟩ = some (.int .i64 h.ver) := fun g => cell_of (keep_b g.2 HR2.out) 1
  have c2 : ∀ g : Gw w2, g.1.cell? ⟨w1.heap.size, 2, none⟩ = some (.string h.nonce) := fun g => cell_of (keep_b g.2 HR2.out) 2
  clear hb2
  go_wp2_with fail
  refine wp_region_grew (by kernel_rfl) (by kernel_rfl) ?_
  repeat (go_big_quiet_step ((first | (with_reducible exact HL2.out _) | (with_reducible exact HS2.out _))))
  refine wpQuiet_nil ?_
  intro g
  have HB := Lib.hid (HB2.out.trans (g.2.mono HB2.out.size))
  go_wp2
  go_ret2
  exact ⟨by rw [hA.out]; rfl, HB.out⟩
end Go.Proofs.YtfamoakicgmfgaaGreat.Lb

/- The document's own tag: by contract. -/
import Derived.Test.YtbiadmhomadflaaGreatDoorH1
import Derived.Test.YtbiadmhomadflaaGreatDoorL1
import Derived.Deep.RegionLaw
namespace Go.Proofs.YtbiadmhomadflaaGreatDoor.Sm
open Go.RowKit Go.Own
theorem blockL_gi (k : List Nat) (i : Nat) (_ : i < 64) : gi (blockL k) i = gi (keyL k) i := by
  have hl : (keyL k).length ≤ 64 := by
    unfold keyL
    split
    · rw [digL_length]; decide
    · omega
  unfold blockL spl
  rw [List.take_zero, List.nil_append, Nat.zero_add]
  unfold gi rep
  simp only [List.getD_eq_getElem?_getD, List.getElem?_append, List.drop_replicate, List.getElem?_replicate]
  by_cases h2 : i < (keyL k).length
  · rw [if_pos h2]
  · rw [if_neg h2, List.getElem?_eq_none (l := keyL k) (by omega)]
    split <;> rfl
attribute [local go_sem] ixS ag63 cs63 sz63 z63 ag5 cs5 sz5 isa5
attribute [-go_sem] run_string_add_if
set_option maxRecDepth 100000 in
set_option maxHeartbeats 4000000 in
/-- From the two rows on: K the key as it counts. -/
theorem refTag_any (k s : ByteArray) (hk : k.size ≤ 1099511600000) (hs : s.size ≤ 1099511500000) (w : World) :
    Calls Tryz.prog 36 #[.string k, .string s] w fun e w' => e = .returned (.string (mkS (tagL (bys k) (bys s)))) ∧ Grows w w' := by
  have HS := Lib.hid hs; clear hs
  obtain ⟨z, hz⟩ : ∃ z : ByteArray, bys z = keyL (bys k) := ⟨mkS (keyL (bys k)), bys_mkS _ (by
    unfold keyL
    split
    · exact digL_B8 _
    · exact B8.bys k)⟩
  have hzs : z.size ≤ 64 := by
    rw [← bys_length, hz]; unfold keyL; split
    · rw [digL_length]; decide
    · omega
  have HZ := Lib.hid hz
  obtain ⟨A, hA⟩ : ∃ A, turnL (blockL (bys k)) 92 = A := ⟨_, rfl⟩
  obtain ⟨B, hB⟩ : ∃ B, turnL (blockL (bys k)) 54 = B := ⟨_, rfl⟩
  have hAl : Hid (A.length = 64) := Lib.hid (by rw [← hA]; exact turnL_length _ _)
  have hBl : Hid (B.length = 64) := Lib.hid (by rw [← hB]; exact turnL_length _ _)
  have hA8 : Hid (B8 A) := Lib.hid (by rw [← hA]; exact turnL_B8 _ _)
  have hB8 : Hid (B8 B) := Lib.hid (by rw [← hB]; exact turnL_B8 _ _)
  obtain ⟨y1, hy1⟩ : ∃ y, mkS B ++ s = y := ⟨_, rfl⟩
  have hy1b : Hid (bys y1 = B ++ bys s) := Lib.hid (by rw [← hy1, bys_cat, bys_mkS _ (hB8.out.append (B8.bys s))])
  have hy1s : Hid (y1.size ≤ 1099511500064) := Lib.hid (by rw [← bys_length, hy1b.out, List.length_append, hBl.out, bys_length]; have := HS.out; omega)
  have hadd1 : ∀ W, (Op.stringOp .add (mkS B) s).run Tryz.prog W = .ok (.string y1) W := fun W => by
    rw [run_string_add_sum W _ _ (by rw [mkS_size, hBl.out]; have := HS.out; omega), hy1]
  obtain ⟨y2, hy2⟩ : ∃ y, mkS A ++ mkS (digL (bys y1)) = y := ⟨_, rfl⟩
  have hy2b : Hid (bys y2 = A ++ digL (B ++ bys s)) := Lib.hid (by rw [← hy2, mkS_append, bys_mkS _ (hA8.out.append (digL_B8 _)), hy1b.out])
  have hy2s : Hid (y2.size ≤ 1099511500064) := Lib.hid (by rw [← bys_length, hy2b.out, List.length_append, hAl.out, digL_length]; decide)
  have hadd2 : ∀ W, (Op.stringOp .add (mkS A) (mkS (digL (bys y1)))).run Tryz.prog W = .ok (.string y2) W := fun W => by
    rw [run_string_add_sum W _ _ (by rw [mkS_size, mkS_size, hAl.out, digL_length]; decide), hy2]
  have HREF1 : ∀ W, Calls Tryz.prog 43 #[.string y1] W fun e w' => e = .returned (.string (mkS (digL (bys y1)))) ∧ Grows W w' := fun W => refSum_any y1 (by have := hy1s.out; omega) W
  have HREF2 : ∀ W, Calls Tryz.prog 43 #[.string y2] W fun e w' => e = .returned (.string (mkS (tagL (bys k) (bys s)))) ∧ Grows W w' := fun W => by
    have := refSum_any y2 (by have := hy2s.out; omega) W
    rwa [hy2b.out, ← hA, ← hB] at this
  have HFA := Lib.hid hA
  have HFB := Lib.hid hB
  obtain ⟨R, hR⟩ : ∃ R, mkS (tagL (bys k) (bys s)) = R := ⟨_, rfl⟩
  rw [hR] at HREF2 ⊢
  clear hA hB hy1 hy2 hR
  -- the loop and what follows, from whatever world
  have rest : ∀ (W : World), True := fun _ => trivial
  refine calls_wd ?_
  by_cases h64 : (64 : Int) < (k.size : Int)
  · have hz' : mkS (digL (bys k)) = z := by
      rw [← mkS_bys z, HZ.out]; unfold keyL; rw [if_pos (by rw [bys_length]; omega)]
    have HSUM := refSum_any k hk
    rw [hz'] at HSUM
    clear hz' rest hz
    go_enter Tryz.func36, Tryz.ntmps36
    go_wp2_with fail
    refine (HSUM _).mono ?_
    rintro e w' ⟨rfl, g, d, rfl⟩
    rw [Wd_wd]
    clear HSUM
    go_wp2
    obtain ⟨W, hW⟩ : ∃ W, Wd w g d = W := ⟨_, rfl⟩
    have hgw : Grows w W := hW ▸ Grows.of _ _ _
    have hs1 : w.heap.size + g.length = W.heap.size := by rw [← hW, Wd_size]
    have hs2 : w.heap.size + (g.length + 1) = W.heap.size + 1 := by omega
    have hWW : Wd w (g ++ [.cells (cv .u8 (rep 64)) 63 (0, 0), .cells (cv .u8 (rep 64)) 63 (0, 0)]) d = Wd W [.cells (cv .u8 (rep 64)) 63 (0, 0), .cells (cv .u8 (rep 64)) 63 (0, 0)] 0 := by
      rw [← hW, Wd_wd]; rfl
    rw [hs1, hs2, hWW]
    clear hs1 hs2 hWW hW
    have HW := Lib.hid hgw
    clear hgw
    go_loopw [7] (fun i wr => ∃ q d : Nat, q ≤ 64 ∧ i = .int .i64 q ∧ wr = Wd W [.cells (cv .u8 (fin1 (turnF (blockL (bys k)) 92) q (rep 64))) 63 (0, 0), .cells (cv .u8 (fin1 (turnF (blockL (bys k)) 54) q (rep 64))) 63 (0, 0)] d) (fun i _ => 64 - (intOf i).toNat)
    case atStart => exact ⟨0, 0, by omega, rfl, by rw [fin1_zero, fin1_zero]⟩
    case round =>
      obtain ⟨q, d, hq, rfl, rfl⟩ := hrel
      have hl1 : (fin1 (turnF (blockL (bys k)) 92) q (rep 64)).length = 64 := by rw [fin1_length (by rw [rep_length]; omega), rep_length]
      have hl2 : (fin1 (turnF (blockL (bys k)) 54) q (rep 64)).length = 64 := by rw [fin1_length (by rw [rep_length]; omega), rep_length]
      by_cases hlt : q < 64
      · have hqi : (q : Int) < 64 := by omega
        obtain ⟨v, hv⟩ : ∃ v, gi (keyL (bys k)) q = v := ⟨_, rfl⟩
        have hst1 : Hid (spl (fin1 (turnF (blockL (bys k)) 92) q (rep 64)) q [xor8 v 92] = fin1 (turnF (blockL (bys k)) 92) (q + 1) (rep 64)) := Lib.hid (by
          rw [← hv, ← blockL_gi _ _ hlt, show xor8 (gi (blockL (bys k)) q) 92 = turnF (blockL (bys k)) 92 q from rfl, fin1_step])
        have hst2 : Hid (spl (fin1 (turnF (blockL (bys k)) 54) q (rep 64)) q [xor8 v 54] = fin1 (turnF (blockL (bys k)) 54) (q + 1) (rep 64)) := Lib.hid (by
          rw [← hv, ← blockL_gi _ _ hlt, show xor8 (gi (blockL (bys k)) q) 54 = turnF (blockL (bys k)) 54 q from rfl, fin1_step])
        rw [← HZ.out] at hv
        generalize fin1 (turnF (blockL (bys k)) 92) q (rep 64) = F at *
        generalize fin1 (turnF (blockL (bys k)) 54) q (rep 64) = G at *
        by_cases hqz : (q : Int) < (z.size : Int)
        · have hqn : q < z.size := by omega
          go_wp2
          go_roundw
          case rel => exact ⟨q + 1, _, by omega, by go_num, by rw [← hst1.out, ← hst2.out]⟩
          case measure => simp [intOf]; omega
        · have hv0 : v = 0 := by
            rw [← hv]; unfold gi; rw [List.getD_eq_getElem?_getD, List.getElem?_eq_none (by rw [bys_length]; omega)]; rfl
          subst hv0
          clear hv
          have hb92 : bits .xor .u8 0 92 = 92 := by decide
          have hb54 : bits .xor .u8 0 54 = 54 := by decide
          rw [show xor8 0 92 = 92 from rfl] at hst1
          rw [show xor8 0 54 = 54 from rfl] at hst2
          go_wp2
          go_roundw
          case rel => exact ⟨q + 1, _, by omega, by go_num, by rw [← hst1.out, ← hst2.out]⟩
          case measure => simp [intOf]; omega
      · obtain rfl : q = 64 := by omega
        have HF1 : Hid (fin1 (turnF (blockL (bys k)) 92) 64 (rep 64) = A) := Lib.hid (by rw [fin1_end (by rw [rep_length]; omega)]; exact HFA.out)
        have HF2 : Hid (fin1 (turnF (blockL (bys k)) 54) 64 (rep 64) = B) := Lib.hid (by rw [fin1_end (by rw [rep_length]; omega)]; exact HFB.out)
        rw [HF1.out] at hl1 ⊢
        rw [HF2.out] at hl2 ⊢
        go_wp2
        refine wp_region_big 9 (by kernel_rfl) (by kernel_rfl) ?_
        simp only [List.take_succ_cons, List.take_zero, List.drop_succ_cons, List.drop_zero]
        have HB1 := Lib.hid fun (g : List Obj) (e : Nat) => big_call (L := fun g => Obj.cells (cv .u8 A) 63 (0, 0) :: Obj.cells (cv .u8 B) 63 (0, 0) :: g) (g := g) (e := e) (w := W) (l0 := [Obj.cells (cv .u8 A) 63 (0, 0), Obj.cells (cv .u8 B) 63 (0, 0)]) (fun _ _ => rfl) (fun _ => rfl) (HREF1 _)
        have HB2 := Lib.hid fun (g : List Obj) (e : Nat) => big_call (L := fun g => Obj.cells (cv .u8 A) 63 (0, 0) :: Obj.cells (cv .u8 B) 63 (0, 0) :: g) (g := g) (e := e) (w := W) (l0 := [Obj.cells (cv .u8 A) 63 (0, 0), Obj.cells (cv .u8 B) 63 (0, 0)]) (fun _ _ => rfl) (fun _ => rfl) (HREF2 _)
        repeat (go_big_quiet_step ((intro _; first | (with_reducible exact HB1.out _ _) | (with_reducible exact HB2.out _ _))))
        refine wpQuiet_nil ?_
        intro gR eR
        go_wp2
        go_ret
        exact ⟨rfl, HW.out.trans (Grows.of _ _ _)⟩
  · obtain rfl : z = k := bys_inj (by rw [HZ.out]; unfold keyL; rw [if_neg (by rw [bys_length]; omega)])
    clear rest hz
    obtain ⟨W, hW⟩ : ∃ W, w = W := ⟨_, rfl⟩
    have hgw : Grows w W := hW ▸ Grows.refl _
    rw [hW] at hgw ⊢
    clear hW
    go_enter Tryz.func36, Tryz.ntmps36
    go_wp2
    have HW := Lib.hid hgw
    clear hgw
    go_loopw [7] (fun i wr => ∃ q d : Nat, q ≤ 64 ∧ i = .int .i64 q ∧ wr = Wd W [.cells (cv .u8 (fin1 (turnF (blockL (bys z)) 92) q (rep 64))) 63 (0, 0), .cells (cv .u8 (fin1 (turnF (blockL (bys z)) 54) q (rep 64))) 63 (0, 0)] d) (fun i _ => 64 - (intOf i).toNat)
    case atStart => exact ⟨0, 0, by omega, rfl, by rw [fin1_zero, fin1_zero]⟩
    case round =>
      obtain ⟨q, d, hq, rfl, rfl⟩ := hrel
      have hl1 : (fin1 (turnF (blockL (bys z)) 92) q (rep 64)).length = 64 := by rw [fin1_length (by rw [rep_length]; omega), rep_length]
      have hl2 : (fin1 (turnF (blockL (bys z)) 54) q (rep 64)).length = 64 := by rw [fin1_length (by rw [rep_length]; omega), rep_length]
      by_cases hlt : q < 64
      · have hqi : (q : Int) < 64 := by omega
        obtain ⟨v, hv⟩ : ∃ v, gi (keyL (bys z)) q = v := ⟨_, rfl⟩
        have hst1 : Hid (spl (fin1 (turnF (blockL (bys z)) 92) q (rep 64)) q [xor8 v 92] = fin1 (turnF (blockL (bys z)) 92) (q + 1) (rep 64)) := Lib.hid (by
          rw [← hv, ← blockL_gi _ _ hlt, show xor8 (gi (blockL (bys z)) q) 92 = turnF (blockL (bys z)) 92 q from rfl, fin1_step])
        have hst2 : Hid (spl (fin1 (turnF (blockL (bys z)) 54) q (rep 64)) q [xor8 v 54] = fin1 (turnF (blockL (bys z)) 54) (q + 1) (rep 64)) := Lib.hid (by
          rw [← hv, ← blockL_gi _ _ hlt, show xor8 (gi (blockL (bys z)) q) 54 = turnF (blockL (bys z)) 54 q from rfl, fin1_step])
        rw [← HZ.out] at hv
        generalize fin1 (turnF (blockL (bys z)) 92) q (rep 64) = F at *
        generalize fin1 (turnF (blockL (bys z)) 54) q (rep 64) = G at *
        by_cases hqz : (q : Int) < (z.size : Int)
        · have hqn : q < z.size := by omega
          go_wp2
          go_roundw
          case rel => exact ⟨q + 1, _, by omega, by go_num, by rw [← hst1.out, ← hst2.out]⟩
          case measure => simp [intOf]; omega
        · have hv0 : v = 0 := by
            rw [← hv]; unfold gi; rw [List.getD_eq_getElem?_getD, List.getElem?_eq_none (by rw [bys_length]; omega)]; rfl
          subst hv0
          clear hv
          have hb92 : bits .xor .u8 0 92 = 92 := by decide
          have hb54 : bits .xor .u8 0 54 = 54 := by decide
          rw [show xor8 0 92 = 92 from rfl] at hst1
          rw [show xor8 0 54 = 54 from rfl] at hst2
          go_wp2
          go_roundw
          case rel => exact ⟨q + 1, _, by omega, by go_num, by rw [← hst1.out, ← hst2.out]⟩
          case measure => simp [intOf]; omega
      · obtain rfl : q = 64 := by omega
        have HF1 : Hid (fin1 (turnF (blockL (bys z)) 92) 64 (rep 64) = A) := Lib.hid (by rw [fin1_end (by rw [rep_length]; omega)]; exact HFA.out)
        have HF2 : Hid (fin1 (turnF (blockL (bys z)) 54) 64 (rep 64) = B) := Lib.hid (by rw [fin1_end (by rw [rep_length]; omega)]; exact HFB.out)
        rw [HF1.out] at hl1 ⊢
        rw [HF2.out] at hl2 ⊢
        go_wp2
        refine wp_region_big 9 (by kernel_rfl) (by kernel_rfl) ?_
        simp only [List.take_succ_cons, List.take_zero, List.drop_succ_cons, List.drop_zero]
        have HB1 := Lib.hid fun (g : List Obj) (e : Nat) => big_call (L := fun g => Obj.cells (cv .u8 A) 63 (0, 0) :: Obj.cells (cv .u8 B) 63 (0, 0) :: g) (g := g) (e := e) (w := W) (l0 := [Obj.cells (cv .u8 A) 63 (0, 0), Obj.cells (cv .u8 B) 63 (0, 0)]) (fun _ _ => rfl) (fun _ => rfl) (HREF1 _)
        have HB2 := Lib.hid fun (g : List Obj) (e : Nat) => big_call (L := fun g => Obj.cells (cv .u8 A) 63 (0, 0) :: Obj.cells (cv .u8 B) 63 (0, 0) :: g) (g := g) (e := e) (w := W) (l0 := [Obj.cells (cv .u8 A) 63 (0, 0), Obj.cells (cv .u8 B) 63 (0, 0)]) (fun _ _ => rfl) (fun _ => rfl) (HREF2 _)
        repeat (go_big_quiet_step ((intro _; first | (with_reducible exact HB1.out _ _) | (with_reducible exact HB2.out _ _))))
        refine wpQuiet_nil ?_
        intro gR eR
        go_wp2
        go_ret
        exact ⟨rfl, HW.out.trans (Grows.of _ _ _)⟩
end Go.Proofs.YtbiadmhomadflaaGreatDoor.Sm

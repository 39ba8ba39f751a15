/- The document's text of a context, by contract. No condition but the row's sizes. -/
import Derived.Test.YtfamoakicgmfgaaGreatLR5
import Derived.Test.YtfamoakicgmfgaaGreatLD1
namespace Go.Proofs.YtfamoakicgmfgaaGreat.Lb
open Go.RowKit Go.Own.Lb
attribute [-go_sem] run_string_add_if
/-- What each operation of a round makes. -/
def TT (acc : ByteArray) (x : P2) (j b o n cM : Nat) (B : Nat) : Nat → Value → World → Prop
  | 0, v, _ => v = .string acc
  | 1, v, _ => v = .slice (some ⟨b, o, none⟩) n cM
  | 2, v, _ => v = .int .i64 (j : Int)
  | 3, v, _ => v = .pointer (some ⟨b, o + j * 2, none⟩)
  | 4, v, _ => v = .pointer (some ⟨b, o + j * 2, none⟩)
  | 5, v, _ => v = .string x.1
  | 6, v, _ => v = .int .i64 (x.1.size : Int)
  | 7, v, _ => v = .int .u8 (x.1.size : Int)
  | 8, v, W => OwnB W B v [x.1.size]
  | 9, v, _ => v = .string (mkS [x.1.size])
  | 10, v, _ => v = .string (acc ++ mkS [x.1.size])
  | 11, v, _ => v = .slice (some ⟨b, o, none⟩) n cM
  | 12, v, _ => v = .int .i64 (j : Int)
  | 13, v, _ => v = .pointer (some ⟨b, o + j * 2, none⟩)
  | 14, v, _ => v = .pointer (some ⟨b, o + j * 2, none⟩)
  | 15, v, _ => v = .string x.1
  | 16, v, _ => v = .string (acc ++ mkS [x.1.size] ++ x.1)
  | 17, v, _ => v = .slice (some ⟨b, o, none⟩) n cM
  | 18, v, _ => v = .int .i64 (j : Int)
  | 19, v, _ => v = .pointer (some ⟨b, o + j * 2, none⟩)
  | 20, v, _ => v = .pointer (some ⟨b, o + j * 2 + 1, none⟩)
  | 21, v, _ => v = .string x.2
  | 22, v, _ => v = .int .i64 (x.2.size : Int)
  | 23, v, _ => v = .int .u8 (x.2.size : Int)
  | 24, v, W => OwnB W B v [x.2.size]
  | 25, v, _ => v = .string (mkS [x.2.size])
  | 26, v, _ => v = .string (acc ++ mkS [x.1.size] ++ x.1 ++ mkS [x.2.size])
  | 27, v, _ => v = .slice (some ⟨b, o, none⟩) n cM
  | 28, v, _ => v = .int .i64 (j : Int)
  | 29, v, _ => v = .pointer (some ⟨b, o + j * 2, none⟩)
  | 30, v, _ => v = .pointer (some ⟨b, o + j * 2 + 1, none⟩)
  | 31, v, _ => v = .string x.2
  | 32, v, _ => v = .string (acc ++ mkS [x.1.size] ++ x.1 ++ mkS [x.2.size] ++ x.2)
  | 33, v, _ => v = .string (acc ++ mkS [x.1.size] ++ x.1 ++ mkS [x.2.size] ++ x.2)
  | _, _, _ => True
theorem TT.below {acc : ByteArray} {x : P2} {j b o n cM B : Nat} {W W' : World} (hb : Below W.heap.size W W') : ∀ (i : Nat) v, TT acc x j b o n cM B i v W → TT acc x j b o n cM B i v W'
  | 0, _, h => h
  | 1, _, h => h
  | 2, _, h => h
  | 3, _, h => h
  | 4, _, h => h
  | 5, _, h => h
  | 6, _, h => h
  | 7, _, h => h
  | 8, _, h => OwnB.below h hb
  | 9, _, h => h
  | 10, _, h => h
  | 11, _, h => h
  | 12, _, h => h
  | 13, _, h => h
  | 14, _, h => h
  | 15, _, h => h
  | 16, _, h => h
  | 17, _, h => h
  | 18, _, h => h
  | 19, _, h => h
  | 20, _, h => h
  | 21, _, h => h
  | 22, _, h => h
  | 23, _, h => h
  | 24, _, h => OwnB.below h hb
  | 25, _, h => h
  | 26, _, h => h
  | 27, _, h => h
  | 28, _, h => h
  | 29, _, h => h
  | 30, _, h => h
  | 31, _, h => h
  | 32, _, h => h
  | 33, _, h => h
  | _ + 34, _, _ => trivial
theorem text_step {M : List P2} {j : Nat} {x : P2} (h : M[j]? = some x) : mkS (encs (M.take j)) ++ mkS [x.1.size] ++ x.1 ++ mkS [x.2.size] ++ x.2 = mkS (encs (M.take (j + 1))) := by
  rw [take_succ_at _ _ _ h, encs_append]
  have e : encs [x] = [x.1.size] ++ (bys x.1 ++ ([x.2.size] ++ bys x.2)) := by simp [encs, encP]
  rw [e, mkS_append, mkS_append, mkS_append, mkS_append, mkS_bys, mkS_bys]
  simp only [ByteArray.append_assoc]
set_option maxRecDepth 100000 in
set_option maxHeartbeats 12000000 in
theorem refText_any (L : List P2) (p : Option Addr) (cap : Nat) (hL : L.length ≤ 1000) (hs : ∀ x ∈ L, x.1.size ≤ 1000000 ∧ x.2.size ≤ 1000000) (w : World) (hP : PsC w (.slice p L.length cap) L) :
    Calls Tryz.prog 17 #[.slice p L.length cap] w fun e w' => e = .returned (textR L) ∧ Below w.heap.size w w' := by
  have HR := Lib.hid (refRight_any L p cap (by omega) hs w hP)
  have HS := Lib.hid (fun W (h : PsC W (.slice p L.length cap) L) => refSorted_any L p cap hL W h)
  obtain ⟨n, hn⟩ : ∃ n, L.length = n := ⟨_, rfl⟩
  rw [hn] at hL HR HS hP ⊢
  have HP := Lib.hid hP
  have HN := Lib.hid hn
  clear hP hn hs
  cases hr : rightP L with
  | false =>
    have HE : Hid (textR L = .tuple #[.string { data := #[] }, .int .i64 2]) := Lib.hid (by simp [textR, hr])
    rw [hr] at HR
    clear hr
    go_enter Tryz.func17, Tryz.ntmps17
    go_wp2_with fail
    refine HR.out.mono ?_
    rintro e w1 ⟨rfl, hb⟩
    replace hb := Lib.hid hb
    go_wp2
    go_ret2
    exact ⟨by rw [HE.out]; rfl, hb.out⟩
  | true =>
    have HE : Hid (textR L = .tuple #[.string (mkS (textP L)), .int .i64 0]) := Lib.hid (by simp [textR, hr])
    have HRR := Lib.hid ((rightP_iff L).1 hr)
    rw [hr] at HR
    clear hr
    go_enter Tryz.func17, Tryz.ntmps17
    go_wp2_with fail
    refine HR.out.mono ?_
    rintro e w1 ⟨rfl, hb⟩
    replace hb := Lib.hid hb
    have HP1 := Lib.hid (HP.out.below hb.out)
    go_wp2_with fail
    refine (HS.out w1 HP1.out).mono ?_
    rintro e w2 ⟨v, M, rfl, hperm, hsorted, hM, hb2⟩
    have HMS : Hid (M = sortP L) := Lib.hid (sortP_eq HRR.out.2.2 hperm hsorted)
    have hMl : M.length = n := by rw [hperm.length_eq, HN.out]
    have HFT : Hid (∀ y ∈ M, fitP y = true) := Lib.hid (fun y hy => HRR.out.2.1 y (hperm.mem_iff.1 hy))
    obtain ⟨pM, cM, rfl, _, _⟩ := id hM
    rw [hMl] at hM ⊢
    have HML := Lib.hid hMl
    have HM := Lib.hid hM
    have HB2 := Lib.hid (hb.out.trans (hb2.mono hb.out.size))
    clear hperm hsorted hM hb2 hMl
    have hn8 := HRR.out.1
    rw [HN.out] at hn8
    go_wp2
    go_loopw [4, 6] (fun s i wr => ∃ (j : Nat), j ≤ n ∧ i = .int .i64 (j : Int) ∧ s = .string (mkS (encs (M.take j))) ∧ Hid (Below w2.heap.size w2 wr)) (fun _ i _ => n - (intOf i).toNat)
    case atStart => exact ⟨0, Nat.zero_le _, rfl, rfl, Lib.hid (Below.refl _ _)⟩
    case round =>
      obtain ⟨j, hj, rfl, rfl, HB⟩ := hrel
      by_cases hlt : j < n
      · obtain ⟨x, hx⟩ : ∃ x, M[j]? = some x := ⟨_, List.getElem?_eq_getElem (by rw [HML.out]; exact hlt)⟩
        obtain ⟨b, o, rfl, c0, c1⟩ := (HM.out.below HB.out).at hx
        have hfit := fit_sizes (HFT.out x (List.mem_of_getElem? hx))
        have hle := encs_le (M.take j) (fun y hy => HFT.out y (List.mem_of_mem_take hy))
        rw [List.length_take] at hle
        have hacc : (mkS (encs (M.take j))).size ≤ 1000 := by rw [mkS_size]; omega
        have HST := Lib.hid (text_step hx)
        have hji : (j : Int) < n := by omega
        clear hx hle
        obtain ⟨acc, hac⟩ : ∃ acc, mkS (encs (M.take j)) = acc := ⟨_, rfl⟩
        rw [hac] at HST hacc ⊢
        have HAC := Lib.hid hac
        clear hac
        go_wp2
        refine wp_region_stable (TT acc x j b o n cM wr.heap.size) (by kernel_rfl) (by kernel_rfl) ?_ ?_
        · intro i op ho a W hB hdep hfix
          match i, ho with
          | 0, ho =>
            simp only [List.getElem?_cons_zero, Option.some.injEq] at ho
            subst ho
            exact ⟨_, _, exec_move rfl, hB, (hfix 4 (by decide +kernel)).trans rfl, fun j v' _ h => h⟩
          | 1, ho =>
            simp only [List.getElem?_cons_zero, List.getElem?_cons_succ, Option.some.injEq] at ho
            subst ho
            exact ⟨_, _, exec_move rfl, hB, (hfix 5 (by decide +kernel)).trans rfl, fun j v' _ h => h⟩
          | 2, ho =>
            simp only [List.getElem?_cons_zero, List.getElem?_cons_succ, Option.some.injEq] at ho
            subst ho
            exact ⟨_, _, exec_move rfl, hB, (hfix 6 (by decide +kernel)).trans rfl, fun j v' _ h => h⟩
          | 3, ho =>
            simp only [List.getElem?_cons_zero, List.getElem?_cons_succ, Option.some.injEq] at ho
            subst ho
            have e1 : a.tmps.getD 19 undef = .slice (some ⟨b, o, none⟩) n cM := hdep 1 _ 19 rfl rfl (by decide +kernel)
            have e2 : a.tmps.getD 20 undef = .int .i64 (j : Int) := hdep 2 _ 20 rfl rfl (by decide +kernel)
            exact ⟨_, _, exec_indexAddr e1 e2 hlt, hB, rfl, fun j v' _ h => h⟩
          | 4, ho =>
            simp only [List.getElem?_cons_zero, List.getElem?_cons_succ, Option.some.injEq] at ho
            subst ho
            have e1 : a.tmps.getD 21 undef = .pointer (some ⟨b, o + j * 2, none⟩) := hdep 3 _ 21 rfl rfl (by decide +kernel)
            exact ⟨_, _, exec_field0 e1, hB, rfl, fun j v' _ h => h⟩
          | 5, ho =>
            simp only [List.getElem?_cons_zero, List.getElem?_cons_succ, Option.some.injEq] at ho
            subst ho
            have e1 : a.tmps.getD 22 undef = .pointer (some ⟨b, o + j * 2, none⟩) := hdep 4 _ 22 rfl rfl (by decide +kernel)
            exact ⟨_, _, exec_load e1 (ld_str (by rw [hB.cell (p := _) (World.block_lt_of_cell? wr _ c0)]; exact c0)), hB, rfl, fun j v' _ h => h⟩
          | 6, ho =>
            simp only [List.getElem?_cons_zero, List.getElem?_cons_succ, Option.some.injEq] at ho
            subst ho
            have e1 : a.tmps.getD 23 undef = .string x.1 := hdep 5 _ 23 rfl rfl (by decide +kernel)
            exact ⟨_, _, exec_len e1, hB, rfl, fun j v' _ h => h⟩
          | 7, ho =>
            simp only [List.getElem?_cons_zero, List.getElem?_cons_succ, Option.some.injEq] at ho
            subst ho
            have e1 : a.tmps.getD 24 undef = .int .i64 (x.1.size : Int) := hdep 6 _ 24 rfl rfl (by decide +kernel)
            exact ⟨_, _, exec_convert e1 (conv35 (by omega)), hB, rfl, fun j v' _ h => h⟩
          | 8, ho =>
            simp only [List.getElem?_cons_zero, List.getElem?_cons_succ, Option.some.injEq] at ho
            subst ho
            have e1 : a.tmps.getD 25 undef = .int .u8 (x.1.size : Int) := hdep 7 _ 25 rfl rfl (by decide +kernel)
            have hb : Below W.heap.size W (W.alloc (.cells #[.int .u8 (x.1.size : Int)] 5)) := (Below.refl _ _).alloc (Nat.le_refl _) _
            exact ⟨_, _, exec_byte e1, hB.trans (hb.mono hB.size), byte_own W _ _ hB.size, fun j v' _ h => TT.below hb j v' h⟩
          | 9, ho =>
            simp only [List.getElem?_cons_zero, List.getElem?_cons_succ, Option.some.injEq] at ho
            subst ho
            have e1 : OwnB W wr.heap.size (a.tmps.getD 26 undef) [x.1.size] := hdep 8 _ 26 rfl rfl (by decide +kernel)
            exact ⟨_, _, exec_convert rfl e1.str, hB, rfl, fun j v' _ h => h⟩
          | 10, ho =>
            simp only [List.getElem?_cons_zero, List.getElem?_cons_succ, Option.some.injEq] at ho
            subst ho
            have e1 : a.tmps.getD 18 undef = .string acc := hdep 0 _ 18 rfl rfl (by decide +kernel)
            have e2 : a.tmps.getD 27 undef = .string (mkS [x.1.size]) := hdep 9 _ 27 rfl rfl (by decide +kernel)
            exact ⟨_, _, exec_add e1 e2 (by simp only [mkS_size, List.length_cons, List.length_nil]; omega), hB, rfl, fun j v' _ h => h⟩
          | 11, ho =>
            simp only [List.getElem?_cons_zero, List.getElem?_cons_succ, Option.some.injEq] at ho
            subst ho
            exact ⟨_, _, exec_move rfl, hB, (hfix 5 (by decide +kernel)).trans rfl, fun j v' _ h => h⟩
          | 12, ho =>
            simp only [List.getElem?_cons_zero, List.getElem?_cons_succ, Option.some.injEq] at ho
            subst ho
            exact ⟨_, _, exec_move rfl, hB, (hfix 6 (by decide +kernel)).trans rfl, fun j v' _ h => h⟩
          | 13, ho =>
            simp only [List.getElem?_cons_zero, List.getElem?_cons_succ, Option.some.injEq] at ho
            subst ho
            have e1 : a.tmps.getD 29 undef = .slice (some ⟨b, o, none⟩) n cM := hdep 11 _ 29 rfl rfl (by decide +kernel)
            have e2 : a.tmps.getD 30 undef = .int .i64 (j : Int) := hdep 12 _ 30 rfl rfl (by decide +kernel)
            exact ⟨_, _, exec_indexAddr e1 e2 hlt, hB, rfl, fun j v' _ h => h⟩
          | 14, ho =>
            simp only [List.getElem?_cons_zero, List.getElem?_cons_succ, Option.some.injEq] at ho
            subst ho
            have e1 : a.tmps.getD 31 undef = .pointer (some ⟨b, o + j * 2, none⟩) := hdep 13 _ 31 rfl rfl (by decide +kernel)
            exact ⟨_, _, exec_field0 e1, hB, rfl, fun j v' _ h => h⟩
          | 15, ho =>
            simp only [List.getElem?_cons_zero, List.getElem?_cons_succ, Option.some.injEq] at ho
            subst ho
            have e1 : a.tmps.getD 32 undef = .pointer (some ⟨b, o + j * 2, none⟩) := hdep 14 _ 32 rfl rfl (by decide +kernel)
            exact ⟨_, _, exec_load e1 (ld_str (by rw [hB.cell (p := _) (World.block_lt_of_cell? wr _ c0)]; exact c0)), hB, rfl, fun j v' _ h => h⟩
          | 16, ho =>
            simp only [List.getElem?_cons_zero, List.getElem?_cons_succ, Option.some.injEq] at ho
            subst ho
            have e1 : a.tmps.getD 28 undef = .string (acc ++ mkS [x.1.size]) := hdep 10 _ 28 rfl rfl (by decide +kernel)
            have e2 : a.tmps.getD 33 undef = .string x.1 := hdep 15 _ 33 rfl rfl (by decide +kernel)
            exact ⟨_, _, exec_add e1 e2 (by simp only [ByteArray.size_append, mkS_size, List.length_cons, List.length_nil]; omega), hB, rfl, fun j v' _ h => h⟩
          | 17, ho =>
            simp only [List.getElem?_cons_zero, List.getElem?_cons_succ, Option.some.injEq] at ho
            subst ho
            exact ⟨_, _, exec_move rfl, hB, (hfix 5 (by decide +kernel)).trans rfl, fun j v' _ h => h⟩
          | 18, ho =>
            simp only [List.getElem?_cons_zero, List.getElem?_cons_succ, Option.some.injEq] at ho
            subst ho
            exact ⟨_, _, exec_move rfl, hB, (hfix 6 (by decide +kernel)).trans rfl, fun j v' _ h => h⟩
          | 19, ho =>
            simp only [List.getElem?_cons_zero, List.getElem?_cons_succ, Option.some.injEq] at ho
            subst ho
            have e1 : a.tmps.getD 35 undef = .slice (some ⟨b, o, none⟩) n cM := hdep 17 _ 35 rfl rfl (by decide +kernel)
            have e2 : a.tmps.getD 36 undef = .int .i64 (j : Int) := hdep 18 _ 36 rfl rfl (by decide +kernel)
            exact ⟨_, _, exec_indexAddr e1 e2 hlt, hB, rfl, fun j v' _ h => h⟩
          | 20, ho =>
            simp only [List.getElem?_cons_zero, List.getElem?_cons_succ, Option.some.injEq] at ho
            subst ho
            have e1 : a.tmps.getD 37 undef = .pointer (some ⟨b, o + j * 2, none⟩) := hdep 19 _ 37 rfl rfl (by decide +kernel)
            exact ⟨_, _, exec_field1 e1, hB, rfl, fun j v' _ h => h⟩
          | 21, ho =>
            simp only [List.getElem?_cons_zero, List.getElem?_cons_succ, Option.some.injEq] at ho
            subst ho
            have e1 : a.tmps.getD 38 undef = .pointer (some ⟨b, o + j * 2 + 1, none⟩) := hdep 20 _ 38 rfl rfl (by decide +kernel)
            exact ⟨_, _, exec_load e1 (ld_str (by rw [hB.cell (p := _) (World.block_lt_of_cell? wr _ c1)]; exact c1)), hB, rfl, fun j v' _ h => h⟩
          | 22, ho =>
            simp only [List.getElem?_cons_zero, List.getElem?_cons_succ, Option.some.injEq] at ho
            subst ho
            have e1 : a.tmps.getD 39 undef = .string x.2 := hdep 21 _ 39 rfl rfl (by decide +kernel)
            exact ⟨_, _, exec_len e1, hB, rfl, fun j v' _ h => h⟩
          | 23, ho =>
            simp only [List.getElem?_cons_zero, List.getElem?_cons_succ, Option.some.injEq] at ho
            subst ho
            have e1 : a.tmps.getD 40 undef = .int .i64 (x.2.size : Int) := hdep 22 _ 40 rfl rfl (by decide +kernel)
            exact ⟨_, _, exec_convert e1 (conv35 (by omega)), hB, rfl, fun j v' _ h => h⟩
          | 24, ho =>
            simp only [List.getElem?_cons_zero, List.getElem?_cons_succ, Option.some.injEq] at ho
            subst ho
            have e1 : a.tmps.getD 41 undef = .int .u8 (x.2.size : Int) := hdep 23 _ 41 rfl rfl (by decide +kernel)
            have hb : Below W.heap.size W (W.alloc (.cells #[.int .u8 (x.2.size : Int)] 5)) := (Below.refl _ _).alloc (Nat.le_refl _) _
            exact ⟨_, _, exec_byte e1, hB.trans (hb.mono hB.size), byte_own W _ _ hB.size, fun j v' _ h => TT.below hb j v' h⟩
          | 25, ho =>
            simp only [List.getElem?_cons_zero, List.getElem?_cons_succ, Option.some.injEq] at ho
            subst ho
            have e1 : OwnB W wr.heap.size (a.tmps.getD 42 undef) [x.2.size] := hdep 24 _ 42 rfl rfl (by decide +kernel)
            exact ⟨_, _, exec_convert rfl e1.str, hB, rfl, fun j v' _ h => h⟩
          | 26, ho =>
            simp only [List.getElem?_cons_zero, List.getElem?_cons_succ, Option.some.injEq] at ho
            subst ho
            have e1 : a.tmps.getD 34 undef = .string (acc ++ mkS [x.1.size] ++ x.1) := hdep 16 _ 34 rfl rfl (by decide +kernel)
            have e2 : a.tmps.getD 43 undef = .string (mkS [x.2.size]) := hdep 25 _ 43 rfl rfl (by decide +kernel)
            exact ⟨_, _, exec_add e1 e2 (by simp only [ByteArray.size_append, mkS_size, List.length_cons, List.length_nil]; omega), hB, rfl, fun j v' _ h => h⟩
          | 27, ho =>
            simp only [List.getElem?_cons_zero, List.getElem?_cons_succ, Option.some.injEq] at ho
            subst ho
            exact ⟨_, _, exec_move rfl, hB, (hfix 5 (by decide +kernel)).trans rfl, fun j v' _ h => h⟩
          | 28, ho =>
            simp only [List.getElem?_cons_zero, List.getElem?_cons_succ, Option.some.injEq] at ho
            subst ho
            exact ⟨_, _, exec_move rfl, hB, (hfix 6 (by decide +kernel)).trans rfl, fun j v' _ h => h⟩
          | 29, ho =>
            simp only [List.getElem?_cons_zero, List.getElem?_cons_succ, Option.some.injEq] at ho
            subst ho
            have e1 : a.tmps.getD 45 undef = .slice (some ⟨b, o, none⟩) n cM := hdep 27 _ 45 rfl rfl (by decide +kernel)
            have e2 : a.tmps.getD 46 undef = .int .i64 (j : Int) := hdep 28 _ 46 rfl rfl (by decide +kernel)
            exact ⟨_, _, exec_indexAddr e1 e2 hlt, hB, rfl, fun j v' _ h => h⟩
          | 30, ho =>
            simp only [List.getElem?_cons_zero, List.getElem?_cons_succ, Option.some.injEq] at ho
            subst ho
            have e1 : a.tmps.getD 47 undef = .pointer (some ⟨b, o + j * 2, none⟩) := hdep 29 _ 47 rfl rfl (by decide +kernel)
            exact ⟨_, _, exec_field1 e1, hB, rfl, fun j v' _ h => h⟩
          | 31, ho =>
            simp only [List.getElem?_cons_zero, List.getElem?_cons_succ, Option.some.injEq] at ho
            subst ho
            have e1 : a.tmps.getD 48 undef = .pointer (some ⟨b, o + j * 2 + 1, none⟩) := hdep 30 _ 48 rfl rfl (by decide +kernel)
            exact ⟨_, _, exec_load e1 (ld_str (by rw [hB.cell (p := _) (World.block_lt_of_cell? wr _ c1)]; exact c1)), hB, rfl, fun j v' _ h => h⟩
          | 32, ho =>
            simp only [List.getElem?_cons_zero, List.getElem?_cons_succ, Option.some.injEq] at ho
            subst ho
            have e1 : a.tmps.getD 44 undef = .string (acc ++ mkS [x.1.size] ++ x.1 ++ mkS [x.2.size]) := hdep 26 _ 44 rfl rfl (by decide +kernel)
            have e2 : a.tmps.getD 49 undef = .string x.2 := hdep 31 _ 49 rfl rfl (by decide +kernel)
            exact ⟨_, _, exec_add e1 e2 (by simp only [ByteArray.size_append, mkS_size, List.length_cons, List.length_nil]; omega), hB, rfl, fun j v' _ h => h⟩
          | 33, ho =>
            simp only [List.getElem?_cons_zero, List.getElem?_cons_succ, Option.some.injEq] at ho
            subst ho
            have e1 : a.tmps.getD 50 undef = .string (acc ++ mkS [x.1.size] ++ x.1 ++ mkS [x.2.size] ++ x.2) := hdep 32 _ 50 rfl rfl (by decide +kernel)
            exact ⟨_, _, exec_assign rfl, hB, e1, fun j v' _ h => h⟩
          | i + 34, ho => simp at ho
        · intro a W hB hd hsz hfix hT
          have h4 : a.tmps.getD 4 undef = .string (acc ++ mkS [x.1.size] ++ x.1 ++ mkS [x.2.size] ++ x.2) := hT 33 _ 4 rfl rfl (by decide +kernel)
          rw [HST.out] at h4
          have h6 : a.tmps.getD 6 undef = .int .i64 (j : Int) := (hfix 6 (by decide +kernel)).trans rfl
          have h5 : a.tmps.getD 5 undef = .slice (some ⟨b, o, none⟩) n cM := (hfix 5 (by decide +kernel)).trans rfl
          have h0 : a.tmps.getD 0 undef = .slice p n cap := (hfix 0 (by decide +kernel)).trans rfl
          have h1 : a.tmps.getD 1 undef = undef := (hfix 1 (by decide +kernel)).trans rfl
          have h2 : a.tmps.getD 2 undef = .string { data := #[] } := (hfix 2 (by decide +kernel)).trans rfl
          have h3 : a.tmps.getD 3 undef = .int .i64 0 := (hfix 3 (by decide +kernel)).trans rfl
          have h7 : a.tmps.getD 7 undef = .slice p n cap := (hfix 7 (by decide +kernel)).trans rfl
          have h8 : a.tmps.getD 8 undef = .bool true := (hfix 8 (by decide +kernel)).trans rfl
          have h9 : a.tmps.getD 9 undef = .bool false := (hfix 9 (by decide +kernel)).trans rfl
          have h10 : a.tmps.getD 10 undef = .slice p n cap := (hfix 10 (by decide +kernel)).trans rfl
          have h11 : a.tmps.getD 11 undef = .slice (some ⟨b, o, none⟩) n cM := (hfix 11 (by decide +kernel)).trans rfl
          have h51 : a.tmps.getD 51 undef = undef := (hfix 51 (by decide +kernel)).trans rfl
          have HB9 := Lib.hid (HB.out.trans (hB.mono HB.out.size))
          rw [frame_lit a 52 hsz hd]
          clear hfix hT hsz hd hB c0 c1
          simp only [List.range, List.range.loop, List.map]
          generalize a.tmps = t at *
          rw [h0, h1, h2, h3, h4, h5, h6, h7, h8, h9, h10, h11, h51]
          clear h0 h1 h2 h3 h4 h5 h6 h7 h8 h9 h10 h11 h51
          generalize t.getD 12 undef = v12
          generalize t.getD 13 undef = v13
          generalize t.getD 14 undef = v14
          generalize t.getD 15 undef = v15
          generalize t.getD 16 undef = v16
          generalize t.getD 17 undef = v17
          generalize t.getD 18 undef = v18
          generalize t.getD 19 undef = v19
          generalize t.getD 20 undef = v20
          generalize t.getD 21 undef = v21
          generalize t.getD 22 undef = v22
          generalize t.getD 23 undef = v23
          generalize t.getD 24 undef = v24
          generalize t.getD 25 undef = v25
          generalize t.getD 26 undef = v26
          generalize t.getD 27 undef = v27
          generalize t.getD 28 undef = v28
          generalize t.getD 29 undef = v29
          generalize t.getD 30 undef = v30
          generalize t.getD 31 undef = v31
          generalize t.getD 32 undef = v32
          generalize t.getD 33 undef = v33
          generalize t.getD 34 undef = v34
          generalize t.getD 35 undef = v35
          generalize t.getD 36 undef = v36
          generalize t.getD 37 undef = v37
          generalize t.getD 38 undef = v38
          generalize t.getD 39 undef = v39
          generalize t.getD 40 undef = v40
          generalize t.getD 41 undef = v41
          generalize t.getD 42 undef = v42
          generalize t.getD 43 undef = v43
          generalize t.getD 44 undef = v44
          generalize t.getD 45 undef = v45
          generalize t.getD 46 undef = v46
          generalize t.getD 47 undef = v47
          generalize t.getD 48 undef = v48
          generalize t.getD 49 undef = v49
          generalize t.getD 50 undef = v50
          go_wp2
          go_roundw
          case rel => exact ⟨j + 1, by omega, by go_num, rfl, HB9⟩
          case measure => simp [intOf]; omega
      · obtain rfl : j = n := by omega
        have HT : Hid (mkS (encs (M.take j)) = mkS (textP L)) := Lib.hid (by rw [List.take_of_length_le (by rw [HML.out]; exact Nat.le_refl _), HMS.out]; rfl)
        rw [HT.out]
        go_wp2
        go_ret2
        exact ⟨by rw [HE.out]; rfl, HB2.out.trans (HB.out.mono HB2.out.size)⟩
end Go.Proofs.YtfamoakicgmfgaaGreat.Lb

/- MacKeys' own walk. -/
import Derived.Test.YtokijignhpcjlaaDoorH5
import Derived.Laws.Concat
import Derived.Deep.RegionLaw
namespace Go.Proofs.YtokijignhpcjlaaDoor
open Go.RowKit Go.Own
theorem mkS_append (a b : List Nat) : mkS a ++ mkS b = mkS (a ++ b) := by
  apply ByteArray.ext
  simp [mkS, ByteArray.data_append]
theorem bys_cat (x : List Nat) (s : ByteArray) : mkS x ++ s = mkS (x ++ bys s) := by
  rw [← mkS_append, mkS_bys]
theorem tagL_long (k x : List Nat) (h : 64 < k.length) : tagL (digL k) x = tagL k x := by
  have e : blockL (digL k) = blockL k := by
    unfold blockL keyL
    rw [if_neg (by rw [digL_length]; decide), if_pos h]
  unfold tagL
  rw [e]
theorem tagL_pad (k x : List Nat) (m : Nat) (h : k.length + m ≤ 64) : tagL (k ++ rep m) x = tagL k x := by
  have hl : (k ++ rep m).length = k.length + m := by rw [List.length_append, rep_length]
  have e : blockL (k ++ rep m) = blockL k := by
    unfold blockL keyL
    rw [if_neg (by rw [hl]; omega), if_neg (by omega)]
    unfold spl rep
    simp only [List.take_zero, List.nil_append, Nat.zero_add, List.length_append, List.length_replicate, List.drop_replicate, List.append_assoc, List.replicate_append_replicate]
    congr 2
    omega
  unfold tagL
  rw [e]
attribute [local go_sem] mkX_cv bsS1 bsS2 bsS3 ag5 cs5 sz5 isa5 isa9 ag9
attribute [-go_sem] run_string_add_if
set_option maxRecDepth 100000 in
set_option maxHeartbeats 2000000 in
theorem keys_short (k s : ByteArray) (cut no : Int) (h : 300 < k.size ∨ 1000 < s.size ∨ cut < 0 ∨ (s.size : Int) < cut ∨ no < 0 ∨ 64 < no) (w : World) (hR : Roots w) :
    Calls Tryd.prog 6 #[.string k, .string s, .int .i64 cut, .int .i64 no] w fun e w' => e = .returned (.bool true) ∧ Grows w w' := by
  have h' : 300 < (k.size : Int) ∨ (¬ 300 < (k.size : Int) ∧ 1000 < (s.size : Int)) ∨ (¬ 300 < (k.size : Int) ∧ ¬ 1000 < (s.size : Int) ∧ cut < 0) ∨ (¬ 300 < (k.size : Int) ∧ ¬ 1000 < (s.size : Int) ∧ ¬ cut < 0 ∧ (s.size : Int) < cut)
      ∨ (¬ 300 < (k.size : Int) ∧ ¬ 1000 < (s.size : Int) ∧ ¬ cut < 0 ∧ ¬ (s.size : Int) < cut ∧ no < 0) ∨ (¬ 300 < (k.size : Int) ∧ ¬ 1000 < (s.size : Int) ∧ ¬ cut < 0 ∧ ¬ (s.size : Int) < cut ∧ ¬ no < 0 ∧ 64 < no) := by omega
  clear h
  rcases h' with z | ⟨z1, z2⟩ | ⟨z1, z2, z3⟩ | ⟨z1, z2, z3, z4⟩ | ⟨z1, z2, z3, z4, z5⟩ | ⟨z1, z2, z3, z4, z5, z6⟩
  all_goals
    go_enter Tryd.func6, Tryd.ntmps6
    go_wp2_with fail
    refine (awake3_any _ hR).mono ?_
    rintro e w' ⟨rfl, hg⟩
    go_wp2
    go_ret
    exact ⟨rfl, hg⟩
set_option maxRecDepth 100000 in
set_option maxHeartbeats 4000000 in
theorem keys_long (k s : ByteArray) (c no : Nat) (hk : k.size ≤ 300) (hs : s.size ≤ 1000) (hc : c ≤ s.size) (hno : no ≤ 64) (w : World) (hR : Roots w) :
    Calls Tryd.prog 6 #[.string k, .string s, .int .i64 (c : Int), .int .i64 (no : Int)] w fun e w' => e = .returned (.bool true) ∧ Grows w w' := by
  have z1 : ¬ 300 < (k.size : Int) := by omega
  have z2 : ¬ 1000 < (s.size : Int) := by omega
  have z3 : ¬ (c : Int) < 0 := by omega
  have z4 : ¬ (s.size : Int) < (c : Int) := by omega
  have z5 : ¬ (no : Int) < 0 := by omega
  have z6 : ¬ 64 < (no : Int) := by omega
  have HK := Lib.hid hk
  have HS := Lib.hid hs
  have HC := Lib.hid hc
  have HR := Lib.hid hR; clear hR
  go_enter Tryd.func6, Tryd.ntmps6
  go_wp2_with fail
  refine (awake3_any _ HR.out).mono ?_
  rintro e w0 ⟨rfl, hg0⟩
  have HG0 := Lib.hid hg0
  have HR0 := Lib.hid (HR.out.grows hg0)
  clear hg0
  rw [← Wd_nil w0]
  obtain ⟨t, ht⟩ : ∃ t, mkS (tagL (bys k) (bys s)) = t := ⟨_, rfl⟩
  have HT := Lib.hid ht
  have HTAG1 : ∀ (W : World) (p : Option Addr), Roots W → PartsO W p [s] → Calls Tryd.prog 19 #[.string k, .slice p 1 1] W fun e w' => e = .returned (.string t) ∧ Grows W w' := fun W p hR hP => by
    have := tag_any k (by have := HK.out; omega) W hR p 1 [s] hP (by rw [allB1, bys_length]; have := HS.out; omega) (by simp)
    rwa [allB1, HT.out] at this
  have hcut : bys (s.extract 0 c) ++ bys (s.extract c s.size) = bys s := by
    rw [bys_extract, bys_extract, List.drop_zero, Nat.sub_zero, List.take_of_length_le (l := List.drop c (bys s)) (by rw [List.length_drop, bys_length]; exact Nat.le_refl _), List.take_append_drop]
  have HTAG2 : ∀ (W : World) (p : Option Addr), Roots W → PartsO W p [s.extract 0 c, s.extract c s.size] → Calls Tryd.prog 19 #[.string k, .slice p 2 2] W fun e w' => e = .returned (.string t) ∧ Grows W w' := fun W p hR hP => by
    have := tag_any k (by have := HK.out; omega) W hR p 2 [s.extract 0 c, s.extract c s.size] hP (by rw [allB2, hcut, bys_length]; have := HS.out; omega) (by simp)
    rwa [allB2, hcut, HT.out] at this
  clear ht hcut
  go_wp2_with fail
  refine (HTAG1 _ _ (HR0.out.wd _ _) (Parts.o (parts1 (i := 0) (t := 9) (f := (0, 0)) ?hp))).mono ?_
  case hp => rfl
  rintro e w' ⟨rfl, g, d, rfl⟩
  rw [Wd_wd]
  go_wp2
  go_region_law (go_simp; go_at_call 19; refine (HTAG2 _ _ (HR0.out.wd _ _) (Parts.o (parts2 (i := g.length + 1) (t := 9) (f := (0, 0)) (at_last (A := Obj.cells #[Value.string s] 9 (0, 0) :: g) (by simp) (by simp))))).mono ?_; rintro e w' ⟨rfl, g2, d2, rfl⟩; rw [Wd_wd])
  by_cases h64 : 64 < (k.size : Int)
  · have hdk : Hid (bys (mkS (digL (bys k))) = digL (bys k)) := Lib.hid (bys_mkS _ (digL_B8 _))
    have HTAG3 : ∀ (W : World) (p : Option Addr), Roots W → PartsO W p [s] → Calls Tryd.prog 19 #[.string (mkS (digL (bys k))), .slice p 1 1] W fun e w' => e = .returned (.string t) ∧ Grows W w' := fun W p hR hP => by
      have := tag_any (mkS (digL (bys k))) (by rw [mkS_size, digL_length]; decide) W hR p 1 [s] hP (by rw [allB1, bys_length]; have := HS.out; omega) (by simp)
      rwa [allB1, hdk.out, tagL_long _ _ (by rw [bys_length]; omega), HT.out] at this
    clear hdk
    go_wp2_with fail
    refine (of_any _ (HR0.out.wd _ _) _ 1 [k] (parts1 (i := g.length + (g2.length + 1) + 1) (t := 9) (f := (0, 0)) ?hp) ?hq (by simp)).mono ?_
    case hp => exact at_last (A := Obj.cells #[Value.string s] 9 (0, 0) :: (g ++ Obj.cells #[Value.string (s.extract 0 c), Value.string (s.extract c s.size)] 9 (0, 0) :: g2)) (by simp) (by simp)
    case hq => have := HK.out; rw [allB1, bys_length]; omega
    rintro e w' ⟨rfl, g3, d3, rfl⟩
    rw [Wd_wd, allB1]
    go_wp2_with fail
    refine (HTAG3 _ _ (HR0.out.wd _ _) (Parts.o (parts1 (i := g.length + (g2.length + (g3.length + 1) + 1) + 1) (t := 9) (f := (0, 0)) ?hp))).mono ?_
    case hp => exact at_last (A := Obj.cells #[Value.string s] 9 (0, 0) :: (g ++ Obj.cells #[Value.string (s.extract 0 c), Value.string (s.extract c s.size)] 9 (0, 0) :: (g2 ++ Obj.cells #[Value.string k] 9 (0, 0) :: g3))) (by simp) (by simp)
    rintro e w' ⟨rfl, g4, d4, rfl⟩
    rw [Wd_wd]
    go_wp2
    go_ret
    exact ⟨rfl, HG0.out.trans (Grows.of _ _ _)⟩
  · have hmk : (Tryd.prog.info? 5).map (fun i => (i.zero, i.size, i.bytes)) = some (some (.int .u8 0), 1, 1) := by kernel_rfl
    have hz5 : zeroOf Tryd.prog 5 = .int .u8 0 := by kernel_rfl
    obtain ⟨r, hr⟩ : ∃ r : Nat, 64 - k.size = r := ⟨_, rfl⟩
    have hri : 64 - (k.size : Int) = (r : Int) := by omega
    obtain ⟨m, hm⟩ : ∃ m : Nat, min no r = m := ⟨_, rfl⟩
    have hmi : min (no : Int) (r : Int) = (m : Int) := by omega
    have hmb : m ≤ 140737488355328 := by omega
    have hmm : m ≤ m := Nat.le_refl m
    have hkm : Hid (k.size + m ≤ 64) := Lib.hid (by omega)
    obtain ⟨k', hk'⟩ : ∃ k', k ++ mkS (rep m) = k' := ⟨_, rfl⟩
    have hadd : ∀ W, (Op.stringOp .add k (mkS (rep m))).run Tryd.prog W = .ok (.string k') W := fun W => by
      rw [run_string_add_sum W _ _ (by rw [mkS_size, rep_length]; have := hkm.out; omega), hk']
    have hbk : Hid (bys k' = bys k ++ rep m) := Lib.hid (by
      rw [← hk']
      conv => lhs; rw [← mkS_bys k]
      rw [bys_cat, bys_mkS, bys_mkS _ (B8.rep m)]
      exact (B8.bys k).append (by rw [bys_mkS _ (B8.rep m)]; exact B8.rep m))
    have HTAG4 : ∀ (W : World) (p : Option Addr), Roots W → PartsO W p [s] → Calls Tryd.prog 19 #[.string k', .slice p 1 1] W fun e w' => e = .returned (.string t) ∧ Grows W w' := fun W p hR hP => by
      have := tag_any k' (by rw [← bys_length, hbk.out, List.length_append, bys_length, rep_length]; have := hkm.out; omega) W hR p 1 [s] hP (by rw [allB1, bys_length]; have := HS.out; omega) (by simp)
      rwa [allB1, hbk.out, tagL_pad _ _ _ (by rw [bys_length]; exact hkm.out), HT.out] at this
    have hrl := rep_length m
    have hcase : (r < no ∧ r = m) ∨ (¬ r < no ∧ no = m) := by omega
    clear hr hm hk'
    rcases hcase with ⟨hrn, rfl⟩ | ⟨hrn, rfl⟩
    all_goals
      go_wp2_with fail
      refine (HTAG4 _ _ (HR0.out.wd _ _) (Parts.o (parts1 (i := g.length + (g2.length + 1 + 1) + 1) (t := 9) (f := (0, 0)) ?hp))).mono ?_
      case hp => exact at_last (A := Obj.cells #[Value.string s] 9 (0, 0) :: (g ++ Obj.cells #[Value.string (s.extract 0 c), Value.string (s.extract c s.size)] 9 (0, 0) :: (g2 ++ [_]))) (by simp; rfl) (by simp)
      rintro e w' ⟨rfl, g4, d4, rfl⟩
      rw [Wd_wd]
      go_wp2
      go_ret
      exact ⟨rfl, HG0.out.trans (Grows.of _ _ _)⟩
end Go.Proofs.YtokijignhpcjlaaDoor

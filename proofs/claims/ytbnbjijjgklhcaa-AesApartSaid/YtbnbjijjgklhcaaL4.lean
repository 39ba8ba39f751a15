import Derived.Test.YtbnbjijjgklhcaaA8
import Derived.Test.YtbnbjijjgklhcaaM3
namespace Go.Proofs.Ytbnbjijjgklhcaa
open Go.RowKit Go.Own

theorem toList_inj {s t : ByteArray} (h : s.toList = t.toList) : s = t := by
  rw [ByteArray.toList_eq, ByteArray.toList_eq] at h
  cases s; cases t
  congr 1
  exact Array.toList_inj.1 h
theorem toList_beq {s t x y : ByteArray} (h : s = t ↔ x = y) : (s.toList == t.toList) = (x.toList == y.toList) := by
  rw [Bool.eq_iff_iff, beq_iff_eq, beq_iff_eq]
  exact ⟨fun e => by rw [h.1 (toList_inj e)], fun e => by rw [h.2 (toList_inj e)]⟩
theorem box_beq {a b : Nat} (ha : a < 256) (hb : b < 256) : (((gi boxes a : Nat) : Int) == ((gi boxes b : Nat) : Int)) = ((a : Int) == (b : Int)) := by
  rw [Bool.eq_iff_iff, beq_iff_eq, beq_iff_eq]
  constructor
  · intro h; have := box_inj ha hb (by omega); omega
  · intro h; have h' : a = b := by omega
    rw [h']
set_option maxRecDepth 100000 in
set_option maxHeartbeats 1000000 in
theorem apart_short (key x y : ByteArray) (a b : Nat) (h : key.size ≠ 32 ∨ x.size ≠ 16 ∨ y.size ≠ 16) (w : World) :
    Calls Try.prog 4 #[.string key, .string x, .string y, .int .u8 a, .int .u8 b] w fun e w' => e = .returned (.bool true) ∧ Grows w w' := by
  have h' : ((key.size : Int) != 32) = true ∨ (((key.size : Int) != 32) = false ∧ ((x.size : Int) != 16) = true) ∨ (((key.size : Int) != 32) = false ∧ ((x.size : Int) != 16) = false ∧ ((y.size : Int) != 16) = true) := by
    by_cases h1 : key.size = 32
    · by_cases h2 : x.size = 16
      · have h3 : y.size ≠ 16 := by omega
        exact .inr (.inr ⟨by simp; omega, by simp; omega, by simp; omega⟩)
      · exact .inr (.inl ⟨by simp; omega, by simp; omega⟩)
    · exact .inl (by simp; omega)
  clear h
  rcases h' with z1 | ⟨z1, z2⟩ | ⟨z1, z2, z3⟩
  all_goals
    go_enter Try.func4, Try.ntmps4
    go_wp2_with fail
    refine (awake_any _).mono ?_
    rintro e w' ⟨rfl, hg⟩
    go_wp2
    go_ret
    exact ⟨rfl, hg⟩
set_option maxRecDepth 100000 in
set_option maxHeartbeats 1000000 in
theorem apart_long (key x y : ByteArray) (hk : key.size = 32) (hx : x.size = 16) (hy : y.size = 16) (a b : Nat) (ha : a < 256) (hb : b < 256) (w : World) :
    Calls Try.prog 4 #[.string key, .string x, .string y, .int .u8 a, .int .u8 b] w fun e w' => e = .returned (.bool true) ∧ Grows w w' := by
  have z1 : ((key.size : Int) != 32) = false := by simp; omega
  have z2 : ((x.size : Int) != 16) = false := by simp; omega
  have z3 : ((y.size : Int) != 16) = false := by simp; omega
  have HK := Lib.hid hk
  have HX := Lib.hid hx
  have HY := Lib.hid hy
  clear hk hx hy
  go_enter Try.func4, Try.ntmps4
  go_wp2_with fail
  refine (awake_any _).mono ?_
  rintro e w0 ⟨rfl, hg0⟩
  have HG0 := Lib.hid hg0; clear hg0
  go_wp2_with fail
  refine (new_ok key HK.out _).mono ?_
  rintro e w1 ⟨c1, rfl, hg1, hc1⟩
  have HG1 := Lib.hid hg1; clear hg1
  have HC1 := Lib.hid hc1; clear hc1
  go_wp2_with fail
  refine (new_ok key HK.out _).mono ?_
  rintro e w2 ⟨c2, rfl, hg2, hc2⟩
  have HC1' := Lib.hid (hg2.blk HC1.out)
  have HG2 := Lib.hid hg2; clear hg2
  have HC2 := Lib.hid hc2; clear hc2
  go_wp2_with fail
  refine (press_ok c1 (cipher (bys key)) (cipher_length _) x HX.out _ HC1'.out).mono ?_
  rintro e w3 ⟨rfl, hg3⟩
  have HC1'' := Lib.hid (hg3.blk HC1'.out)
  have HC2' := Lib.hid (hg3.blk HC2.out)
  have HG3 := Lib.hid hg3; clear hg3
  go_wp2_with fail
  refine (press_ok c1 (cipher (bys key)) (cipher_length _) y HY.out _ HC1''.out).mono ?_
  rintro e w4 ⟨rfl, hg4⟩
  have HC2'' := Lib.hid (hg4.blk HC2'.out)
  have HG4 := Lib.hid hg4; clear hg4
  go_wp2_with fail
  refine (press_ok c2 (cipher (bys key)) (cipher_length _) x HX.out _ HC2''.out).mono ?_
  rintro e w5 ⟨rfl, hg5⟩
  have HG5 := Lib.hid hg5; clear hg5
  have hsz : (mkS (pressL (cipher (bys key)) (bys x))).size = 16 := by rw [mkS_size, pressL_length]
  have hap := Lib.hid (press_apart key HX.out HY.out)
  generalize mkS (pressL (cipher (bys key)) (bys x)) = S at *
  generalize mkS (pressL (cipher (bys key)) (bys y)) = T at *
  have hst := toList_beq hap.out
  clear hap
  have HBB := Lib.hid (box_beq ha hb)
  go_wp2_with fail
  refine (box_any a ha _).mono ?_
  rintro e w6 ⟨rfl, hg6⟩
  have HG6 := Lib.hid hg6; clear hg6
  go_wp2_with fail
  refine (box_any b hb _).mono ?_
  rintro e w7 ⟨rfl, hg7⟩
  have HG7 := Lib.hid hg7; clear hg7
  have hbb := HBB.out
  go_wp2
  go_ret
  exact ⟨rfl, HG0.out.trans (HG1.out.trans (HG2.out.trans (HG3.out.trans (HG4.out.trans (HG5.out.trans (HG6.out.trans HG7.out))))))⟩
theorem apart_any (key x y : ByteArray) (a b : Nat) (ha : a < 256) (hb : b < 256) (w : World) :
    Calls Try.prog 4 #[.string key, .string x, .string y, .int .u8 a, .int .u8 b] w fun e w' => e = .returned (.bool true) ∧ Grows w w' := by
  by_cases h : key.size = 32 ∧ x.size = 16 ∧ y.size = 16
  · exact apart_long key x y h.1 h.2.1 h.2.2 a b ha hb w
  · exact apart_short key x y a b (by omega) w
end Go.Proofs.Ytbnbjijjgklhcaa

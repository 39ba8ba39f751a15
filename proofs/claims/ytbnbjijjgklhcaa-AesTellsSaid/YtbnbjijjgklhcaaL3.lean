import Derived.Test.YtbnbjijjgklhcaaA8
import Derived.Test.YtbnbjijjgklhcaaB8
namespace Go.Proofs.Ytbnbjijjgklhcaa
open Go.RowKit Go.Own

theorem ldX29 {W : World} {b : Nat} {x y : Value} {t : TypeId} {f : Nat × Nat} (h : blk W b = some (.cells #[x, y] t f)) :
    ldX Try.prog 29 (some 2) (some (.cells #[x, y] t f)) b 0 W = .ok (.agg #[x, y]) W := by
  have hl := ld29 h
  simpa [ldX, ldN, Instr.loadAt, Instr.sureAddr] using hl
attribute [local go_sem] ag5 cs5 sz5 isa5 z29 ag29 cs29 sz29 alX_two stX29 ldX29
theorem neq_self {a : Nat} : (((a : Nat) : Int) != ((a : Nat) : Int)) = false := by simp
set_option maxRecDepth 100000 in
set_option maxHeartbeats 1000000 in
theorem tells_short (key block : ByteArray) (a b : Nat) (h : 100 < key.size ∨ 100 < block.size) (w : World) :
    Calls Try.prog 3 #[.string key, .string block, .int .u8 a, .int .u8 b] w fun e w' => e = .returned (.bool true) ∧ Grows w w' := by
  have h' : 100 < (key.size : Int) ∨ (¬ 100 < (key.size : Int) ∧ 100 < (block.size : Int)) := by omega
  clear h
  rcases h' with z1 | ⟨z1, z2⟩
  all_goals
    go_enter Try.func3, Try.ntmps3
    go_wp2_with fail
    refine (awake_any _).mono ?_
    rintro e w' ⟨rfl, hg⟩
    go_wp2
    go_ret
    exact ⟨rfl, hg⟩
set_option maxRecDepth 100000 in
set_option maxHeartbeats 1000000 in
theorem tells_key (key block : ByteArray) (a b : Nat) (ha : a < 256) (hb : b < 256) (h1 : key.size ≤ 100) (h2 : block.size ≤ 100) (hk : key.size ≠ 32) (w : World) :
    Calls Try.prog 3 #[.string key, .string block, .int .u8 a, .int .u8 b] w fun e w' => e = .returned (.bool true) ∧ Grows w w' := by
  have z1 : ¬ 100 < (key.size : Int) := by omega
  have z2 : ¬ 100 < (block.size : Int) := by omega
  clear h1 h2
  go_enter Try.func3, Try.ntmps3
  go_wp2_with fail
  refine (awake_any _).mono ?_
  rintro e w0 ⟨rfl, hg0⟩
  have HG0 := Lib.hid hg0; clear hg0
  go_wp2_with fail
  refine (new_bad key hk _).mono ?_
  rintro e w1 ⟨rfl, rfl⟩
  go_wp2_with fail
  refine (refNew_bad key hk _).mono ?_
  rintro e w2 ⟨rfl, g, d, rfl⟩
  go_wp2_with fail
  refine (mul_any a b hb _).mono ?_
  rintro e w3 ⟨rfl, rfl⟩
  go_wp2_with fail
  refine (refMul_any a b ha hb _).mono ?_
  rintro e w4 ⟨rfl, rfl⟩
  go_wp2_with fail
  refine (box_any a ha _).mono ?_
  rintro e w5 ⟨rfl, g5, d5, rfl⟩
  rw [Wd_wd]
  go_wp2_with fail
  refine (refBox_any a ha _).mono ?_
  rintro e w6 ⟨rfl, rfl⟩
  go_wp2
  go_ret
  exact ⟨rfl, HG0.out.trans (Grows.of _ _ _)⟩
theorem gi_take_of {S s : List Nat} {n j : Nat} (h : S.take n = s) (hj : j < n) : gi S j = gi s j := by
  rw [← h, gi_take hj]
theorem cipher_word (key : List Nat) (j : Nat) : gi (cipher key) (256 + j) = gi (words cs0 key) j := by
  have hl := boxes_length
  unfold cipher
  rw [gi_right (by omega), hl, Nat.add_sub_cancel_left]
set_option maxRecDepth 100000 in
set_option maxHeartbeats 2000000 in
theorem tells_long (key block : ByteArray) (a b : Nat) (ha : a < 256) (hb : b < 256) (h2 : block.size ≤ 100) (hk : key.size = 32) (w : World) :
    Calls Try.prog 3 #[.string key, .string block, .int .u8 a, .int .u8 b] w fun e w' => e = .returned (.bool true) ∧ Grows w w' := by
  have z1 : ¬ 100 < (key.size : Int) := by omega
  have z2 : ¬ 100 < (block.size : Int) := by omega
  have HK := Lib.hid hk; clear hk h2
  go_enter Try.func3, Try.ntmps3
  go_wp2_with fail
  refine (awake_any _).mono ?_
  rintro e w0 ⟨rfl, hg0⟩
  have HG0 := Lib.hid hg0; clear hg0
  go_wp2_with fail
  refine (new_ok key HK.out _).mono ?_
  rintro e w1 ⟨cb, rfl, hg1, hc1⟩
  have HG1 := Lib.hid hg1; clear hg1
  have HC := Lib.hid hc1; clear hc1
  go_wp2_with fail
  refine (refNew_ok key HK.out _).mono ?_
  rintro e w2 ⟨v, bx, l, d, rfl, rfl, hv, hbx⟩
  obtain ⟨i, V, tV, fV, rfl, hi, _, htV, hleV⟩ := hv
  obtain ⟨j, B, tB, fB, rfl, hj, _, htB, hleB⟩ := hbx
  rw [words_length cs0 (bys key)] at htV hleV ⊢
  rw [boxes_length] at htB hleB ⊢
  have HI := Lib.hid hi; clear hi
  have HJ := Lib.hid hj; clear hj
  have HTV := Lib.hid htV; clear htV
  have HTB := Lib.hid htB; clear htB
  go_wp2_with fail
  refine (mul_any a b hb _).mono ?_
  rintro e w3 ⟨rfl, rfl⟩
  go_wp2_with fail
  refine (refMul_any a b ha hb _).mono ?_
  rintro e w4 ⟨rfl, rfl⟩
  go_wp2_with fail
  refine (box_any a ha _).mono ?_
  rintro e w5 ⟨rfl, g5, d5, rfl⟩
  rw [Wd_wd]
  go_wp2_with fail
  refine (refBox_any a ha _).mono ?_
  rintro e w6 ⟨rfl, rfl⟩
  by_cases hb16 : block.size = 16
  · have HB := Lib.hid hb16; clear hb16
    go_wp2_with fail
    refine (press_ok cb (cipher (bys key)) (cipher_length _) block HB.out _ (blk_old _ _ _ _ HC.out)).mono ?_
    rintro e w7 ⟨rfl, g7, d7, rfl⟩
    rw [Wd_wd]
    have hil := (List.getElem?_eq_some_iff.1 HI.out).1
    have hjl := (List.getElem?_eq_some_iff.1 HJ.out).1
    have HIL := Lib.hid hil; clear hil
    have HJL := Lib.hid hjl; clear hjl
    go_wp2_with fail
    refine (refPress_ok block HB.out _ (w1.heap.size + i) (w1.heap.size + j) V.length B.length V B tV tB fV fB ?h1 ?h2 hleV hleB (fun x hx => gi_take_of HTB.out hx)).mono ?_
    case h1 => rw [blk_at, List.getElem?_append_left HIL.out]; exact HI.out
    case h2 => rw [blk_at, List.getElem?_append_left HJL.out]; exact HJ.out
    rintro e w8 ⟨rfl, g8, d8, rfl⟩
    rw [Wd_wd, out_press (cs := cipher (bys key)) (cipher_box _) (fun q hq => by rw [cipher_word]; exact gi_take_of HTV.out hq) (cipher_B8 _ (B8.bys _))]
    go_wp2
    go_ret
    exact ⟨rfl, HG0.out.trans (HG1.out.trans (Grows.of _ _ _))⟩
  · have HB := Lib.hid hb16; clear hb16
    go_wp2_with fail
    refine (press_bad cb block HB.out _).mono ?_
    rintro e w7 ⟨rfl, rfl⟩
    go_wp2_with fail
    refine (refPress_bad _ _ block HB.out _).mono ?_
    rintro e w8 ⟨rfl, g8, d8, rfl⟩
    rw [Wd_wd]
    go_wp2
    go_ret
    exact ⟨rfl, HG0.out.trans (HG1.out.trans (Grows.of _ _ _))⟩
theorem tells_any (key block : ByteArray) (a b : Nat) (ha : a < 256) (hb : b < 256) (w : World) :
    Calls Try.prog 3 #[.string key, .string block, .int .u8 a, .int .u8 b] w fun e w' => e = .returned (.bool true) ∧ Grows w w' := by
  by_cases h : 100 < key.size ∨ 100 < block.size
  · exact tells_short key block a b h w
  · by_cases hk : key.size = 32
    · exact tells_long key block a b ha hb (by omega) hk w
    · exact tells_key key block a b ha hb (by omega) (by omega) hk w
end Go.Proofs.Ytbnbjijjgklhcaa

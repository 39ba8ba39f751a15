/- The document's own box, by contract; it is the program's. -/
import Derived.Test.YtmhhekiliojifaaB1
namespace Go.Proofs.Ytmhhekiliojifaa
open Go.RowKit Go.Own

/-- The powers of b, and their product, ahead of the round k. -/
def tt (b : Nat) : Nat → Nat
  | 0 => b
  | k + 1 => mul (tt b k) (tt b k)
def cc (b : Nat) : Nat → Nat
  | 0 => 1
  | k + 1 => mul (cc b k) (tt b (k + 1))
theorem tt_lt {b : Nat} (hb : b < 256) : ∀ k, tt b k < 256
  | 0 => hb
  | k + 1 => mul_lt _ (tt_lt hb k)
theorem cc_lt (b : Nat) : ∀ k, cc b k < 256
  | 0 => by show 1 < 256; decide
  | k + 1 => mul_lt _ (cc_lt b k)
def vv (c i : Nat) : Nat :=
  xor8 (xor8 (xor8 (xor8 (xor8 (shr8 c i) (shr8 c ((i + 4) % 8))) (shr8 c ((i + 5) % 8))) (shr8 c ((i + 6) % 8))) (shr8 c ((i + 7) % 8))) (shr8 99 i)
def oo (c : Nat) : Nat → Nat
  | 0 => 0
  | i + 1 => or8 (oo c i) (shl8 (vv c i % 2) i)
def boxR (b : Nat) : Nat := oo (cc b 7) 8
theorem shl8_mod (a m n : Nat) (yk : IntKind) : Op.shift .shl .u8 ((a : Int) % (no_index (OfNat.ofNat m))) yk (no_index (OfNat.ofNat n)) = pure (.int .u8 ((shl8 (a % m) n : Nat) : Int)) := shl8_op (a % m) n yk
attribute [local go_sem ↓] shl8_mod
set_option maxRecDepth 100000 in
set_option maxHeartbeats 1000000 in
theorem boxR_any (b : Nat) (hb : b < 256) (w : World) :
    Calls Try.prog 52 #[.int .u8 b] w fun e w' => e = .returned (.int .u8 (boxR b)) ∧ w = w' := by
  go_enter Try.func52, Try.ntmps52
  go_wp2
  go_loop [3, 4, 5] (fun c t i => ∃ k : Nat, k ≤ 7 ∧ i = .int .i64 k ∧ c = .int .u8 (cc b k) ∧ t = .int .u8 (tt b k)) (fun _ _ i => 7 - (intOf i).toNat)
  case atStart => exact ⟨0, by omega, rfl, rfl, rfl⟩
  case round =>
    obtain ⟨k, hk, rfl, rfl, rfl⟩ := hrel
    by_cases hlt : k < 7
    · have h1 := Lib.hid (show mul (tt b k) (tt b k) = tt b (k + 1) from rfl)
      have h2 := Lib.hid (show mul (cc b k) (tt b (k + 1)) = cc b (k + 1) from rfl)
      go_wp2_with fail
      refine (refMul_any _ _ (tt_lt hb k) (tt_lt hb k) _).mono ?_
      rintro e w' ⟨rfl, rfl⟩
      rw [h1.out]
      go_wp2_with fail
      refine (refMul_any _ _ (cc_lt b k) (tt_lt hb (k + 1)) _).mono ?_
      rintro e w' ⟨rfl, rfl⟩
      rw [h2.out]
      go_wp2
      go_round
      case rel => exact ⟨k + 1, by omega, by go_num, rfl, rfl⟩
      case measure => simp [intOf]; omega
    · obtain rfl : k = 7 := by omega
      have HB : Hid (boxR b = oo (cc b 7) 8) := rfl
      generalize cc b 7 = c at *
      generalize tt b 7 = t at *
      rw [show ((7 : Nat) : Int) = 7 from rfl]
      go_wp2
      go_loop [6, 7] (fun o i => ∃ k : Nat, k ≤ 8 ∧ i = .int .u64 k ∧ o = .int .u8 (oo c k)) (fun _ i => 8 - (intOf i).toNat)
      case atStart => exact ⟨0, by omega, rfl, rfl⟩
      case round =>
        obtain ⟨k, hk, rfl, rfl⟩ := hrel
        by_cases hlt : k < 8
        · have hs : Hid (oo c (k + 1) = or8 (oo c k) (shl8 (vv c k % 2) k)) := rfl
          have hc : k = 0 ∨ k = 1 ∨ k = 2 ∨ k = 3 ∨ k = 4 ∨ k = 5 ∨ k = 6 ∨ k = 7 := by omega
          rcases hc with rfl | rfl | rfl | rfl | rfl | rfl | rfl | rfl
          all_goals
            go_wp2
            go_round
            case rel => first | exact ⟨1, by decide, rfl, rfl⟩ | exact ⟨2, by decide, rfl, rfl⟩ | exact ⟨3, by decide, rfl, rfl⟩ | exact ⟨4, by decide, rfl, rfl⟩ | exact ⟨5, by decide, rfl, rfl⟩ | exact ⟨6, by decide, rfl, rfl⟩ | exact ⟨7, by decide, rfl, rfl⟩ | exact ⟨8, by decide, rfl, rfl⟩
            case measure => simp [intOf]
        · obtain rfl : k = 8 := by omega
          go_wp2
          go_ret
          exact ⟨by rw [HB.out]; rfl, rfl⟩
theorem boxR_eq : ∀ b, b < 256 → boxR b = gi boxLit b := by decide +kernel
theorem refBox_any (b : Nat) (hb : b < 256) (w : World) :
    Calls Try.prog 52 #[.int .u8 b] w fun e w' => e = .returned (.int .u8 (gi boxes b)) ∧ w = w' := by
  rw [boxes_eq, ← boxR_eq b hb]; exact boxR_any b hb w
end Go.Proofs.Ytmhhekiliojifaa

/- The document's own product and box, by contract; they are the program's. | The document's own box, by contract; it is the program's. | The document's own boxes and words, by contract. | The document's own round keys, by contract; they are the program's. -/
import Derived.Test.YtfamoakicgmfgaaGreatM1
import Derived.Test.YtfamoakicgmfgaaGreatApp
import Derived.StillTailTactics
namespace Go.Proofs.YtfamoakicgmfgaaGreat
open Go.RowKit Go.Own

/-- Small enough for an int: by name. -/
def Fits (x : Nat) : Prop := x < 9223372036854775808
def shl64 (a n : Nat) : Nat := a * 2 ^ n
theorem shl64_op (a n : Nat) (yk : IntKind) (h : Fits (shl64 a n)) (hn : n ≤ 64) : Op.shift .shl .i64 (a : Int) yk (n : Int) = pure (.int .i64 ((shl64 a n : Nat) : Int)) := by
  rw [shift_shl _ _ _ _ (by omega) (by simp [IntKind.bits]; omega)]
  have e : (a : Int) * 2 ^ (n : Int).toNat = ((shl64 a n : Nat) : Int) := by simp [shl64]
  rw [e]
  unfold Fits at h
  rw [IntWalk.i64_in _ (by omega)]
theorem bits_xor_i64 (a b : Nat) (ha : Fits a) (hb : Fits b) : bits .xor .i64 (a : Int) (b : Int) = ((a ^^^ b : Nat) : Int) := by
  unfold Fits at ha hb
  have h1 : (BitVec.ofInt 64 (a : Int)).toNat = a := by simp; omega
  have h2 : (BitVec.ofInt 64 (b : Int)).toNat = b := by simp; omega
  have h3 : a ^^^ b < 9223372036854775808 := Nat.xor_lt_two_pow (n := 63) ha hb
  have hx : (BitVec.ofInt 64 (a : Int) ^^^ BitVec.ofInt 64 (b : Int)).toNat = a ^^^ b := by rw [BitVec.toNat_xor, h1, h2]
  show IntKind.i64.wrap (((BitVec.ofInt 64 (a : Int) ^^^ BitVec.ofInt 64 (b : Int)).toNat : Nat) : Int) = _
  rw [hx]
  exact IntWalk.i64_in _ (by omega)
theorem bits_xor_i64l (a n : Nat) (ha : Fits a) (hb : Fits n) : bits .xor .i64 (a : Int) (no_index (OfNat.ofNat n)) = ((a ^^^ n : Nat) : Int) := bits_xor_i64 a n ha hb
attribute [local go_sem] bits_xor_i64 bits_xor_i64l
attribute [local go_sem ↓] shl64_op

def rA (a b : Nat) : Nat → Nat
  | 0 => 0
  | k + 1 => if shr8 b k % 2 = 1 then rA a b k ^^^ shl64 a k else rA a b k
def rB (p : Nat) : Nat → Nat
  | 0 => p
  | n + 1 => if rB p n / 2 ^ (14 - n) % 2 = 1 then rB p n ^^^ 283 * 2 ^ (6 - n) else rB p n
def mulR (a b : Nat) : Nat := rB (rA a b 8) 7 % 256
theorem rA_lt {a : Nat} (ha : a < 256) (b : Nat) : ∀ k, k ≤ 8 → rA a b k < 2 ^ 16
  | 0, _ => by show 0 < _; decide
  | k + 1, h => by
    have h1 := rA_lt ha b k (by omega)
    have h2 : shl64 a k < 2 ^ 16 := by
      unfold shl64
      have : 2 ^ k ≤ 2 ^ 8 := Nat.pow_le_pow_right (by decide) (by omega)
      calc a * 2 ^ k ≤ a * 2 ^ 8 := Nat.mul_le_mul_left _ this
        _ < 2 ^ 16 := by omega
    unfold rA
    split
    · exact Nat.xor_lt_two_pow h1 h2
    · exact h1
theorem rB_lt {p : Nat} (hp : p < 2 ^ 16) : ∀ n, rB p n < 2 ^ 16
  | 0 => hp
  | n + 1 => by
    have h1 := rB_lt hp n
    have h2 : 283 * 2 ^ (6 - n) < 2 ^ 16 := by
      have : 2 ^ (6 - n) ≤ 2 ^ 6 := Nat.pow_le_pow_right (by decide) (by omega)
      calc 283 * 2 ^ (6 - n) ≤ 283 * 2 ^ 6 := Nat.mul_le_mul_left _ this
        _ < 2 ^ 16 := by decide
    unfold rB
    split
    · exact Nat.xor_lt_two_pow h1 h2
    · exact h1
theorem fits_of {x : Nat} (h : x < 2 ^ 16) : Fits x := Nat.lt_trans h (by decide)

set_option maxRecDepth 100000 in
set_option maxHeartbeats 1000000 in
theorem mulR_any (a b : Nat) (ha : a < 256) (w : World) :
    Calls Tryz.prog 86 #[.int .u8 a, .int .u8 b] w fun e w' => e = .returned (.int .u8 (mulR a b)) ∧ w = w' := by
  go_enter Tryz.func86, Tryz.ntmps86
  go_wp2
  go_loop [5, 6] (fun p i => ∃ k : Nat, k ≤ 8 ∧ i = .int .i64 k ∧ p = .int .i64 (rA a b k)) (fun _ i => 8 - (intOf i).toNat)
  case atStart => exact ⟨0, by omega, rfl, rfl⟩
  case round =>
    obtain ⟨k, hk, rfl, rfl⟩ := hrel
    have hp := rA_lt ha b k hk
    have hF := fits_of hp
    by_cases hlt : k < 8
    · have hF2 : Fits (shl64 a k) := by
        unfold shl64
        have : 2 ^ k ≤ 2 ^ 8 := Nat.pow_le_pow_right (by decide) (by omega)
        exact fits_of (Nat.lt_of_le_of_lt (Nat.mul_le_mul_left a this) (by omega))
      have h64 : k ≤ 64 := by omega
      clear hp
      by_cases h1 : shr8 b k % 2 = 1
      · have e1 := Lib.hid (show rA a b (k + 1) = rA a b k ^^^ shl64 a k by rw [rA, if_pos h1])
        have h1' : (((shr8 b k : Nat) : Int) % 2 == 1) = true := by simp; omega
        clear h1
        go_wp2
        go_round
        case rel => exact ⟨k + 1, by omega, by go_num, by rw [e1.out]⟩
        case measure => simp [intOf]; omega
      · have e1 := Lib.hid (show rA a b (k + 1) = rA a b k by rw [rA, if_neg h1])
        have h1' : (((shr8 b k : Nat) : Int) % 2 == 1) = false := by simp; omega
        clear h1
        go_wp2
        go_round
        case rel => exact ⟨k + 1, by omega, by go_num, by rw [e1.out]⟩
        case measure => simp [intOf]; omega
    · obtain rfl : k = 8 := by omega
      clear hF
      have HQ : Hid (mulR a b = rB (rA a b 8) 7 % 256) := rfl
      generalize rA a b 8 = q at *
      rw [show ((8 : Nat) : Int) = 8 from rfl]
      go_wp2
      go_loop [5, 7] (fun p i => ∃ n : Nat, n ≤ 7 ∧ i = .int .i64 (14 - (n : Int)) ∧ p = .int .i64 (rB q n)) (fun _ i => (intOf i).toNat)
      case atStart => exact ⟨0, by omega, rfl, rfl⟩
      case round =>
        obtain ⟨n, hn, rfl, rfl⟩ := hrel
        have hF := fits_of (rB_lt hp n)
        by_cases hlt : n < 7
        · by_cases h1 : rB q n / 2 ^ (14 - n) % 2 = 1
          · have e1 : rB q (n + 1) = rB q n ^^^ 283 * 2 ^ (6 - n) := by rw [rB, if_pos h1]
            have hc : n = 0 ∨ n = 1 ∨ n = 2 ∨ n = 3 ∨ n = 4 ∨ n = 5 ∨ n = 6 := by omega
            rcases hc with rfl | rfl | rfl | rfl | rfl | rfl | rfl
            all_goals
              have HE := Lib.hid e1; clear e1
              have HX := Lib.hid hF; clear hF
              go_wp2
              go_round
              case rel => first | exact ⟨1, by decide, rfl, by rw [HE.out]; exact congrArg _ (bits_xor_i64l _ _ HX.out (by unfold Fits; decide))⟩ | exact ⟨2, by decide, rfl, by rw [HE.out]; exact congrArg _ (bits_xor_i64l _ _ HX.out (by unfold Fits; decide))⟩ | exact ⟨3, by decide, rfl, by rw [HE.out]; exact congrArg _ (bits_xor_i64l _ _ HX.out (by unfold Fits; decide))⟩ | exact ⟨4, by decide, rfl, by rw [HE.out]; exact congrArg _ (bits_xor_i64l _ _ HX.out (by unfold Fits; decide))⟩ | exact ⟨5, by decide, rfl, by rw [HE.out]; exact congrArg _ (bits_xor_i64l _ _ HX.out (by unfold Fits; decide))⟩ | exact ⟨6, by decide, rfl, by rw [HE.out]; exact congrArg _ (bits_xor_i64l _ _ HX.out (by unfold Fits; decide))⟩ | exact ⟨7, by decide, rfl, by rw [HE.out]; exact congrArg _ (bits_xor_i64l _ _ HX.out (by unfold Fits; decide))⟩
              case measure => simp [intOf]
          · have e1 : rB q (n + 1) = rB q n := by rw [rB, if_neg h1]
            have hc : n = 0 ∨ n = 1 ∨ n = 2 ∨ n = 3 ∨ n = 4 ∨ n = 5 ∨ n = 6 := by omega
            rcases hc with rfl | rfl | rfl | rfl | rfl | rfl | rfl
            all_goals
              have HE := Lib.hid e1; clear e1
              go_wp2
              go_round
              case rel => first | exact ⟨1, by decide, rfl, by rw [HE.out]⟩ | exact ⟨2, by decide, rfl, by rw [HE.out]⟩ | exact ⟨3, by decide, rfl, by rw [HE.out]⟩ | exact ⟨4, by decide, rfl, by rw [HE.out]⟩ | exact ⟨5, by decide, rfl, by rw [HE.out]⟩ | exact ⟨6, by decide, rfl, by rw [HE.out]⟩ | exact ⟨7, by decide, rfl, by rw [HE.out]⟩
              case measure => simp [intOf]
        · obtain rfl : n = 7 := by omega
          go_wp2
          go_ret
          exact ⟨by rw [HQ.out]; rfl, rfl⟩

theorem shr8_xor (b c k : Nat) : shr8 (b ^^^ c) k % 2 = (shr8 b k % 2) ^^^ (shr8 c k % 2) := by
  unfold shr8
  rw [Nat.xor_div_two_pow]
  exact Nat.xor_mod_two_pow (n := 1)
theorem xor_swap (p q r s : Nat) : p ^^^ q ^^^ (r ^^^ s) = p ^^^ r ^^^ (q ^^^ s) := by ac_rfl
theorem rA_xor (a b c : Nat) : ∀ k, rA a (b ^^^ c) k = rA a b k ^^^ rA a c k
  | 0 => by simp [rA]
  | k + 1 => by
    simp only [rA, shr8_xor, rA_xor a b c k]
    have h1 : shr8 b k % 2 = 0 ∨ shr8 b k % 2 = 1 := by omega
    have h2 : shr8 c k % 2 = 0 ∨ shr8 c k % 2 = 1 := by omega
    rcases h1 with h1 | h1 <;> rcases h2 with h2 | h2 <;> simp [h1, h2]
    · ac_rfl
    · ac_rfl
    · rw [xor_swap, Nat.xor_self, Nat.xor_zero]
theorem rB_xor (p q : Nat) : ∀ n, rB (p ^^^ q) n = rB p n ^^^ rB q n
  | 0 => by simp [rB]
  | n + 1 => by
    have hd : (rB p n ^^^ rB q n) / 2 ^ (14 - n) % 2 = (rB p n / 2 ^ (14 - n) % 2) ^^^ (rB q n / 2 ^ (14 - n) % 2) := by
      rw [Nat.xor_div_two_pow]; exact Nat.xor_mod_two_pow (n := 1)
    simp only [rB, rB_xor p q n, hd]
    have h1 : rB p n / 2 ^ (14 - n) % 2 = 0 ∨ rB p n / 2 ^ (14 - n) % 2 = 1 := by omega
    have h2 : rB q n / 2 ^ (14 - n) % 2 = 0 ∨ rB q n / 2 ^ (14 - n) % 2 = 1 := by omega
    rcases h1 with h1 | h1 <;> rcases h2 with h2 | h2 <;> simp [h1, h2]
    · ac_rfl
    · ac_rfl
    · rw [xor_swap, Nat.xor_self, Nat.xor_zero]
theorem mulR_xorR (a b c : Nat) : mulR a (b ^^^ c) = mulR a b ^^^ mulR a c := by
  unfold mulR
  rw [rA_xor, rB_xor, Nat.xor_mod_two_pow (n := 8)]
theorem shl64_xor (a b k : Nat) : shl64 (a ^^^ b) k = shl64 a k ^^^ shl64 b k := by
  unfold shl64
  have := Nat.shiftLeft_xor_distrib (i := k) (a := a) (b := b)
  simpa [Nat.shiftLeft_eq] using this
theorem rA_xorL (a b c : Nat) : ∀ k, rA (a ^^^ b) c k = rA a c k ^^^ rA b c k
  | 0 => by simp [rA]
  | k + 1 => by
    simp only [rA, shl64_xor, rA_xorL a b c k]
    split
    · exact xor_swap _ _ _ _
    · rfl
theorem mulR_xorL (a b c : Nat) : mulR (a ^^^ b) c = mulR a c ^^^ mulR b c := by
  unfold mulR
  rw [rA_xorL, rB_xor, Nat.xor_mod_two_pow (n := 8)]
/-- The document's product is the program's. -/
theorem mulR_eq {a b : Nat} (ha : a < 256) (hb : b < 256) : mulR a b = mul a b := by
  have base : ∀ i, i < 8 → ∀ j, j < 8 → mulR (2 ^ i) (2 ^ j) = mul (2 ^ i) (2 ^ j) := by decide +kernel
  have z : ∀ c, mulR 0 c = 0 := fun c => by
    have := mulR_xorL 0 0 c
    rw [Nat.xor_self] at this
    rw [this, Nat.xor_self]
  have z' : ∀ c, mulR c 0 = 0 := fun c => by
    have := mulR_xorR c 0 0
    rw [Nat.xor_self] at this
    rw [this, Nat.xor_self]
  refine byte_ind (p := fun b => mulR a b = mul a b) ?_ ?_ ?_ b hb
  · rw [z', mul_zeroR ha]
  · intro j hj
    refine byte_ind (p := fun a => mulR a (2 ^ j) = mul a (2 ^ j)) ?_ ?_ ?_ a ha
    · rw [z, mul_zeroL]
    · exact fun i hi => base i hi j hj
    · intro x y hx hy h1 h2
      rw [mulR_xorL, mul_xorL _ hx hy, h1, h2]
  · intro x y hx hy h1 h2
    rw [mulR_xorR, mul_xorR _ _ ha, h1, h2]
theorem refMul_any (a b : Nat) (ha : a < 256) (hb : b < 256) (w : World) :
    Calls Tryz.prog 86 #[.int .u8 a, .int .u8 b] w fun e w' => e = .returned (.int .u8 (mul a b)) ∧ w = w' := by
  rw [← mulR_eq ha hb]; exact mulR_any a b ha w
end Go.Proofs.YtfamoakicgmfgaaGreat
namespace Go.Proofs.YtfamoakicgmfgaaGreat
open Go.RowKit Go.Own

/-- The powers of b, and their product, ahead of the round k. -/
def tt (b : Nat) : Nat → Nat
  | 0 => b
  | k + 1 => mul (tt b k) (tt b k)
def cc (b : Nat) : Nat → Nat
  | 0 => 1
  | k + 1 => mul (cc b k) (tt b (k + 1))
theorem tt_lt {b : Nat} (hb : b < 256) : ∀ k, tt b k < 256
  | 0 => hb
  | k + 1 => mul_lt _ (tt_lt hb k)
theorem cc_lt (b : Nat) : ∀ k, cc b k < 256
  | 0 => by show 1 < 256; decide
  | k + 1 => mul_lt _ (cc_lt b k)
def vv (c i : Nat) : Nat :=
  xor8 (xor8 (xor8 (xor8 (xor8 (shr8 c i) (shr8 c ((i + 4) % 8))) (shr8 c ((i + 5) % 8))) (shr8 c ((i + 6) % 8))) (shr8 c ((i + 7) % 8))) (shr8 99 i)
def oo (c : Nat) : Nat → Nat
  | 0 => 0
  | i + 1 => or8 (oo c i) (shl8 (vv c i % 2) i)
def boxR (b : Nat) : Nat := oo (cc b 7) 8
theorem shl8_mod (a m n : Nat) (yk : IntKind) : Op.shift .shl .u8 ((a : Int) % (no_index (OfNat.ofNat m))) yk (no_index (OfNat.ofNat n)) = pure (.int .u8 ((shl8 (a % m) n : Nat) : Int)) := shl8_op (a % m) n yk
attribute [local go_sem ↓] shl8_mod
set_option maxRecDepth 100000 in
set_option maxHeartbeats 1000000 in
theorem boxR_any (b : Nat) (hb : b < 256) (w : World) :
    Calls Tryz.prog 85 #[.int .u8 b] w fun e w' => e = .returned (.int .u8 (boxR b)) ∧ w = w' := by
  go_enter Tryz.func85, Tryz.ntmps85
  go_wp2
  go_loop [3, 4, 5] (fun c t i => ∃ k : Nat, k ≤ 7 ∧ i = .int .i64 k ∧ c = .int .u8 (cc b k) ∧ t = .int .u8 (tt b k)) (fun _ _ i => 7 - (intOf i).toNat)
  case atStart => exact ⟨0, by omega, rfl, rfl, rfl⟩
  case round =>
    obtain ⟨k, hk, rfl, rfl, rfl⟩ := hrel
    by_cases hlt : k < 7
    · have h1 := Lib.hid (show mul (tt b k) (tt b k) = tt b (k + 1) from rfl)
      have h2 := Lib.hid (show mul (cc b k) (tt b (k + 1)) = cc b (k + 1) from rfl)
      go_wp2_with fail
      refine (refMul_any _ _ (tt_lt hb k) (tt_lt hb k) _).mono ?_
      rintro e w' ⟨rfl, rfl⟩
      rw [h1.out]
      go_wp2_with fail
      refine (refMul_any _ _ (cc_lt b k) (tt_lt hb (k + 1)) _).mono ?_
      rintro e w' ⟨rfl, rfl⟩
      rw [h2.out]
      go_wp2
      go_round
      case rel => exact ⟨k + 1, by omega, by go_num, rfl, rfl⟩
      case measure => simp [intOf]; omega
    · obtain rfl : k = 7 := by omega
      have HB : Hid (boxR b = oo (cc b 7) 8) := rfl
      generalize cc b 7 = c at *
      generalize tt b 7 = t at *
      rw [show ((7 : Nat) : Int) = 7 from rfl]
      go_wp2
      go_loop [6, 7] (fun o i => ∃ k : Nat, k ≤ 8 ∧ i = .int .u64 k ∧ o = .int .u8 (oo c k)) (fun _ i => 8 - (intOf i).toNat)
      case atStart => exact ⟨0, by omega, rfl, rfl⟩
      case round =>
        obtain ⟨k, hk, rfl, rfl⟩ := hrel
        by_cases hlt : k < 8
        · have hs : Hid (oo c (k + 1) = or8 (oo c k) (shl8 (vv c k % 2) k)) := rfl
          have hc : k = 0 ∨ k = 1 ∨ k = 2 ∨ k = 3 ∨ k = 4 ∨ k = 5 ∨ k = 6 ∨ k = 7 := by omega
          rcases hc with rfl | rfl | rfl | rfl | rfl | rfl | rfl | rfl
          all_goals
            go_wp2
            go_round
            case rel => first | exact ⟨1, by decide, rfl, rfl⟩ | exact ⟨2, by decide, rfl, rfl⟩ | exact ⟨3, by decide, rfl, rfl⟩ | exact ⟨4, by decide, rfl, rfl⟩ | exact ⟨5, by decide, rfl, rfl⟩ | exact ⟨6, by decide, rfl, rfl⟩ | exact ⟨7, by decide, rfl, rfl⟩ | exact ⟨8, by decide, rfl, rfl⟩
            case measure => simp [intOf]
        · obtain rfl : k = 8 := by omega
          go_wp2
          go_ret
          exact ⟨by rw [HB.out]; rfl, rfl⟩
theorem boxR_eq : ∀ b, b < 256 → boxR b = gi boxLit b := by decide +kernel
theorem refBox_any (b : Nat) (hb : b < 256) (w : World) :
    Calls Tryz.prog 85 #[.int .u8 b] w fun e w' => e = .returned (.int .u8 (gi boxes b)) ∧ w = w' := by
  rw [boxes_eq, ← boxR_eq b hb]; exact boxR_any b hb w
end Go.Proofs.YtfamoakicgmfgaaGreat
namespace Go.Proofs.YtfamoakicgmfgaaGreat
open Go.RowKit Go.Own
attribute [local go_sem] ag5 cs5 sz5 isa5

theorem br52 : ByteRow Tryz.prog 52 5 := by
  have h : (Tryz.prog.info? 5).map (fun i => (i.zero, i.size, i.bytes)) = some (some (.int .u8 0), 1, 1) := by kernel_rfl
  refine ⟨Tryz.underlying52, ?_⟩
  cases hi : Tryz.prog.info? 5 with
  | none => rw [hi] at h; cases h
  | some i =>
    rw [hi] at h
    simp at h
    exact ⟨i, rfl, h.1, h.2.1, h.2.2⟩
set_option maxRecDepth 100000 in
set_option maxHeartbeats 1000000 in
theorem refBoxes_any (w : World) :
    Calls Tryz.prog 60 #[] w fun e w' => ∃ v l d, e = .returned v ∧ w' = Wd w l d ∧ Has w l v boxes := by
  have hbl := boxes_length
  refine calls_wd ?_
  go_enter Tryz.func60, Tryz.ntmps60
  go_wp2
  go_loopw [1, 2] (fun v i wr => ∃ (k d : Nat) (l : List Obj), k ≤ 256 ∧ i = .int .i64 k ∧ Hid (Has0 w l v (boxes.take k)) ∧ wr = Wd w l d) (fun _ i _ => 256 - (intOf i).toNat)
  case atStart => exact ⟨0, 0, [], by omega, rfl, Or.inl ⟨rfl, rfl⟩, rfl⟩
  case round =>
    obtain ⟨k, d, l, hk, rfl, HS, rfl⟩ := hrel
    by_cases hlt : k < 256
    · have hwk : IntKind.u8.wrap (k : Int) = (k : Int) := by rw [wrap8]; congr 1; omega
      have HT := Lib.hid (show boxes.take k ++ [gi boxes k] = boxes.take (k + 1) by
        rw [List.take_succ_eq_append_getElem (by omega)]
        congr 2
        simp [gi, List.getD, hbl, hlt])
      go_wp2_with fail
      refine (refBox_any k hlt _).mono ?_
      rintro e w' ⟨rfl, rfl⟩
      go_wp2_with (at_builtin; refine stop ?_)
      unfold Stop
      refine wpList_app rfl (.tmp 7) (.tmp 11) 52 5 rfl br52 u1 (boxes.take k) rfl (HS.out.more _) l.length 0 1 1 rfl [gi boxes k] 5 (0, 0) (at_mid _ _ _) (show 0 + 1 ≤ 1 by decide) (by decide) (by simp; omega) ?_
      intro v' l' d' H1 _
      have H1' := H1.out
      rw [show List.take 1 (List.drop 0 [gi boxes k]) = [gi boxes k] from rfl, HT.out] at H1'
      have H2 := Lib.hid H1'; clear H1 H1'
      go_wp2
      go_roundw
      case rel => exact ⟨k + 1, _, _, by omega, by go_num, Or.inr H2.out, rfl⟩
      case measure => simp [intOf]; omega
    · obtain rfl : k = 256 := by omega
      have HB : Has w l u1 boxes := by
        rcases HS.out with ⟨_, h⟩ | h
        · have := congrArg List.length h
          simp [hbl] at this
        · rwa [List.take_of_length_le (by omega)] at h
      have HH := Lib.hid HB; clear HB
      go_wp2
      go_ret
      exact ⟨_, _, _, rfl, rfl, HH.out⟩
end Go.Proofs.YtfamoakicgmfgaaGreat
namespace Go.Proofs.YtfamoakicgmfgaaGreat
open Go.RowKit Go.Own
attribute [local go_sem] ag5 cs5 sz5 isa5

theorem gi_take {s : List Nat} {n j : Nat} (h : j < n) : gi (s.take n) j = gi s j := by simp [gi, List.getD, h]
theorem gi_left {s t : List Nat} {j : Nat} (h : j < s.length) : gi (s ++ t) j = gi s j := by
  simp only [gi, List.getD_eq_getElem?_getD]
  rw [List.getElem?_append_left h]
theorem mul_two : ∀ p, p < 256 → mul p 2 = dbl p := by decide +kernel
theorem wst_p (cs key : List Nat) : ∀ n, (wst cs key n).2 < 256
  | 0 => by show 1 < 256; decide
  | n + 1 => by
    simp only [wst]
    split
    · exact dbl_lt _
    · exact wst_p cs key n
theorem cs0_box (b : Nat) (hb : b < 256) : gi cs0 b = gi boxes b := gi_left (by rw [boxes_length]; exact hb)
/-- The words, as far as they are known ahead of the round n + 8. -/
def sofar (key : List Nat) (n : Nat) : List Nat := (wst cs0 key n).1.take ((n + 8) * 4)
theorem sofar_length (key : List Nat) (n : Nat) (h : n ≤ 52) : (sofar key n).length = (n + 8) * 4 := by
  have := wst_length cs0 key n h
  simp [sofar, this]; omega
theorem gi_right {s t : List Nat} {j : Nat} (h : s.length ≤ j) : gi (s ++ t) j = gi t (j - s.length) := by
  simp only [gi, List.getD_eq_getElem?_getD]
  rw [List.getElem?_append_right h]
theorem gi_flat {f : Nat → List Nat} (hf : ∀ i, (f i).length = 4) : ∀ m j, j < 4 * m → gi ((List.range m).flatMap f) j = gi (f (j / 4)) (j % 4)
  | 0, j, h => by omega
  | m + 1, j, h => by
    have hl := flat_length hf m
    rw [List.range_succ, List.flatMap_append]
    by_cases hj : j < 4 * m
    · rw [gi_left (by omega), gi_flat hf m j hj]
    · rw [gi_right (by omega), hl]
      have e1 : j / 4 = m := by omega
      have e2 : j - 4 * m = j % 4 := by omega
      rw [e1, e2]
      simp
theorem sofar_zero (key : ByteArray) (h : key.size = 32) : sofar (bys key) 0 = bys key := by
  have hl := bys_length key
  have hf := flat_length (pc_length (bys key)) 8
  unfold sofar
  simp only [wst, fin]
  rw [List.take_append_of_le_length (by omega), List.take_of_length_le (by omega)]
  refine gi_ext (by omega) fun j hj => ?_
  rw [gi_flat (pc_length _) 8 j (by omega), pc_wrd (by omega), gi_wrd (by omega)]
  congr 1; omega
theorem sofar_succ (key : List Nat) (n : Nat) (h : n < 52) (T : List Nat) (hT : wT cs0 (wst cs0 key n).1 (n + 8) (wst cs0 key n).2 = T) :
    sofar key (n + 1) = sofar key n ++ xorL (wrd (wst cs0 key n).1 n) T := by
  have hl := wst_length cs0 key n (by omega)
  have hx := xorL_length (wrd (wst cs0 key n).1 n) T
  unfold sofar
  simp only [wst, hT, spl]
  rw [List.take_append_of_le_length (by simp [hl, hx]; omega), List.take_of_length_le (by simp [hl, hx]; omega)]
/-- The word t, out of the words so far. -/
def wTl (key : List Nat) (n : Nat) : List Nat :=
  let W := (wst cs0 key n).1
  if n % 8 = 0 then [xor8 (gi boxes (gi W (4 * (n + 8) - 3))) (wst cs0 key n).2, gi boxes (gi W (4 * (n + 8) - 2)), gi boxes (gi W (4 * (n + 8) - 1)), gi boxes (gi W (4 * (n + 8) - 4))]
  else if n % 8 = 4 then [gi boxes (gi W (4 * (n + 8) - 4)), gi boxes (gi W (4 * (n + 8) - 3)), gi boxes (gi W (4 * (n + 8) - 2)), gi boxes (gi W (4 * (n + 8) - 1))]
  else [gi W (4 * (n + 8) - 4), gi W (4 * (n + 8) - 3), gi W (4 * (n + 8) - 2), gi W (4 * (n + 8) - 1)]
set_option maxRecDepth 100000 in
theorem wT_eq (key : List Nat) (hk : B8 key) (n : Nat) (h : n < 52) : wT cs0 (wst cs0 key n).1 (n + 8) (wst cs0 key n).2 = wTl key n := by
  have hl := wst_length cs0 key n (by omega)
  have hb := wst_B8 cs0 key hk n
  unfold wTl
  generalize (wst cs0 key n).1 = W at *
  generalize (wst cs0 key n).2 = p at *
  have hw : wrd W (n + 8 - 1) = [gi W (4 * (n + 8) - 4), gi W (4 * (n + 8) - 3), gi W (4 * (n + 8) - 2), gi W (4 * (n + 8) - 1)] := by
    refine four_ext (wrd_length (by omega)) rfl fun i hi => ?_
    rw [gi_wrd hi]
    have : i = 0 ∨ i = 1 ∨ i = 2 ∨ i = 3 := by omega
    rcases this with rfl | rfl | rfl | rfl
    · rw [show (n + 8 - 1) * 4 + 0 = 4 * (n + 8) - 4 by omega]; rfl
    · rw [show (n + 8 - 1) * 4 + 1 = 4 * (n + 8) - 3 by omega]; rfl
    · rw [show (n + 8 - 1) * 4 + 2 = 4 * (n + 8) - 2 by omega]; rfl
    · rw [show (n + 8 - 1) * 4 + 3 = 4 * (n + 8) - 1 by omega]; rfl
  unfold wT
  rw [hw]
  by_cases h0 : n % 8 = 0
  · rw [if_pos (by omega), if_pos h0]
    show [xor8 (gi cs0 (gi W (4 * (n + 8) - 3))) p, gi cs0 (gi W (4 * (n + 8) - 2)), gi cs0 (gi W (4 * (n + 8) - 1)), gi cs0 (gi W (4 * (n + 8) - 4))] = _
    rw [cs0_box _ (hb.gi _), cs0_box _ (hb.gi _), cs0_box _ (hb.gi _), cs0_box _ (hb.gi _)]
  · rw [if_neg (by omega), if_neg h0]
    by_cases h4 : n % 8 = 4
    · rw [if_pos (by omega), if_pos h4]
      show [gi cs0 (gi W (4 * (n + 8) - 4)), gi cs0 (gi W (4 * (n + 8) - 3)), gi cs0 (gi W (4 * (n + 8) - 2)), gi cs0 (gi W (4 * (n + 8) - 1))] = _
      rw [cs0_box _ (hb.gi _), cs0_box _ (hb.gi _), cs0_box _ (hb.gi _), cs0_box _ (hb.gi _)]
    · rw [if_neg (by omega), if_neg h4]
end Go.Proofs.YtfamoakicgmfgaaGreat

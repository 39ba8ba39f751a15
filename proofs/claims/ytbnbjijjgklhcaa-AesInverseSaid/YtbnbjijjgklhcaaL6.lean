import Derived.Test.YtbnbjijjgklhcaaA8
import Derived.Test.YtbnbjijjgklhcaaM2
namespace Go.Proofs.Ytbnbjijjgklhcaa
open Go.RowKit Go.Own

/-- How many of the first i bytes have the product 1 with a, and the last of them (0 if none has). -/
def ones (a : Nat) : Nat → Nat
  | 0 => 0
  | i + 1 => if mul a i = 1 then ones a i + 1 else ones a i
def last (a : Nat) : Nat → Nat
  | 0 => 0
  | i + 1 => if mul a i = 1 then i else last a i
theorem ones_le (a : Nat) : ∀ i, ones a i ≤ i
  | 0 => Nat.le_refl _
  | i + 1 => by have := ones_le a i; unfold ones; split <;> omega
theorem ones_none {a : Nat} : ∀ i, (∀ j, j < i → mul a j ≠ 1) → ones a i = 0 ∧ last a i = 0
  | 0, _ => ⟨rfl, rfl⟩
  | i + 1, h => by
    have h1 := ones_none i fun j hj => h j (by omega)
    simp only [ones, last, if_neg (h i (by omega))]
    exact h1
theorem ones_one {a k : Nat} (hk : mul a k = 1) : ∀ i, (∀ j, j < i → mul a j = 1 → j = k) → k < i → ones a i = 1 ∧ last a i = k
  | 0, _, h => by omega
  | i + 1, hu, h => by
    by_cases e : i = k
    · subst e
      have h1 := ones_none (a := a) i fun j hj hj1 => by have := hu j (by omega) hj1; omega
      simp only [ones, last, if_pos hk, h1.1]
      exact ⟨trivial, trivial⟩
    · have hne : mul a i ≠ 1 := fun h1 => e (hu i (by omega) h1)
      have h1 := ones_one hk i (fun j hj => hu j (by omega)) (by omega)
      simp only [ones, last, if_neg hne]
      exact h1
theorem ones_zero : ones 0 256 = 0 := (ones_none 256 fun j _ => by rw [mul_zeroL]; decide).1
theorem ones_inv {a : Nat} (ha : a < 256) (hz : a ≠ 0) : ones a 256 = 1 ∧ last a 256 = inv8 a := by
  have hi := (inv8_spec a ha).1
  exact ones_one ((mul_eq_one ha hi hz).2 rfl) 256 (fun j hj h => (mul_eq_one ha hj hz).1 h) hi

set_option maxRecDepth 100000 in
set_option maxHeartbeats 1000000 in
theorem inverse_any (a : Nat) (ha : a < 256) (w : World) :
    Calls Try.prog 6 #[.int .u8 a] w fun e w' => e = .returned (.bool true) ∧ Grows w w' := by
  go_enter Try.func6, Try.ntmps6
  go_wp2_with fail
  refine (awake_any _).mono ?_
  rintro e w' ⟨rfl, hg⟩
  go_wp2
  go_loop [3, 4, 5] (fun n q i => ∃ k : Nat, k ≤ 256 ∧ i = .int .i64 k ∧ n = .int .i64 (ones a k) ∧ q = .int .u8 (last a k)) (fun _ _ i => 256 - (intOf i).toNat)
  case atStart => exact ⟨0, by omega, rfl, rfl, rfl⟩
  case round =>
    obtain ⟨k, hk, rfl, rfl, rfl⟩ := hrel
    by_cases hlt : k < 256
    · have hle := ones_le a k
      have hwk : IntKind.u8.wrap (k : Int) = (k : Int) := by rw [wrap8]; congr 1; omega
      by_cases h1 : mul a k = 1
      · have e1 := Lib.hid (show ones a (k + 1) = ones a k + 1 by rw [ones, if_pos h1])
        have e2 := Lib.hid (show last a (k + 1) = k by rw [last, if_pos h1])
        have h1' : (((mul a k : Nat) : Int) == 1) = true := by simp [h1]
        clear h1
        go_wp2_with fail
        refine (mul_any a k hlt _).mono ?_
        rintro e w'' ⟨rfl, rfl⟩
        go_wp2
        go_round
        case rel => exact ⟨k + 1, by omega, by go_num, by rw [e1.out]; go_num, by rw [e2.out]⟩
        case measure => simp [intOf]; omega
      · have e1 := Lib.hid (show ones a (k + 1) = ones a k by rw [ones, if_neg h1])
        have e2 := Lib.hid (show last a (k + 1) = last a k by rw [last, if_neg h1])
        have h1' : (((mul a k : Nat) : Int) == 1) = false := by simp; omega
        clear h1
        go_wp2_with fail
        refine (mul_any a k hlt _).mono ?_
        rintro e w'' ⟨rfl, rfl⟩
        go_wp2
        go_round
        case rel => exact ⟨k + 1, by omega, by go_num, by rw [e1.out], by rw [e2.out]⟩
        case measure => simp [intOf]; omega
    · obtain rfl : k = 256 := by omega
      by_cases hz : a = 0
      · subst hz
        rw [ones_zero]
        go_wp2
        go_ret
        exact ⟨rfl, hg⟩
      · obtain ⟨e1, e2⟩ := ones_inv ha hz
        obtain ⟨hi, hm⟩ := inv8_spec a ha
        have hb : ((gi boxes a : Nat) : Int) = ((gi boxes (inv8 a) : Nat) : Int) ↔ (a : Int) = ((inv8 a : Nat) : Int) := by
          constructor
          · intro h; have := box_inj ha hi (by omega); omega
          · intro h; have h' : a = inv8 a := by omega
            rw [← h']
        rw [e1, e2]
        have hz' : ((a : Int) == 0) = false := by simp [hz]
        have hm1 := Lib.hid (hm hz)
        have hbb : (((gi boxes a : Nat) : Int) == ((gi boxes (inv8 a) : Nat) : Int)) = ((a : Int) == ((inv8 a : Nat) : Int)) := by
          rw [Bool.eq_iff_iff]; simpa using hb
        have HBB := Lib.hid hbb
        clear hb hz e1 e2 hm hbb
        go_wp2_with fail
        refine (mul_any (inv8 a) a ha _).mono ?_
        rintro e w'' ⟨rfl, rfl⟩
        rw [hm1.out]
        go_wp2_with fail
        refine (box_any a ha _).mono ?_
        rintro e w'' ⟨rfl, hg2⟩
        go_wp2_with fail
        refine (box_any (inv8 a) hi _).mono ?_
        rintro e w3 ⟨rfl, hg3⟩
        have hbb := HBB.out
        go_wp2
        go_ret
        exact ⟨rfl, hg.trans (hg2.trans hg3)⟩
end Go.Proofs.Ytbnbjijjgklhcaa

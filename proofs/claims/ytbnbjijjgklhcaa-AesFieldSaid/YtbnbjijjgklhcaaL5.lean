import Derived.Test.YtbnbjijjgklhcaaA8
import Derived.Test.YtbnbjijjgklhcaaM2
namespace Go.Proofs.Ytbnbjijjgklhcaa
open Go.RowKit Go.Own

theorem mul_xor8 {a b c : Nat} (ha : a < 256) (hb : b < 256) (hc : c < 256) : mul a (xor8 b c) = xor8 (mul a b) (mul a c) := by
  rw [xor8_eq hb hc, xor8_eq (mul_lt _ ha) (mul_lt _ ha), mul_xorR _ _ ha]
set_option maxRecDepth 100000 in
set_option maxHeartbeats 1000000 in
theorem field_any (a b c : Nat) (ha : a < 256) (hb : b < 256) (hc : c < 256) (w : World) :
    Calls Try.prog 5 #[.int .u8 a, .int .u8 b, .int .u8 c] w fun e w' => e = .returned (.bool true) ∧ Grows w w' := by
  have h1 := Lib.hid (mul_comm8 ha hb)
  have h2 := Lib.hid (mul_assoc8 ha hb hc)
  have h3 := Lib.hid (mul_xor8 ha hb hc)
  have h4 := Lib.hid (mul_one ha)
  have h5 : mul a b < 256 := mul_lt b ha
  have h6 : mul b c < 256 := mul_lt c hb
  have hz : ((((mul a b : Nat) : Int) == 0) = true ∧ ((a : Int) == 0) = true) ∨ ((((mul a b : Nat) : Int) == 0) = true ∧ ((a : Int) == 0) = false ∧ ((b : Int) == 0) = true) ∨ ((((mul a b : Nat) : Int) == 0) = false ∧ ((a : Int) == 0) = false ∧ ((b : Int) == 0) = false) := by
    have := mul_eq_zero ha hb
    by_cases h0 : a = 0
    · exact .inl ⟨by simp [this.2 (.inl h0)], by simp [h0]⟩
    · by_cases h00 : b = 0
      · exact .inr (.inl ⟨by simp [this.2 (.inr h00)], by simp [h0], by simp [h00]⟩)
      · exact .inr (.inr ⟨by simp; intro h; exact (this.1 h).elim h0 h00, by simp [h0], by simp [h00]⟩)
  rcases hz with ⟨z1, z2⟩ | ⟨z1, z2, z3⟩ | ⟨z1, z2, z3⟩
  all_goals
    go_enter Try.func5, Try.ntmps5
    go_wp2_with fail
    refine (awake_any _).mono ?_
    rintro e w' ⟨rfl, hg⟩
    go_wp2_with fail
    refine (mul_any a b hb _).mono ?_
    rintro e w' ⟨rfl, rfl⟩
    go_wp2_with fail
    refine (mul_any b a ha _).mono ?_
    rintro e w' ⟨rfl, rfl⟩
    rw [← h1.out]
    go_wp2_with fail
    refine (mul_any (mul a b) c hc _).mono ?_
    rintro e w' ⟨rfl, rfl⟩
    rw [h2.out]
    go_wp2_with fail
    refine (mul_any b c hc _).mono ?_
    rintro e w' ⟨rfl, rfl⟩
    go_wp2_with fail
    refine (mul_any a (mul b c) h6 _).mono ?_
    rintro e w' ⟨rfl, rfl⟩
    go_wp2_with fail
    refine (mul_any a (xor8 b c) (xor8_lt _ _) _).mono ?_
    rintro e w' ⟨rfl, rfl⟩
    rw [h3.out]
    go_wp2_with fail
    refine (mul_any a c hc _).mono ?_
    rintro e w' ⟨rfl, rfl⟩
    go_wp2_with fail
    refine (mul_any a 1 (by decide) _).mono ?_
    rintro e w' ⟨rfl, rfl⟩
    rw [h4.out]
    go_wp2
    go_ret
    exact ⟨rfl, hg⟩
end Go.Proofs.Ytbnbjijjgklhcaa

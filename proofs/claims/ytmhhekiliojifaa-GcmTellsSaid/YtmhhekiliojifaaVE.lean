/- GcmField's own walk. No condition. -/
import Derived.Test.YtmhhekiliojifaaVD
import Derived.Laws.Concat
namespace Go.Own
open Go.RowKit
theorem xbB_xor {x y : List Nat} (hx : B8 x) (hy : B8 y) (n : Nat) (hn : n = 16) (i : Nat) (hi : i < 128) : xbB ((List.range n).map fun k => xor8 (gi x k) (gi y k)) i = (xbB x i ^^ xbB y i) := by
  subst hn
  unfold xbB
  have e : gi ((List.range 16).map fun k => xor8 (gi x k) (gi y k)) (i / 8) = xor8 (gi x (i / 8)) (gi y (i / 8)) := by
    have h16 : i / 8 < 16 := by omega
    simp [gi, List.getD, h16]
  rw [e]
  unfold xor8
  have h1 := hx.gi (i / 8)
  have h2 := hy.gi (i / 8)
  rw [Nat.mod_eq_of_lt (Nat.xor_lt_two_pow (n := 8) h1 h2), Nat.testBit_xor]
theorem toN_xor {x y : List Nat} (hx : B8 x) (hy : B8 y) : toN ((List.range 16).map fun k => xor8 (gi x k) (gi y k)) = toN x ^^^ toN y := by
  apply Nat.eq_of_testBit_eq
  intro i
  by_cases hi : i < 128
  · rw [toN_bit _ _ hi, Nat.testBit_xor, toN_bit _ _ hi, toN_bit _ _ hi, xbB_xor hx hy 16 rfl i hi]
  · have hz : ∀ a, a < 2 ^ 128 → a.testBit i = false := fun a ha => Nat.testBit_lt_two_pow (Nat.lt_of_lt_of_le ha (Nat.pow_le_pow_right (by decide) (by omega)))
    rw [hz _ (toN_lt _), Nat.testBit_xor, hz _ (toN_lt _), hz _ (toN_lt _)]; rfl
theorem prodL_comm (x y : List Nat) : prodL x y = prodL y x :=
  toN_inj (prodL_B8 _ _) (prodL_B8 _ _) (prodL_length _ _) (prodL_length _ _) (by rw [prodL_gmul, prodL_gmul, gmul_comm (toN_lt _) (toN_lt _)])
theorem prodL_assoc (x y z : List Nat) : prodL (prodL x y) z = prodL x (prodL y z) :=
  toN_inj (prodL_B8 _ _) (prodL_B8 _ _) (prodL_length _ _) (prodL_length _ _) (by rw [prodL_gmul, prodL_gmul, prodL_gmul, prodL_gmul, gmul_assoc (toN_lt _) (toN_lt _)])
theorem prodL_xor (x y z : List Nat) (hy : B8 y) (hz : B8 z) : prodL x ((List.range 16).map fun k => xor8 (gi y k) (gi z k)) = (List.range 16).map fun k => xor8 (gi (prodL x y) k) (gi (prodL x z) k) := by
  refine toN_inj (prodL_B8 _ _) (fun n hn => ?_) (prodL_length _ _) (by simp) ?_
  · obtain ⟨k, _, rfl⟩ := List.mem_map.1 hn
    exact Nat.mod_lt _ (by decide)
  · rw [prodL_gmul, toN_xor hy hz, toN_xor (prodL_B8 _ _) (prodL_B8 _ _), prodL_gmul, prodL_gmul]
    exact (gmul_lin_right (toN x)).xor _ _
theorem toN_one : toN (128 :: rep 15) = 1 := by decide +kernel
theorem prodL_one {x : List Nat} (hx : B8 x) (hl : x.length = 16) : prodL x (128 :: rep 15) = x :=
  toN_inj (prodL_B8 _ _) hx (prodL_length _ _) hl (by rw [prodL_gmul, toN_one, gmul_one (toN_lt _)])
end Go.Own
namespace Go.Proofs.Ytmhhekiliojifaa
open Go.RowKit Go.Own
attribute [local go_sem] z5 ag5 cs5 sz5 isa5 ixSe
attribute [-go_sem] run_string_add_if
theorem prod_any (a b : ByteArray) (ha : a.size = 16) (hb : b.size = 16) (R : ByteArray) (hR : mkS (prodL (bys a) (bys b)) = R) (w : World) :
    Calls Try.prog 11 #[.string a, .string b] w fun e w' => e = .returned (.tuple #[.string R, .int .i64 0]) ∧ Grows w w' := by
  have := prod_ok a b ha hb w
  rwa [hR] at this
set_option maxRecDepth 100000 in
set_option maxHeartbeats 4000000 in
theorem field_any (a b c : ByteArray) (w : World) :
    Calls Try.prog 4 #[.string a, .string b, .string c] w fun e w' => e = .returned (.bool true) ∧ Below w.heap.size w w' := by
  have HA : Hid (∀ W, Calls Try.prog 6 #[] (Wd W [] 0) fun e w' => e = .returned (.bool true) ∧ Below W.heap.size W w') := Lib.hid fun W => wd0 (awake_any W)
  have h : (((a.size : Int) != 16) = true ∧ a.size ≠ 16) ∨ (((a.size : Int) != 16) = false ∧ a.size = 16 ∧ ((b.size : Int) != 16) = true ∧ b.size ≠ 16) ∨
      (((a.size : Int) != 16) = false ∧ a.size = 16 ∧ ((b.size : Int) != 16) = false ∧ b.size = 16 ∧ ((c.size : Int) != 16) = true) ∨
      (((a.size : Int) != 16) = false ∧ a.size = 16 ∧ ((b.size : Int) != 16) = false ∧ b.size = 16 ∧ ((c.size : Int) != 16) = false ∧ c.size = 16) := by
    by_cases h1 : a.size = 16 <;> by_cases h2 : b.size = 16 <;> by_cases h3 : c.size = 16 <;> simp [h1, h2, h3] <;> omega
  refine calls_wd ?_
  rcases h with ⟨h1, h1n⟩ | ⟨h1, h1n, h2, h2n⟩ | ⟨h1, h1n, h2, h2n, h3⟩ | ⟨h1, h1n, h2, h2n, h3, h3n⟩
  · have HP : Hid (∀ W, Calls Try.prog 11 #[.string a, .string b] W fun e w' => e = .returned (.tuple #[.string (mkS []), .int .i64 2]) ∧ W = w') := Lib.hid fun W => prod_bad a b (Or.inl h1n) W
    have h5 : ((a.size : Int) == 16) = false := by simp; omega
    clear h1n
    go_enter Try.func4, Try.ntmps4
    go_wp2_with fail
    refine (HA.out _).mono ?_
    rintro e w1 ⟨rfl, hB⟩
    rw [← Wd_nil w1]
    go_wp2_with fail
    refine (HP.out _).mono ?_
    rintro e w' ⟨rfl, rfl⟩
    go_wp2
    go_ret
    exact ⟨rfl, by rw [Wd_nil]; exact hB⟩
  · have HP : Hid (∀ W, Calls Try.prog 11 #[.string a, .string b] W fun e w' => e = .returned (.tuple #[.string (mkS []), .int .i64 2]) ∧ W = w') := Lib.hid fun W => prod_bad a b (Or.inr h2n) W
    have h5 : ((a.size : Int) == 16) = true := by simp; omega
    have h6 : ((b.size : Int) == 16) = false := by simp; omega
    clear h1n h2n
    go_enter Try.func4, Try.ntmps4
    go_wp2_with fail
    refine (HA.out _).mono ?_
    rintro e w1 ⟨rfl, hB⟩
    rw [← Wd_nil w1]
    go_wp2_with fail
    refine (HP.out _).mono ?_
    rintro e w' ⟨rfl, rfl⟩
    go_wp2
    go_ret
    exact ⟨rfl, by rw [Wd_nil]; exact hB⟩
  · have HP : Hid (∀ W, Calls Try.prog 11 #[.string a, .string b] W fun e w' => e = .returned (.tuple #[.string (mkS (prodL (bys a) (bys b))), .int .i64 0]) ∧ Grows W w') := Lib.hid fun W => prod_ok a b h1n h2n W
    have h5 : ((a.size : Int) == 16) = true := by simp; omega
    have h6 : ((b.size : Int) == 16) = true := by simp; omega
    clear h1n h2n
    go_enter Try.func4, Try.ntmps4
    go_wp2_with fail
    refine (HA.out _).mono ?_
    rintro e w1 ⟨rfl, hB⟩
    rw [← Wd_nil w1]
    go_wp2_with fail
    refine (HP.out _).mono ?_
    rintro e w' ⟨rfl, g, d, rfl⟩
    rw [Wd_wd]
    go_wp2
    go_ret
    exact ⟨rfl, hB.trans (((Same.refl w1).below _ _).mono hB.size)⟩
  · obtain ⟨sm, hsm⟩ : ∃ sm, (List.range 16).map (fun k => xor8 (gi (bys b) k) (gi (bys c) k)) = sm := ⟨_, rfl⟩
    have hsml : sm.length = 16 := by rw [← hsm]; simp
    have hsm8 : B8 sm := by
      rw [← hsm]; intro n hn
      obtain ⟨k, _, rfl⟩ := List.mem_map.1 hn
      exact Nat.mod_lt _ (by decide)
    obtain ⟨AB, hAB⟩ : ∃ R, mkS (prodL (bys a) (bys b)) = R := ⟨_, rfl⟩
    obtain ⟨AC, hAC⟩ : ∃ R, mkS (prodL (bys a) (bys c)) = R := ⟨_, rfl⟩
    obtain ⟨AS, hAS⟩ : ∃ R, mkS (prodL (bys a) (bys (mkS sm))) = R := ⟨_, rfl⟩
    obtain ⟨BC, hBC⟩ : ∃ R, mkS (prodL (bys b) (bys c)) = R := ⟨_, rfl⟩
    obtain ⟨LR, hLR⟩ : ∃ R, mkS (prodL (bys AB) (bys c)) = R := ⟨_, rfl⟩
    have bAB : bys AB = prodL (bys a) (bys b) := by rw [← hAB, bys_mkS _ (prodL_B8 _ _)]
    have bAC : bys AC = prodL (bys a) (bys c) := by rw [← hAC, bys_mkS _ (prodL_B8 _ _)]
    have bAS : bys AS = prodL (bys a) sm := by rw [← hAS, bys_mkS _ (prodL_B8 _ _), bys_mkS _ hsm8]
    have bBC : bys BC = prodL (bys b) (bys c) := by rw [← hBC, bys_mkS _ (prodL_B8 _ _)]
    have sz : ∀ (t : ByteArray) (x : List Nat), bys t = x → x.length = 16 → t.size = 16 := fun t x h1 h2 => by rw [← bys_length, h1, h2]
    have sAB := sz _ _ bAB (prodL_length _ _)
    have sAC := sz _ _ bAC (prodL_length _ _)
    have sAS := sz _ _ bAS (prodL_length _ _)
    have sBC := sz _ _ bBC (prodL_length _ _)
    have HX : Hid (∀ k, k < 16 → gi (bys AS) k = xor8 (gi (bys AB) k) (gi (bys AC) k)) := Lib.hid fun k hk => by
      rw [bAS, bAB, bAC, ← hsm, prodL_xor _ _ _ (B8.bys b) (B8.bys c)]
      simp [gi, List.getD, hk]
    have HP1 : Hid (∀ W, Calls Try.prog 11 #[.string a, .string b] W fun e w' => e = .returned (.tuple #[.string AB, .int .i64 0]) ∧ Grows W w') := Lib.hid fun W => prod_any a b h1n h2n AB hAB W
    have HP2 : Hid (∀ W, Calls Try.prog 11 #[.string b, .string a] W fun e w' => e = .returned (.tuple #[.string AB, .int .i64 0]) ∧ Grows W w') := Lib.hid fun W => prod_any b a h2n h1n AB (by rw [prodL_comm, hAB]) W
    have HP3 : Hid (∀ W, Calls Try.prog 11 #[.string a, .string c] W fun e w' => e = .returned (.tuple #[.string AC, .int .i64 0]) ∧ Grows W w') := Lib.hid fun W => prod_any a c h1n h3n AC hAC W
    have HP4 : Hid (∀ W, Calls Try.prog 11 #[.string a, .string (mkS sm)] W fun e w' => e = .returned (.tuple #[.string AS, .int .i64 0]) ∧ Grows W w') := Lib.hid fun W => prod_any a (mkS sm) h1n (by rw [mkS_size, hsml]) AS hAS W
    have HP5 : Hid (∀ W, Calls Try.prog 11 #[.string AB, .string c] W fun e w' => e = .returned (.tuple #[.string LR, .int .i64 0]) ∧ Grows W w') := Lib.hid fun W => prod_any AB c sAB h3n LR hLR W
    have HP6 : Hid (∀ W, Calls Try.prog 11 #[.string b, .string c] W fun e w' => e = .returned (.tuple #[.string BC, .int .i64 0]) ∧ Grows W w') := Lib.hid fun W => prod_any b c h2n h3n BC hBC W
    have HP7 : Hid (∀ W, Calls Try.prog 11 #[.string a, .string BC] W fun e w' => e = .returned (.tuple #[.string LR, .int .i64 0]) ∧ Grows W w') := Lib.hid fun W => prod_any a BC h1n sBC LR (by rw [bBC, ← prodL_assoc, ← bAB, hLR]) W
    obtain ⟨ONE, hONE⟩ : ∃ R, mkS (128 :: rep 15) = R := ⟨_, rfl⟩
    have bONE : bys ONE = 128 :: rep 15 := by rw [← hONE, bys_mkS _ (b8_of (by decide))]
    have HP8 : Hid (∀ W, Calls Try.prog 11 #[.string a, .string ONE] W fun e w' => e = .returned (.tuple #[.string a, .int .i64 0]) ∧ Grows W w') := Lib.hid fun W =>
      prod_any a ONE h1n (by rw [← hONE, mkS_size]; rfl) a (by rw [bONE, prodL_one (B8.bys a) (by rw [bys_length, h1n]), mkS_bys]) W
    have HN : Hid (∀ W, Calls Try.prog 12 #[.int .i64 15] W fun e w' => e = .returned (.string (mkS (rep 15))) ∧ Grows W w') := Lib.hid fun W => noughts_any 15 (by decide) W
    have hcat : ∀ W, (Op.stringOp .add ({ data := #[128] } : ByteArray) (mkS (rep 15))).run Try.prog W = .ok (.string ONE) W := fun W => by
      rw [run_string_add_sum W _ _ (by rw [mkS_size]; decide), ← hONE]
      rfl
    have hla : 16 ≤ a.size := by omega
    have HSM := Lib.hid hsm
    have hmk := hmk5
    have sb : b.size = 16 := h2n
    have sc : c.size = 16 := h3n
    clear bAB bAC bAS bBC bONE hAB hAC hAS hBC hLR hONE sz hsm hsm8 h1n h2n h3n hla
    go_enter Try.func4, Try.ntmps4
    go_wp2_with fail
    refine (HA.out _).mono ?_
    rintro e w1 ⟨rfl, hB⟩
    rw [← Wd_nil w1]
    have HB := Lib.hid hB
    clear hB
    go_wp2
    go_loopw [10] (fun i wr => ∃ k d : Nat, k ≤ 16 ∧ i = .int .i64 k ∧ wr = Wd w1 [.cells (cv .u8 (fin1 (fun k => xor8 (gi (bys b) k) (gi (bys c) k)) k (rep 16))) 5] d) (fun i _ => 16 - (intOf i).toNat)
    case atStart => exact ⟨0, 0, by omega, rfl, by rw [fin1_zero]⟩
    case round =>
      obtain ⟨k, d, hk, rfl, rfl⟩ := hrel
      by_cases hlt : k < 16
      · have hl : (fin1 (fun k => xor8 (gi (bys b) k) (gi (bys c) k)) k (rep 16)).length = 16 := by rw [fin1_length (by simp; omega)]; simp
        have hkb : k < b.size := by omega
        have hkc : k < c.size := by omega
        go_wp2
        go_region
        go_wp2
        go_roundw
        case rel => exact ⟨k + 1, _, by omega, by go_num, by rw [← fin1_step]⟩
        case measure => simp [intOf]; omega
      · obtain rfl : k = 16 := by omega
        have he : fin1 (fun k => xor8 (gi (bys b) k) (gi (bys c) k)) 16 (rep 16) = sm := by rw [fin1_end (by simp), HSM.out]
        rw [he]
        clear he
        go_wp2_with fail
        refine (HP1.out _).mono ?_
        rintro e w' ⟨rfl, g, d, rfl⟩
        rw [Wd_wd]
        go_wp2_with fail
        refine (HP2.out _).mono ?_
        rintro e w' ⟨rfl, g, d, rfl⟩
        rw [Wd_wd]
        go_wp2_with fail
        refine (HP3.out _).mono ?_
        rintro e w' ⟨rfl, g, d, rfl⟩
        rw [Wd_wd]
        go_wp2_with fail
        refine (HP4.out _).mono ?_
        rintro e w' ⟨rfl, g, d, rfl⟩
        rw [Wd_wd]
        go_wp2_with fail
        refine (HP5.out _).mono ?_
        rintro e w' ⟨rfl, g, d, rfl⟩
        rw [Wd_wd]
        go_wp2_with fail
        refine (HP6.out _).mono ?_
        rintro e w' ⟨rfl, g, d, rfl⟩
        rw [Wd_wd]
        go_wp2_with fail
        refine (HP7.out _).mono ?_
        rintro e w' ⟨rfl, g, d, rfl⟩
        rw [Wd_wd]
        go_wp2_with fail
        refine (HN.out _).mono ?_
        rintro e w' ⟨rfl, g, d, rfl⟩
        rw [Wd_wd]
        go_wp2_with fail
        refine (HP8.out _).mono ?_
        rintro e w' ⟨rfl, g, d, rfl⟩
        rw [Wd_wd]
        go_wp2
        go_loopw [27] (fun i wr => ∃ (k : Nat) (G : List Obj) (d : Nat), k ≤ 16 ∧ i = .int .i64 k ∧ wr = Wd w1 G d) (fun i _ => 16 - (intOf i).toNat)
        case atStart => exact ⟨0, _, _, by omega, rfl, rfl⟩
        case round =>
          obtain ⟨k, G, d, hk, rfl, rfl⟩ := hrel
          by_cases hlt : k < 16
          · have hkS : k < AS.size := by omega
            have hkB : k < AB.size := by omega
            have hkC : k < AC.size := by omega
            have hx := HX.out k hlt
            go_wp2
            refine wp_region_read (by kernel_rfl) (by kernel_rfl) ?_
            repeat still_step
            refine wpStill_nil ?_
            go_wp2
            go_roundw
            case rel => exact ⟨k + 1, _, _, by omega, by go_num, rfl⟩
            case measure => simp [intOf]; omega
          · obtain rfl : k = 16 := by omega
            go_wp2
            go_ret
            exact ⟨rfl, HB.out.trans (((Same.refl w1).below G _).mono HB.out.size)⟩
end Go.Proofs.Ytmhhekiliojifaa

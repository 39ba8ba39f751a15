/- Blocks as two words, numbers as bytes, what is refused, the number of bits: by contract. No condition but sizes. -/
import Derived.Test.YtmhhekiliojifaaV1
namespace Go.Own
open Go.RowKit
/-- The words, when k bytes have been laid. -/
def wst2 (b : List Nat) : Nat → List Nat
  | 0 => rep 2
  | k + 1 => spl (wst2 b k) (k / 8) [or64 (shl64 (gi (wst2 b k) (k / 8)) 8) (gi b k)]
theorem wst2_length (b : List Nat) : ∀ k, k ≤ 16 → (wst2 b k).length = 2
  | 0, _ => rep_length _
  | k + 1, h => by
    rw [wst2, spl_length _ _ _ (by rw [wst2_length b k (by omega)]; show k / 8 + 1 ≤ 2; omega)]
    exact wst2_length b k (by omega)
theorem wrapu64 (n : Nat) (h : n < 18446744073709551616) : IntKind.u64.wrap (n : Int) = (n : Int) := by rw [wrap64n, Nat.mod_eq_of_lt h]
/-- A number's lowest bytes, so many, the highest first. -/
def hfF (n L i : Nat) : Nat := shr64 n (8 * (L - 1 - i)) % 256
def hfL (n L : Nat) : List Nat := (List.range L).map (hfF n L)
theorem hfL_length (n L : Nat) : (hfL n L).length = L := by simp [hfL]
theorem hfL_B8 (n L : Nat) : B8 (hfL n L) := fun x hx => by
  obtain ⟨i, _, rfl⟩ := List.mem_map.1 hx
  exact Nat.mod_lt _ (by decide)
end Go.Own
namespace Go.Proofs.Ytmhhekiliojifaa
open Go.RowKit Go.Own
theorem z5 : zeroOf Try.prog 5 = .int .u8 0 := by kernel_rfl
theorem hmk5 : (Try.prog.info? 5).map (fun i => (i.zero, i.size, i.bytes)) = some (some (.int .u8 0), 1, 1) := by kernel_rfl
attribute [local go_sem] z5 ag5 cs5 sz5 isa5 ag40 cs40 sz40 z40 ag69 cs69 sz69 z69 ag56 cs56 sz56 isa56
set_option maxRecDepth 100000 in
set_option maxHeartbeats 1000000 in
theorem words2_any (b : List Nat) (hb : b.length = 16) (h8 : ∀ i, gi b i < 256) (w : World) :
    Calls Try.prog 41 #[.agg (cv .u8 b)] w fun e w' => e = .returned (.agg (cv .u64 (wst2 b 16))) ∧ Grows w w' := by
  have H8 := Lib.hid h8
  clear h8
  refine calls_wd ?_
  go_enter Try.func41, Try.ntmps41
  go_wp2
  go_loopw [7] (fun i wr => ∃ k d : Nat, k ≤ 16 ∧ i = .int .i64 k ∧ wr = Wd w [.cells (cv .u8 b) 40, .cells (cv .u64 (rep 2)) 69, .cells (cv .u64 (wst2 b k)) 69] d) (fun i _ => 16 - (intOf i).toNat)
  case atStart => exact ⟨0, 0, by omega, rfl, rfl⟩
  case round =>
    obtain ⟨k, d, hk, rfl, rfl⟩ := hrel
    by_cases hlt : k < 16
    · have hl := wst2_length b k (by omega)
      have HS : Hid (wst2 b (k + 1) = spl (wst2 b k) (k / 8) [or64 (shl64 (gi (wst2 b k) (k / 8)) 8) (gi b k)]) := rfl
      obtain ⟨q, hq⟩ : ∃ q, k / 8 = q := ⟨_, rfl⟩
      rw [hq] at HS
      have hq2 : q < 2 := by omega
      have hqi : (k : Int).tdiv 8 = (q : Int) := by rw [Int.tdiv_eq_ediv_of_nonneg (by omega)]; omega
      have hqi2 : (k : Int) / 8 = (q : Int) := by omega
      have hw := wrapu64 (gi b k) (by have := H8.out k; omega)
      clear hq
      go_wp2
      go_roundw
      case rel => exact ⟨k + 1, _, by omega, by go_num, by rw [HS.out]⟩
      case measure => simp [intOf]; omega
    · obtain rfl : k = 16 := by omega
      have hl := wst2_length b 16 (by omega)
      go_wp2
      exact ret_cell (i := 1) rfl rfl ag69 rfl hl rfl ⟨rfl, Grows.of _ _ _⟩
set_option maxRecDepth 100000 in
set_option maxHeartbeats 1000000 in
theorem highFirst_any (n L : Nat) (hL : L ≤ 8) (w : World) :
    Calls Try.prog 29 #[.int .u64 n, .int .i64 L] w fun e w' => e = .returned (.string (mkS (hfL n L))) ∧ Grows w w' := by
  have hm : L ≤ 140737488355328 := by omega
  have hmk := hmk5
  refine calls_wd ?_
  go_enter Try.func29, Try.ntmps29
  go_wp2
  go_loopw [11] (fun i wr => ∃ k d : Nat, k ≤ L ∧ i = .int .i64 k ∧ wr = Wd w [.cells (cv .u8 (fin1 (hfF n L) k (rep L))) 5] d) (fun i _ => L - (intOf i).toNat)
  case atStart => exact ⟨0, 0, by omega, rfl, by rw [fin1_zero]⟩
  case round =>
    obtain ⟨k, d, hk, rfl, rfl⟩ := hrel
    by_cases hlt : k < L
    · have hl : (fin1 (hfF n L) k (rep L)).length = L := by rw [fin1_length (by simp; omega)]; simp
      have hlt2 : (k : Int) < (L : Int) := by omega
      obtain ⟨m, hm⟩ : ∃ m, L - 1 - k = m := ⟨_, rfl⟩
      have hmi : (L : Int) - 1 - (k : Int) = m := by omega
      obtain ⟨m8, hm8⟩ : ∃ m8, 8 * m = m8 := ⟨_, rfl⟩
      have hm8i : 8 * (m : Int) = m8 := by omega
      have hm64 : m8 ≤ 64 := by omega
      obtain ⟨z, hz⟩ : ∃ z, shr64 n m8 % 256 = z := ⟨_, rfl⟩
      have hzi : ((shr64 n m8 : Nat) : Int) % 256 = (z : Int) := by omega
      have HF : Hid (z = hfF n L k) := Lib.hid (by rw [hfF, hm, hm8, hz])
      clear hm hm8 hz
      go_wp2
      go_roundw
      case rel => exact ⟨k + 1, _, by omega, by go_num, by rw [← fin1_step, ← HF.out]⟩
      case measure => simp [intOf]; omega
    · obtain rfl : k = L := by omega
      have he := Lib.hid (fin1_end (f := hfF n k) (n := k) (s := rep k) (by simp))
      have hl : (fin1 (hfF n k) k (rep k)).length = k := by rw [fin1_length (by simp)]; simp
      go_wp2
      go_ret
      exact ⟨by rw [he.out]; rfl, Grows.of _ _ _⟩
theorem bitsOf_any (s : ByteArray) (h : s.size ≤ 65536) (w : World) :
    Calls Try.prog 32 #[.string s] w fun e w' => e = .returned (.int .u64 ((8 * s.size : Nat) : Int)) ∧ Grows w w' := by
  obtain ⟨n, hn⟩ : ∃ n, s.size = n := ⟨_, rfl⟩
  have h1 := wrapu64 n (by omega)
  have h2 : IntKind.u64.wrap (8 * (n : Int)) = ((8 * n : Nat) : Int) := by
    have := wrapu64 (8 * n) (by omega)
    rwa [show ((8 * n : Nat) : Int) = 8 * (n : Int) by simp] at this
  rw [hn]
  go_enter Try.func32, Try.ntmps32
  go_wp2
  go_ret
  exact ⟨by simp, Grows.refl _⟩
/-- Why it is refused. -/
def refN (k n b : Nat) (l : Nat) : Nat := if k ≠ 32 ∨ n ≠ 12 then 2 else if 65536 < b ∨ 65536 < l then 3 else 0
theorem refused_any (key nonce bes : ByteArray) (l : Nat) (w : World) :
    Calls Try.prog 13 #[.string key, .string nonce, .string bes, .int .i64 l] w fun e w' => e = .returned (.int .i64 ((refN key.size nonce.size bes.size l : Nat) : Int)) ∧ w = w' := by
  obtain ⟨r, hr⟩ : ∃ r, refN key.size nonce.size bes.size l = r := ⟨_, rfl⟩
  have h : (((key.size : Int) != 32) = true ∧ r = 2) ∨ (((key.size : Int) != 32) = false ∧ ((nonce.size : Int) != 12) = true ∧ r = 2) ∨
      (((key.size : Int) != 32) = false ∧ ((nonce.size : Int) != 12) = false ∧ 65536 < (bes.size : Int) ∧ r = 3) ∨
      (((key.size : Int) != 32) = false ∧ ((nonce.size : Int) != 12) = false ∧ ¬ 65536 < (bes.size : Int) ∧ 65536 < (l : Int) ∧ r = 3) ∨
      (((key.size : Int) != 32) = false ∧ ((nonce.size : Int) != 12) = false ∧ ¬ 65536 < (bes.size : Int) ∧ ¬ 65536 < (l : Int) ∧ r = 0) := by
    rw [← hr]
    unfold refN
    by_cases h1 : key.size = 32 <;> by_cases h2 : nonce.size = 12 <;> by_cases h3 : 65536 < bes.size <;> by_cases h4 : 65536 < l <;> simp [h1, h2, h3, h4] <;> omega
  rw [hr]
  clear hr
  rcases h with ⟨h1, rfl⟩ | ⟨h1, h2, rfl⟩ | ⟨h1, h2, h3, rfl⟩ | ⟨h1, h2, h3, h4, rfl⟩ | ⟨h1, h2, h3, h4, rfl⟩
  all_goals
    go_enter Try.func13, Try.ntmps13
    go_wp2
    go_ret
    exact ⟨rfl, rfl⟩
end Go.Proofs.Ytmhhekiliojifaa

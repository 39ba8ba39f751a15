/- Two strings held against each other byte by byte: the package sha's Equal, by contract. No condition but the size. -/
import Derived.Test.YtfamoakicgmfgaaA1
import Derived.Test.YtfamoakicgmfgaaBld
import Derived.Test.YtfamoakicgmfgaaReg
namespace Go.Proofs.Ytfamoakicgmfgaa
open Go.RowKit Go.Own
attribute [local go_sem] ag5 cs5 sz5 isa5
def accF (a b : List Nat) : Nat → Nat
  | 0 => 0
  | k + 1 => or8 (accF a b k) (xor8 (gi a k) (gi b k))
theorem or8_zero {x y : Nat} (hx : x < 256) (hy : y < 256) : or8 x y = 0 ↔ x = 0 ∧ y = 0 := by
  have h : x ||| y < 256 := Nat.or_lt_two_pow (n := 8) hx hy
  unfold or8
  rw [Nat.mod_eq_of_lt h]
  exact Nat.or_eq_zero_iff
theorem xor8_zero {x y : Nat} (hx : x < 256) (hy : y < 256) : xor8 x y = 0 ↔ x = y := by
  have h : x ^^^ y < 256 := Nat.xor_lt_two_pow (n := 8) hx hy
  unfold xor8
  rw [Nat.mod_eq_of_lt h]
  constructor
  · intro e
    have := congrArg (· ^^^ y) e
    simpa [Nat.xor_assoc] using this
  · rintro rfl; exact Nat.xor_self _
theorem accF_lt (a b : List Nat) : ∀ k, accF a b k < 256
  | 0 => by show 0 < 256; decide
  | _ + 1 => Nat.mod_lt _ (by decide)
theorem accF_zero (a b : List Nat) (ha : B8 a) (hb : B8 b) : ∀ k, accF a b k = 0 ↔ ∀ j, j < k → gi a j = gi b j
  | 0 => by simp [accF]
  | k + 1 => by
    rw [accF, or8_zero (accF_lt _ _ _) (show xor8 _ _ < 256 from Nat.mod_lt _ (by decide)), accF_zero a b ha hb k, xor8_zero (ha.gi _) (hb.gi _)]
    constructor
    · rintro ⟨h1, h2⟩ j hj
      by_cases e : j = k
      · rw [e]; exact h2
      · exact h1 j (by omega)
    · intro h
      exact ⟨fun j hj => h j (by omega), h k (by omega)⟩
theorem gi_exte {s t : List Nat} (hl : s.length = t.length) (h : ∀ i, i < s.length → gi s i = gi t i) : s = t := by
  apply List.ext_getElem hl
  intro i h1 h2
  have := h i h1
  simpa [gi, List.getD, h1, h2] using this
theorem gi_ate {t : ByteArray} {i : Nat} (h : i < t.size) : gi (bys t) i = t[i].toNat := by
  have h3 : i < t.data.size := h
  simp only [gi, bys, List.getD_eq_getElem?_getD, List.getElem?_map]
  rw [List.getElem?_eq_getElem (by simpa using h3)]
  rfl
/-- Are they the same bytes? By name. -/
def sameB (a b : ByteArray) : Bool := decide (a = b)
theorem sameB_iff (a b : ByteArray) (hl : a.size = b.size) : (((accF (bys a) (bys b) a.size : Nat) : Int) == 0) = sameB a b := by
  unfold sameB
  rw [Bool.eq_iff_iff, beq_iff_eq, decide_eq_true_iff]
  have h0 : ((accF (bys a) (bys b) a.size : Nat) : Int) = 0 ↔ accF (bys a) (bys b) a.size = 0 := by omega
  rw [h0, accF_zero _ _ (B8.bys a) (B8.bys b)]
  constructor
  · intro h
    exact bys_inj (gi_exte (by rw [bys_length, bys_length, hl]) (by rw [bys_length]; exact h))
  · rintro rfl j _; rfl
set_option maxRecDepth 100000 in
theorem equal_ne (a b : ByteArray) (hl : a.size ≠ b.size) (w : World) :
    Calls Try.prog 29 #[.string a, .string b] w fun e w' => e = .returned (.bool (sameB a b)) ∧ Grows w w' := by
  have hz : sameB a b = false := by
    unfold sameB
    exact decide_eq_false (fun h => hl (by rw [h]))
  have hb : ((a.size : Int) != b.size) = true := by simp; omega
  have HZ := Lib.hid hz
  clear hl hz
  go_enter Try.func29, Try.ntmps29
  go_wp2
  go_ret
  exact ⟨by rw [HZ.out]; rfl, Grows.refl _⟩
theorem ixSe (t : ByteArray) (k : IntKind) (i : Nat) (W : World) (h1 : i < t.size) :
    (ixN 9 (.string t) (.int k (i : Int))).run Try.prog W = .ok (.int .u8 ((gi (bys t) i : Nat) : Int)) W := by
  rw [gi_ate h1]
  unfold ixN
  rw [run_index_string W 9 t k i Try.underlying9, dif_pos ⟨by omega, by omega⟩]
  simp
attribute [local go_sem] ixSe
set_option maxRecDepth 100000 in
set_option maxHeartbeats 1000000 in
theorem equal_eq (a b : ByteArray) (hl : a.size = b.size) (hm : a.size ≤ 1099511627776) (w : World) :
    Calls Try.prog 29 #[.string a, .string b] w fun e w' => e = .returned (.bool (sameB a b)) ∧ Grows w w' := by
  have hb : ((a.size : Int) != b.size) = false := by simp; omega
  have HZ := Lib.hid (sameB_iff a b hl)
  have HL := Lib.hid hl
  clear hl
  refine calls_wd ?_
  go_enter Try.func29, Try.ntmps29
  go_wp2
  go_loopw [5, 14] (fun u i wr => ∃ k d : Nat, k ≤ a.size ∧ i = .int .i64 k ∧ u = .int .u8 (accF (bys a) (bys b) k : Nat) ∧ wr = Wd w [] d) (fun _ i _ => a.size - (intOf i).toNat)
  case atStart => exact ⟨0, 0, by omega, rfl, rfl, rfl⟩
  case round =>
    obtain ⟨k, d, hk, rfl, rfl, rfl⟩ := hrel
    by_cases hlt : k < a.size
    · have hn : Hid (accF (bys a) (bys b) (k + 1) = or8 (accF (bys a) (bys b) k) (xor8 (gi (bys a) k) (gi (bys b) k))) := rfl
      have hlt2 : k < b.size := by rw [← HL.out]; exact hlt
      go_wp2
      refine wp_region_read (by kernel_rfl) (by kernel_rfl) ?_
      repeat still_step
      refine wpStill_nil ?_
      go_wp2
      go_roundw
      case rel => exact ⟨k + 1, _, by omega, by go_num, by rw [hn.out], rfl⟩
      case measure => simp [intOf]; omega
    · obtain rfl : k = a.size := by omega
      have hz := HZ.out
      go_wp2
      go_ret
      exact ⟨rfl, Grows.of _ _ _⟩
theorem equal_any (a b : ByteArray) (hm : a.size ≤ 1099511627776) (w : World) :
    Calls Try.prog 29 #[.string a, .string b] w fun e w' => e = .returned (.bool (sameB a b)) ∧ Grows w w' := by
  by_cases hl : a.size = b.size
  · exact equal_eq a b hl hm w
  · exact equal_ne a b hl w
end Go.Proofs.Ytfamoakicgmfgaa

/- The law's own rows of bytes (Counted), by contract. -/
import Derived.Test.YtfamoakicgmfgaaA4
import Derived.Test.YtfamoakicgmfgaaM1
namespace Go.Proofs.Ytfamoakicgmfgaa
open Go.RowKit Go.Own
attribute [local go_sem] ag5 cs5 sz5 isa5
/-- So many bytes from b on. -/
def cntL (b : Nat) : List Nat := (List.range 32).map (b + ·)
def cntB (b : Nat) : ByteArray := mkS (cntL b)
theorem cntL_length (b : Nat) : (cntL b).length = 32 := by simp [cntL]
theorem cntB_size (b : Nat) : (cntB b).size = 32 := by rw [cntB, mkS_size, cntL_length]
theorem cntL_B8 (b : Nat) (h : b + 32 ≤ 256) : B8 (cntL b) := fun n hn => by
  obtain ⟨k, hk, rfl⟩ := List.mem_map.1 hn
  have := List.mem_range.1 hk
  omega
theorem bys_cntB (b : Nat) (h : b + 32 ≤ 256) : bys (cntB b) = cntL b := bys_mkS _ (cntL_B8 b h)
set_option maxRecDepth 100000 in
theorem counted_any (b : Nat) (hb : b + 32 ≤ 256) (w : World) :
    Calls Try.prog 7 #[.int .u8 (b : Int), .int .i64 32] w fun e w' => e = .returned (.string (cntB b)) ∧ Grows w w' := by
  have hmk : (Try.prog.info? 5).map (fun i => (i.zero, i.size, i.bytes)) = some (some (.int .u8 0), 1, 1) := by kernel_rfl
  have hz5 : zeroOf Try.prog 5 = .int .u8 0 := by kernel_rfl
  refine calls_wd ?_
  go_enter Try.func7, Try.ntmps7
  go_wp2
  go_loopw [6] (fun i wr => ∃ k : Nat, k ≤ 32 ∧ i = .int .i64 k ∧ wr = Wd w [.cells (cv .u8 (fin1 (fun i => b + i) k (rep 32))) 5 (0, 0)] 0) (fun i _ => 32 - (intOf i).toNat)
  case atStart => exact ⟨0, by omega, rfl, by rw [fin1_zero]⟩
  case round =>
    obtain ⟨k, hk, rfl, rfl⟩ := hrel
    have hl : (fin1 (fun i => b + i) k (rep 32)).length = 32 := by rw [fin1_length (by simp; omega), rep_length]
    by_cases hlt : k < 32
    · obtain ⟨x, hx⟩ : ∃ x, b + k = x := ⟨_, rfl⟩
      have hxi : (b : Int) + (k : Int) = (x : Int) := by omega
      have hbk : x < 256 := by omega
      have hst : Hid (spl (fin1 (fun i => b + i) k (rep 32)) k [x] = fin1 (fun i => b + i) (k + 1) (rep 32)) := Lib.hid (by rw [← hx, fin1_step])
      clear hx
      go_wp2
      go_roundw
      case rel => exact ⟨k + 1, by omega, by go_num, by rw [← hst.out]⟩
      case measure => simp [intOf]; omega
    · obtain rfl : k = 32 := by omega
      have he := Lib.hid (fin1_end (f := fun i => b + i) (n := 32) (s := rep 32) (by simp))
      go_wp2
      go_ret
      exact ⟨by rw [he.out]; rfl, Grows.of _ _ _⟩
end Go.Proofs.Ytfamoakicgmfgaa

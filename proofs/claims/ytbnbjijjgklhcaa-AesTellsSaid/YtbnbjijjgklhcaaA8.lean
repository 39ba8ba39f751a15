import Derived.Test.YtbnbjijjgklhcaaA7
import Derived.Test.YtbnbjijjgklhcaaM1
namespace Go.Proofs.Ytbnbjijjgklhcaa
open Go.RowKit Go.Own
attribute [local go_sem] ag5 cs5 sz5 isa5 

def keyS : ByteArray := mkS (List.range 32)
theorem keyS_size : keyS.size = 32 := by rw [keyS, mkS_size]; rfl
theorem bys_keyS : bys keyS = List.range 32 := bys_mkS _ (by decide)
def blkT : ByteArray := { data := #[0, 17, 34, 51, 68, 85, 102, 119, 136, 153, 170, 187, 204, 221, 238, 255] }
theorem blkT_size : blkT.size = 16 := rfl
theorem box_0 : gi boxes 0 = 99 := by rw [boxes_eq]; rfl
theorem box_83 : gi boxes 83 = 237 := by rw [boxes_eq]; rfl
theorem mul_87 : mul 87 131 = 193 := by decide
theorem press_lit : mkS (pressL (cipher (bys keyS)) (bys blkT)) = { data := #[142, 162, 183, 202, 81, 103, 69, 191, 234, 252, 73, 144, 75, 73, 96, 137] } := by
  have e : pressL (cipher (bys keyS)) (bys blkT) = [142, 162, 183, 202, 81, 103, 69, 191, 234, 252, 73, 144, 75, 73, 96, 137] := by
    rw [bys_keyS, cipher, cs0, boxes_eq]
    exact press_test
  rw [e]; rfl
theorem counted_32 (w : World) :
    Calls Try.prog 16 #[.int .u8 0, .int .i64 32] w fun e w' => e = .returned (.string keyS) ∧ Grows w w' := by
  have hmk : (Try.prog.info? 5).map (fun i => (i.zero, i.size, i.bytes)) = some (some (.int .u8 0), 1, 1) := by kernel_rfl
  have hz5 : zeroOf Try.prog 5 = .int .u8 0 := by kernel_rfl
  refine calls_wd ?_
  go_enter Try.func16, Try.ntmps16
  go_wp2
  go_loopw [6] (fun i wr => ∃ k : Nat, k ≤ 32 ∧ i = .int .i64 k ∧ wr = Wd w [.cells (cv .u8 (fin1 (fun i => i) k (rep 32))) 5] 0) (fun i _ => 32 - (intOf i).toNat)
  case atStart => exact ⟨0, by omega, rfl, by rw [fin1_zero]⟩
  case round =>
    obtain ⟨k, hk, rfl, rfl⟩ := hrel
    have hl : (fin1 (fun i => i) k (rep 32)).length = 32 := by rw [fin1_length (by simp; omega), rep_length]
    by_cases hlt : k < 32
    · go_wp2
      go_roundw
      case rel => exact ⟨k + 1, by omega, by go_num, by rw [← fin1_step]⟩
      case measure => simp [intOf]; omega
    · obtain rfl : k = 32 := by omega
      have he := Lib.hid (fin1_end (f := fun i => i) (n := 32) (s := rep 32) (by simp))
      go_wp2
      go_ret
      exact ⟨by rw [he.out, List.map_id']; rfl, Grows.of _ _ _⟩

set_option maxRecDepth 100000 in
set_option maxHeartbeats 1000000 in
theorem awake_any (w : World) : Calls Try.prog 7 #[] w fun e w' => e = .returned (.bool true) ∧ Grows w w' := by
  refine calls_wd ?_
  go_enter Try.func7, Try.ntmps7
  go_wp2_with fail
  refine (counted_32 _).mono ?_
  rintro e w' ⟨rfl, g, d, rfl⟩
  rw [Wd_wd]
  go_wp2_with fail
  refine (new_ok keyS keyS_size _).mono ?_
  rintro e w' ⟨cb, rfl, ⟨g1, d1, rfl⟩, hcb⟩
  have HCB := Lib.hid hcb; clear hcb
  rw [Wd_wd] at HCB ⊢
  go_wp2_with fail
  refine (new_bad _ (by decide) _).mono ?_
  rintro e w' ⟨rfl, rfl⟩
  go_wp2_with fail
  refine (press_ok cb (cipher (bys keyS)) (cipher_length _) blkT blkT_size _ HCB.out).mono ?_
  rintro e w' ⟨rfl, g2, d2, rfl⟩
  rw [Wd_wd, press_lit]
  clear HCB
  go_wp2_with fail
  refine (press_bad _ _ (by decide) _).mono ?_
  rintro e w' ⟨rfl, rfl⟩
  go_wp2_with fail
  refine (box_any 0 (by decide) _).mono ?_
  rintro e w' ⟨rfl, g3, d3, rfl⟩
  rw [Wd_wd, box_0]
  go_wp2_with fail
  refine (box_any 83 (by decide) _).mono ?_
  rintro e w' ⟨rfl, g4, d4, rfl⟩
  rw [Wd_wd, box_83]
  go_wp2_with fail
  refine (mul_any 87 131 (by decide) _).mono ?_
  rintro e w' ⟨rfl, rfl⟩
  rw [mul_87]
  go_wp2
  go_ret
  exact ⟨rfl, Grows.of _ _ _⟩
end Go.Proofs.Ytbnbjijjgklhcaa

/- Layer 4 of the document: its bits, bytes, fillings: by contract. -/
import Derived.Test.YtmhhekiliojifaaChecked
import Derived.Test.YtmhhekiliojifaaG1
import Derived.Test.YtmhhekiliojifaaApp
import Derived.Test.YtmhhekiliojifaaReg3
namespace Go.Proofs.Ytmhhekiliojifaa
open Go.RowKit Go.Own

theorem ag5t : aggSize Try.prog 5 = none := by kernel_rfl
theorem cs5t : Try.prog.cellsOf 5 = 1 := by kernel_rfl
theorem sz5t (w : World) : (sizeOf 5).run Try.prog w = .ok 1 w := by kernel_rfl
theorem isa5t (w : World) : (isAgg 5).run Try.prog w = .ok false w := by kernel_rfl
attribute [local go_sem] ag5t cs5t sz5t isa5t
set_option maxRecDepth 100000 in
set_option maxHeartbeats 1000000 in
theorem bit_any (S : List Nat) (b n cap i : Nat) (hn : n ≤ S.length) (hi : i / 8 < n) (hib : i < 1000000) (w : World) (t : TypeId) (f : Nat × Nat) (hb : blk w b = some (.cells (cv .u8 S) t f)) :
    Calls Try.prog 54 #[.slice (some ⟨b, 0, none⟩) n cap, .int .i64 (i : Int)] w fun e w' => e = .returned (.int .u8 (xb S i : Nat)) ∧ w' = w := by
  obtain ⟨q, hq⟩ : ∃ q, i / 8 = q := ⟨_, rfl⟩
  obtain ⟨r, hr⟩ : ∃ r, i % 8 = r := ⟨_, rfl⟩
  obtain ⟨m, hm⟩ : ∃ m, 7 - r = m := ⟨_, rfl⟩
  have hqi : (i : Int).tdiv 8 = (q : Int) := by rw [Int.tdiv_eq_ediv_of_nonneg (by omega)]; omega
  have hri : (i : Int).tmod 8 = (r : Int) := by rw [Int.tmod_eq_emod_of_nonneg (by omega)]; omega
  have hri2 : (i : Int) % 8 = (r : Int) := by omega
  have hqi2 : (i : Int) / 8 = (q : Int) := by omega
  have hmi : 7 - (r : Int) = (m : Int) := by omega
  have hX : Hid (xb S i = gi S q / 2 ^ m % 2) := Lib.hid (by unfold xb; rw [hq, hr, hm])
  have hqb : (q : Int) ≤ 125000 := by omega
  have hm8 : m ≤ 8 := by omega
  have hm7 : (m : Int) ≤ 7 := by omega
  have hqn : q < n := by omega
  have hqS : q < S.length := by omega
  have hqni : (q : Int) < n := by omega
  have hwq : wrap64 (q : Int) = q := IntWalk.wrap64_in _ (by omega)
  clear hq hr hm hib hi
  go_enter Try.func54, Try.ntmps54
  go_wp2
  go_ret
  exact ⟨by rw [hX.out]; rfl, rfl⟩
end Go.Proofs.Ytmhhekiliojifaa

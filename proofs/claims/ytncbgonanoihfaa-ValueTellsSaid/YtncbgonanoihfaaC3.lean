/- A number's bytes behind others, by contract. No condition but the sizes. -/
import Derived.Test.YtncbgonanoihfaaW3
import Derived.IntWalk
namespace Go.Proofs.Ytncbgonanoihfaa
open Go.RowKit Go.Own
/-- The answer holds l, in a row of the call's own. -/
def NewB (B : Nat) (l : List Nat) (w : World) (e : Ending) (w' : World) : Prop := ∃ v', e = .returned v' ∧ OwnB w' B v' l ∧ Below B w w'
theorem be_cell (N q : Nat) : ((N : Int) / 2 ^ (8 * q) % 256) = ((N / 256 ^ q % 256 : Nat) : Int) := by
  have e : 256 ^ q = 2 ^ (8 * q) := by rw [Nat.pow_mul]
  rw [e]
  simp
set_option maxRecDepth 100000 in
set_option maxHeartbeats 1000000 in
theorem high_any (k N : Nat) (hk : k ≤ 8) (hN : N < 18446744073709551616) (l : List Nat) (hl : l.length + k ≤ 140737488355328) (v : Value) (B : Nat) (w : World) (hB : B ≤ w.heap.size) (hv : OwnB w B v l) :
    Calls Try.prog 37 #[v, .int .u64 (N : Int), .int .i64 (k : Int)] w (NewB B (l ++ be k N) w) := by
  have HV := Lib.hid hv
  have HNN := Lib.hid hN
  clear hv hN
  go_enter Try.func37, Try.ntmps37
  go_wp2
  go_loopw [0, 7] (fun o i wr => ∃ (z : Int) (m : Nat) (L : List Nat), m ≤ k ∧ i = .int .i64 z ∧ z + 1 = m ∧ Hid (OwnB wr B o L) ∧ Hid (Below B w wr) ∧ Hid (L ++ be m N = l ++ be k N) ∧ L.length + m ≤ 140737488355328) (fun _ i _ => (intOf i + 1).toNat)
  case atStart => exact ⟨_, k, l, Nat.le_refl _, rfl, by omega, HV, Lib.hid (Below.refl _ _), Lib.hid rfl, hl⟩
  case round =>
    obtain ⟨z, m, L, hm, rfl, hz, HO, HB, HE, hL⟩ := hrel
    have hBr : B ≤ wr.heap.size := Nat.le_trans hB HB.out.size
    rcases Nat.eq_zero_or_pos m with rfl | hpos
    · obtain rfl : z = -1 := by omega
      clear hz
      have HF : Hid (OwnB wr B u0 (l ++ be k N)) := Lib.hid (by rw [← HE.out]; simpa [be] using HO.out)
      go_wp2
      go_ret
      exact ⟨_, rfl, HF.out, HB.out⟩
    · obtain ⟨q, rfl⟩ : ∃ q, m = q + 1 := ⟨m - 1, by omega⟩
      obtain rfl : z = (q : Int) := by omega
      clear hz
      have HE2 : Hid ((L ++ [N / 256 ^ q % 256]) ++ be q N = l ++ be k N) := Lib.hid (by rw [← HE.out]; simp [be])
      go_wp2_with (at_builtin; refine wpList_byte rfl (.tmp 14) (.tmp 20) rfl wr B _ L (N / 256 ^ q % 256) (by rw [be_cell]) rfl HO.out rfl (by omega) hBr ?_)
      intro v1 w1 hv1 hb1
      have HO1 := Lib.hid hv1
      have HB1 := Lib.hid (HB.out.trans hb1)
      clear hv1 hb1
      go_wp2
      go_roundw
      case rel => exact ⟨_, q, _, by omega, rfl, by omega, HO1, HB1, HE2, by simp; omega⟩
      case measure => simp [intOf]
end Go.Proofs.Ytncbgonanoihfaa

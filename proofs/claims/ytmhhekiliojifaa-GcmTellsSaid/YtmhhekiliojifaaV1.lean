/- The small functions of the package gcm: blocks out of strings and back, their sum, their words, numbers as bytes: by contract. No condition but sizes. -/
import Derived.Test.YtmhhekiliojifaaA1
import Derived.Test.YtmhhekiliojifaaBld
import Derived.Test.YtmhhekiliojifaaReg3
import Derived.Test.YtmhhekiliojifaaU64
namespace Go.Own
open Go.RowKit
/-- copy out of a string that is no longer than the room. -/
@[go_sem] theorem cpX_short {P : Program} {dT sT ty : TypeId} {w : World} {l : List Obj} {d i o n c : Nat} {s : ByteArray} {S : List Nat} {t : TypeId}
    (hu : P.underlying dT = some (.slice (P.elem dT))) (h1 : (sizeOf (P.elem dT)).run P (Wd w l d) = .ok 1 (Wd w l d)) (h2 : l[i]? = some (.cells (cv .u8 S) t (0, 0))) (hn : s.size ≤ n) (hfit : o + n ≤ S.length) :
    cpX P dT sT ty (some (.cells (cv .u8 S) t (0, 0))) w l d i o n c s = .ok (.int .i64 (s.size : Int)) (Wd w (l.set i (.cells (cv .u8 (spl S o (bys s))) t (0, 0))) d) := by
  have hx : (bys s).length = s.size := bys_length s
  have hr := run_storeCells_at P (w.heap.size + i) o t (cv .u8 (bys s)).toList 0 (cv .u8 S) (Wd w l d) (by rw [Wd_at]; exact h2) (by simp [hx]; omega) cv_oneCell
  rw [Nat.add_zero, spl_cv, Wd_setRow _ _ _ _ _ _ _ _ h2] at hr
  have hm : Nat.min s.size n = s.size := Nat.min_eq_left hn
  have he : s.extract 0 s.size = s := ByteArray.extract_zero_size
  have hf : ((s.extract 0 s.size).data.map fun b => Value.int .u8 b.toNat) = cv .u8 (bys s) := by rw [he, cells_bys]
  have hf' : (Builtin.firstCells 1 s.size (.string s)).run P (Wd w l d) = .ok (cv .u8 (bys s)) (Wd w l d) := by
    simp only [Builtin.firstCells, Sem.run_pure, hf]
  simp [cpX, Builtin.copy_, run_underlying hu, Builtin.lenOf, h1, hm, hf', hr, goInt]
/-- A string as a block: its first 16 bytes, noughts behind it. -/
def fillL (s : List Nat) : List Nat := s.take 16 ++ rep (16 - s.length)
theorem fillL_length (s : List Nat) : (fillL s).length = 16 := by simp [fillL]; omega
theorem fillL_short {s : List Nat} (h : s.length ≤ 16) : spl (rep 16) 0 s = fillL s := by
  unfold spl fillL rep
  rw [List.take_zero, List.nil_append, Nat.zero_add, List.drop_replicate, List.take_of_length_le h]
theorem fillL_long {s : List Nat} (h : 16 ≤ s.length) : spl (rep 16) 0 (s.take 16) = fillL s := by
  have e : 16 - s.length = 0 := by omega
  unfold spl fillL rep
  rw [List.take_zero, List.nil_append, Nat.zero_add, List.drop_replicate, List.length_take, Nat.min_eq_left h, e]
theorem fillL_full {s : List Nat} (h : s.length = 16) : fillL s = s := by
  unfold fillL; rw [List.take_of_length_le (by omega), h]; exact List.append_nil _
end Go.Own
namespace Go.Proofs.Ytmhhekiliojifaa
open Go.RowKit Go.Own
theorem ag40 : aggSize Try.prog 40 = some 16 := by kernel_rfl
theorem cs40 : Try.prog.cellsOf 40 = 16 := by kernel_rfl
theorem sz40 (w : World) : (sizeOf 40).run Try.prog w = .ok 16 w := by kernel_rfl
theorem z40 : zeroOf Try.prog 40 = .agg (cv .u8 (rep 16)) := by kernel_rfl
theorem ag69 : aggSize Try.prog 69 = some 2 := by kernel_rfl
theorem cs69 : Try.prog.cellsOf 69 = 2 := by kernel_rfl
theorem sz69 (w : World) : (sizeOf 69).run Try.prog w = .ok 2 w := by kernel_rfl
theorem z69 : zeroOf Try.prog 69 = .agg (cv .u64 (rep 2)) := by kernel_rfl
theorem ag56 : aggSize Try.prog 56 = none := by kernel_rfl
theorem cs56 : Try.prog.cellsOf 56 = 1 := by kernel_rfl
theorem sz56 (w : World) : (sizeOf 56).run Try.prog w = .ok 1 w := by kernel_rfl
theorem isa56 (w : World) : (isAgg 56).run Try.prog w = .ok false w := by kernel_rfl
attribute [local go_sem] ag5 cs5 sz5 isa5 ag40 cs40 sz40 z40 ag69 cs69 sz69 z69 ag56 cs56 sz56 isa56

set_option maxRecDepth 100000 in
theorem filled_any (s : ByteArray) (w : World) :
    Calls Try.prog 22 #[.string s] w fun e w' => e = .returned (.agg (cv .u8 (fillL (bys s)))) ∧ Grows w w' := by
  have hl := bys_length s
  by_cases h : s.size ≤ 16
  · have hf := Lib.hid (fillL_short (s := bys s) (by omega))
    have hfl := fillL_length (bys s)
    have hsl : (spl (rep 16) 0 (bys s)).length = 16 := by rw [hf.out]; exact hfl
    refine calls_wd ?_
    go_enter Try.func22, Try.ntmps22
    go_wp2
    rw [hf.out]
    exact ret_cell (i := 0) rfl rfl ag40 rfl hfl rfl ⟨rfl, Grows.of _ _ _⟩
  · have h16 : 16 ≤ s.size := by omega
    have hf := Lib.hid (show (bys s).take 16 = fillL (bys s) by rw [fillL, show 16 - (bys s).length = 0 by omega]; exact (List.append_nil _).symm)
    have hfl := fillL_length (bys s)
    clear h
    refine calls_wd ?_
    go_enter Try.func22, Try.ntmps22
    go_wp2
    rw [hf.out]
    exact ret_cell (i := 0) rfl rfl ag40 rfl hfl rfl ⟨rfl, Grows.of _ _ _⟩
set_option maxRecDepth 100000 in
theorem btext_any (b : List Nat) (hb : b.length = 16) (w : World) :
    Calls Try.prog 24 #[.agg (cv .u8 b)] w fun e w' => e = .returned (.string (mkS b)) ∧ Grows w w' := by
  refine calls_wd ?_
  go_enter Try.func24, Try.ntmps24
  go_wp2
  go_ret
  exact ⟨rfl, Grows.of _ _ _⟩
set_option maxHeartbeats 400000 in
theorem bplus_any (x y : List Nat) (hx : x.length = 16) (hy : y.length = 16) (w : World) :
    Calls Try.prog 31 #[.agg (cv .u8 x), .agg (cv .u8 y)] w fun e w' => e = .returned (.agg (cv .u8 ((List.range 16).map (xorF x y)))) ∧ Grows w w' := by
  refine calls_wd ?_
  go_enter Try.func31, Try.ntmps31
  go_wp2
  go_loopw [6] (fun i wr => ∃ k d : Nat, k ≤ 16 ∧ i = .int .i64 k ∧ wr = Wd w [.cells (cv .u8 (fin1 (xorF x y) k x)) 40, .cells (cv .u8 y) 40, .cells (cv .u8 (rep 16)) 40] d) (fun i _ => 16 - (intOf i).toNat)
  case atStart => exact ⟨0, 0, by omega, rfl, by rw [fin1_zero]⟩
  case round =>
    obtain ⟨k, d, hk, rfl, rfl⟩ := hrel
    by_cases hlt : k < 16
    · have hl : (fin1 (xorF x y) k x).length = 16 := by rw [fin1_length (by omega), hx]
      go_wp2
      go_region
      go_wp2
      go_roundw
      case rel => exact ⟨k + 1, _, by omega, by go_num, by rw [fin1_gi (Nat.le_refl k), show xor8 (gi x k) (gi y k) = xorF x y k from rfl, fin1_step]⟩
      case measure => simp [intOf]; omega
    · obtain rfl : k = 16 := by omega
      have he := Lib.hid (fin1_end (f := xorF x y) (n := 16) (s := x) (by omega))
      have hl : (fin1 (xorF x y) 16 x).length = 16 := by rw [fin1_length (by omega), hx]
      go_wp2
      exact ret_cell (i := 2) rfl rfl ag40 rfl hl rfl ⟨by rw [he.out], Grows.of _ _ _⟩
end Go.Proofs.Ytmhhekiliojifaa

/- The small functions of the package gcm: blocks out of strings and back, their sum, their words, numbers as bytes: by contract. No condition but sizes. | Blocks as two words, numbers as bytes, what is refused, the number of bits: by contract. No condition but sizes. -/
import Derived.Test.YtfamoakicgmfgaaA1
import Derived.Test.YtfamoakicgmfgaaBld
import Derived.Test.YtfamoakicgmfgaaReg3
import Derived.Test.YtfamoakicgmfgaaU64
namespace Go.Own
open Go.RowKit
/-- copy out of a string that is no longer than the room. -/
@[go_sem] theorem cpX_short {P : Program} {dT sT ty : TypeId} {w : World} {l : List Obj} {d i o n c : Nat} {s : ByteArray} {S : List Nat} {t : TypeId}
    (hu : P.underlying dT = some (.slice (P.elem dT))) (h1 : (sizeOf (P.elem dT)).run P (Wd w l d) = .ok 1 (Wd w l d)) (h2 : l[i]? = some (.cells (cv .u8 S) t (0, 0))) (hn : s.size ≤ n) (hfit : o + n ≤ S.length) :
    cpX P dT sT ty (some (.cells (cv .u8 S) t (0, 0))) w l d i o n c s = .ok (.int .i64 (s.size : Int)) (Wd w (l.set i (.cells (cv .u8 (spl S o (bys s))) t (0, 0))) d) := by
  have hx : (bys s).length = s.size := bys_length s
  have hr := run_storeCells_at P (w.heap.size + i) o t (cv .u8 (bys s)).toList 0 (cv .u8 S) (Wd w l d) (by rw [Wd_at]; exact h2) (by simp [hx]; omega) cv_oneCell
  rw [Nat.add_zero, spl_cv, Wd_setRow _ _ _ _ _ _ _ _ h2] at hr
  have hm : Nat.min s.size n = s.size := Nat.min_eq_left hn
  have he : s.extract 0 s.size = s := ByteArray.extract_zero_size
  have hf : ((s.extract 0 s.size).data.map fun b => Value.int .u8 b.toNat) = cv .u8 (bys s) := by rw [he, cells_bys]
  have hf' : (Builtin.firstCells 1 s.size (.string s)).run P (Wd w l d) = .ok (cv .u8 (bys s)) (Wd w l d) := by
    simp only [Builtin.firstCells, Sem.run_pure, hf]
  simp [cpX, Builtin.copy_, run_underlying hu, Builtin.lenOf, h1, hm, hf', hr, goInt]
/-- A string as a block: its first 16 bytes, noughts behind it. -/
def fillL (s : List Nat) : List Nat := s.take 16 ++ rep (16 - s.length)
theorem fillL_length (s : List Nat) : (fillL s).length = 16 := by simp [fillL]; omega
theorem fillL_short {s : List Nat} (h : s.length ≤ 16) : spl (rep 16) 0 s = fillL s := by
  unfold spl fillL rep
  rw [List.take_zero, List.nil_append, Nat.zero_add, List.drop_replicate, List.take_of_length_le h]
theorem fillL_long {s : List Nat} (h : 16 ≤ s.length) : spl (rep 16) 0 (s.take 16) = fillL s := by
  have e : 16 - s.length = 0 := by omega
  unfold spl fillL rep
  rw [List.take_zero, List.nil_append, Nat.zero_add, List.drop_replicate, List.length_take, Nat.min_eq_left h, e]
theorem fillL_full {s : List Nat} (h : s.length = 16) : fillL s = s := by
  unfold fillL; rw [List.take_of_length_le (by omega), h]; exact List.append_nil _
end Go.Own
namespace Go.Proofs.Ytfamoakicgmfgaa
open Go.RowKit Go.Own
theorem ag60 : aggSize Try.prog 60 = some 16 := by kernel_rfl
theorem cs60 : Try.prog.cellsOf 60 = 16 := by kernel_rfl
theorem sz60 (w : World) : (sizeOf 60).run Try.prog w = .ok 16 w := by kernel_rfl
theorem z60 : zeroOf Try.prog 60 = .agg (cv .u8 (rep 16)) := by kernel_rfl
theorem ag116 : aggSize Try.prog 116 = some 2 := by kernel_rfl
theorem cs116 : Try.prog.cellsOf 116 = 2 := by kernel_rfl
theorem sz116 (w : World) : (sizeOf 116).run Try.prog w = .ok 2 w := by kernel_rfl
theorem z116 : zeroOf Try.prog 116 = .agg (cv .u64 (rep 2)) := by kernel_rfl
theorem ag75 : aggSize Try.prog 75 = none := by kernel_rfl
theorem cs75 : Try.prog.cellsOf 75 = 1 := by kernel_rfl
theorem sz75 (w : World) : (sizeOf 75).run Try.prog w = .ok 1 w := by kernel_rfl
theorem isa75 (w : World) : (isAgg 75).run Try.prog w = .ok false w := by kernel_rfl
attribute [local go_sem] ag5 cs5 sz5 isa5 ag60 cs60 sz60 z60 ag116 cs116 sz116 z116 ag75 cs75 sz75 isa75

set_option maxRecDepth 100000 in
theorem filled_any (s : ByteArray) (w : World) :
    Calls Try.prog 39 #[.string s] w fun e w' => e = .returned (.agg (cv .u8 (fillL (bys s)))) ∧ Grows w w' := by
  have hl := bys_length s
  by_cases h : s.size ≤ 16
  · have hf := Lib.hid (fillL_short (s := bys s) (by omega))
    have hfl := fillL_length (bys s)
    have hsl : (spl (rep 16) 0 (bys s)).length = 16 := by rw [hf.out]; exact hfl
    refine calls_wd ?_
    go_enter Try.func39, Try.ntmps39
    go_wp2
    rw [hf.out]
    exact ret_cell (i := 0) rfl rfl ag60 rfl hfl rfl ⟨rfl, Grows.of _ _ _⟩
  · have h16 : 16 ≤ s.size := by omega
    have hf := Lib.hid (show (bys s).take 16 = fillL (bys s) by rw [fillL, show 16 - (bys s).length = 0 by omega]; exact (List.append_nil _).symm)
    have hfl := fillL_length (bys s)
    clear h
    refine calls_wd ?_
    go_enter Try.func39, Try.ntmps39
    go_wp2
    rw [hf.out]
    exact ret_cell (i := 0) rfl rfl ag60 rfl hfl rfl ⟨rfl, Grows.of _ _ _⟩
set_option maxRecDepth 100000 in
theorem btext_any (b : List Nat) (hb : b.length = 16) (w : World) :
    Calls Try.prog 38 #[.agg (cv .u8 b)] w fun e w' => e = .returned (.string (mkS b)) ∧ Grows w w' := by
  refine calls_wd ?_
  go_enter Try.func38, Try.ntmps38
  go_wp2
  go_ret
  exact ⟨rfl, Grows.of _ _ _⟩
set_option maxHeartbeats 400000 in
theorem bplus_any (x y : List Nat) (hx : x.length = 16) (hy : y.length = 16) (w : World) :
    Calls Try.prog 43 #[.agg (cv .u8 x), .agg (cv .u8 y)] w fun e w' => e = .returned (.agg (cv .u8 ((List.range 16).map (xorF x y)))) ∧ Grows w w' := by
  refine calls_wd ?_
  go_enter Try.func43, Try.ntmps43
  go_wp2
  go_loopw [6] (fun i wr => ∃ k d : Nat, k ≤ 16 ∧ i = .int .i64 k ∧ wr = Wd w [.cells (cv .u8 (fin1 (xorF x y) k x)) 60, .cells (cv .u8 y) 60, .cells (cv .u8 (rep 16)) 60] d) (fun i _ => 16 - (intOf i).toNat)
  case atStart => exact ⟨0, 0, by omega, rfl, by rw [fin1_zero]⟩
  case round =>
    obtain ⟨k, d, hk, rfl, rfl⟩ := hrel
    by_cases hlt : k < 16
    · have hl : (fin1 (xorF x y) k x).length = 16 := by rw [fin1_length (by omega), hx]
      go_wp2
      go_region
      go_wp2
      go_roundw
      case rel => exact ⟨k + 1, _, by omega, by go_num, by rw [fin1_gi (Nat.le_refl k), show xor8 (gi x k) (gi y k) = xorF x y k from rfl, fin1_step]⟩
      case measure => simp [intOf]; omega
    · obtain rfl : k = 16 := by omega
      have he := Lib.hid (fin1_end (f := xorF x y) (n := 16) (s := x) (by omega))
      have hl : (fin1 (xorF x y) 16 x).length = 16 := by rw [fin1_length (by omega), hx]
      go_wp2
      exact ret_cell (i := 2) rfl rfl ag60 rfl hl rfl ⟨by rw [he.out], Grows.of _ _ _⟩
end Go.Proofs.Ytfamoakicgmfgaa
namespace Go.Own
open Go.RowKit
/-- The words, when k bytes have been laid. -/
def wst2 (b : List Nat) : Nat → List Nat
  | 0 => rep 2
  | k + 1 => spl (wst2 b k) (k / 8) [or64 (shl64 (gi (wst2 b k) (k / 8)) 8) (gi b k)]
theorem wst2_length (b : List Nat) : ∀ k, k ≤ 16 → (wst2 b k).length = 2
  | 0, _ => rep_length _
  | k + 1, h => by
    rw [wst2, spl_length _ _ _ (by rw [wst2_length b k (by omega)]; show k / 8 + 1 ≤ 2; omega)]
    exact wst2_length b k (by omega)
theorem wrapu64 (n : Nat) (h : n < 18446744073709551616) : IntKind.u64.wrap (n : Int) = (n : Int) := by rw [wrap64n, Nat.mod_eq_of_lt h]
/-- A number's lowest bytes, so many, the highest first. -/
def hfF (n L i : Nat) : Nat := shr64 n (8 * (L - 1 - i)) % 256
def hfL (n L : Nat) : List Nat := (List.range L).map (hfF n L)
theorem hfL_length (n L : Nat) : (hfL n L).length = L := by simp [hfL]
theorem hfL_B8 (n L : Nat) : B8 (hfL n L) := fun x hx => by
  obtain ⟨i, _, rfl⟩ := List.mem_map.1 hx
  exact Nat.mod_lt _ (by decide)
end Go.Own
namespace Go.Proofs.Ytfamoakicgmfgaa
open Go.RowKit Go.Own
theorem z5 : zeroOf Try.prog 5 = .int .u8 0 := by kernel_rfl
theorem hmk5 : (Try.prog.info? 5).map (fun i => (i.zero, i.size, i.bytes)) = some (some (.int .u8 0), 1, 1) := by kernel_rfl
attribute [local go_sem] z5 ag5 cs5 sz5 isa5 ag60 cs60 sz60 z60 ag116 cs116 sz116 z116 ag75 cs75 sz75 isa75
set_option maxRecDepth 100000 in
set_option maxHeartbeats 1000000 in
theorem words2_any (b : List Nat) (hb : b.length = 16) (h8 : ∀ i, gi b i < 256) (w : World) :
    Calls Try.prog 82 #[.agg (cv .u8 b)] w fun e w' => e = .returned (.agg (cv .u64 (wst2 b 16))) ∧ Grows w w' := by
  have H8 := Lib.hid h8
  clear h8
  refine calls_wd ?_
  go_enter Try.func82, Try.ntmps82
  go_wp2
  go_loopw [7] (fun i wr => ∃ k d : Nat, k ≤ 16 ∧ i = .int .i64 k ∧ wr = Wd w [.cells (cv .u8 b) 60, .cells (cv .u64 (rep 2)) 116, .cells (cv .u64 (wst2 b k)) 116] d) (fun i _ => 16 - (intOf i).toNat)
  case atStart => exact ⟨0, 0, by omega, rfl, rfl⟩
  case round =>
    obtain ⟨k, d, hk, rfl, rfl⟩ := hrel
    by_cases hlt : k < 16
    · have hl := wst2_length b k (by omega)
      have HS : Hid (wst2 b (k + 1) = spl (wst2 b k) (k / 8) [or64 (shl64 (gi (wst2 b k) (k / 8)) 8) (gi b k)]) := rfl
      obtain ⟨q, hq⟩ : ∃ q, k / 8 = q := ⟨_, rfl⟩
      rw [hq] at HS
      have hq2 : q < 2 := by omega
      have hqi : (k : Int).tdiv 8 = (q : Int) := by rw [Int.tdiv_eq_ediv_of_nonneg (by omega)]; omega
      have hqi2 : (k : Int) / 8 = (q : Int) := by omega
      have hw := wrapu64 (gi b k) (by have := H8.out k; omega)
      clear hq
      go_wp2
      go_roundw
      case rel => exact ⟨k + 1, _, by omega, by go_num, by rw [HS.out]⟩
      case measure => simp [intOf]; omega
    · obtain rfl : k = 16 := by omega
      have hl := wst2_length b 16 (by omega)
      go_wp2
      exact ret_cell (i := 1) rfl rfl ag116 rfl hl rfl ⟨rfl, Grows.of _ _ _⟩
set_option maxRecDepth 100000 in
set_option maxHeartbeats 1000000 in
theorem highFirst_any (n L : Nat) (hL : L ≤ 8) (w : World) :
    Calls Try.prog 41 #[.int .u64 n, .int .i64 L] w fun e w' => e = .returned (.string (mkS (hfL n L))) ∧ Grows w w' := by
  have hm : L ≤ 140737488355328 := by omega
  have hmk := hmk5
  refine calls_wd ?_
  go_enter Try.func41, Try.ntmps41
  go_wp2
  go_loopw [11] (fun i wr => ∃ k d : Nat, k ≤ L ∧ i = .int .i64 k ∧ wr = Wd w [.cells (cv .u8 (fin1 (hfF n L) k (rep L))) 5] d) (fun i _ => L - (intOf i).toNat)
  case atStart => exact ⟨0, 0, by omega, rfl, by rw [fin1_zero]⟩
  case round =>
    obtain ⟨k, d, hk, rfl, rfl⟩ := hrel
    by_cases hlt : k < L
    · have hl : (fin1 (hfF n L) k (rep L)).length = L := by rw [fin1_length (by simp; omega)]; simp
      have hlt2 : (k : Int) < (L : Int) := by omega
      obtain ⟨m, hm⟩ : ∃ m, L - 1 - k = m := ⟨_, rfl⟩
      have hmi : (L : Int) - 1 - (k : Int) = m := by omega
      obtain ⟨m8, hm8⟩ : ∃ m8, 8 * m = m8 := ⟨_, rfl⟩
      have hm8i : 8 * (m : Int) = m8 := by omega
      have hm64 : m8 ≤ 64 := by omega
      obtain ⟨z, hz⟩ : ∃ z, shr64 n m8 % 256 = z := ⟨_, rfl⟩
      have hzi : ((shr64 n m8 : Nat) : Int) % 256 = (z : Int) := by omega
      have HF : Hid (z = hfF n L k) := Lib.hid (by rw [hfF, hm, hm8, hz])
      clear hm hm8 hz
      go_wp2
      go_roundw
      case rel => exact ⟨k + 1, _, by omega, by go_num, by rw [← fin1_step, ← HF.out]⟩
      case measure => simp [intOf]; omega
    · obtain rfl : k = L := by omega
      have he := Lib.hid (fin1_end (f := hfF n k) (n := k) (s := rep k) (by simp))
      have hl : (fin1 (hfF n k) k (rep k)).length = k := by rw [fin1_length (by simp)]; simp
      go_wp2
      go_ret
      exact ⟨by rw [he.out]; rfl, Grows.of _ _ _⟩
theorem bitsOf_any (s : ByteArray) (h : s.size ≤ 65536) (w : World) :
    Calls Try.prog 44 #[.string s] w fun e w' => e = .returned (.int .u64 ((8 * s.size : Nat) : Int)) ∧ Grows w w' := by
  obtain ⟨n, hn⟩ : ∃ n, s.size = n := ⟨_, rfl⟩
  have h1 := wrapu64 n (by omega)
  have h2 : IntKind.u64.wrap (8 * (n : Int)) = ((8 * n : Nat) : Int) := by
    have := wrapu64 (8 * n) (by omega)
    rwa [show ((8 * n : Nat) : Int) = 8 * (n : Int) by simp] at this
  rw [hn]
  go_enter Try.func44, Try.ntmps44
  go_wp2
  go_ret
  exact ⟨by simp, Grows.refl _⟩
/-- Why it is refused. -/
def refN (k n b : Nat) (l : Nat) : Nat := if k ≠ 32 ∨ n ≠ 12 then 2 else if 65536 < b ∨ 65536 < l then 3 else 0
theorem refused_any (key nonce bes : ByteArray) (l : Nat) (w : World) :
    Calls Try.prog 22 #[.string key, .string nonce, .string bes, .int .i64 l] w fun e w' => e = .returned (.int .i64 ((refN key.size nonce.size bes.size l : Nat) : Int)) ∧ w = w' := by
  obtain ⟨r, hr⟩ : ∃ r, refN key.size nonce.size bes.size l = r := ⟨_, rfl⟩
  have h : (((key.size : Int) != 32) = true ∧ r = 2) ∨ (((key.size : Int) != 32) = false ∧ ((nonce.size : Int) != 12) = true ∧ r = 2) ∨
      (((key.size : Int) != 32) = false ∧ ((nonce.size : Int) != 12) = false ∧ 65536 < (bes.size : Int) ∧ r = 3) ∨
      (((key.size : Int) != 32) = false ∧ ((nonce.size : Int) != 12) = false ∧ ¬ 65536 < (bes.size : Int) ∧ 65536 < (l : Int) ∧ r = 3) ∨
      (((key.size : Int) != 32) = false ∧ ((nonce.size : Int) != 12) = false ∧ ¬ 65536 < (bes.size : Int) ∧ ¬ 65536 < (l : Int) ∧ r = 0) := by
    rw [← hr]
    unfold refN
    by_cases h1 : key.size = 32 <;> by_cases h2 : nonce.size = 12 <;> by_cases h3 : 65536 < bes.size <;> by_cases h4 : 65536 < l <;> simp [h1, h2, h3, h4] <;> omega
  rw [hr]
  clear hr
  rcases h with ⟨h1, rfl⟩ | ⟨h1, h2, rfl⟩ | ⟨h1, h2, h3, rfl⟩ | ⟨h1, h2, h3, h4, rfl⟩ | ⟨h1, h2, h3, h4, rfl⟩
  all_goals
    go_enter Try.func22, Try.ntmps22
    go_wp2
    go_ret
    exact ⟨rfl, rfl⟩
end Go.Proofs.Ytfamoakicgmfgaa

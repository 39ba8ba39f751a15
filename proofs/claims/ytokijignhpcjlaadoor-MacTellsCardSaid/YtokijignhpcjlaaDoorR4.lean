/- For the document's own digest: the types' facts, small laws, its loops as code. -/
import Derived.Test.YtokijignhpcjlaaDoorR1
import Derived.Test.YtokijignhpcjlaaDoorReg2
import Derived.Laws.Concat
namespace Go.Proofs.YtokijignhpcjlaaDoor
open Go.RowKit Go.Own

theorem ag46 : aggSize Tryd.prog 46 = some 8 := by kernel_rfl
theorem cs46 : Tryd.prog.cellsOf 46 = 8 := by kernel_rfl
theorem sz46 (w : World) : (sizeOf 46).run Tryd.prog w = .ok 8 w := by kernel_rfl
theorem z46 : zeroOf Tryd.prog 46 = .agg (cv .u32 (rep 8)) := by kernel_rfl
theorem bu46 (a b c d e f g h : Nat) (W : World) : (buN 46 #[(0, .int .u32 a), (1, .int .u32 b), (2, .int .u32 c), (3, .int .u32 d), (4, .int .u32 e), (5, .int .u32 f), (6, .int .u32 g), (7, .int .u32 h)]).run Tryd.prog W = .ok (.agg (cv .u32 [a, b, c, d, e, f, g, h])) W := by kernel_rfl
theorem bu46s (W : World) : (buN 46 #[(0, .int .u32 1779033703), (1, .int .u32 3144134277), (2, .int .u32 1013904242), (3, .int .u32 2773480762), (4, .int .u32 1359893119), (5, .int .u32 2600822924), (6, .int .u32 528734635), (7, .int .u32 1541459225)]).run Tryd.prog W = .ok (.agg (cv .u32 startL)) W := by kernel_rfl
theorem br42 : ByteRow Tryd.prog 42 5 := by
  have h : (Tryd.prog.info? 5).map (fun i => (i.zero, i.size, i.bytes)) = some (some (.int .u8 0), 1, 1) := by kernel_rfl
  refine ⟨Tryd.underlying42, ?_⟩
  cases hi : Tryd.prog.info? 5 with
  | none => rw [hi] at h; cases h
  | some i =>
    rw [hi] at h
    simp at h
    exact ⟨i, rfl, h.1, h.2.1, h.2.2⟩
theorem bs128 (w : World) (l : List Obj) (d : Nat) : (bsN 42 1 #[(0, .int .u8 128)]).run Tryd.prog (Wd w l d) =
    .ok (.slice (some ⟨w.heap.size + l.length, 0, none⟩) 1 1) (Wd w (l ++ [.cells (cv .u8 [128]) 5 (0, 0)]) d) := bs1 128 w l d
theorem bs0 (w : World) (l : List Obj) (d : Nat) : (bsN 42 1 #[(0, .int .u8 0)]).run Tryd.prog (Wd w l d) =
    .ok (.slice (some ⟨w.heap.size + l.length, 0, none⟩) 1 1) (Wd w (l ++ [.cells (cv .u8 [0]) 5 (0, 0)]) d) := bs1 0 w l d
theorem end_at1 (L : List Obj) (X : Obj) : (L ++ [X])[L.length]? = some X := List.getElem?_concat_length
theorem rep_succ (j : Nat) : rep j ++ [0] = rep (j + 1) := by
  unfold rep
  rw [List.replicate_succ']
theorem shr_i64 (a n : Nat) (yk : IntKind) (h : n ≤ 64) : Op.shift .shr .i64 (a : Int) yk (n : Int) = pure (.int .i64 ((shr64 a n : Nat) : Int)) := by
  rw [shift_shr _ _ _ _ (by omega) (by simp [IntKind.bits]; omega)]
  simp [shr64]
theorem cnt_succ (n k : Nat) : (List.range k).map (cntF n) ++ [cntF n k] = (List.range (k + 1)).map (cntF n) := by simp [List.range_succ]
theorem sh_17 (x : Nat) : shiftedF x 17 19 10 = xor32 (xor32 (rotI x 17) (rotI x 19)) (shr32 x 10) := rfl
theorem sh_7 (x : Nat) : shiftedF x 7 18 3 = xor32 (xor32 (rotI x 7) (rotI x 18)) (shr32 x 3) := rfl
theorem mkS_append (a b : List Nat) : mkS a ++ mkS b = mkS (a ++ b) := by
  apply ByteArray.ext
  simp [mkS, ByteArray.data_append]
theorem mkS_add {P : Program} {W : World} (a b : List Nat) (h : a.length + b.length ≤ 1099511627776) : (Op.stringOp .add (mkS a) (mkS b)).run P W = .ok (.string (mkS (a ++ b))) W := by
  rw [run_string_add_sum W _ _ (by rw [mkS_size, mkS_size]; omega), mkS_append]
/-- The b-th block of 64 bytes. -/
def blkB (S : List Nat) (b : Nat) : List Nat := (S.drop (64 * b)).take 64
theorem blkB_gi (S : List Nat) (b j : Nat) (hj : j < 64) : gi (blkB S b) j = gi S (64 * b + j) := by
  simp [gi, blkB, List.getD, hj, List.getElem?_drop]
theorem gi_take' {S s : List Nat} {n j : Nat} (h : S.take n = s) (hj : j < n) : gi S j = gi s j := by
  rw [← h]; simp [gi, List.getD, hj]
/-- The bytes told so far. -/
def outS (st : List Nat) (k : Nat) : List Nat := (List.range k).flatMap (wordF st)
theorem outS_length (st : List Nat) (k : Nat) : (outS st k).length = 4 * k := flat_length (c := 4) (fun _ => rfl) k
theorem outS_succ (st : List Nat) (k : Nat) : outS st k ++ wordF st k = outS st (k + 1) := by simp [outS, List.range_succ]
theorem bif32 (a : Nat) : bits .xor .u32 (if IntKind.u32.signed = true then -1 else IntKind.u32.max) (a : Int) = ((not32 a : Nat) : Int) := bm32 a
/-- All loops of a code, the outer ones first. -/
def loopsOf : Code → List Code
  | .loop c => .loop c :: loopsOf c
  | .seq a b => loopsOf a ++ loopsOf b
  | .block _ c => loopsOf c
  | .scope c => loopsOf c
  | .cond _ a b => loopsOf a ++ loopsOf b
  | _ => []
/-- The k-th loop of the document's digest. -/
noncomputable def ref12 (k : Nat) : Code := (((Tryd.f12.body.map loopsOf).getD [])[k]?).getD .skip
end Go.Proofs.YtokijignhpcjlaaDoor

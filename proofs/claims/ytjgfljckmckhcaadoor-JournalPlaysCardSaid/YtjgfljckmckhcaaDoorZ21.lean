/- What a journal's values are in memory: a half, a journal, a record, a step: the laws to read, write and make them. No condition. -/
import Derived.Test.YtjgfljckmckhcaaDoorZ20
import Derived.Laws.Concat
namespace Go.Own
open Go Go.RowKit

/-- A half's cells. -/
def hcl (dv : Value) (a n g : Nat) (vt : Value) (u : Nat) : Array Value := #[dv, .int .i64 (a : Int), .int .i64 (n : Int), .int .u64 (g : Int), vt, .int .i64 (u : Int)]
/-- A journal's. -/
def jcl (dv : Value) (a n g : Nat) (vt : Value) (u : Nat) (o : Bool) : Array Value := #[dv, .int .i64 (a : Int), .int .i64 (n : Int), .int .u64 (g : Int), vt, .int .i64 (u : Int), .bool o]
/-- A record's. -/
def rcl (g n : Nat) (t : ByteArray) : Array Value := #[.int .u64 (g : Int), .int .u64 (n : Int), .string t]
theorem hcl_size (dv : Value) (a n g : Nat) (vt : Value) (u : Nat) : (hcl dv a n g vt u).size = 6 := rfl
theorem jcl_size (dv : Value) (a n g : Nat) (vt : Value) (u : Nat) (o : Bool) : (jcl dv a n g vt u o).size = 7 := rfl
theorem rcl_size (g n : Nat) (t : ByteArray) : (rcl g n t).size = 3 := rfl
theorem hcl_one {dv : Value} {a n g : Nat} {vt : Value} {u : Nat} (h1 : dv.oneCell' = true) (h2 : vt.oneCell' = true) : ∀ v ∈ (hcl dv a n g vt u).toList, v.oneCell' = true := by
  intro v hv
  simp [hcl] at hv
  rcases hv with rfl | rfl | rfl | rfl | rfl | rfl <;> first | assumption | rfl
theorem rcl_one {g n : Nat} {t : ByteArray} : ∀ v ∈ (rcl g n t).toList, v.oneCell' = true := by
  intro v hv
  simp [rcl] at hv
  rcases hv with rfl | rfl | rfl <;> rfl
theorem cells_one {v : Value} (h : v.oneCell' = true) : v.cells = #[v] := by
  cases v <;> first | rfl | (simp [Value.oneCell'] at h)
/-! ### box, alloc -/
def bxN (T : TypeId) (v : Value) : Sem Value := Instr.box T v
@[go_sem ↓] theorem execOp_box (ρ : Operand → Value) (dst : Option Tmp) (T : TypeId) (x : Operand) (ty : TypeId) (pos : String) (after : Array Edge) (guard : Option (Nat × Bool)) :
    execOp ρ { dst, op := .box T x, type := ty, pos, after, guard } = (bxN T (ρ x) >>= fun v => pure (.value v)) := rfl
@[go_sem] theorem bxA {P : Program} {T : TypeId} {c : Array Value} {w : World} {l : List Obj} {d : Nat} :
    (bxN T (.agg c)).run P (Wd w l d) = .ok (.pointer (some ⟨w.heap.size + l.length, 0, none⟩)) (Wd w (l ++ [.cells c T (0, 0)]) d) := by
  simp [bxN, Instr.box, newVar, newRow, Value.cells, Wd_size, Wd_alloc]
@[go_sem] theorem bxS {P : Program} {T : TypeId} {s : ByteArray} {w : World} {l : List Obj} {d : Nat} :
    (bxN T (.string s)).run P (Wd w l d) = .ok (.pointer (some ⟨w.heap.size + l.length, 0, none⟩)) (Wd w (l ++ [.cells #[.string s] T (0, 0)]) d) := by
  simp [bxN, Instr.box, newVar, newRow, Value.cells, Wd_size, Wd_alloc]
@[go_sem] theorem bxI {P : Program} {T : TypeId} {k : IntKind} {x : Int} {w : World} {l : List Obj} {d : Nat} :
    (bxN T (.int k x)).run P (Wd w l d) = .ok (.pointer (some ⟨w.heap.size + l.length, 0, none⟩)) (Wd w (l ++ [.cells #[.int k x] T (0, 0)]) d) := by
  simp [bxN, Instr.box, newVar, newRow, Value.cells, Wd_size, Wd_alloc]
theorem run_zeroOf' {P : Program} {T : TypeId} {c : Value} (h : (P.info? T).bind (·.zero) = some c) (W : World) : (zeroValue T).run P W = .ok c W := by
  cases hi : P.info? T with
  | none => simp [hi] at h
  | some i =>
    cases hz : i.zero with
    | none => simp [hi, hz] at h
    | some v =>
      simp [hi, hz] at h
      subst h
      simp [zeroValue, typeInfo, hi, hz]
theorem alXA {P : Program} {T : TypeId} {w : World} {l : List Obj} {d : Nat} {c : Array Value} (h : zeroOf P T = .agg c) :
    alX P T (.agg c) w l d = .ok (.pointer (some ⟨w.heap.size + l.length, 0, none⟩)) (Wd w (l ++ [.cells c T (0, 0)]) d) := by
  simp [alX, alN, Instr.alloc, run_zeroOf h, newVar, newRow, Value.cells, Wd_size, Wd_alloc]
theorem alXS {P : Program} {T : TypeId} {w : World} {l : List Obj} {d : Nat} (h : (P.info? T).bind (·.zero) = some (.slice none 0 0)) :
    alX P T (.slice none 0 0) w l d = .ok (.pointer (some ⟨w.heap.size + l.length, 0, none⟩)) (Wd w (l ++ [.cells #[.slice none 0 0] T (0, 0)]) d) := by
  simp [alX, alN, Instr.alloc, run_zeroOf' h, newVar, newRow, Value.cells, Wd_size, Wd_alloc]

section
variable {P : Program} {T : TypeId} {b : Nat} {W : World} {dv vt : Value} {a n g u : Nat} {o : Bool} {t : ByteArray} {ty : TypeId} {f : Nat × Nat}

theorem ldH0 (ha : (isAgg T).run P W = .ok false W) (h2 : blk W b = some (.cells (hcl dv a n g vt u) ty f)) : ldX P T none (some (.cells (hcl dv a n g vt u) ty f)) b 0 W = .ok (dv) W := ldX_mix1 ha h2 rfl
theorem ldJ0 (ha : (isAgg T).run P W = .ok false W) (h2 : blk W b = some (.cells (jcl dv a n g vt u o) ty f)) : ldX P T none (some (.cells (jcl dv a n g vt u o) ty f)) b 0 W = .ok (dv) W := ldX_mix1 ha h2 rfl
theorem ldH1 (ha : (isAgg T).run P W = .ok false W) (h2 : blk W b = some (.cells (hcl dv a n g vt u) ty f)) : ldX P T none (some (.cells (hcl dv a n g vt u) ty f)) b 1 W = .ok (.int .i64 (a : Int)) W := ldX_mix1 ha h2 rfl
theorem ldJ1 (ha : (isAgg T).run P W = .ok false W) (h2 : blk W b = some (.cells (jcl dv a n g vt u o) ty f)) : ldX P T none (some (.cells (jcl dv a n g vt u o) ty f)) b 1 W = .ok (.int .i64 (a : Int)) W := ldX_mix1 ha h2 rfl
theorem ldH2 (ha : (isAgg T).run P W = .ok false W) (h2 : blk W b = some (.cells (hcl dv a n g vt u) ty f)) : ldX P T none (some (.cells (hcl dv a n g vt u) ty f)) b 2 W = .ok (.int .i64 (n : Int)) W := ldX_mix1 ha h2 rfl
theorem ldJ2 (ha : (isAgg T).run P W = .ok false W) (h2 : blk W b = some (.cells (jcl dv a n g vt u o) ty f)) : ldX P T none (some (.cells (jcl dv a n g vt u o) ty f)) b 2 W = .ok (.int .i64 (n : Int)) W := ldX_mix1 ha h2 rfl
theorem ldH3 (ha : (isAgg T).run P W = .ok false W) (h2 : blk W b = some (.cells (hcl dv a n g vt u) ty f)) : ldX P T none (some (.cells (hcl dv a n g vt u) ty f)) b 3 W = .ok (.int .u64 (g : Int)) W := ldX_mix1 ha h2 rfl
theorem ldJ3 (ha : (isAgg T).run P W = .ok false W) (h2 : blk W b = some (.cells (jcl dv a n g vt u o) ty f)) : ldX P T none (some (.cells (jcl dv a n g vt u o) ty f)) b 3 W = .ok (.int .u64 (g : Int)) W := ldX_mix1 ha h2 rfl
theorem ldH4 (ha : (isAgg T).run P W = .ok false W) (h2 : blk W b = some (.cells (hcl dv a n g vt u) ty f)) : ldX P T none (some (.cells (hcl dv a n g vt u) ty f)) b 4 W = .ok (vt) W := ldX_mix1 ha h2 rfl
theorem ldJ4 (ha : (isAgg T).run P W = .ok false W) (h2 : blk W b = some (.cells (jcl dv a n g vt u o) ty f)) : ldX P T none (some (.cells (jcl dv a n g vt u o) ty f)) b 4 W = .ok (vt) W := ldX_mix1 ha h2 rfl
theorem ldH5 (ha : (isAgg T).run P W = .ok false W) (h2 : blk W b = some (.cells (hcl dv a n g vt u) ty f)) : ldX P T none (some (.cells (hcl dv a n g vt u) ty f)) b 5 W = .ok (.int .i64 (u : Int)) W := ldX_mix1 ha h2 rfl
theorem ldJ5 (ha : (isAgg T).run P W = .ok false W) (h2 : blk W b = some (.cells (jcl dv a n g vt u o) ty f)) : ldX P T none (some (.cells (jcl dv a n g vt u o) ty f)) b 5 W = .ok (.int .i64 (u : Int)) W := ldX_mix1 ha h2 rfl
theorem ldJ6 (ha : (isAgg T).run P W = .ok false W) (h2 : blk W b = some (.cells (jcl dv a n g vt u o) ty f)) : ldX P T none (some (.cells (jcl dv a n g vt u o) ty f)) b 6 W = .ok (.bool o) W := ldX_mix1 ha h2 rfl
theorem ldR0 (ha : (isAgg T).run P W = .ok false W) (h2 : blk W b = some (.cells (rcl g n t) ty f)) : ldX P T none (some (.cells (rcl g n t) ty f)) b 0 W = .ok (.int .u64 (g : Int)) W := ldX_mix1 ha h2 rfl
theorem ldR1 (ha : (isAgg T).run P W = .ok false W) (h2 : blk W b = some (.cells (rcl g n t) ty f)) : ldX P T none (some (.cells (rcl g n t) ty f)) b 1 W = .ok (.int .u64 (n : Int)) W := ldX_mix1 ha h2 rfl
theorem ldR2 (ha : (isAgg T).run P W = .ok false W) (h2 : blk W b = some (.cells (rcl g n t) ty f)) : ldX P T none (some (.cells (rcl g n t) ty f)) b 2 W = .ok (.string t) W := ldX_mix1 ha h2 rfl
theorem ldHA (h1 : aggSize P T = some 6) (h2 : blk W b = some (.cells (hcl dv a n g vt u) ty f)) : ldX P T (some 6) (some (.cells (hcl dv a n g vt u) ty f)) b 0 W = .ok (.agg (hcl dv a n g vt u)) W := by
  rw [ldX_mix h1 h2 (by rw [hcl_size]; omega)]; rfl
theorem ldJA (h1 : aggSize P T = some 6) (h2 : blk W b = some (.cells (jcl dv a n g vt u o) ty f)) : ldX P T (some 6) (some (.cells (jcl dv a n g vt u o) ty f)) b 0 W = .ok (.agg (hcl dv a n g vt u)) W := by
  rw [ldX_mix h1 h2 (by rw [jcl_size]; omega)]; rfl
theorem ldRA (h1 : aggSize P T = some 3) (h2 : blk W b = some (.cells (rcl g n t) ty f)) : ldX P T (some 3) (some (.cells (rcl g n t) ty f)) b 0 W = .ok (.agg (rcl g n t)) W := by
  rw [ldX_mix h1 h2 (by rw [rcl_size]; omega)]; rfl
variable {w : World} {l : List Obj} {d i : Nat} {dv' vt' : Value} {a' n' g' u' : Nat} {o' : Bool} {t' : ByteArray}
theorem stH3 (h1 : (sizeOf T).run P (Wd w l d) = .ok 1 (Wd w l d)) (h2 : l[i]? = some (.cells (hcl dv a n g vt u) ty (0, 0))) :
    stX P T 1 (some (.cells (hcl dv a n g vt u) ty (0, 0))) w l d i 3 (.int .u64 (g' : Int)) = .ok () (Wd w (l.set i (.cells (hcl dv a n g' vt u) ty (0, 0))) d) := by
  rw [stX_mix1 h1 rfl h2 (by rw [hcl_size]; omega)]; rfl
theorem stH3l (h1 : (sizeOf T).run P (Wd w l d) = .ok 1 (Wd w l d)) (h2 : l[i]? = some (.cells (hcl dv a n g vt u) ty (0, 0))) :
    stX P T 1 (some (.cells (hcl dv a n g vt u) ty (0, 0))) w l d i 3 (.int .u64 (no_index (OfNat.ofNat g'))) = .ok () (Wd w (l.set i (.cells (hcl dv a n g' vt u) ty (0, 0))) d) := by
  rw [stX_mix1 h1 rfl h2 (by rw [hcl_size]; omega)]; rfl
theorem stH5 (h1 : (sizeOf T).run P (Wd w l d) = .ok 1 (Wd w l d)) (h2 : l[i]? = some (.cells (hcl dv a n g vt u) ty (0, 0))) :
    stX P T 1 (some (.cells (hcl dv a n g vt u) ty (0, 0))) w l d i 5 (.int .i64 (u' : Int)) = .ok () (Wd w (l.set i (.cells (hcl dv a n g vt u') ty (0, 0))) d) := by
  rw [stX_mix1 h1 rfl h2 (by rw [hcl_size]; omega)]; rfl
theorem stH4 (hv : vt'.oneCell' = true) (h1 : (sizeOf T).run P (Wd w l d) = .ok 1 (Wd w l d)) (h2 : l[i]? = some (.cells (hcl dv a n g vt u) ty (0, 0))) :
    stX P T 1 (some (.cells (hcl dv a n g vt u) ty (0, 0))) w l d i 4 (vt') = .ok () (Wd w (l.set i (.cells (hcl dv a n g vt' u) ty (0, 0))) d) := by
  rw [stX_mix1 h1 hv h2 (by rw [hcl_size]; omega)]; rfl
theorem stJ6 (h1 : (sizeOf T).run P (Wd w l d) = .ok 1 (Wd w l d)) (h2 : l[i]? = some (.cells (jcl dv a n g vt u o) ty (0, 0))) :
    stX P T 1 (some (.cells (jcl dv a n g vt u o) ty (0, 0))) w l d i 6 (.bool o') = .ok () (Wd w (l.set i (.cells (jcl dv a n g vt u o') ty (0, 0))) d) := by
  rw [stX_mix1 h1 rfl h2 (by rw [jcl_size]; omega)]; rfl
theorem stHA (hd : dv'.oneCell' = true) (hv : vt'.oneCell' = true) (h1 : (sizeOf T).run P (Wd w l d) = .ok 6 (Wd w l d)) (h2 : l[i]? = some (.cells (hcl dv a n g vt u) ty (0, 0))) :
    stX P T 6 (some (.cells (hcl dv a n g vt u) ty (0, 0))) w l d i 0 (.agg (hcl dv' a' n' g' vt' u')) = .ok () (Wd w (l.set i (.cells (hcl dv' a' n' g' vt' u') ty (0, 0))) d) := by
  rw [stX_mix h1 h2 rfl (by rw [hcl_size]; omega) (hcl_one hd hv)]; rfl
theorem stJA (hd : dv'.oneCell' = true) (hv : vt'.oneCell' = true) (h1 : (sizeOf T).run P (Wd w l d) = .ok 6 (Wd w l d)) (h2 : l[i]? = some (.cells (jcl dv a n g vt u o) ty (0, 0))) :
    stX P T 6 (some (.cells (jcl dv a n g vt u o) ty (0, 0))) w l d i 0 (.agg (hcl dv' a' n' g' vt' u')) = .ok () (Wd w (l.set i (.cells (jcl dv' a' n' g' vt' u' o) ty (0, 0))) d) := by
  rw [stX_mix h1 h2 rfl (by rw [jcl_size]; omega) (hcl_one hd hv)]; rfl
theorem stRA (h1 : (sizeOf T).run P (Wd w l d) = .ok 3 (Wd w l d)) (h2 : l[i]? = some (.cells (rcl g n t) ty (0, 0))) :
    stX P T 3 (some (.cells (rcl g n t) ty (0, 0))) w l d i 0 (.agg (rcl g' n' t')) = .ok () (Wd w (l.set i (.cells (rcl g' n' t') ty (0, 0))) d) := by
  rw [stX_mix h1 h2 rfl (by rw [rcl_size]; omega) rcl_one]; rfl
/-- A cell alone, that holds a slice. -/
theorem stO {v v' : Value} (hv : v'.oneCell' = true) (h1 : (sizeOf T).run P (Wd w l d) = .ok 1 (Wd w l d)) (h2 : l[i]? = some (.cells #[v] ty (0, 0))) :
    stX P T 1 (some (.cells #[v] ty (0, 0))) w l d i 0 v' = .ok () (Wd w (l.set i (.cells #[v'] ty (0, 0))) d) := by
  rw [stX_mix1 h1 hv h2 (by simp)]; rfl
end
/-! ### literal slices -/
section
variable {P : Program} {T E : TypeId} {z : Value} (hT : P.underlying T = some (.slice E)) (hs : ∀ W, (sizeOf E).run P W = .ok 1 W) (hz : (P.info? E).bind (·.zero) = some z) (hzc : z.cells = #[z]) (w : World) (l : List Obj) (d : Nat)
include hT hs hz hzc
theorem bsV1 {v : Value} (hv : v.oneCell' = true) : (Go.Proofs.YtjgfljckmckhcaaDoor.bsN T 1 #[(0, v)]).run P (Wd w l d) = .ok (.slice (some ⟨w.heap.size + l.length, 0, none⟩) 1 1) (Wd w (l ++ [.cells #[v] E (0, 0)]) d) := by
  have hc := cells_one hv
  have hr : Array.range 1 = #[0] := by
    apply Array.ext'; rw [Array.toList_range]; rfl
  unfold Go.Proofs.YtjgfljckmckhcaaDoor.bsN Instr.buildSlice
  simp [run_underlying hT, hs, hr, run_zeroOf' hz, hzc, hc, Instr.fill, newRow, Wd_size, Wd_alloc]
theorem bsV2 {v v2 : Value} (hv : v.oneCell' = true) (hv2 : v2.oneCell' = true) : (Go.Proofs.YtjgfljckmckhcaaDoor.bsN T 2 #[(0, v), (1, v2)]).run P (Wd w l d) = .ok (.slice (some ⟨w.heap.size + l.length, 0, none⟩) 2 2) (Wd w (l ++ [.cells #[v, v2] E (0, 0)]) d) := by
  have hc := cells_one hv
  have hc2 := cells_one hv2
  have hr : Array.range 2 = #[0, 1] := by
    apply Array.ext'; rw [Array.toList_range]; rfl
  unfold Go.Proofs.YtjgfljckmckhcaaDoor.bsN Instr.buildSlice
  simp [run_underlying hT, hs, hr, run_zeroOf' hz, hzc, hc, hc2, Instr.fill, newRow, Wd_size, Wd_alloc]
theorem bsV3 {v v2 v3 : Value} (hv : v.oneCell' = true) (hv2 : v2.oneCell' = true) (hv3 : v3.oneCell' = true) : (Go.Proofs.YtjgfljckmckhcaaDoor.bsN T 3 #[(0, v), (1, v2), (2, v3)]).run P (Wd w l d) = .ok (.slice (some ⟨w.heap.size + l.length, 0, none⟩) 3 3) (Wd w (l ++ [.cells #[v, v2, v3] E (0, 0)]) d) := by
  have hc := cells_one hv
  have hc2 := cells_one hv2
  have hc3 := cells_one hv3
  have hr : Array.range 3 = #[0, 1, 2] := by
    apply Array.ext'; rw [Array.toList_range]; rfl
  unfold Go.Proofs.YtjgfljckmckhcaaDoor.bsN Instr.buildSlice
  simp [run_underlying hT, hs, hr, run_zeroOf' hz, hzc, hc, hc2, hc3, Instr.fill, newRow, Wd_size, Wd_alloc]
end
end Go.Own
namespace Go.Proofs.YtjgfljckmckhcaaDoor
open Go.RowKit Go.Own
theorem agj9 : aggSize Tryd.prog 9 = none := by kernel_rfl
theorem csj9 : Tryd.prog.cellsOf 9 = 1 := by kernel_rfl
theorem szj9 (w : World) : (sizeOf 9).run Tryd.prog w = .ok 1 w := by kernel_rfl
theorem isaj9 (w : World) : (isAgg 9).run Tryd.prog w = .ok false w := by kernel_rfl
theorem agj25 : aggSize Tryd.prog 25 = none := by kernel_rfl
theorem csj25 : Tryd.prog.cellsOf 25 = 1 := by kernel_rfl
theorem szj25 (w : World) : (sizeOf 25).run Tryd.prog w = .ok 1 w := by kernel_rfl
theorem isaj25 (w : World) : (isAgg 25).run Tryd.prog w = .ok false w := by kernel_rfl
theorem agj29 : aggSize Tryd.prog 29 = none := by kernel_rfl
theorem csj29 : Tryd.prog.cellsOf 29 = 1 := by kernel_rfl
theorem szj29 (w : World) : (sizeOf 29).run Tryd.prog w = .ok 1 w := by kernel_rfl
theorem isaj29 (w : World) : (isAgg 29).run Tryd.prog w = .ok false w := by kernel_rfl
theorem agj32 : aggSize Tryd.prog 32 = none := by kernel_rfl
theorem csj32 : Tryd.prog.cellsOf 32 = 1 := by kernel_rfl
theorem szj32 (w : World) : (sizeOf 32).run Tryd.prog w = .ok 1 w := by kernel_rfl
theorem isaj32 (w : World) : (isAgg 32).run Tryd.prog w = .ok false w := by kernel_rfl
theorem agj38 : aggSize Tryd.prog 38 = none := by kernel_rfl
theorem csj38 : Tryd.prog.cellsOf 38 = 1 := by kernel_rfl
theorem szj38 (w : World) : (sizeOf 38).run Tryd.prog w = .ok 1 w := by kernel_rfl
theorem isaj38 (w : World) : (isAgg 38).run Tryd.prog w = .ok false w := by kernel_rfl
theorem agj54 : aggSize Tryd.prog 54 = none := by kernel_rfl
theorem csj54 : Tryd.prog.cellsOf 54 = 1 := by kernel_rfl
theorem szj54 (w : World) : (sizeOf 54).run Tryd.prog w = .ok 1 w := by kernel_rfl
theorem isaj54 (w : World) : (isAgg 54).run Tryd.prog w = .ok false w := by kernel_rfl
theorem agj78 : aggSize Tryd.prog 78 = none := by kernel_rfl
theorem csj78 : Tryd.prog.cellsOf 78 = 1 := by kernel_rfl
theorem szj78 (w : World) : (sizeOf 78).run Tryd.prog w = .ok 1 w := by kernel_rfl
theorem isaj78 (w : World) : (isAgg 78).run Tryd.prog w = .ok false w := by kernel_rfl
theorem agj80 : aggSize Tryd.prog 80 = none := by kernel_rfl
theorem csj80 : Tryd.prog.cellsOf 80 = 1 := by kernel_rfl
theorem szj80 (w : World) : (sizeOf 80).run Tryd.prog w = .ok 1 w := by kernel_rfl
theorem isaj80 (w : World) : (isAgg 80).run Tryd.prog w = .ok false w := by kernel_rfl
theorem agj84 : aggSize Tryd.prog 84 = none := by kernel_rfl
theorem csj84 : Tryd.prog.cellsOf 84 = 1 := by kernel_rfl
theorem szj84 (w : World) : (sizeOf 84).run Tryd.prog w = .ok 1 w := by kernel_rfl
theorem isaj84 (w : World) : (isAgg 84).run Tryd.prog w = .ok false w := by kernel_rfl
theorem agj110 : aggSize Tryd.prog 110 = none := by kernel_rfl
theorem csj110 : Tryd.prog.cellsOf 110 = 1 := by kernel_rfl
theorem szj110 (w : World) : (sizeOf 110).run Tryd.prog w = .ok 1 w := by kernel_rfl
theorem isaj110 (w : World) : (isAgg 110).run Tryd.prog w = .ok false w := by kernel_rfl
theorem agj61 : aggSize Tryd.prog 61 = some 6 := by kernel_rfl
theorem csj61 : Tryd.prog.cellsOf 61 = 6 := by kernel_rfl
theorem szj61 (w : World) : (sizeOf 61).run Tryd.prog w = .ok 6 w := by kernel_rfl
theorem agj64 : aggSize Tryd.prog 64 = some 7 := by kernel_rfl
theorem csj64 : Tryd.prog.cellsOf 64 = 7 := by kernel_rfl
theorem szj64 (w : World) : (sizeOf 64).run Tryd.prog w = .ok 7 w := by kernel_rfl
theorem agj88 : aggSize Tryd.prog 88 = some 3 := by kernel_rfl
theorem csj88 : Tryd.prog.cellsOf 88 = 3 := by kernel_rfl
theorem szj88 (w : World) : (sizeOf 88).run Tryd.prog w = .ok 3 w := by kernel_rfl
theorem agj100 : aggSize Tryd.prog 100 = some 2 := by kernel_rfl
theorem csj100 : Tryd.prog.cellsOf 100 = 2 := by kernel_rfl
theorem szj100 (w : World) : (sizeOf 100).run Tryd.prog w = .ok 2 w := by kernel_rfl
theorem zj61 : zeroOf Tryd.prog 61 = .agg (hcl (.pointer none) 0 0 0 (.slice none 0 0) 0) := by kernel_rfl
theorem zj64 : zeroOf Tryd.prog 64 = .agg (jcl (.pointer none) 0 0 0 (.slice none 0 0) 0 false) := by kernel_rfl
theorem zj88 : zeroOf Tryd.prog 88 = .agg (rcl 0 0 .empty) := by kernel_rfl
theorem zj100 : zeroOf Tryd.prog 100 = .agg #[.pointer none, .slice none 0 0] := by kernel_rfl
theorem zj78 : zeroOf Tryd.prog 78 = .slice none 0 0 := by kernel_rfl
theorem alj78 {w : World} {l : List Obj} {d : Nat} : alX Tryd.prog 78 (.slice none 0 0) w l d = .ok (.pointer (some ⟨w.heap.size + l.length, 0, none⟩)) (Wd w (l ++ [.cells #[.slice none 0 0] 78 (0, 0)]) d) := alXS (by kernel_rfl)
theorem buj61 (p : Option Addr) (a n : Nat) (W : World) : (buN 61 #[(0, .pointer p), (1, .int .i64 (a : Int)), (2, .int .i64 (n : Int))]).run Tryd.prog W = .ok (.agg (hcl (.pointer p) a n 0 (.slice none 0 0) 0)) W := by kernel_rfl
theorem buj61b (p : Option Addr) (n : Nat) (W : World) : (buN 61 #[(0, .pointer p), (2, .int .i64 (n : Int))]).run Tryd.prog W = .ok (.agg (hcl (.pointer p) 0 n 0 (.slice none 0 0) 0)) W := by kernel_rfl
theorem buj64 (p q : Option Addr) (a n g x c u : Nat) (W : World) : (buN 64 #[(0, .agg (hcl (.pointer p) a n g (.slice q x c) u))]).run Tryd.prog W = .ok (.agg (jcl (.pointer p) a n g (.slice q x c) u false)) W := by kernel_rfl
theorem buj88 (g n : Nat) (t : ByteArray) (W : World) : (buN 88 #[(0, .int .u64 (g : Int)), (1, .int .u64 (n : Int)), (2, .string t)]).run Tryd.prog W = .ok (.agg (rcl g n t)) W := by kernel_rfl
theorem buj88z (W : World) : (buN 88 #[]).run Tryd.prog W = .ok (.agg (rcl 0 0 .empty)) W := by kernel_rfl
theorem bsj32 {v : Value} (hv : v.oneCell' = true) (w : World) (l : List Obj) (d : Nat) : (bsN 32 1 #[(0, v)]).run Tryd.prog (Wd w l d) = .ok (.slice (some ⟨w.heap.size + l.length, 0, none⟩) 1 1) (Wd w (l ++ [.cells #[v] 9 (0, 0)]) d) := bsV1 Tryd.underlying32 szj9 (z := .string .empty) (by kernel_rfl) rfl w l d hv
theorem bsj78 {v : Value} (hv : v.oneCell' = true) (w : World) (l : List Obj) (d : Nat) : (bsN 78 1 #[(0, v)]).run Tryd.prog (Wd w l d) = .ok (.slice (some ⟨w.heap.size + l.length, 0, none⟩) 1 1) (Wd w (l ++ [.cells #[v] 80 (0, 0)]) d) := bsV1 Tryd.underlying78 szj80 (z := .nilFunc) (by kernel_rfl) rfl w l d hv
theorem bsj782 {v v2 : Value} (hv : v.oneCell' = true) (hv2 : v2.oneCell' = true) (w : World) (l : List Obj) (d : Nat) : (bsN 78 2 #[(0, v), (1, v2)]).run Tryd.prog (Wd w l d) = .ok (.slice (some ⟨w.heap.size + l.length, 0, none⟩) 2 2) (Wd w (l ++ [.cells #[v, v2] 80 (0, 0)]) d) := bsV2 Tryd.underlying78 szj80 (z := .nilFunc) (by kernel_rfl) rfl w l d hv hv2
theorem bsj84 {v : Value} (hv : v.oneCell' = true) (w : World) (l : List Obj) (d : Nat) : (bsN 84 1 #[(0, v)]).run Tryd.prog (Wd w l d) = .ok (.slice (some ⟨w.heap.size + l.length, 0, none⟩) 1 1) (Wd w (l ++ [.cells #[v] 78 (0, 0)]) d) := bsV1 Tryd.underlying84 szj78 (z := .slice none 0 0) (by kernel_rfl) rfl w l d hv
theorem bsj842 {v v2 : Value} (hv : v.oneCell' = true) (hv2 : v2.oneCell' = true) (w : World) (l : List Obj) (d : Nat) : (bsN 84 2 #[(0, v), (1, v2)]).run Tryd.prog (Wd w l d) = .ok (.slice (some ⟨w.heap.size + l.length, 0, none⟩) 2 2) (Wd w (l ++ [.cells #[v, v2] 78 (0, 0)]) d) := bsV2 Tryd.underlying84 szj78 (z := .slice none 0 0) (by kernel_rfl) rfl w l d hv hv2
theorem bsj843 {v v2 v3 : Value} (hv : v.oneCell' = true) (hv2 : v2.oneCell' = true) (hv3 : v3.oneCell' = true) (w : World) (l : List Obj) (d : Nat) : (bsN 84 3 #[(0, v), (1, v2), (2, v3)]).run Tryd.prog (Wd w l d) = .ok (.slice (some ⟨w.heap.size + l.length, 0, none⟩) 3 3) (Wd w (l ++ [.cells #[v, v2, v3] 78 (0, 0)]) d) := bsV3 Tryd.underlying84 szj78 (z := .slice none 0 0) (by kernel_rfl) rfl w l d hv hv2 hv3
theorem rowT_of {P : Program} {T E : TypeId} {sz : Nat} (hT : P.underlying T = some (.slice E)) (h : (P.info? E).map (fun i => (i.zero.map fun z => z.cells.size, i.size, decide (i.bytes ≤ 1048576))) = some (some sz, sz, true)) : RowT P T E sz := ⟨hT, by
  cases hi : P.info? E with
  | none => rw [hi] at h; cases h
  | some i =>
    rw [hi] at h
    cases hz : i.zero with
    | none => simp [hz] at h
    | some z =>
      simp [hz] at h
      exact ⟨i, z, rfl, hz, h.2.1, h.1, h.2.2⟩⟩
theorem rt32 : RowT Tryd.prog 32 9 1 := rowT_of Tryd.underlying32 (by kernel_rfl)
theorem rt78 : RowT Tryd.prog 78 80 1 := rowT_of Tryd.underlying78 (by kernel_rfl)
theorem rt84 : RowT Tryd.prog 84 78 1 := rowT_of Tryd.underlying84 (by kernel_rfl)
theorem mk0 (a : Nat) : (mkS [a]) = ⟨#[UInt8.ofNat a]⟩ := rfl
end Go.Proofs.YtjgfljckmckhcaaDoor

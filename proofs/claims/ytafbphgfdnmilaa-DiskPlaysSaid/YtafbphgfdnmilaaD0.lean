/- A disk's own block, and a write's: the laws to read and write them. No condition. -/
import Derived.Test.YtafbphgfdnmilaaMix
import Derived.Test.YtafbphgfdnmilaaRows
import Derived.Deep.QuietTactic
import Derived.BigQuiet
import Derived.StillTailTactics
import Derived.Test.YtafbphgfdnmilaaReg3
import Derived.Test.YtafbphgfdnmilaaU64
namespace Go.Own
open Go.RowKit

/-- A disk's cells. -/
def dc (vs vl vw : Value) (n : Nat) (a : Int) (k : Nat) (t : Int) (o : Bool) : Array Value := #[vs, vl, vw, .int .i64 (n : Int), .int .i64 a, .int .u64 (k : Int), .int .i64 t, .bool o]
/-- A cut's. -/
def kc (a : Int) (k : Nat) (t : Int) : Array Value := #[.int .i64 a, .int .u64 (k : Int), .int .i64 t]
theorem kc_size (a : Int) (k : Nat) (t : Int) : (kc a k t).size = 3 := rfl
theorem dc_size (vs vl vw : Value) (n : Nat) (a : Int) (k : Nat) (t : Int) (o : Bool) : (dc vs vl vw n a k t o).size = 8 := rfl
/-- A write's cells. -/
def wv (a : Nat) (x : List Nat) : Array Value := #[.int .i64 (a : Int)] ++ cv .u8 x
theorem wv_size (a : Nat) (x : List Nat) : (wv a x).size = x.length + 1 := by simp [wv]; omega
theorem wv_list (a : Nat) (x : List Nat) : (wv a x).toList = .int .i64 (a : Int) :: (cv .u8 x).toList := by simp [wv]
theorem wv_one (a : Nat) (x : List Nat) : ∀ v ∈ (wv a x).toList, v.oneCell' = true := by
  intro v hv
  rw [wv_list, List.mem_cons] at hv
  rcases hv with rfl | h
  · rfl
  · exact cv_oneCell v h
theorem kc_one (a : Int) (k : Nat) (t : Int) : ∀ v ∈ (kc a k t).toList, v.oneCell' = true := by
  intro v hv
  simp [kc] at hv
  rcases hv with rfl | rfl | rfl <;> rfl
theorem dc_one {vs vl vw : Value} {n : Nat} {a : Int} {k : Nat} {t : Int} {o : Bool} (h1 : vs.oneCell' = true) (h2 : vl.oneCell' = true) (h3 : vw.oneCell' = true) : ∀ v ∈ (dc vs vl vw n a k t o).toList, v.oneCell' = true := by
  intro v hv
  simp [dc] at hv
  rcases hv with rfl | rfl | rfl | rfl | rfl | rfl | rfl | rfl <;> first | assumption | rfl

section
variable {P : Program} {T : TypeId} {b : Nat} {W : World} {vs vl vw : Value} {n : Nat} {a : Int} {k : Nat} {t : Int} {o : Bool} {ty : TypeId} {f : Nat × Nat}
theorem ldD0 (ha : (isAgg T).run P W = .ok false W) (h2 : blk W b = some (.cells (dc vs vl vw n a k t o) ty f)) : ldX P T none (some (.cells (dc vs vl vw n a k t o) ty f)) b 0 W = .ok vs W := ldX_mix1 ha h2 rfl
theorem ldD1 (ha : (isAgg T).run P W = .ok false W) (h2 : blk W b = some (.cells (dc vs vl vw n a k t o) ty f)) : ldX P T none (some (.cells (dc vs vl vw n a k t o) ty f)) b 1 W = .ok vl W := ldX_mix1 ha h2 rfl
theorem ldD2 (ha : (isAgg T).run P W = .ok false W) (h2 : blk W b = some (.cells (dc vs vl vw n a k t o) ty f)) : ldX P T none (some (.cells (dc vs vl vw n a k t o) ty f)) b 2 W = .ok vw W := ldX_mix1 ha h2 rfl
theorem ldD3 (ha : (isAgg T).run P W = .ok false W) (h2 : blk W b = some (.cells (dc vs vl vw n a k t o) ty f)) : ldX P T none (some (.cells (dc vs vl vw n a k t o) ty f)) b 3 W = .ok (.int .i64 (n : Int)) W := ldX_mix1 ha h2 rfl
theorem ldD4 (ha : (isAgg T).run P W = .ok false W) (h2 : blk W b = some (.cells (dc vs vl vw n a k t o) ty f)) : ldX P T none (some (.cells (dc vs vl vw n a k t o) ty f)) b 4 W = .ok (.int .i64 a) W := ldX_mix1 ha h2 rfl
theorem ldD5 (ha : (isAgg T).run P W = .ok false W) (h2 : blk W b = some (.cells (dc vs vl vw n a k t o) ty f)) : ldX P T none (some (.cells (dc vs vl vw n a k t o) ty f)) b 5 W = .ok (.int .u64 (k : Int)) W := ldX_mix1 ha h2 rfl
theorem ldD6 (ha : (isAgg T).run P W = .ok false W) (h2 : blk W b = some (.cells (dc vs vl vw n a k t o) ty f)) : ldX P T none (some (.cells (dc vs vl vw n a k t o) ty f)) b 6 W = .ok (.int .i64 t) W := ldX_mix1 ha h2 rfl
theorem ldD7 (ha : (isAgg T).run P W = .ok false W) (h2 : blk W b = some (.cells (dc vs vl vw n a k t o) ty f)) : ldX P T none (some (.cells (dc vs vl vw n a k t o) ty f)) b 7 W = .ok (.bool o) W := ldX_mix1 ha h2 rfl
theorem ldK (h1 : aggSize P T = some 3) (h2 : blk W b = some (.cells (kc a k t) ty f)) : ldX P T (some 3) (some (.cells (kc a k t) ty f)) b 0 W = .ok (.agg (kc a k t)) W := by
  rw [ldX_mix h1 h2 (by rw [kc_size]; omega)]; rfl
theorem ldK0 (ha : (isAgg T).run P W = .ok false W) (h2 : blk W b = some (.cells (kc a k t) ty f)) : ldX P T none (some (.cells (kc a k t) ty f)) b 0 W = .ok (.int .i64 a) W := ldX_mix1 ha h2 rfl
variable {w : World} {l : List Obj} {d i : Nat}
theorem stD2 {p : Option Addr} {x y : Nat} (h1 : (sizeOf T).run P (Wd w l d) = .ok 1 (Wd w l d)) (h2 : l[i]? = some (.cells (dc vs vl vw n a k t o) ty (0, 0))) :
    stX P T 1 (some (.cells (dc vs vl vw n a k t o) ty (0, 0))) w l d i 2 (.slice p x y) = .ok () (Wd w (l.set i (.cells (dc vs vl (.slice p x y) n a k t o) ty (0, 0))) d) := by
  rw [stX_mix1 h1 rfl h2 (by rw [dc_size]; omega)]; rfl
theorem stD3 {m : Nat} (h1 : (sizeOf T).run P (Wd w l d) = .ok 1 (Wd w l d)) (h2 : l[i]? = some (.cells (dc vs vl vw n a k t o) ty (0, 0))) :
    stX P T 1 (some (.cells (dc vs vl vw n a k t o) ty (0, 0))) w l d i 3 (.int .i64 (m : Int)) = .ok () (Wd w (l.set i (.cells (dc vs vl vw m a k t o) ty (0, 0))) d) := by
  rw [stX_mix1 h1 rfl h2 (by rw [dc_size]; omega)]; rfl
theorem stD3z (h1 : (sizeOf T).run P (Wd w l d) = .ok 1 (Wd w l d)) (h2 : l[i]? = some (.cells (dc vs vl vw n a k t o) ty (0, 0))) :
    stX P T 1 (some (.cells (dc vs vl vw n a k t o) ty (0, 0))) w l d i 3 (.int .i64 0) = .ok () (Wd w (l.set i (.cells (dc vs vl vw 0 a k t o) ty (0, 0))) d) := stD3 (m := 0) h1 h2
theorem stD4 {m : Int} (h1 : (sizeOf T).run P (Wd w l d) = .ok 1 (Wd w l d)) (h2 : l[i]? = some (.cells (dc vs vl vw n a k t o) ty (0, 0))) :
    stX P T 1 (some (.cells (dc vs vl vw n a k t o) ty (0, 0))) w l d i 4 (.int .i64 m) = .ok () (Wd w (l.set i (.cells (dc vs vl vw n m k t o) ty (0, 0))) d) := by
  rw [stX_mix1 h1 rfl h2 (by rw [dc_size]; omega)]; rfl
theorem stD7 {m : Bool} (h1 : (sizeOf T).run P (Wd w l d) = .ok 1 (Wd w l d)) (h2 : l[i]? = some (.cells (dc vs vl vw n a k t o) ty (0, 0))) :
    stX P T 1 (some (.cells (dc vs vl vw n a k t o) ty (0, 0))) w l d i 7 (.bool m) = .ok () (Wd w (l.set i (.cells (dc vs vl vw n a k t m) ty (0, 0))) d) := by
  rw [stX_mix1 h1 rfl h2 (by rw [dc_size]; omega)]; rfl
theorem stD47 {a' : Int} {k' : Nat} {t' : Int} (h1 : (sizeOf T).run P (Wd w l d) = .ok 3 (Wd w l d)) (h2 : l[i]? = some (.cells (dc vs vl vw n a k t o) ty (0, 0))) :
    stX P T 3 (some (.cells (dc vs vl vw n a k t o) ty (0, 0))) w l d i 4 (.agg (kc a' k' t')) = .ok () (Wd w (l.set i (.cells (dc vs vl vw n a' k' t' o) ty (0, 0))) d) := by
  rw [stX_mix h1 h2 rfl (by rw [dc_size]; omega) (kc_one _ _ _)]; rfl
theorem stK {a' : Int} {k' : Nat} {t' : Int} (h1 : (sizeOf T).run P (Wd w l d) = .ok 3 (Wd w l d)) (h2 : l[i]? = some (.cells (kc a k t) ty (0, 0))) :
    stX P T 3 (some (.cells (kc a k t) ty (0, 0))) w l d i 0 (.agg (kc a' k' t')) = .ok () (Wd w (l.set i (.cells (kc a' k' t') ty (0, 0))) d) := by
  rw [stX_mix h1 h2 rfl (by rw [kc_size]; omega) (kc_one _ _ _)]; rfl
end
end Go.Own
namespace Go.Proofs.Ytafbphgfdnmilaa
open Go.RowKit Go.Own
theorem ag3 : aggSize Try.prog 3 = none := by kernel_rfl
theorem ag4 : aggSize Try.prog 4 = none := by kernel_rfl
theorem ag5 : aggSize Try.prog 5 = none := by kernel_rfl
theorem ag9 : aggSize Try.prog 9 = none := by kernel_rfl
theorem ag29 : aggSize Try.prog 29 = none := by kernel_rfl
theorem ag30 : aggSize Try.prog 30 = none := by kernel_rfl
theorem ag31 : aggSize Try.prog 31 = none := by kernel_rfl
theorem ag33 : aggSize Try.prog 33 = some 3 := by kernel_rfl
theorem ag35 : aggSize Try.prog 35 = some 7 := by kernel_rfl
theorem ag38 : aggSize Try.prog 38 = some 6 := by kernel_rfl
theorem ag56 : aggSize Try.prog 56 = some 4 := by kernel_rfl
theorem ag63 : aggSize Try.prog 63 = none := by kernel_rfl
theorem ag64 : aggSize Try.prog 64 = none := by kernel_rfl
theorem ag66 : aggSize Try.prog 66 = some 8 := by kernel_rfl
theorem ag71 : aggSize Try.prog 71 = some 64 := by kernel_rfl
theorem ag74 : aggSize Try.prog 74 = some 65 := by kernel_rfl
theorem ag76 : aggSize Try.prog 76 = some 2 := by kernel_rfl
theorem cs3 : Try.prog.cellsOf 3 = 1 := by kernel_rfl
theorem cs4 : Try.prog.cellsOf 4 = 1 := by kernel_rfl
theorem cs5 : Try.prog.cellsOf 5 = 1 := by kernel_rfl
theorem cs9 : Try.prog.cellsOf 9 = 1 := by kernel_rfl
theorem cs29 : Try.prog.cellsOf 29 = 1 := by kernel_rfl
theorem cs30 : Try.prog.cellsOf 30 = 1 := by kernel_rfl
theorem cs31 : Try.prog.cellsOf 31 = 1 := by kernel_rfl
theorem cs33 : Try.prog.cellsOf 33 = 3 := by kernel_rfl
theorem cs35 : Try.prog.cellsOf 35 = 7 := by kernel_rfl
theorem cs38 : Try.prog.cellsOf 38 = 6 := by kernel_rfl
theorem cs56 : Try.prog.cellsOf 56 = 4 := by kernel_rfl
theorem cs63 : Try.prog.cellsOf 63 = 1 := by kernel_rfl
theorem cs64 : Try.prog.cellsOf 64 = 1 := by kernel_rfl
theorem cs66 : Try.prog.cellsOf 66 = 8 := by kernel_rfl
theorem cs71 : Try.prog.cellsOf 71 = 64 := by kernel_rfl
theorem cs74 : Try.prog.cellsOf 74 = 65 := by kernel_rfl
theorem cs76 : Try.prog.cellsOf 76 = 2 := by kernel_rfl
theorem sz3 (w : World) : (sizeOf 3).run Try.prog w = .ok 1 w := by kernel_rfl
theorem sz4 (w : World) : (sizeOf 4).run Try.prog w = .ok 1 w := by kernel_rfl
theorem sz5 (w : World) : (sizeOf 5).run Try.prog w = .ok 1 w := by kernel_rfl
theorem sz9 (w : World) : (sizeOf 9).run Try.prog w = .ok 1 w := by kernel_rfl
theorem sz29 (w : World) : (sizeOf 29).run Try.prog w = .ok 1 w := by kernel_rfl
theorem sz30 (w : World) : (sizeOf 30).run Try.prog w = .ok 1 w := by kernel_rfl
theorem sz31 (w : World) : (sizeOf 31).run Try.prog w = .ok 1 w := by kernel_rfl
theorem sz33 (w : World) : (sizeOf 33).run Try.prog w = .ok 3 w := by kernel_rfl
theorem sz35 (w : World) : (sizeOf 35).run Try.prog w = .ok 7 w := by kernel_rfl
theorem sz38 (w : World) : (sizeOf 38).run Try.prog w = .ok 6 w := by kernel_rfl
theorem sz56 (w : World) : (sizeOf 56).run Try.prog w = .ok 4 w := by kernel_rfl
theorem sz63 (w : World) : (sizeOf 63).run Try.prog w = .ok 1 w := by kernel_rfl
theorem sz64 (w : World) : (sizeOf 64).run Try.prog w = .ok 1 w := by kernel_rfl
theorem sz66 (w : World) : (sizeOf 66).run Try.prog w = .ok 8 w := by kernel_rfl
theorem sz71 (w : World) : (sizeOf 71).run Try.prog w = .ok 64 w := by kernel_rfl
theorem sz74 (w : World) : (sizeOf 74).run Try.prog w = .ok 65 w := by kernel_rfl
theorem sz76 (w : World) : (sizeOf 76).run Try.prog w = .ok 2 w := by kernel_rfl
theorem isa3 (w : World) : (isAgg 3).run Try.prog w = .ok false w := by kernel_rfl
theorem isa4 (w : World) : (isAgg 4).run Try.prog w = .ok false w := by kernel_rfl
theorem isa5 (w : World) : (isAgg 5).run Try.prog w = .ok false w := by kernel_rfl
theorem isa9 (w : World) : (isAgg 9).run Try.prog w = .ok false w := by kernel_rfl
theorem isa29 (w : World) : (isAgg 29).run Try.prog w = .ok false w := by kernel_rfl
theorem isa30 (w : World) : (isAgg 30).run Try.prog w = .ok false w := by kernel_rfl
theorem isa31 (w : World) : (isAgg 31).run Try.prog w = .ok false w := by kernel_rfl
theorem isa63 (w : World) : (isAgg 63).run Try.prog w = .ok false w := by kernel_rfl
theorem isa64 (w : World) : (isAgg 64).run Try.prog w = .ok false w := by kernel_rfl
theorem z71 : zeroOf Try.prog 71 = .agg (cv .u8 (rep 64)) := by kernel_rfl
theorem z74 : zeroOf Try.prog 74 = .agg (wv 0 (rep 64)) := by kernel_rfl
theorem z5 : zeroOf Try.prog 5 = .int .u8 0 := by kernel_rfl
theorem bu33 (W : World) : (buN 33 #[]).run Try.prog W = .ok (.agg (kc 0 0 0)) W := by kernel_rfl
attribute [go_sem] ag3 ag4 ag5 ag9 ag29 ag30 ag31 ag33 ag35 ag38 ag56 ag63 ag64 ag66 ag71 ag74 ag76
attribute [go_sem] cs3 cs4 cs5 cs9 cs29 cs30 cs31 cs33 cs35 cs38 cs56 cs63 cs64 cs66 cs71 cs74 cs76
attribute [go_sem] sz3 sz4 sz5 sz9 sz29 sz30 sz31 sz33 sz35 sz38 sz56 sz63 sz64 sz66 sz71 sz74 sz76
attribute [go_sem] isa3 isa4 isa5 isa9 isa29 isa30 isa31 isa63 isa64 z71 z74 z5 bu33
attribute [go_sem] ldD0 ldD1 ldD2 ldD3 ldD4 ldD5 ldD6 ldD7 ldK ldK0 stD2 stD3 stD3z stD4 stD7 stD47 stK

theorem down_any (w : World) (l : List Obj) (d i : Nat) {vs vl vw : Value} {n : Nat} {a : Int} {k : Nat} {t : Int} {o : Bool} (h : l[i]? = some (.cells (dc vs vl vw n a k t o) 66 (0, 0))) :
    Calls Try.prog 22 #[.pointer (some ⟨w.heap.size + i, 0, none⟩)] (Wd w l d) fun e w' => e = .returned (.bool o) ∧ Wd w l d = w' := by
  go_enter Try.func22, Try.ntmps22
  go_wp2
  go_ret
  exact ⟨rfl, rfl⟩
theorem size_any (w : World) (l : List Obj) (d i : Nat) {p : Option Addr} {m c : Nat} {vl vw : Value} {n : Nat} {a : Int} {k : Nat} {t : Int} {o : Bool} (h : l[i]? = some (.cells (dc (.slice p m c) vl vw n a k t o) 66 (0, 0))) :
    Calls Try.prog 23 #[.pointer (some ⟨w.heap.size + i, 0, none⟩)] (Wd w l d) fun e w' => e = .returned (.int .i64 (m : Int)) ∧ Wd w l d = w' := by
  go_enter Try.func23, Try.ntmps23
  go_wp2
  go_ret
  exact ⟨rfl, rfl⟩
theorem start_any (w : World) (l : List Obj) (d i : Nat) {vs vl vw : Value} {n : Nat} {a : Int} {k : Nat} {t : Int} {o : Bool} (h : l[i]? = some (.cells (dc vs vl vw n a k t o) 66 (0, 0))) :
    Calls Try.prog 21 #[.pointer (some ⟨w.heap.size + i, 0, none⟩)] (Wd w l d) fun e w' => e = .returned (.tuple #[]) ∧ w' = Wd w (l.set i (.cells (dc vs vl vw n a k t false) 66 (0, 0))) d := by
  go_enter Try.func21, Try.ntmps21
  go_wp2
  go_end0
  exact ⟨rfl, rfl⟩
end Go.Proofs.Ytafbphgfdnmilaa

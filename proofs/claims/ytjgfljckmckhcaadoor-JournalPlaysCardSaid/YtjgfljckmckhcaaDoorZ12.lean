/- A disk's own block, and a write's: the laws to read and write them. No condition. | A disk's small calls: refused, Arm, keeper's closure, filled: by contract. No condition. -/
import Derived.Test.YtjgfljckmckhcaaDoorZ04
import Derived.Test.YtjgfljckmckhcaaDoorRows
import Derived.Deep.QuietTactic
import Derived.BigQuiet
import Derived.StillTailTactics
import Derived.Test.YtjgfljckmckhcaaDoorZ11
namespace Go.Own
open Go.RowKit

/-- A disk's cells. -/
def dc (vs vl vw : Value) (n : Nat) (a : Int) (k : Nat) (t : Int) (o : Bool) : Array Value := #[vs, vl, vw, .int .i64 (n : Int), .int .i64 a, .int .u64 (k : Int), .int .i64 t, .bool o]
/-- A cut's. -/
def kc (a : Int) (k : Nat) (t : Int) : Array Value := #[.int .i64 a, .int .u64 (k : Int), .int .i64 t]
theorem kc_size (a : Int) (k : Nat) (t : Int) : (kc a k t).size = 3 := rfl
theorem dc_size (vs vl vw : Value) (n : Nat) (a : Int) (k : Nat) (t : Int) (o : Bool) : (dc vs vl vw n a k t o).size = 8 := rfl
/-- A write's cells. -/
def wv (a : Nat) (x : List Nat) : Array Value := #[.int .i64 (a : Int)] ++ cv .u8 x
theorem wv_size (a : Nat) (x : List Nat) : (wv a x).size = x.length + 1 := by simp [wv]; omega
theorem wv_list (a : Nat) (x : List Nat) : (wv a x).toList = .int .i64 (a : Int) :: (cv .u8 x).toList := by simp [wv]
theorem wv_one (a : Nat) (x : List Nat) : ∀ v ∈ (wv a x).toList, v.oneCell' = true := by
  intro v hv
  rw [wv_list, List.mem_cons] at hv
  rcases hv with rfl | h
  · rfl
  · exact cv_oneCell v h
theorem kc_one (a : Int) (k : Nat) (t : Int) : ∀ v ∈ (kc a k t).toList, v.oneCell' = true := by
  intro v hv
  simp [kc] at hv
  rcases hv with rfl | rfl | rfl <;> rfl
theorem dc_one {vs vl vw : Value} {n : Nat} {a : Int} {k : Nat} {t : Int} {o : Bool} (h1 : vs.oneCell' = true) (h2 : vl.oneCell' = true) (h3 : vw.oneCell' = true) : ∀ v ∈ (dc vs vl vw n a k t o).toList, v.oneCell' = true := by
  intro v hv
  simp [dc] at hv
  rcases hv with rfl | rfl | rfl | rfl | rfl | rfl | rfl | rfl <;> first | assumption | rfl

section
variable {P : Program} {T : TypeId} {b : Nat} {W : World} {vs vl vw : Value} {n : Nat} {a : Int} {k : Nat} {t : Int} {o : Bool} {ty : TypeId} {f : Nat × Nat}
theorem ldD0 (ha : (isAgg T).run P W = .ok false W) (h2 : blk W b = some (.cells (dc vs vl vw n a k t o) ty f)) : ldX P T none (some (.cells (dc vs vl vw n a k t o) ty f)) b 0 W = .ok vs W := ldX_mix1 ha h2 rfl
theorem ldD1 (ha : (isAgg T).run P W = .ok false W) (h2 : blk W b = some (.cells (dc vs vl vw n a k t o) ty f)) : ldX P T none (some (.cells (dc vs vl vw n a k t o) ty f)) b 1 W = .ok vl W := ldX_mix1 ha h2 rfl
theorem ldD2 (ha : (isAgg T).run P W = .ok false W) (h2 : blk W b = some (.cells (dc vs vl vw n a k t o) ty f)) : ldX P T none (some (.cells (dc vs vl vw n a k t o) ty f)) b 2 W = .ok vw W := ldX_mix1 ha h2 rfl
theorem ldD3 (ha : (isAgg T).run P W = .ok false W) (h2 : blk W b = some (.cells (dc vs vl vw n a k t o) ty f)) : ldX P T none (some (.cells (dc vs vl vw n a k t o) ty f)) b 3 W = .ok (.int .i64 (n : Int)) W := ldX_mix1 ha h2 rfl
theorem ldD4 (ha : (isAgg T).run P W = .ok false W) (h2 : blk W b = some (.cells (dc vs vl vw n a k t o) ty f)) : ldX P T none (some (.cells (dc vs vl vw n a k t o) ty f)) b 4 W = .ok (.int .i64 a) W := ldX_mix1 ha h2 rfl
theorem ldD5 (ha : (isAgg T).run P W = .ok false W) (h2 : blk W b = some (.cells (dc vs vl vw n a k t o) ty f)) : ldX P T none (some (.cells (dc vs vl vw n a k t o) ty f)) b 5 W = .ok (.int .u64 (k : Int)) W := ldX_mix1 ha h2 rfl
theorem ldD6 (ha : (isAgg T).run P W = .ok false W) (h2 : blk W b = some (.cells (dc vs vl vw n a k t o) ty f)) : ldX P T none (some (.cells (dc vs vl vw n a k t o) ty f)) b 6 W = .ok (.int .i64 t) W := ldX_mix1 ha h2 rfl
theorem ldD7 (ha : (isAgg T).run P W = .ok false W) (h2 : blk W b = some (.cells (dc vs vl vw n a k t o) ty f)) : ldX P T none (some (.cells (dc vs vl vw n a k t o) ty f)) b 7 W = .ok (.bool o) W := ldX_mix1 ha h2 rfl
theorem ldK (h1 : aggSize P T = some 3) (h2 : blk W b = some (.cells (kc a k t) ty f)) : ldX P T (some 3) (some (.cells (kc a k t) ty f)) b 0 W = .ok (.agg (kc a k t)) W := by
  rw [ldX_mix h1 h2 (by rw [kc_size]; omega)]; rfl
theorem ldK0 (ha : (isAgg T).run P W = .ok false W) (h2 : blk W b = some (.cells (kc a k t) ty f)) : ldX P T none (some (.cells (kc a k t) ty f)) b 0 W = .ok (.int .i64 a) W := ldX_mix1 ha h2 rfl
variable {w : World} {l : List Obj} {d i : Nat}
theorem stD2 {p : Option Addr} {x y : Nat} (h1 : (sizeOf T).run P (Wd w l d) = .ok 1 (Wd w l d)) (h2 : l[i]? = some (.cells (dc vs vl vw n a k t o) ty (0, 0))) :
    stX P T 1 (some (.cells (dc vs vl vw n a k t o) ty (0, 0))) w l d i 2 (.slice p x y) = .ok () (Wd w (l.set i (.cells (dc vs vl (.slice p x y) n a k t o) ty (0, 0))) d) := by
  rw [stX_mix1 h1 rfl h2 (by rw [dc_size]; omega)]; rfl
theorem stD3 {m : Nat} (h1 : (sizeOf T).run P (Wd w l d) = .ok 1 (Wd w l d)) (h2 : l[i]? = some (.cells (dc vs vl vw n a k t o) ty (0, 0))) :
    stX P T 1 (some (.cells (dc vs vl vw n a k t o) ty (0, 0))) w l d i 3 (.int .i64 (m : Int)) = .ok () (Wd w (l.set i (.cells (dc vs vl vw m a k t o) ty (0, 0))) d) := by
  rw [stX_mix1 h1 rfl h2 (by rw [dc_size]; omega)]; rfl
theorem stD3z (h1 : (sizeOf T).run P (Wd w l d) = .ok 1 (Wd w l d)) (h2 : l[i]? = some (.cells (dc vs vl vw n a k t o) ty (0, 0))) :
    stX P T 1 (some (.cells (dc vs vl vw n a k t o) ty (0, 0))) w l d i 3 (.int .i64 0) = .ok () (Wd w (l.set i (.cells (dc vs vl vw 0 a k t o) ty (0, 0))) d) := stD3 (m := 0) h1 h2
theorem stD4 {m : Int} (h1 : (sizeOf T).run P (Wd w l d) = .ok 1 (Wd w l d)) (h2 : l[i]? = some (.cells (dc vs vl vw n a k t o) ty (0, 0))) :
    stX P T 1 (some (.cells (dc vs vl vw n a k t o) ty (0, 0))) w l d i 4 (.int .i64 m) = .ok () (Wd w (l.set i (.cells (dc vs vl vw n m k t o) ty (0, 0))) d) := by
  rw [stX_mix1 h1 rfl h2 (by rw [dc_size]; omega)]; rfl
theorem stD7 {m : Bool} (h1 : (sizeOf T).run P (Wd w l d) = .ok 1 (Wd w l d)) (h2 : l[i]? = some (.cells (dc vs vl vw n a k t o) ty (0, 0))) :
    stX P T 1 (some (.cells (dc vs vl vw n a k t o) ty (0, 0))) w l d i 7 (.bool m) = .ok () (Wd w (l.set i (.cells (dc vs vl vw n a k t m) ty (0, 0))) d) := by
  rw [stX_mix1 h1 rfl h2 (by rw [dc_size]; omega)]; rfl
theorem stD47 {a' : Int} {k' : Nat} {t' : Int} (h1 : (sizeOf T).run P (Wd w l d) = .ok 3 (Wd w l d)) (h2 : l[i]? = some (.cells (dc vs vl vw n a k t o) ty (0, 0))) :
    stX P T 3 (some (.cells (dc vs vl vw n a k t o) ty (0, 0))) w l d i 4 (.agg (kc a' k' t')) = .ok () (Wd w (l.set i (.cells (dc vs vl vw n a' k' t' o) ty (0, 0))) d) := by
  rw [stX_mix h1 h2 rfl (by rw [dc_size]; omega) (kc_one _ _ _)]; rfl
theorem stK {a' : Int} {k' : Nat} {t' : Int} (h1 : (sizeOf T).run P (Wd w l d) = .ok 3 (Wd w l d)) (h2 : l[i]? = some (.cells (kc a k t) ty (0, 0))) :
    stX P T 3 (some (.cells (kc a k t) ty (0, 0))) w l d i 0 (.agg (kc a' k' t')) = .ok () (Wd w (l.set i (.cells (kc a' k' t') ty (0, 0))) d) := by
  rw [stX_mix h1 h2 rfl (by rw [kc_size]; omega) (kc_one _ _ _)]; rfl
end
end Go.Own
namespace Go.Proofs.YtjgfljckmckhcaaDoor
open Go.RowKit Go.Own
theorem ag3 : aggSize Tryd.prog 3 = none := by kernel_rfl
theorem ag4 : aggSize Tryd.prog 4 = none := by kernel_rfl
theorem ag5 : aggSize Tryd.prog 5 = none := by kernel_rfl
theorem ag9 : aggSize Tryd.prog 9 = none := by kernel_rfl
theorem ag32 : aggSize Tryd.prog 32 = none := by kernel_rfl
theorem ag38 : aggSize Tryd.prog 38 = none := by kernel_rfl
theorem ag40 : aggSize Tryd.prog 40 = some 3 := by kernel_rfl
theorem ag56 : aggSize Tryd.prog 56 = none := by kernel_rfl
theorem ag57 : aggSize Tryd.prog 57 = none := by kernel_rfl
theorem ag59 : aggSize Tryd.prog 59 = some 8 := by kernel_rfl
theorem ag71 : aggSize Tryd.prog 71 = some 64 := by kernel_rfl
theorem ag74 : aggSize Tryd.prog 74 = some 65 := by kernel_rfl
theorem cs3 : Tryd.prog.cellsOf 3 = 1 := by kernel_rfl
theorem cs4 : Tryd.prog.cellsOf 4 = 1 := by kernel_rfl
theorem cs5 : Tryd.prog.cellsOf 5 = 1 := by kernel_rfl
theorem cs9 : Tryd.prog.cellsOf 9 = 1 := by kernel_rfl
theorem cs32 : Tryd.prog.cellsOf 32 = 1 := by kernel_rfl
theorem cs38 : Tryd.prog.cellsOf 38 = 1 := by kernel_rfl
theorem cs40 : Tryd.prog.cellsOf 40 = 3 := by kernel_rfl
theorem cs56 : Tryd.prog.cellsOf 56 = 1 := by kernel_rfl
theorem cs57 : Tryd.prog.cellsOf 57 = 1 := by kernel_rfl
theorem cs59 : Tryd.prog.cellsOf 59 = 8 := by kernel_rfl
theorem cs71 : Tryd.prog.cellsOf 71 = 64 := by kernel_rfl
theorem cs74 : Tryd.prog.cellsOf 74 = 65 := by kernel_rfl
theorem sz3 (w : World) : (sizeOf 3).run Tryd.prog w = .ok 1 w := by kernel_rfl
theorem sz4 (w : World) : (sizeOf 4).run Tryd.prog w = .ok 1 w := by kernel_rfl
theorem sz5 (w : World) : (sizeOf 5).run Tryd.prog w = .ok 1 w := by kernel_rfl
theorem sz9 (w : World) : (sizeOf 9).run Tryd.prog w = .ok 1 w := by kernel_rfl
theorem sz32 (w : World) : (sizeOf 32).run Tryd.prog w = .ok 1 w := by kernel_rfl
theorem sz38 (w : World) : (sizeOf 38).run Tryd.prog w = .ok 1 w := by kernel_rfl
theorem sz40 (w : World) : (sizeOf 40).run Tryd.prog w = .ok 3 w := by kernel_rfl
theorem sz56 (w : World) : (sizeOf 56).run Tryd.prog w = .ok 1 w := by kernel_rfl
theorem sz57 (w : World) : (sizeOf 57).run Tryd.prog w = .ok 1 w := by kernel_rfl
theorem sz59 (w : World) : (sizeOf 59).run Tryd.prog w = .ok 8 w := by kernel_rfl
theorem sz71 (w : World) : (sizeOf 71).run Tryd.prog w = .ok 64 w := by kernel_rfl
theorem sz74 (w : World) : (sizeOf 74).run Tryd.prog w = .ok 65 w := by kernel_rfl
theorem isa3 (w : World) : (isAgg 3).run Tryd.prog w = .ok false w := by kernel_rfl
theorem isa4 (w : World) : (isAgg 4).run Tryd.prog w = .ok false w := by kernel_rfl
theorem isa5 (w : World) : (isAgg 5).run Tryd.prog w = .ok false w := by kernel_rfl
theorem isa9 (w : World) : (isAgg 9).run Tryd.prog w = .ok false w := by kernel_rfl
theorem isa32 (w : World) : (isAgg 32).run Tryd.prog w = .ok false w := by kernel_rfl
theorem isa38 (w : World) : (isAgg 38).run Tryd.prog w = .ok false w := by kernel_rfl
theorem isa56 (w : World) : (isAgg 56).run Tryd.prog w = .ok false w := by kernel_rfl
theorem isa57 (w : World) : (isAgg 57).run Tryd.prog w = .ok false w := by kernel_rfl
theorem z71 : zeroOf Tryd.prog 71 = .agg (cv .u8 (rep 64)) := by kernel_rfl
theorem z74 : zeroOf Tryd.prog 74 = .agg (wv 0 (rep 64)) := by kernel_rfl
theorem z5 : zeroOf Tryd.prog 5 = .int .u8 0 := by kernel_rfl
theorem bu40 (W : World) : (buN 40 #[]).run Tryd.prog W = .ok (.agg (kc 0 0 0)) W := by kernel_rfl
attribute [go_sem] ag3 ag4 ag5 ag9 ag32 ag38 ag40 ag56 ag57 ag59 ag71 ag74
attribute [go_sem] cs3 cs4 cs5 cs9 cs32 cs38 cs40 cs56 cs57 cs59 cs71 cs74
attribute [go_sem] sz3 sz4 sz5 sz9 sz32 sz38 sz40 sz56 sz57 sz59 sz71 sz74
attribute [go_sem] isa3 isa4 isa5 isa9 isa32 isa38 isa56 isa57 z71 z74 z5 bu40
attribute [go_sem] ldD0 ldD1 ldD2 ldD3 ldD4 ldD5 ldD6 ldD7 ldK ldK0 stD2 stD3 stD3z stD4 stD7 stD47 stK

theorem down_any (w : World) (l : List Obj) (d i : Nat) {vs vl vw : Value} {n : Nat} {a : Int} {k : Nat} {t : Int} {o : Bool} (h : l[i]? = some (.cells (dc vs vl vw n a k t o) 59 (0, 0))) :
    Calls Tryd.prog 24 #[.pointer (some ⟨w.heap.size + i, 0, none⟩)] (Wd w l d) fun e w' => e = .returned (.bool o) ∧ Wd w l d = w' := by
  go_enter Tryd.func24, Tryd.ntmps24
  go_wp2
  go_ret
  exact ⟨rfl, rfl⟩
theorem size_any (w : World) (l : List Obj) (d i : Nat) {p : Option Addr} {m c : Nat} {vl vw : Value} {n : Nat} {a : Int} {k : Nat} {t : Int} {o : Bool} (h : l[i]? = some (.cells (dc (.slice p m c) vl vw n a k t o) 59 (0, 0))) :
    Calls Tryd.prog 23 #[.pointer (some ⟨w.heap.size + i, 0, none⟩)] (Wd w l d) fun e w' => e = .returned (.int .i64 (m : Int)) ∧ Wd w l d = w' := by
  go_enter Tryd.func23, Tryd.ntmps23
  go_wp2
  go_ret
  exact ⟨rfl, rfl⟩
theorem start_any (w : World) (l : List Obj) (d i : Nat) {vs vl vw : Value} {n : Nat} {a : Int} {k : Nat} {t : Int} {o : Bool} (h : l[i]? = some (.cells (dc vs vl vw n a k t o) 59 (0, 0))) :
    Calls Tryd.prog 22 #[.pointer (some ⟨w.heap.size + i, 0, none⟩)] (Wd w l d) fun e w' => e = .returned (.tuple #[]) ∧ w' = Wd w (l.set i (.cells (dc vs vl vw n a k t false) 59 (0, 0))) d := by
  go_enter Tryd.func22, Tryd.ntmps22
  go_wp2
  go_end0
  exact ⟨rfl, rfl⟩
end Go.Proofs.YtjgfljckmckhcaaDoor
namespace Go.Proofs.YtjgfljckmckhcaaDoor
open Go.RowKit Go.Own

section
variable (w : World) (l : List Obj) (d i : Nat) {p : Option Addr} {m c : Nat} {vl vw : Value} {n : Nat} {a : Int} {k : Nat} {t : Int}
theorem refused_down {vs : Value} (x : Int) (h : l[i]? = some (.cells (dc vs vl vw n a k t true) 59 (0, 0))) :
    Calls Tryd.prog 31 #[.pointer (some ⟨w.heap.size + i, 0, none⟩), .int .i64 x] (Wd w l d) fun e w' => e = .returned (.int .i64 7) ∧ Wd w l d = w' := by
  go_enter Tryd.func31, Tryd.ntmps31
  go_wp2
  go_ret
  exact ⟨rfl, rfl⟩
theorem refused_range (x : Int) (hx : x < 0 ∨ (m : Int) ≤ x) (h : l[i]? = some (.cells (dc (.slice p m c) vl vw n a k t false) 59 (0, 0))) :
    Calls Tryd.prog 31 #[.pointer (some ⟨w.heap.size + i, 0, none⟩), .int .i64 x] (Wd w l d) fun e w' => e = .returned (.int .i64 1) ∧ Wd w l d = w' := by
  by_cases h0 : x < 0
  · clear hx
    go_enter Tryd.func31, Tryd.ntmps31
    go_wp2
    go_ret
    exact ⟨rfl, rfl⟩
  · have h1 : (m : Int) ≤ x := by omega
    clear hx
    go_enter Tryd.func31, Tryd.ntmps31
    go_wp2
    go_ret
    exact ⟨rfl, rfl⟩
theorem refused_ok (x : Nat) (hx : x < m) (h : l[i]? = some (.cells (dc (.slice p m c) vl vw n a k t false) 59 (0, 0))) :
    Calls Tryd.prog 31 #[.pointer (some ⟨w.heap.size + i, 0, none⟩), .int .i64 (x : Int)] (Wd w l d) fun e w' => e = .returned (.int .i64 0) ∧ Wd w l d = w' := by
  have h0 : ¬ (x : Int) < 0 := by omega
  have h1 : ¬ m ≤ x := by omega
  go_enter Tryd.func31, Tryd.ntmps31
  go_wp2
  go_ret
  exact ⟨rfl, rfl⟩
/-- What an arm leaves of a cut. -/
def armA (x : Int) : Int := if x < 1 then 0 else x
def armK (x : Int) (y : Nat) : Nat := if x < 1 then 0 else y
def armT (x y : Int) : Int := if x < 1 then 0 else y
theorem arm_any {vs : Value} (a' : Int) (k' : Nat) (t' : Int) {o : Bool} (h : l[i]? = some (.cells (dc vs vl vw n a k t o) 59 (0, 0))) :
    Calls Tryd.prog 21 #[.pointer (some ⟨w.heap.size + i, 0, none⟩), .agg (kc a' k' t')] (Wd w l d) fun e w' => e = .returned (.tuple #[]) ∧ ∃ g, w' = Wd w (l.set i (.cells (dc vs vl vw n (armA a') (armK a' k') (armT a' t') o) 59 (0, 0)) ++ [g]) d := by
  have hi : i < l.length := (List.getElem?_eq_some_iff.1 h).1
  have hg : ∀ A : Obj, (l ++ [A])[i]? = some (.cells (dc vs vl vw n a k t o) 59 (0, 0)) := fun A => by rw [List.getElem?_append_left hi]; exact h
  have hs : ∀ A B : Obj, (l ++ [A]).set i B = l.set i B ++ [A] := fun A B => List.set_append_left _ _ hi
  have hl : ∀ A : Obj, (l ++ [A])[l.length]? = some A := fun A => by simp
  have hl2 : ∀ A B : Obj, (l ++ [A]).set l.length B = l ++ [B] := fun A B => by simp
  have HI := Lib.hid hi
  clear hi
  by_cases h0 : a' < 1
  · have e1 := Lib.hid (show armA a' = 0 by unfold armA; rw [if_pos h0])
    have e2 := Lib.hid (show armK a' k' = 0 by unfold armK; rw [if_pos h0])
    have e3 := Lib.hid (show armT a' t' = 0 by unfold armT; rw [if_pos h0])
    go_enter Tryd.func21, Tryd.ntmps21
    go_wp2
    go_end0
    exact ⟨rfl, _, by rw [e1.out, e2.out, e3.out]⟩
  · have e1 := Lib.hid (show armA a' = a' by unfold armA; rw [if_neg h0])
    have e2 := Lib.hid (show armK a' k' = k' by unfold armK; rw [if_neg h0])
    have e3 := Lib.hid (show armT a' t' = t' by unfold armT; rw [if_neg h0])
    go_enter Tryd.func21, Tryd.ntmps21
    go_wp2
    go_end0
    exact ⟨rfl, _, by rw [e1.out, e2.out, e3.out]⟩
end

theorem ba64l (a n : Nat) : bits .and .u64 (a : Int) (no_index (OfNat.ofNat n)) = ((and64 a n : Nat) : Int) := ba64 a n
attribute [go_sem] ba64l
/-- How many first bytes are torn off: the nearer of 0 and 64. -/
def clampN (t : Int) : Nat := (min (max t 0) 64).toNat
/-- How many first bytes of the i-th write last, of which 'last' is the last one. -/
def keptN (k : Nat) (t last : Int) (i : Nat) : Nat := if and64 (shr64 k i) 1 = 0 then 0 else if (i : Int) = last then clampN t else 64
theorem clampN_le (t : Int) : clampN t ≤ 64 := by unfold clampN; omega
theorem keptN_le (k : Nat) (t last : Int) (i : Nat) : keptN k t last i ≤ 64 := by
  unfold keptN
  split
  · omega
  · split
    · exact clampN_le t
    · exact Nat.le_refl _
theorem clamp_eq (t : Int) : ((clampN t : Nat) : Int) = min (max t 0) 64 := by unfold clampN; omega
theorem keep_any (w : World) (l : List Obj) (d i1 i2 i3 : Nat) {k : Nat} {t last : Int} {f1 f2 f3 : Nat × Nat} (h1 : l[i1]? = some (.cells #[.int .u64 (k : Int)] 38 f1)) (h2 : l[i2]? = some (.cells #[.int .i64 last] 3 f2)) (h3 : l[i3]? = some (.cells #[.int .i64 t] 3 f3)) (i : Nat) (hi : i < 64) :
    Calls Tryd.prog 67 #[.int .i64 (i : Int), .pointer (some ⟨w.heap.size + i1, 0, none⟩), .pointer (some ⟨w.heap.size + i2, 0, none⟩), .pointer (some ⟨w.heap.size + i3, 0, none⟩)] (Wd w l d) fun e w' => e = .returned (.int .i64 ((keptN k t last i : Nat) : Int)) ∧ Wd w l d = w' := by
  have hi8 : i ≤ 64 := by omega
  by_cases h0 : and64 (shr64 k i) 1 = 0
  · have e1 := Lib.hid (show keptN k t last i = 0 by unfold keptN; rw [if_pos h0])
    go_enter Tryd.func67, Tryd.ntmps67
    go_wp2
    go_ret
    exact ⟨by rw [e1.out]; rfl, rfl⟩
  · have h0' : (((and64 (shr64 k i) 1 : Nat) : Int) == 0) = false := by rw [beq_eq_false_iff_ne]; omega
    by_cases h4 : (i : Int) = last
    · have e1 := Lib.hid (show ((keptN k t last i : Nat) : Int) = min (max t 0) 64 by unfold keptN; rw [if_neg h0, if_pos h4, clamp_eq])
      have h4' : ((i : Int) == last) = true := by rw [beq_iff_eq]; exact h4
      clear h0 h4
      by_cases ht : t < 0
      · have e2 := Lib.hid (show min (max t 0) 64 = 0 by omega)
        go_enter Tryd.func67, Tryd.ntmps67
        go_wp2
        go_ret
        exact ⟨by rw [e1.out, e2.out]; rfl, rfl⟩
      · by_cases ht2 : 64 < t
        · have e2 := Lib.hid (show min (max t 0) 64 = 64 by omega)
          go_enter Tryd.func67, Tryd.ntmps67
          go_wp2
          go_ret
          exact ⟨by rw [e1.out, e2.out]; rfl, rfl⟩
        · have e2 := Lib.hid (show min (max t 0) 64 = t by omega)
          go_enter Tryd.func67, Tryd.ntmps67
          go_wp2
          go_ret
          exact ⟨by rw [e1.out, e2.out]; rfl, rfl⟩
    · have e1 := Lib.hid (show keptN k t last i = 64 by unfold keptN; rw [if_neg h0, if_neg h4])
      have h4' : ((i : Int) == last) = false := by rw [beq_eq_false_iff_ne]; exact h4
      clear h0 h4
      go_enter Tryd.func67, Tryd.ntmps67
      go_wp2
      go_ret
      exact ⟨by rw [e1.out]; rfl, rfl⟩

theorem cpX_le {P : Program} {dT sT ty : TypeId} {w : World} {l : List Obj} {d i o n c : Nat} {s : ByteArray} {S : List Nat} {t : TypeId}
    (hu : P.underlying dT = some (.slice (P.elem dT))) (h1 : (sizeOf (P.elem dT)).run P (Wd w l d) = .ok 1 (Wd w l d)) (h2 : l[i]? = some (.cells (cv .u8 S) t (0, 0))) (hn : s.size ≤ n) (hfit : o + n ≤ S.length) :
    cpX P dT sT ty (some (.cells (cv .u8 S) t (0, 0))) w l d i o n c s = .ok (.int .i64 (s.size : Int)) (Wd w (l.set i (.cells (cv .u8 (spl S o (bys s))) t (0, 0))) d) := by
  have hx : (bys s).length = s.size := bys_length s
  have hr := run_storeCells_at P (w.heap.size + i) o t (cv .u8 (bys s)).toList 0 (cv .u8 S) (Wd w l d) (by rw [Wd_at]; exact h2) (by simp [hx]; omega) cv_oneCell
  rw [Nat.add_zero, spl_cv, Wd_setRow _ _ _ _ _ _ _ _ h2] at hr
  have hm : Nat.min s.size n = s.size := Nat.min_eq_left hn
  have hf' : (Builtin.firstCells 1 s.size (.string s)).run P (Wd w l d) = .ok (cv .u8 (bys s)) (Wd w l d) := by
    have : s.extract 0 s.size = s := by simp
    simp only [Builtin.firstCells, Sem.run_pure, this, cells_bys]
  simp [cpX, Builtin.copy_, run_underlying hu, Builtin.lenOf, h1, hm, hf', hr, goInt]
/-- Bytes filled up to a sector. -/
def filL (s : List Nat) : List Nat := spl (rep 64) 0 s
theorem filL_length {s : List Nat} (h : s.length ≤ 64) : (filL s).length = 64 := by unfold filL; rw [spl_length _ _ _ (by simpa using h), rep_length]
theorem filL_B8 {s : List Nat} (h : B8 s) : B8 (filL s) := (B8.rep 64).spl h 0
attribute [local go_sem] cpX_le
theorem filled_any (s : ByteArray) (hs : s.size ≤ 64) (w : World) :
    Calls Tryd.prog 33 #[.string s] w fun e w' => e = .returned (.agg (cv .u8 (filL (bys s)))) ∧ Grows w w' := by
  have hl : (spl (rep 64) 0 (bys s)).length = 64 := filL_length (by rw [bys_length]; exact hs)
  refine calls_wd ?_
  go_enter Tryd.func33, Tryd.ntmps33
  go_wp2
  exact ret_cell (i := 0) rfl rfl ag71 rfl hl rfl ⟨rfl, Grows.of _ _ _⟩
end Go.Proofs.YtjgfljckmckhcaaDoor

/- Strings, and slices of numbers in memory of the call's own: copy, append within the room, make, conversion. No condition. -/
import Derived.Test.YtfamoakicgmfgaaArr
import Derived.Laws.BytesArg
namespace Go.Own
open Go.RowKit

/-- A string's bytes; a string of bytes. -/
def bys (s : ByteArray) : List Nat := s.data.toList.map UInt8.toNat
def mkS (l : List Nat) : ByteArray := ⟨(l.map UInt8.ofNat).toArray⟩
theorem bys_length (s : ByteArray) : (bys s).length = s.size := by simp only [bys, List.length_map, Array.length_toList]; rfl
theorem mkS_bys (s : ByteArray) : mkS (bys s) = s := by
  cases s with | mk d => simp [mkS, bys, Function.comp_def]
theorem mkS_size (l : List Nat) : (mkS l).size = l.length := by simp [mkS, ByteArray.size]
theorem bys_lt (s : ByteArray) : ∀ n ∈ bys s, n < 256 := by
  intro n hn
  simp only [bys, List.mem_map] at hn
  obtain ⟨b, _, rfl⟩ := hn
  exact b.toNat_lt
theorem gi_bys_lt (s : ByteArray) (i : Nat) : gi (bys s) i < 256 := by
  unfold gi
  rw [List.getD_eq_getElem?_getD]
  cases h : (bys s)[i]? with
  | none => decide
  | some n => exact bys_lt s n (List.mem_of_getElem? h)
theorem bys_mkS (l : List Nat) (h : ∀ n ∈ l, n < 256) : bys (mkS l) = l := by
  simp only [bys, mkS, List.map_map]
  conv => rhs; rw [← List.map_id l]
  apply List.map_congr_left
  intro n hn
  have := h n hn
  simp; omega
theorem bys_inj {s t : ByteArray} (h : bys s = bys t) : s = t := by rw [← mkS_bys s, h, mkS_bys]
theorem bys_extract (s : ByteArray) (a b : Nat) : bys (s.extract a b) = ((bys s).drop a).take (b - a) := by
  simp [bys, List.extract_eq_take_drop, List.map_take, List.map_drop]
theorem cells_bys (s : ByteArray) : (s.data.map fun b => Value.int .u8 b.toNat) = cv .u8 (bys s) := by
  apply Array.ext'; simp [cv, bys]

/-! ### copy(dst, string) -/
def cpX (P : Program) (dT sT ty : TypeId) (_ob : Option Obj) (w : World) (l : List Obj) (d i o n c : Nat) (s : ByteArray) : Result Value :=
  (Builtin.copy_ #[dT, sT] ty #[.slice (some ⟨w.heap.size + i, o, none⟩) n c, .string s]).run P (Wd w l d)
@[go_sem] theorem run_cp (P : Program) (dT sT ty : TypeId) (w : World) (l : List Obj) (d i o n c : Nat) (s : ByteArray) :
    (Builtin.copy_ #[dT, sT] ty #[.slice (some ⟨w.heap.size + i, o, none⟩) n c, .string s]).run P (Wd w l d) = cpX P dT sT ty l[i]? w l d i o n c s := rfl
@[go_sem] theorem run_cp0 (P : Program) (dT sT ty : TypeId) (w : World) (l : List Obj) (d o n c : Nat) (s : ByteArray) :
    (Builtin.copy_ #[dT, sT] ty #[.slice (some ⟨w.heap.size, o, none⟩) n c, .string s]).run P (Wd w l d) = cpX P dT sT ty l[0]? w l d 0 o n c s := rfl
@[go_sem] theorem cpX_cv {P : Program} {dT sT ty : TypeId} {w : World} {l : List Obj} {d i o n c : Nat} {s : ByteArray} {S : List Nat} {t : TypeId}
    (hu : P.underlying dT = some (.slice (P.elem dT))) (h1 : (sizeOf (P.elem dT)).run P (Wd w l d) = .ok 1 (Wd w l d)) (h2 : l[i]? = some (.cells (cv .u8 S) t (0, 0))) (hn : n ≤ s.size) (hfit : o + n ≤ S.length) :
    cpX P dT sT ty (some (.cells (cv .u8 S) t (0, 0))) w l d i o n c s = .ok (.int .i64 (n : Int)) (Wd w (l.set i (.cells (cv .u8 (spl S o ((bys s).take n))) t (0, 0))) d) := by
  have hx : (bys (s.extract 0 n)).length = n := by rw [bys_length]; simp; omega
  have hr := run_storeCells_at P (w.heap.size + i) o t (cv .u8 (bys (s.extract 0 n))).toList 0 (cv .u8 S) (Wd w l d) (by rw [Wd_at]; exact h2) (by simp [hx]; omega) cv_oneCell
  rw [Nat.add_zero, spl_cv, Wd_setRow _ _ _ _ _ _ _ _ h2] at hr
  have hm : Nat.min s.size n = n := Nat.min_eq_right hn
  have he : bys (s.extract 0 n) = (bys s).take n := by rw [bys_extract]; simp
  rw [he] at hr
  have hf : ((s.extract 0 n).data.map fun b => Value.int .u8 b.toNat) = cv .u8 ((bys s).take n) := by rw [cells_bys, he]
  have hf' : (Builtin.firstCells 1 n (.string s)).run P (Wd w l d) = .ok (cv .u8 ((bys s).take n)) (Wd w l d) := by
    simp only [Builtin.firstCells, Sem.run_pure, hf]
  simp [cpX, Builtin.copy_, run_underlying hu, Builtin.lenOf, h1, hm, hf', hr, goInt]

/-! ### a part of an array by value that is an array -/
@[go_sem] theorem ixN_agg {P : Program} {T : TypeId} {k ik : IntKind} {s : List Nat} {i : Nat} {W : World} (hu : P.underlying T = some (.array (P.arrayLen T) (P.elem T)))
    (h1 : aggSize P (P.elem T) = some (P.cellsOf (P.elem T))) (hi : i < P.arrayLen T) :
    (ixN T (.agg (cv k s)) (.int ik (i : Int))).run P W = .ok (.agg (cv k ((s.drop (i * P.cellsOf (P.elem T))).take (P.cellsOf (P.elem T))))) W := by
  obtain ⟨ha, hs⟩ := isAgg_of h1 W
  simp [ixN, Instr.index, asIntOf, run_underlying hu, hi, hs, part, ha, cv_extract]

/-! ### make -/
def mkX (P : Program) (T : TypeId) (_z : Value) (w : World) (l : List Obj) (d : Nat) (n c : Int) : Result Value := (Instr.makeSlice T (.int .i64 n) (.int .i64 c)).run P (Wd w l d)
@[go_sem] theorem run_mk (P : Program) (T : TypeId) (w : World) (l : List Obj) (d : Nat) (n c : Int) :
    (Instr.makeSlice T (.int .i64 n) (.int .i64 c)).run P (Wd w l d) = mkX P T (zeroOf P (P.elem T)) w l d n c := rfl
theorem mkX_cv {P : Program} {T : TypeId} {w : World} {l : List Obj} {d n c : Nat} {k : IntKind} (hu : P.underlying T = some (.slice (P.elem T)))
    (h1 : (P.info? (P.elem T)).map (fun i => (i.zero, i.size, i.bytes)) = some (some (.int k 0), 1, 1)) (hnc : n ≤ c) (hc : c ≤ 140737488355328) :
    mkX P T (.int k 0) w l d (n : Int) (c : Int) = .ok (.slice (some ⟨w.heap.size + l.length, 0, none⟩) n c) (Wd w (l ++ [.cells (cv k (rep c)) (P.elem T) (0, 0)]) d) := by
  cases hi : P.info? (P.elem T) with
  | none => simp [hi] at h1
  | some i =>
    simp [hi] at h1
    obtain ⟨hz, hs, hb⟩ := h1
    have hwn : IntKind.i64.wrap (n : Int) = n := IntWalk.i64_in _ (by omega)
    have hwc : IntKind.i64.wrap (c : Int) = c := IntWalk.i64_in _ (by omega)
    have hrow : (Array.range c).map (fun _ => Value.int k 0) = cv k (rep c) := by
      apply Array.ext'
      simp [cv, rep, List.map_const', Array.toList_range]
    have hc0 : ¬ (140737488355328 : Int) * 2 < c := by omega
    have e1 : ¬ ((c : Int) < n) := by omega
    have e2 : ¬ ((n : Int) < 0) := by omega
    have e3 : ¬ ((c : Int) < 0) := by omega
    have e5 : ¬ ((281474976710656 : Int) < c) := by omega
    by_cases h0 : c = 0
    · subst h0
      have hn0 : n = 0 := by omega
      subst hn0
      simp [mkX, Instr.makeSlice, run_underlying hu, asInt, asIntOf, typeInfo, hi, IntKind.wrap, IntKind.bits, sizeOf, newRow, cv, rep, Wd_size, Wd_alloc, Array.range_zero']
    · simp [mkX, Instr.makeSlice, run_underlying hu, asInt, asIntOf, typeInfo, hi, hb, hwn, hwc, e1, e2, e3, e5, sizeOf, hs, h0, zeroValue, hz, Value.cells, newRow, Nat.mod_one, hrow, Wd_size, Wd_alloc]
attribute [go_sem] mkX_cv
@[go_sem] theorem mkX_cvl {P : Program} {T : TypeId} {w : World} {l : List Obj} {d n c : Nat} {k : IntKind} (hu : P.underlying T = some (.slice (P.elem T)))
    (h1 : (P.info? (P.elem T)).map (fun i => (i.zero, i.size, i.bytes)) = some (some (.int k 0), 1, 1)) (hnc : n ≤ c) (hc : c ≤ 140737488355328) :
    mkX P T (.int k 0) w l d (no_index (OfNat.ofNat n)) (no_index (OfNat.ofNat c)) = .ok (.slice (some ⟨w.heap.size + l.length, 0, none⟩) n c) (Wd w (l ++ [.cells (cv k (rep c)) (P.elem T) (0, 0)]) d) := mkX_cv hu h1 hnc hc

/-! ### append within the room -/
def apN (ats : Array TypeId) (ty : TypeId) (args : Array Value) : Sem Value := Builtin.append_ ats ty args
@[go_sem ↓] theorem append_apN (ats : Array TypeId) (ty : TypeId) (args : Array Value) : Builtin.append_ ats ty args = apN ats ty args := rfl
def apX (P : Program) (dT sT ty : TypeId) (_ob _oc : Option Obj) (w : World) (l : List Obj) (d i o n c j o2 m c2 : Nat) : Result Value :=
  (apN #[dT, sT] ty #[.slice (some ⟨w.heap.size + i, o, none⟩) n c, .slice (some ⟨w.heap.size + j, o2, none⟩) m c2]).run P (Wd w l d)
@[go_sem] theorem run_ap (P : Program) (dT sT ty : TypeId) (w : World) (l : List Obj) (d i o n c j o2 m c2 : Nat) :
    (apN #[dT, sT] ty #[.slice (some ⟨w.heap.size + i, o, none⟩) n c, .slice (some ⟨w.heap.size + j, o2, none⟩) m c2]).run P (Wd w l d) = apX P dT sT ty l[i]? l[j]? w l d i o n c j o2 m c2 := rfl
@[go_sem] theorem run_ap0 (P : Program) (dT sT ty : TypeId) (w : World) (l : List Obj) (d o n c j o2 m c2 : Nat) :
    (apN #[dT, sT] ty #[.slice (some ⟨w.heap.size, o, none⟩) n c, .slice (some ⟨w.heap.size + j, o2, none⟩) m c2]).run P (Wd w l d) = apX P dT sT ty l[0]? l[j]? w l d 0 o n c j o2 m c2 := rfl
theorem run_loadCells_cv {P : Program} {b o n : Nat} {W : World} {k : IntKind} {s : List Nat} {t : TypeId} {f : Nat × Nat} (h2 : blk W b = some (.cells (cv k s) t f)) (h3 : o + n ≤ s.length) :
    (loadCells ⟨b, o, none⟩ n).run P W = .ok (cv k ((s.drop o).take n)) W := by
  have hlen : (cv k ((s.drop o).take n)).toList.length = n := by simp [cv]; omega
  have := run_loadCells_list (P := P) W ⟨b, o, none⟩ (cv k ((s.drop o).take n)).toList (fun j v hv => by
    have hadd : (⟨b, o, none⟩ : Addr).add j = ⟨b, o + j, none⟩ := by unfold Addr.add; split <;> simp_all
    rw [hadd]
    have hj : j < n := by
      rcases Nat.lt_or_ge j n with h | h
      · exact h
      · rw [List.getElem?_eq_none (by omega)] at hv; cases hv
    simp only [World.cell?, show W.heap[b]? = _ from h2, Option.isSome_none, Bool.false_eq_true, if_false]
    rw [cv_get _ _ _ (by omega)]
    simp [cv, hj] at hv
    obtain ⟨a, ha, rfl⟩ := hv
    simp [gi, List.getD, ha])
  rw [hlen] at this
  simpa using this
@[go_sem] theorem apX_cv {P : Program} {dT sT ty : TypeId} {w : World} {l : List Obj} {d i o n c j o2 m c2 : Nat} {k : IntKind} {S X : List Nat} {t t2 : TypeId}
    (hu : P.underlying dT = some (.slice (P.elem dT))) (h1 : (sizeOf (P.elem dT)).run P (Wd w l d) = .ok 1 (Wd w l d)) (hsT : P.underlying sT = some (.slice (P.elem sT)))
    (h2 : l[i]? = some (.cells (cv k S) t (0, 0))) (h3 : l[j]? = some (.cells (cv k X) t2 (0, 0))) (hroom : n + m ≤ c) (hfit : o + (n + m) ≤ S.length) (hX : o2 + m ≤ X.length) :
    apX P dT sT ty (some (.cells (cv k S) t (0, 0))) (some (.cells (cv k X) t2 (0, 0))) w l d i o n c j o2 m c2 =
      .ok (.slice (some ⟨w.heap.size + i, o, none⟩) (n + m) c) (Wd w (l.set i (.cells (cv k (spl S (o + n) ((X.drop o2).take m))) t (0, 0))) d) := by
  have hl := run_loadCells_cv (P := P) (b := w.heap.size + j) (o := o2) (n := m) (W := Wd w l d) (k := k) (s := X) (t := t2) (f := (0, 0)) (by rw [blk_at]; exact h3) hX
  have hx : ((X.drop o2).take m).length = m := by simp; omega
  have hr := run_storeCells_at P (w.heap.size + i) (o + n) t (cv k ((X.drop o2).take m)).toList 0 (cv k S) (Wd w l d) (by rw [Wd_at]; exact h2) (by simp [hx]; omega) cv_oneCell
  rw [Nat.add_zero, spl_cv, Wd_setRow _ _ _ _ _ _ _ _ h2] at hr
  have hadd : (⟨w.heap.size + i, o, none⟩ : Addr).add n = ⟨w.heap.size + i, o + n, none⟩ := by unfold Addr.add; split <;> simp_all
  simp only [apX, apN, Builtin.append_, List.getElem?_toArray, List.getElem?_cons_zero, List.getElem?_cons_succ]
  simp [run_underlying hu, run_underlying hsT, h1, Builtin.lenOf, hroom, Builtin.firstCells, hl, hadd, hr]

/-! ### a slice of bytes as a string -/
def cnX (P : Program) (sT dT : TypeId) (_ob : Option Obj) (w : World) (l : List Obj) (d i o n c : Nat) : Result Value :=
  (convert sT dT (.slice (some ⟨w.heap.size + i, o, none⟩) n c)).run P (Wd w l d)
@[go_sem] theorem run_cn (P : Program) (sT dT : TypeId) (w : World) (l : List Obj) (d i o n c : Nat) :
    (convert sT dT (.slice (some ⟨w.heap.size + i, o, none⟩) n c)).run P (Wd w l d) = cnX P sT dT l[i]? w l d i o n c := rfl
@[go_sem] theorem run_cn0 (P : Program) (sT dT : TypeId) (w : World) (l : List Obj) (d o n c : Nat) :
    (convert sT dT (.slice (some ⟨w.heap.size, o, none⟩) n c)).run P (Wd w l d) = cnX P sT dT l[0]? w l d 0 o n c := rfl
@[go_sem] theorem cnX_cv {P : Program} {sT dT : TypeId} {w : World} {l : List Obj} {d i o n c : Nat} {S : List Nat} {t : TypeId} {f : Nat × Nat}
    (hu : P.underlying sT = some (.slice (P.elem sT))) (he : P.underlying (P.elem sT) = some (.int .u8)) (hd : P.underlying dT = some .string)
    (h2 : l[i]? = some (.cells (cv .u8 S) t f)) (hX : o + n ≤ S.length) :
    cnX P sT dT (some (.cells (cv .u8 S) t f)) w l d i o n c = .ok (.string (mkS ((S.drop o).take n))) (Wd w l d) := by
  have hl := run_loadCells_cv (P := P) (b := w.heap.size + i) (o := o) (n := n) (W := Wd w l d) (k := .u8) (s := S) (t := t) (f := f) (by rw [blk_at]; exact h2) hX
  have hl' : (loadCells ⟨w.heap.size + i, o, none⟩ n).run P (Wd w l d) = .ok ((((S.drop o).take n).map fun (x : Nat) => ((x : Nat) : Int)).map (Value.int .u8)).toArray (Wd w l d) := by
    rw [hl]; simp [cv, Function.comp_def]
  unfold cnX
  rw [run_convert_bytes_string (Wd w l d) sT dT _ _ n c hu he hd]
  rw [run_bytesToString (Wd w l d) _ n c _ hl', foldl_push_bytes]
  simp [mkS, Function.comp_def]
end Go.Own

/- Strings, and slices of numbers in memory of the call's own: copy, append within the room, make, conversion. No condition. | Composite values built in place: one part of an aggregate. No condition. | append to a row of bytes of the call's own, whether it has room or grows. No condition but that the row is small. -/
import Derived.Test.YtlogjpmdfimgdaaGreatDoorZ02
import Derived.Laws.BytesArg
import Derived.Laws.CopyRow
import Derived.Laws.AppendOwn
import Derived.Laws.IdiomStrings
import Derived.Deep.RegionLaw
namespace Go.Own.Jf
open Go.RowKit

/-- A string's bytes; a string of bytes. -/
def bys (s : ByteArray) : List Nat := s.data.toList.map UInt8.toNat
def mkS (l : List Nat) : ByteArray := ⟨(l.map UInt8.ofNat).toArray⟩
theorem bys_length (s : ByteArray) : (bys s).length = s.size := by simp only [bys, List.length_map, Array.length_toList]; rfl
theorem mkS_bys (s : ByteArray) : mkS (bys s) = s := by
  cases s with | mk d => simp [mkS, bys, Function.comp_def]
theorem mkS_size (l : List Nat) : (mkS l).size = l.length := by simp [mkS, ByteArray.size]
theorem bys_lt (s : ByteArray) : ∀ n ∈ bys s, n < 256 := by
  intro n hn
  simp only [bys, List.mem_map] at hn
  obtain ⟨b, _, rfl⟩ := hn
  exact b.toNat_lt
theorem gi_bys_lt (s : ByteArray) (i : Nat) : gi (bys s) i < 256 := by
  unfold gi
  rw [List.getD_eq_getElem?_getD]
  cases h : (bys s)[i]? with
  | none => decide
  | some n => exact bys_lt s n (List.mem_of_getElem? h)
theorem bys_mkS (l : List Nat) (h : ∀ n ∈ l, n < 256) : bys (mkS l) = l := by
  simp only [bys, mkS, List.map_map]
  conv => rhs; rw [← List.map_id l]
  apply List.map_congr_left
  intro n hn
  have := h n hn
  simp; omega
theorem bys_inj {s t : ByteArray} (h : bys s = bys t) : s = t := by rw [← mkS_bys s, h, mkS_bys]
theorem bys_extract (s : ByteArray) (a b : Nat) : bys (s.extract a b) = ((bys s).drop a).take (b - a) := by
  simp [bys, List.extract_eq_take_drop, List.map_take, List.map_drop]
theorem cells_bys (s : ByteArray) : (s.data.map fun b => Value.int .u8 b.toNat) = cv .u8 (bys s) := by
  apply Array.ext'; simp [cv, bys]

/-! ### copy(dst, string) -/
def cpX (P : Program) (dT sT ty : TypeId) (_ob : Option Obj) (w : World) (l : List Obj) (d i o n c : Nat) (s : ByteArray) : Result Value :=
  (Builtin.copy_ #[dT, sT] ty #[.slice (some ⟨w.heap.size + i, o, none⟩) n c, .string s]).run P (Wd w l d)
@[go_sem] theorem run_cp (P : Program) (dT sT ty : TypeId) (w : World) (l : List Obj) (d i o n c : Nat) (s : ByteArray) :
    (Builtin.copy_ #[dT, sT] ty #[.slice (some ⟨w.heap.size + i, o, none⟩) n c, .string s]).run P (Wd w l d) = cpX P dT sT ty l[i]? w l d i o n c s := rfl
@[go_sem] theorem run_cp0 (P : Program) (dT sT ty : TypeId) (w : World) (l : List Obj) (d o n c : Nat) (s : ByteArray) :
    (Builtin.copy_ #[dT, sT] ty #[.slice (some ⟨w.heap.size, o, none⟩) n c, .string s]).run P (Wd w l d) = cpX P dT sT ty l[0]? w l d 0 o n c s := rfl
@[go_sem] theorem cpX_cv {P : Program} {dT sT ty : TypeId} {w : World} {l : List Obj} {d i o n c : Nat} {s : ByteArray} {S : List Nat} {t : TypeId}
    (hu : P.underlying dT = some (.slice (P.elem dT))) (h1 : (sizeOf (P.elem dT)).run P (Wd w l d) = .ok 1 (Wd w l d)) (h2 : l[i]? = some (.cells (cv .u8 S) t (0, 0))) (hn : n ≤ s.size) (hfit : o + n ≤ S.length) :
    cpX P dT sT ty (some (.cells (cv .u8 S) t (0, 0))) w l d i o n c s = .ok (.int .i64 (n : Int)) (Wd w (l.set i (.cells (cv .u8 (spl S o ((bys s).take n))) t (0, 0))) d) := by
  have hx : (bys (s.extract 0 n)).length = n := by rw [bys_length]; simp; omega
  have hr := run_storeCells_at P (w.heap.size + i) o t (cv .u8 (bys (s.extract 0 n))).toList 0 (cv .u8 S) (Wd w l d) (by rw [Wd_at]; exact h2) (by simp [hx]; omega) cv_oneCell
  rw [Nat.add_zero, spl_cv, Wd_setRow _ _ _ _ _ _ _ _ h2] at hr
  have hm : Nat.min s.size n = n := Nat.min_eq_right hn
  have he : bys (s.extract 0 n) = (bys s).take n := by rw [bys_extract]; simp
  rw [he] at hr
  have hf : ((s.extract 0 n).data.map fun b => Value.int .u8 b.toNat) = cv .u8 ((bys s).take n) := by rw [cells_bys, he]
  have hf' : (Builtin.firstCells 1 n (.string s)).run P (Wd w l d) = .ok (cv .u8 ((bys s).take n)) (Wd w l d) := by
    simp only [Builtin.firstCells, Sem.run_pure, hf]
  simp [cpX, Builtin.copy_, run_underlying hu, Builtin.lenOf, h1, hm, hf', hr, goInt]

/-! ### a part of an array by value that is an array -/
@[go_sem] theorem ixN_agg {P : Program} {T : TypeId} {k ik : IntKind} {s : List Nat} {i : Nat} {W : World} (hu : P.underlying T = some (.array (P.arrayLen T) (P.elem T)))
    (h1 : aggSize P (P.elem T) = some (P.cellsOf (P.elem T))) (hi : i < P.arrayLen T) :
    (ixN T (.agg (cv k s)) (.int ik (i : Int))).run P W = .ok (.agg (cv k ((s.drop (i * P.cellsOf (P.elem T))).take (P.cellsOf (P.elem T))))) W := by
  obtain ⟨ha, hs⟩ := isAgg_of h1 W
  simp [ixN, Instr.index, asIntOf, run_underlying hu, hi, hs, part, ha, cv_extract]

/-! ### make -/
def mkX (P : Program) (T : TypeId) (_z : Value) (w : World) (l : List Obj) (d : Nat) (n c : Int) : Result Value := (Instr.makeSlice T (.int .i64 n) (.int .i64 c)).run P (Wd w l d)
@[go_sem] theorem run_mk (P : Program) (T : TypeId) (w : World) (l : List Obj) (d : Nat) (n c : Int) :
    (Instr.makeSlice T (.int .i64 n) (.int .i64 c)).run P (Wd w l d) = mkX P T (zeroOf P (P.elem T)) w l d n c := rfl
theorem mkX_cv {P : Program} {T : TypeId} {w : World} {l : List Obj} {d n c : Nat} {k : IntKind} (hu : P.underlying T = some (.slice (P.elem T)))
    (h1 : (P.info? (P.elem T)).map (fun i => (i.zero, i.size, i.bytes)) = some (some (.int k 0), 1, 1)) (hnc : n ≤ c) (hc : c ≤ 140737488355328) :
    mkX P T (.int k 0) w l d (n : Int) (c : Int) = .ok (.slice (some ⟨w.heap.size + l.length, 0, none⟩) n c) (Wd w (l ++ [.cells (cv k (rep c)) (P.elem T) (0, 0)]) d) := by
  cases hi : P.info? (P.elem T) with
  | none => simp [hi] at h1
  | some i =>
    simp [hi] at h1
    obtain ⟨hz, hs, hb⟩ := h1
    have hwn : IntKind.i64.wrap (n : Int) = n := IntWalk.i64_in _ (by omega)
    have hwc : IntKind.i64.wrap (c : Int) = c := IntWalk.i64_in _ (by omega)
    have hrow : (Array.range c).map (fun _ => Value.int k 0) = cv k (rep c) := by
      apply Array.ext'
      simp [cv, rep, List.map_const', Array.toList_range]
    have hc0 : ¬ (140737488355328 : Int) * 2 < c := by omega
    have e1 : ¬ ((c : Int) < n) := by omega
    have e2 : ¬ ((n : Int) < 0) := by omega
    have e3 : ¬ ((c : Int) < 0) := by omega
    have e5 : ¬ ((281474976710656 : Int) < c) := by omega
    by_cases h0 : c = 0
    · subst h0
      have hn0 : n = 0 := by omega
      subst hn0
      simp [mkX, Instr.makeSlice, run_underlying hu, asInt, asIntOf, typeInfo, hi, IntKind.wrap, IntKind.bits, sizeOf, newRow, cv, rep, Wd_size, Wd_alloc, Array.range_zero']
    · simp [mkX, Instr.makeSlice, run_underlying hu, asInt, asIntOf, typeInfo, hi, hb, hwn, hwc, e1, e2, e3, e5, sizeOf, hs, h0, zeroValue, hz, Value.cells, newRow, Nat.mod_one, hrow, Wd_size, Wd_alloc]
attribute [go_sem] mkX_cv
@[go_sem] theorem mkX_cvl {P : Program} {T : TypeId} {w : World} {l : List Obj} {d n c : Nat} {k : IntKind} (hu : P.underlying T = some (.slice (P.elem T)))
    (h1 : (P.info? (P.elem T)).map (fun i => (i.zero, i.size, i.bytes)) = some (some (.int k 0), 1, 1)) (hnc : n ≤ c) (hc : c ≤ 140737488355328) :
    mkX P T (.int k 0) w l d (no_index (OfNat.ofNat n)) (no_index (OfNat.ofNat c)) = .ok (.slice (some ⟨w.heap.size + l.length, 0, none⟩) n c) (Wd w (l ++ [.cells (cv k (rep c)) (P.elem T) (0, 0)]) d) := mkX_cv hu h1 hnc hc

/-! ### append within the room -/
def apN (ats : Array TypeId) (ty : TypeId) (args : Array Value) : Sem Value := Builtin.append_ ats ty args
@[go_sem ↓] theorem append_apN (ats : Array TypeId) (ty : TypeId) (args : Array Value) : Builtin.append_ ats ty args = apN ats ty args := rfl
def apX (P : Program) (dT sT ty : TypeId) (_ob _oc : Option Obj) (w : World) (l : List Obj) (d i o n c j o2 m c2 : Nat) : Result Value :=
  (apN #[dT, sT] ty #[.slice (some ⟨w.heap.size + i, o, none⟩) n c, .slice (some ⟨w.heap.size + j, o2, none⟩) m c2]).run P (Wd w l d)
@[go_sem] theorem run_ap (P : Program) (dT sT ty : TypeId) (w : World) (l : List Obj) (d i o n c j o2 m c2 : Nat) :
    (apN #[dT, sT] ty #[.slice (some ⟨w.heap.size + i, o, none⟩) n c, .slice (some ⟨w.heap.size + j, o2, none⟩) m c2]).run P (Wd w l d) = apX P dT sT ty l[i]? l[j]? w l d i o n c j o2 m c2 := rfl
@[go_sem] theorem run_ap0 (P : Program) (dT sT ty : TypeId) (w : World) (l : List Obj) (d o n c j o2 m c2 : Nat) :
    (apN #[dT, sT] ty #[.slice (some ⟨w.heap.size, o, none⟩) n c, .slice (some ⟨w.heap.size + j, o2, none⟩) m c2]).run P (Wd w l d) = apX P dT sT ty l[0]? l[j]? w l d 0 o n c j o2 m c2 := rfl
theorem run_loadCells_cv {P : Program} {b o n : Nat} {W : World} {k : IntKind} {s : List Nat} {t : TypeId} {f : Nat × Nat} (h2 : blk W b = some (.cells (cv k s) t f)) (h3 : o + n ≤ s.length) :
    (loadCells ⟨b, o, none⟩ n).run P W = .ok (cv k ((s.drop o).take n)) W := by
  have hlen : (cv k ((s.drop o).take n)).toList.length = n := by simp [cv]; omega
  have := run_loadCells_list (P := P) W ⟨b, o, none⟩ (cv k ((s.drop o).take n)).toList (fun j v hv => by
    have hadd : (⟨b, o, none⟩ : Addr).add j = ⟨b, o + j, none⟩ := by unfold Addr.add; split <;> simp_all
    rw [hadd]
    have hj : j < n := by
      rcases Nat.lt_or_ge j n with h | h
      · exact h
      · rw [List.getElem?_eq_none (by omega)] at hv; cases hv
    simp only [World.cell?, show W.heap[b]? = _ from h2, Option.isSome_none, Bool.false_eq_true, if_false]
    rw [cv_get _ _ _ (by omega)]
    simp [cv, hj] at hv
    obtain ⟨a, ha, rfl⟩ := hv
    simp [gi, List.getD, ha])
  rw [hlen] at this
  simpa using this
@[go_sem] theorem apX_cv {P : Program} {dT sT ty : TypeId} {w : World} {l : List Obj} {d i o n c j o2 m c2 : Nat} {k : IntKind} {S X : List Nat} {t t2 : TypeId}
    (hu : P.underlying dT = some (.slice (P.elem dT))) (h1 : (sizeOf (P.elem dT)).run P (Wd w l d) = .ok 1 (Wd w l d)) (hsT : P.underlying sT = some (.slice (P.elem sT)))
    (h2 : l[i]? = some (.cells (cv k S) t (0, 0))) (h3 : l[j]? = some (.cells (cv k X) t2 (0, 0))) (hroom : n + m ≤ c) (hfit : o + (n + m) ≤ S.length) (hX : o2 + m ≤ X.length) :
    apX P dT sT ty (some (.cells (cv k S) t (0, 0))) (some (.cells (cv k X) t2 (0, 0))) w l d i o n c j o2 m c2 =
      .ok (.slice (some ⟨w.heap.size + i, o, none⟩) (n + m) c) (Wd w (l.set i (.cells (cv k (spl S (o + n) ((X.drop o2).take m))) t (0, 0))) d) := by
  have hl := run_loadCells_cv (P := P) (b := w.heap.size + j) (o := o2) (n := m) (W := Wd w l d) (k := k) (s := X) (t := t2) (f := (0, 0)) (by rw [blk_at]; exact h3) hX
  have hx : ((X.drop o2).take m).length = m := by simp; omega
  have hr := run_storeCells_at P (w.heap.size + i) (o + n) t (cv k ((X.drop o2).take m)).toList 0 (cv k S) (Wd w l d) (by rw [Wd_at]; exact h2) (by simp [hx]; omega) cv_oneCell
  rw [Nat.add_zero, spl_cv, Wd_setRow _ _ _ _ _ _ _ _ h2] at hr
  have hadd : (⟨w.heap.size + i, o, none⟩ : Addr).add n = ⟨w.heap.size + i, o + n, none⟩ := by unfold Addr.add; split <;> simp_all
  simp only [apX, apN, Builtin.append_, List.getElem?_toArray, List.getElem?_cons_zero, List.getElem?_cons_succ]
  simp [run_underlying hu, run_underlying hsT, h1, Builtin.lenOf, hroom, Builtin.firstCells, hl, hadd, hr]

/-! ### a slice of bytes as a string -/
def cnX (P : Program) (sT dT : TypeId) (_ob : Option Obj) (w : World) (l : List Obj) (d i o n c : Nat) : Result Value :=
  (convert sT dT (.slice (some ⟨w.heap.size + i, o, none⟩) n c)).run P (Wd w l d)
@[go_sem] theorem run_cn (P : Program) (sT dT : TypeId) (w : World) (l : List Obj) (d i o n c : Nat) :
    (convert sT dT (.slice (some ⟨w.heap.size + i, o, none⟩) n c)).run P (Wd w l d) = cnX P sT dT l[i]? w l d i o n c := rfl
@[go_sem] theorem run_cn0 (P : Program) (sT dT : TypeId) (w : World) (l : List Obj) (d o n c : Nat) :
    (convert sT dT (.slice (some ⟨w.heap.size, o, none⟩) n c)).run P (Wd w l d) = cnX P sT dT l[0]? w l d 0 o n c := rfl
@[go_sem] theorem cnX_cv {P : Program} {sT dT : TypeId} {w : World} {l : List Obj} {d i o n c : Nat} {S : List Nat} {t : TypeId} {f : Nat × Nat}
    (hu : P.underlying sT = some (.slice (P.elem sT))) (he : P.underlying (P.elem sT) = some (.int .u8)) (hd : P.underlying dT = some .string)
    (h2 : l[i]? = some (.cells (cv .u8 S) t f)) (hX : o + n ≤ S.length) :
    cnX P sT dT (some (.cells (cv .u8 S) t f)) w l d i o n c = .ok (.string (mkS ((S.drop o).take n))) (Wd w l d) := by
  have hl := run_loadCells_cv (P := P) (b := w.heap.size + i) (o := o) (n := n) (W := Wd w l d) (k := .u8) (s := S) (t := t) (f := f) (by rw [blk_at]; exact h2) hX
  have hl' : (loadCells ⟨w.heap.size + i, o, none⟩ n).run P (Wd w l d) = .ok ((((S.drop o).take n).map fun (x : Nat) => ((x : Nat) : Int)).map (Value.int .u8)).toArray (Wd w l d) := by
    rw [hl]; simp [cv, Function.comp_def]
  unfold cnX
  rw [run_convert_bytes_string (Wd w l d) sT dT _ _ n c hu he hd]
  rw [run_bytesToString (Wd w l d) _ n c _ hl', foldl_push_bytes]
  simp [mkS, Function.comp_def]
end Go.Own.Jf
namespace Go.Own.Jf
open Go.RowKit

def buN (T : TypeId) (parts : Array (Nat × Value)) : Sem Value := Instr.build T parts
@[go_sem ↓] theorem execOp_build (ρ : Operand → Value) (dst : Option Tmp) (T : TypeId) (parts : Array (Nat × Operand)) (ty : TypeId) (pos : String) (after : Array Edge) (guard : Option (Nat × Bool)) :
    execOp ρ { dst, op := .build T parts, type := ty, pos, after, guard } = (buN T (parts.map fun (i, x) => (i, ρ x)) >>= fun v => pure (.value v)) := rfl

theorem foldl_set (off : Nat) : ∀ (xs : List Value) (j : Nat) (cs : Array Value), off + j + xs.length ≤ cs.size →
    ((xs.zipIdx j).foldl (fun cs (c, j) => cs.setIfInBounds (off + j) c) cs) = (cs.toList.take (off + j) ++ xs ++ cs.toList.drop (off + j + xs.length)).toArray
  | [], j, cs, _ => by simp
  | v :: rest, j, cs, h => by
    have ih := foldl_set off rest (j + 1) (cs.setIfInBounds (off + j) v) (by simp at h ⊢; omega)
    have e := list_seg_step cs.toList (off + j) v rest (by simp at h ⊢; omega)
    simp only [List.zipIdx_cons, List.foldl_cons]
    rw [ih]
    congr 1
    simpa [Array.toList_setIfInBounds, Nat.add_assoc] using e
theorem fill_one {place : Nat → Option (Nat × Nat)} {k : IntKind} {z x : List Nat} {off : Nat} (hp : place 0 = some (off, x.length)) (h : off + x.length ≤ z.length) :
    Instr.fill place (cv k z) [(0, .agg (cv k x))] = some (cv k (spl z off x)) := by
  have hf := foldl_set off (cv k x).toList 0 (cv k z) (by simp [cv]; omega)
  rw [Nat.add_zero, spl_cv] at hf
  have hz : (cv k x).zipIdx.foldl (fun cs (c, j) => cs.setIfInBounds (off + j) c) (cv k z) = cv k (spl z off x) := by
    rw [← hf, ← Array.foldl_toList, Array.toList_zipIdx]
  unfold Instr.fill
  simp only [hp]
  rw [if_neg (by simp [Value.cells]; omega)]
  exact congrArg some hz
theorem build_one {P : Program} {T : TypeId} {k : IntKind} {z x : List Nat} {fields : Array Field} {places : Array (Nat × Nat)} {W : World} {off : Nat}
    (hz : zeroOf P T = .agg (cv k z)) (hu : P.underlying T = some (.struct fields))
    (hm : (fields.mapM fun f => do pure (f.offset, ← sizeOf f.type) : Sem (Array (Nat × Nat))).run P W = .ok places W)
    (hp : places[0]? = some (off, x.length)) (h : off + x.length ≤ z.length) :
    (buN T #[(0, .agg (cv k x))]).run P W = .ok (.agg (cv k (spl z off x))) W := by
  have hf := fill_one (place := (places[·]?)) (k := k) (z := z) (x := x) (off := off) hp h
  unfold buN Instr.build
  simp only [Sem.run_bind, run_zeroOf hz, Result.andThen_ok, Value.cells, run_underlying hu, hm]
  simp only [hf]
  rfl

/-! ### a block behind others whose number is not known -/
@[go_sem] theorem at_mid {α : Type} (g r : List α) (a : α) : (g ++ a :: r)[g.length]? = some a := by simp
@[go_sem] theorem set_mid {α : Type} (g r : List α) (a b : α) : (g ++ a :: r).set g.length b = g ++ b :: r := by
  rw [List.set_append_right _ _ (Nat.le_refl _)]; simp

/-! ### bytes -/
def B8 (s : List Nat) : Prop := ∀ n ∈ s, n < 256
theorem B8.gi {s : List Nat} (h : B8 s) (i : Nat) : Own.Jf.gi s i < 256 := by
  unfold Own.Jf.gi
  rw [List.getD_eq_getElem?_getD]
  cases hi : s[i]? with
  | none => decide
  | some n => exact h n (List.mem_of_getElem? hi)
theorem B8.take {s : List Nat} (h : B8 s) (n : Nat) : B8 (s.take n) := fun x hx => h x (List.mem_of_mem_take hx)
theorem B8.drop {s : List Nat} (h : B8 s) (n : Nat) : B8 (s.drop n) := fun x hx => h x (List.mem_of_mem_drop hx)
theorem B8.append {s t : List Nat} (h : B8 s) (k : B8 t) : B8 (s ++ t) := fun x hx => (List.mem_append.1 hx).elim (h x) (k x)
theorem B8.spl {s x : List Nat} (h : B8 s) (k : B8 x) (o : Nat) : B8 (Own.Jf.spl s o x) := ((h.take _).append k).append (h.drop _)
theorem B8.rep (n : Nat) : B8 (Own.Jf.rep n) := fun x hx => by
  have := (List.mem_replicate.1 hx).2; omega
theorem B8.bys (s : ByteArray) : B8 (Own.Jf.bys s) := bys_lt s
theorem B8.map {α : Type} {f : α → Nat} (h : ∀ a, f a < 256) (l : List α) : B8 (l.map f) := fun x hx => by
  obtain ⟨a, _, rfl⟩ := List.mem_map.1 hx
  exact h a
theorem B8.flat {α : Type} {f : α → List Nat} {l : List α} (h : ∀ a ∈ l, B8 (f a)) : B8 (l.flatMap f) := fun x hx => by
  obtain ⟨a, ha, hx⟩ := List.mem_flatMap.1 hx
  exact h a ha x hx
theorem B8.four {a b c d : Nat} (ha : a < 256) (hb : b < 256) (hc : c < 256) (hd : d < 256) : B8 [a, b, c, d] := fun x hx => by
  simp at hx; omega
theorem B8.pc {s : List Nat} (h : B8 s) (i : Nat) : B8 (Own.Jf.pc s i) := ((h.drop _).append (B8.rep 4)).take _
theorem B8.fin {c : Nat} {f : Nat → List Nat} {k : Nat} {s : List Nat} (hf : ∀ i, B8 (f i)) (h : B8 s) : B8 (Own.Jf.fin c f k s) :=
  (B8.flat fun i _ => hf i).append (h.drop _)
end Go.Own.Jf
namespace Go.Own.Jf
open Go.RowKit

/-- None of the first n cells is frozen. -/
def okf (f : Nat × Nat) (n : Nat) : Prop := ∀ j, j < n → ¬ (f.1 ≤ j ∧ j < f.2)
theorem okf_none (n : Nat) : okf (0, 0) n := fun j _ h => by omega

theorem run_storeCells_f {P : Program} (g o : Nat) (t : TypeId) (f : Nat × Nat) : ∀ (vs : List Value) (i : Nat) (cur : Array Value) (w : World), w.heap[g]? = some (.cells cur t f) → o + i + vs.length ≤ cur.size → okf f cur.size → (∀ v ∈ vs, v.oneCell' = true) →
    (storeCells ⟨g, o, none⟩ vs i).run P w = .ok () (w.setRow g (cur.toList.take (o + i) ++ vs ++ cur.toList.drop (o + i + vs.length)).toArray)
  | [], i, cur, w, hg, _, _, _ => by
    simp only [storeCells, List.append_nil, List.length_nil, Nat.add_zero, List.take_append_drop, Array.toArray_toList]
    rw [setRow_self w g cur t f hg]
    rfl
  | v :: rest, i, cur, w, hg, hl, hf, h1 => by
    have hi : o + i < cur.size := by simp at hl; omega
    have hadd : (⟨g, o, none⟩ : Addr).add i = ⟨g, o + i, none⟩ := by unfold Addr.add; split <;> simp_all
    have hcell : w.cell? ⟨g, o + i, none⟩ = some cur[o + i] := by simp [World.cell?, hg, hi]
    have hfro : w.frozen? ⟨g, o + i, none⟩ = false := by
      have := hf (o + i) hi
      simp only [World.frozen?, hg]
      simpa using this
    have hst : (store ((⟨g, o, none⟩ : Addr).add i) v).run P w = .ok () (w.setRow g (cur.setIfInBounds (o + i) v)) := by
      rw [hadd, run_store P w _ v _ (h1 v (by simp)), hcell]
      simp [hfro, setCell_eq_setRow w g (o + i) cur t f v hg]
    have ih := run_storeCells_f (P := P) g o t f rest (i + 1) (cur.setIfInBounds (o + i) v) (w.setRow g (cur.setIfInBounds (o + i) v)) (setRow_heap w g cur _ t _ hg) (by simp at hl ⊢; omega) (by simpa using hf) (fun x hx => h1 x (by simp [hx]))
    simp only [storeCells, Sem.run_bind, hst, Result.andThen_ok, ih, setRow_setRow]
    congr 3
    have e := list_seg_step cur.toList (o + i) v rest (by simp at hl ⊢; omega)
    simpa [Array.toList_setIfInBounds, Nat.add_assoc] using e

/-- The slice v holds the bytes s, in a row of the call's own. -/
def Has (w : World) (l : List Obj) (v : Value) (s : List Nat) : Prop :=
  ∃ i S t f, v = .slice (some ⟨w.heap.size + i, 0, none⟩) s.length S.length ∧ l[i]? = some (.cells (cv .u8 S) t f) ∧ okf f S.length ∧ S.take s.length = s ∧ s.length ≤ S.length
def Has0 (w : World) (l : List Obj) (v : Value) (s : List Nat) : Prop := (v = .slice none 0 0 ∧ s = []) ∨ Has w l v s
/-- Of the blocks l all but v's own are as they were. -/
def Kept (w : World) (v v' : Value) (l l' : List Obj) : Prop :=
  l.length ≤ l'.length ∧ ∀ p, p < l.length → (∀ n c, v ≠ .slice (some ⟨w.heap.size + p, 0, none⟩) n c) → l'[p]? = l[p]? ∧ ∀ n c, v' ≠ .slice (some ⟨w.heap.size + p, 0, none⟩) n c

theorem Has.more {w : World} {l : List Obj} {v : Value} {s : List Nat} (h : Has w l v s) (m : List Obj) : Has w (l ++ m) v s := by
  obtain ⟨i, S, t, f, h1, h2, h3⟩ := h
  exact ⟨i, S, t, f, h1, by rw [List.getElem?_append_left (List.getElem?_eq_some_iff.1 h2).1]; exact h2, h3⟩
theorem Has0.more {w : World} {l : List Obj} {v : Value} {s : List Nat} (h : Has0 w l v s) (m : List Obj) : Has0 w (l ++ m) v s := h.imp id fun h => h.more m
structure ByteRow (P : Program) (T E : TypeId) : Prop where
  slice : P.underlying T = some (.slice E)
  info : ∃ i, P.info? E = some i ∧ i.zero = some (.int .u8 0) ∧ i.size = 1 ∧ i.bytes = 1

theorem zeroCells_u8 (n : Nat) : Builtin.zeroCells (Value.cells (.int .u8 0)) n = cv .u8 (rep n) := by
  apply Array.ext'
  simp only [Builtin.zeroCells, Value.cells, cv, rep]
  simp only [List.size_toArray, List.length_cons, List.length_nil, Nat.zero_add, Nat.mul_one, Nat.mod_one, Array.toList_map, Array.toList_range, List.map_replicate]
  rw [List.map_const']
  simp
theorem take_drop_cells {w : World} {l : List Obj} {d j o2 m : Nat} {X : List Nat} {t2 : TypeId} {f2 : Nat × Nat} (hj : l[j]? = some (.cells (cv .u8 X) t2 f2)) :
    ∀ k v, (cv .u8 ((X.drop o2).take m)).toList[k]? = some v → (Wd w l d).cell? ((⟨w.heap.size + j, o2, none⟩ : Addr).add k) = some v := by
  intro k v hv
  have hadd : (⟨w.heap.size + j, o2, none⟩ : Addr).add k = ⟨w.heap.size + j, o2 + k, none⟩ := by unfold Addr.add; split <;> simp_all
  have hlt : k < ((X.drop o2).take m).length := by
    have := (List.getElem?_eq_some_iff.1 hv).1
    simpa [cv] using this
  rw [hadd]
  have hb : (Wd w l d).heap[w.heap.size + j]? = some (.cells (cv .u8 X) t2 f2) := by rw [Wd_at]; exact hj
  simp only [World.cell?, hb, Option.isSome_none, Bool.false_eq_true, if_false]
  rw [cv_get _ _ _ (by simp at hlt; omega)]
  rw [← hv]
  simp only [List.length_take, List.length_drop] at hlt
  have hkm : k < m := by omega
  have hk2 : o2 + k < X.length := by omega
  simp [cv, gi, List.getD, hkm, hk2]

theorem append_has {P : Program} {T E : TypeId} (hR : ByteRow P T E) {w : World} {l : List Obj} {d : Nat} {v : Value} {s : List Nat} (h : Has0 w l v s)
    {j o2 m c2 : Nat} {X : List Nat} {t2 : TypeId} {f2 : Nat × Nat} (ty : TypeId) (hj : l[j]? = some (.cells (cv .u8 X) t2 f2)) (hX : o2 + m ≤ X.length) (hm : 0 < m) (hs : s.length + m ≤ 1099511627776) :
    ∃ v' l' d', (apN #[T, T] ty #[v, .slice (some ⟨w.heap.size + j, o2, none⟩) m c2]).run P (Wd w l d) = .ok v' (Wd w l' d') ∧ Has w l' v' (s ++ (X.drop o2).take m) ∧ Kept w v v' l l' := by
  obtain ⟨hT, ti, hi, hz, h1, hb⟩ := hR
  have hxl : ((X.drop o2).take m).length = m := by simp; omega
  have hcl : (cv .u8 ((X.drop o2).take m)).toList.length = m * ti.size := by rw [h1]; simp [cv]; omega
  have hnews := take_drop_cells (w := w) (d := d) (o2 := o2) (m := m) hj
  unfold apN
  rcases h with ⟨rfl, rfl⟩ | ⟨i, S, t, f, rfl, hl, hf, ht, hle⟩
  · have hr := run_append_nil (P := P) (Wd w l d) T ty E ti (.int .u8 0) hT hi hz ⟨w.heap.size + j, o2, none⟩ m c2 _ hcl hnews hm (by simp at hs; omega) (by rw [hb]; simp at hs; omega)
    rw [Wd_drew, Wd_alloc, Wd_size, zeroCells_u8] at hr
    refine ⟨_, _, _, hr, ?_, ?_⟩
    · have hge := grownCap_ge (Wd w l d) m 0 E
      refine ⟨l.length, (X.drop o2).take m ++ rep (grownCap (Wd w l d) m 0 E - m), E, (0, 0), ?_, ?_, okf_none _, ?_, ?_⟩
      · simp [hxl]; omega
      · rw [List.getElem?_concat_length]
        congr 2
        apply Array.ext'; simp [cv]
      · simp [hxl]
      · simp [hxl]
    · exact ⟨by simp, fun p hp _ => ⟨List.getElem?_append_left hp, fun n c e => by simp at e⟩⟩
  · by_cases hroom : s.length + m ≤ S.length
    · have hr := run_storeCells_f (P := P) (w.heap.size + i) s.length t f (cv .u8 ((X.drop o2).take m)).toList 0 (cv .u8 S) (Wd w l d) (by rw [Wd_at]; exact hl) (by simp [hxl]; omega) (by simpa using hf) cv_oneCell
      rw [Nat.add_zero, spl_cv, Wd_setRow _ _ _ _ _ _ _ _ hl] at hr
      have hfc := run_firstCells_some (P := P) (Wd w l d) ti.size m ⟨w.heap.size + j, o2, none⟩ m c2 _ hcl hnews
      have hadd : (⟨w.heap.size + i, 0, none⟩ : Addr).add s.length = ⟨w.heap.size + i, s.length, none⟩ := by unfold Addr.add; split <;> simp_all
      refine ⟨.slice (some ⟨w.heap.size + i, 0, none⟩) (s.length + m) S.length, l.set i (.cells (cv .u8 (spl S s.length ((X.drop o2).take m))) t f), d, ?_, ?_, ?_⟩
      · rw [h1] at hfc
        simp [Builtin.append_, run_underlying hT, sizeOf, typeInfo, hi, h1, Builtin.lenOf, hroom, hfc, hadd, hr]
      · have hi' := (List.getElem?_eq_some_iff.1 hl).1
        have hspl : (spl S s.length ((X.drop o2).take m)).length = S.length := spl_length _ _ _ (by omega)
        refine ⟨i, spl S s.length ((X.drop o2).take m), t, f, ?_, by simp [hi'], by rw [hspl]; exact hf, ?_, by rw [hspl]; simp [hxl]; omega⟩
        · rw [hspl]; simp [hxl]
        · have hA : (S.take s.length ++ (X.drop o2).take m).length = s.length + m := by rw [ht, List.length_append, hxl]
          unfold spl
          rw [show (s ++ (X.drop o2).take m).length = s.length + m by rw [List.length_append, hxl], List.take_append_of_le_length (by omega), List.take_of_length_le (by omega), ht]
      · refine ⟨by simp, fun p hp hv => ?_⟩
        have hne : i ≠ p := fun e => by subst e; exact hv _ _ rfl
        exact ⟨by rw [List.getElem?_set_ne hne], fun n c e => by simp at e⟩
    · have holds : ∀ k u, (cv .u8 s).toList[k]? = some u → (Wd w l d).cell? ((⟨w.heap.size + i, 0, none⟩ : Addr).add k) = some u := by
        have := take_drop_cells (w := w) (d := d) (o2 := 0) (m := s.length) hl
        rwa [List.drop_zero, ht] at this
      have hr := run_append_grow (P := P) (Wd w l d) T ty E ti (.int .u8 0) hT hi hz ⟨w.heap.size + i, 0, none⟩ s.length S.length (cv .u8 s).toList (by simp [cv, h1]) holds ⟨w.heap.size + j, o2, none⟩ m c2 _ hcl hnews (by omega) (by omega)
        (growslice_fits (by omega) (by rw [hb]; omega))
      rw [Wd_drew, Wd_alloc, Wd_size, zeroCells_u8] at hr
      refine ⟨_, _, _, hr, ?_, ?_⟩
      · have hge := grownCap_ge (Wd w l d) (s.length + m) S.length E
        refine ⟨l.length, s ++ (X.drop o2).take m ++ rep (grownCap (Wd w l d) (s.length + m) S.length E - (s.length + m)), E, (0, 0), ?_, ?_, okf_none _, ?_, ?_⟩
        · simp [hxl]; omega
        · rw [List.getElem?_concat_length]
          congr 2
          apply Array.ext'; simp [cv]
        · rw [List.take_left']
          simp
        · simp
      · exact ⟨by simp, fun p hp _ => ⟨List.getElem?_append_left hp, fun n c e => by simp at e⟩⟩

/-- append as an operation of the walk. -/
theorem wpList_app {P : Program} {ops : Array Oper} {rest : List Oper} {o : Oper} {a : Act} {Q : Exit → Act → World → Prop} {w : World} {l : List Obj} {d : Nat} (hgd : o.guard = none) (x y : Operand) (T E : TypeId)
    (ho : o.op = .call { callee := .builtin .append, args := #[x, y], argTypes := #[T, T] }) (hR : ByteRow P T E) (v : Value) (s : List Nat) (hv : a.eval x = v) (h : Has0 w l v s)
    (j o2 m c2 : Nat) (hy : a.eval y = .slice (some ⟨w.heap.size + j, o2, none⟩) m c2) (X : List Nat) (t2 : TypeId) (f2 : Nat × Nat) (hj : l[j]? = some (.cells (cv .u8 X) t2 f2)) (hX : o2 + m ≤ X.length) (hm : 0 < m) (hs : s.length + m ≤ 1099511627776)
    (hK : ∀ v' l' d', Hid (Has w l' v' (s ++ (X.drop o2).take m)) → Hid (Kept w v v' l l') → wpList P ops Q rest (a.put o.dst v') (Wd w l' d')) : wpList P ops Q (o :: rest) a (Wd w l d) := by
  refine wpList_plain hgd fun K hk => ?_
  obtain ⟨v', l', d', hr, h1, h2⟩ := append_has (d := d) (c2 := c2) hR h o.type hj hX hm hs
  have hr' : (Builtin.append_ #[T, T] o.type #[v, .slice (some ⟨w.heap.size + j, o2, none⟩) m c2]).run P (Wd w l d) = .ok v' (Wd w l' d') := hr
  unfold Oper.wp
  simp [execOp, ho, resolve, invoke, builtin, hv, hy, hr', Result.andThen]
  exact hk _ _ (hK v' l' d' h1 h2)

/-- The same as one step of a region that draws its order. -/
theorem step_app {P : Program} {ops : Array Oper} {o : Oper} {a : Act} {K : Act → World → Prop} {Q : Exit → Act → World → Prop} {E0 : Prop} {w : World} {l : List Obj} {d : Nat} (hgd : o.guard = none) (x y : Operand) (T E : TypeId)
    (ho : o.op = .call { callee := .builtin .append, args := #[x, y], argTypes := #[T, T] }) (hR : ByteRow P T E) (v : Value) (s : List Nat) (hv : a.eval x = v) (h : Has0 w l v s)
    (j o2 m c2 : Nat) (hy : a.eval y = .slice (some ⟨w.heap.size + j, o2, none⟩) m c2) (X : List Nat) (t2 : TypeId) (f2 : Nat × Nat) (hj : l[j]? = some (.cells (cv .u8 X) t2 f2)) (hX : o2 + m ≤ X.length) (hm : 0 < m) (hs : s.length + m ≤ 1099511627776)
    (hK : ∀ v' l' d', Hid (Has w l' v' (s ++ (X.drop o2).take m)) → Hid (Kept w v v' l l') → K (a.put o.dst v') (Wd w l' d')) :
    if Region.wanted o (yielded ops a.tmps) = true then Oper.wp P o a (Wd w l d) K Q else E0 := by
  have hw : Region.wanted o (yielded ops a.tmps) = true := by simp [Region.wanted, hgd]
  rw [if_pos hw]
  obtain ⟨v', l', d', hr, h1, h2⟩ := append_has (d := d) (c2 := c2) hR h o.type hj hX hm hs
  have hr' : (Builtin.append_ #[T, T] o.type #[v, .slice (some ⟨w.heap.size + j, o2, none⟩) m c2]).run P (Wd w l d) = .ok v' (Wd w l' d') := hr
  unfold Oper.wp
  simp [execOp, ho, resolve, invoke, builtin, hv, hy, hr', Result.andThen]
  exact hK v' l' d' h1 h2
/-- A goal at which the walk stands still. -/
def Stop (p : Prop) : Prop := p
theorem stop {p : Prop} (h : Stop p) : p := h

/-- Stands still at a conversion. -/
theorem stop_conv {P : Program} {ops : Array Oper} {Q : Exit → Act → World → Prop} {rest : List Oper} {dst : Option Tmp} {S T : TypeId} {x : Operand} {ty : TypeId} {pos : String} {after : Array Edge} {guard : Option (Nat × Bool)} {a : Act} {w : World}
    (h : Stop (wpList P ops Q ({ dst, op := .convert S T x, type := ty, pos, after, guard } :: rest) a w)) : wpList P ops Q ({ dst, op := .convert S T x, type := ty, pos, after, guard } :: rest) a w := h

/-- A string as bytes of the call's own. -/
theorem bytes_has {P : Program} {S T E : TypeId} (hS : P.underlying S = some .string) (hT : P.underlying T = some (.slice E)) (hE : P.underlying E = some (.int .u8)) {w : World} {l : List Obj} {d : Nat} (s : ByteArray) :
    ∃ v l' d', (convert S T (.string s)).run P (Wd w l d) = .ok v (Wd w l' d') ∧ Has w l' v (bys s) ∧ ∃ o, l' = l ++ [o] := by
  have hr := run_bytes_of_string (P := P) (Wd w l d) S T E s hS hT hE
  have hge := grownCap_ge (Wd w l d) s.size 0 E
  generalize grownCap (Wd w l d) s.size 0 E = C at *
  have hrow : bytesRow s C = cv .u8 (bys s ++ rep (C - s.size)) := by
    unfold bytesRow
    rw [cells_bys]
    apply Array.ext'
    simp [cv, rep]
  have hlen : (bys s ++ rep (C - s.size)).length = C := by simp [bys_length]; omega
  rw [hrow, cv_size, hlen, Wd_drew, Wd_alloc, Wd_size] at hr
  refine ⟨_, _, _, hr, ⟨l.length, bys s ++ rep (C - s.size), E, (C, C + 1), ?_, by simp, ?_, ?_, ?_⟩, _, rfl⟩
  · rw [hlen, bys_length]
  · rw [hlen]; intro j hj h; omega
  · rw [List.take_left']; rfl
  · simp
/-- A string as bytes, as an operation of the walk. -/
theorem wpList_bytes {P : Program} {ops : Array Oper} {rest : List Oper} {o : Oper} {a : Act} {Q : Exit → Act → World → Prop} {w : World} {l : List Obj} {d : Nat} (hgd : o.guard = none) (x : Operand) (S T E : TypeId)
    (ho : o.op = .convert S T x) (hS : P.underlying S = some .string) (hT : P.underlying T = some (.slice E)) (hE : P.underlying E = some (.int .u8)) (s : ByteArray) (hx : a.eval x = .string s)
    (hK : ∀ v' l' d', Hid (Has w l' v' (bys s)) → Hid (∃ o, l' = l ++ [o]) → wpList P ops Q rest (a.put o.dst v') (Wd w l' d')) : wpList P ops Q (o :: rest) a (Wd w l d) := by
  refine wpList_plain hgd fun K hk => ?_
  obtain ⟨v', l', d', hr, h1, h2⟩ := bytes_has (P := P) hS hT hE (w := w) (l := l) (d := d) s
  unfold Oper.wp
  simp [execOp, ho, hx, hr, Result.andThen]
  exact hk _ _ (hK v' l' d' h1 h2)
end Go.Own.Jf

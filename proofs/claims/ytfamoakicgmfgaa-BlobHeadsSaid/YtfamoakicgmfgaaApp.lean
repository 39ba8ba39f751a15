/- append to a row of bytes of the call's own, whether it has room or grows. No condition but that the row is small. -/
import Derived.Test.YtfamoakicgmfgaaBld
import Derived.Laws.AppendOwn
import Derived.Laws.IdiomStrings
import Derived.Deep.RegionLaw
namespace Go.Own
open Go.RowKit

/-- None of the first n cells is frozen. -/
def okf (f : Nat × Nat) (n : Nat) : Prop := ∀ j, j < n → ¬ (f.1 ≤ j ∧ j < f.2)
theorem okf_none (n : Nat) : okf (0, 0) n := fun j _ h => by omega

theorem run_storeCells_f {P : Program} (g o : Nat) (t : TypeId) (f : Nat × Nat) : ∀ (vs : List Value) (i : Nat) (cur : Array Value) (w : World), w.heap[g]? = some (.cells cur t f) → o + i + vs.length ≤ cur.size → okf f cur.size → (∀ v ∈ vs, v.oneCell' = true) →
    (storeCells ⟨g, o, none⟩ vs i).run P w = .ok () (w.setRow g (cur.toList.take (o + i) ++ vs ++ cur.toList.drop (o + i + vs.length)).toArray)
  | [], i, cur, w, hg, _, _, _ => by
    simp only [storeCells, List.append_nil, List.length_nil, Nat.add_zero, List.take_append_drop, Array.toArray_toList]
    rw [setRow_self w g cur t f hg]
    rfl
  | v :: rest, i, cur, w, hg, hl, hf, h1 => by
    have hi : o + i < cur.size := by simp at hl; omega
    have hadd : (⟨g, o, none⟩ : Addr).add i = ⟨g, o + i, none⟩ := by unfold Addr.add; split <;> simp_all
    have hcell : w.cell? ⟨g, o + i, none⟩ = some cur[o + i] := by simp [World.cell?, hg, hi]
    have hfro : w.frozen? ⟨g, o + i, none⟩ = false := by
      have := hf (o + i) hi
      simp only [World.frozen?, hg]
      simpa using this
    have hst : (store ((⟨g, o, none⟩ : Addr).add i) v).run P w = .ok () (w.setRow g (cur.setIfInBounds (o + i) v)) := by
      rw [hadd, run_store P w _ v _ (h1 v (by simp)), hcell]
      simp [hfro, setCell_eq_setRow w g (o + i) cur t f v hg]
    have ih := run_storeCells_f (P := P) g o t f rest (i + 1) (cur.setIfInBounds (o + i) v) (w.setRow g (cur.setIfInBounds (o + i) v)) (setRow_heap w g cur _ t _ hg) (by simp at hl ⊢; omega) (by simpa using hf) (fun x hx => h1 x (by simp [hx]))
    simp only [storeCells, Sem.run_bind, hst, Result.andThen_ok, ih, setRow_setRow]
    congr 3
    have e := list_seg_step cur.toList (o + i) v rest (by simp at hl ⊢; omega)
    simpa [Array.toList_setIfInBounds, Nat.add_assoc] using e

/-- The slice v holds the bytes s, in a row of the call's own. -/
def Has (w : World) (l : List Obj) (v : Value) (s : List Nat) : Prop :=
  ∃ i S t f, v = .slice (some ⟨w.heap.size + i, 0, none⟩) s.length S.length ∧ l[i]? = some (.cells (cv .u8 S) t f) ∧ okf f S.length ∧ S.take s.length = s ∧ s.length ≤ S.length
def Has0 (w : World) (l : List Obj) (v : Value) (s : List Nat) : Prop := (v = .slice none 0 0 ∧ s = []) ∨ Has w l v s
/-- Of the blocks l all but v's own are as they were. -/
def Kept (w : World) (v v' : Value) (l l' : List Obj) : Prop :=
  l.length ≤ l'.length ∧ ∀ p, p < l.length → (∀ n c, v ≠ .slice (some ⟨w.heap.size + p, 0, none⟩) n c) → l'[p]? = l[p]? ∧ ∀ n c, v' ≠ .slice (some ⟨w.heap.size + p, 0, none⟩) n c

theorem Has.more {w : World} {l : List Obj} {v : Value} {s : List Nat} (h : Has w l v s) (m : List Obj) : Has w (l ++ m) v s := by
  obtain ⟨i, S, t, f, h1, h2, h3⟩ := h
  exact ⟨i, S, t, f, h1, by rw [List.getElem?_append_left (List.getElem?_eq_some_iff.1 h2).1]; exact h2, h3⟩
theorem Has0.more {w : World} {l : List Obj} {v : Value} {s : List Nat} (h : Has0 w l v s) (m : List Obj) : Has0 w (l ++ m) v s := h.imp id fun h => h.more m
structure ByteRow (P : Program) (T E : TypeId) : Prop where
  slice : P.underlying T = some (.slice E)
  info : ∃ i, P.info? E = some i ∧ i.zero = some (.int .u8 0) ∧ i.size = 1 ∧ i.bytes = 1

theorem zeroCells_u8 (n : Nat) : Builtin.zeroCells (Value.cells (.int .u8 0)) n = cv .u8 (rep n) := by
  apply Array.ext'
  simp only [Builtin.zeroCells, Value.cells, cv, rep]
  simp only [List.size_toArray, List.length_cons, List.length_nil, Nat.zero_add, Nat.mul_one, Nat.mod_one, Array.toList_map, Array.toList_range, List.map_replicate]
  rw [List.map_const']
  simp
theorem take_drop_cells {w : World} {l : List Obj} {d j o2 m : Nat} {X : List Nat} {t2 : TypeId} {f2 : Nat × Nat} (hj : l[j]? = some (.cells (cv .u8 X) t2 f2)) :
    ∀ k v, (cv .u8 ((X.drop o2).take m)).toList[k]? = some v → (Wd w l d).cell? ((⟨w.heap.size + j, o2, none⟩ : Addr).add k) = some v := by
  intro k v hv
  have hadd : (⟨w.heap.size + j, o2, none⟩ : Addr).add k = ⟨w.heap.size + j, o2 + k, none⟩ := by unfold Addr.add; split <;> simp_all
  have hlt : k < ((X.drop o2).take m).length := by
    have := (List.getElem?_eq_some_iff.1 hv).1
    simpa [cv] using this
  rw [hadd]
  have hb : (Wd w l d).heap[w.heap.size + j]? = some (.cells (cv .u8 X) t2 f2) := by rw [Wd_at]; exact hj
  simp only [World.cell?, hb, Option.isSome_none, Bool.false_eq_true, if_false]
  rw [cv_get _ _ _ (by simp at hlt; omega)]
  rw [← hv]
  simp only [List.length_take, List.length_drop] at hlt
  have hkm : k < m := by omega
  have hk2 : o2 + k < X.length := by omega
  simp [cv, gi, List.getD, hkm, hk2]

theorem append_has {P : Program} {T E : TypeId} (hR : ByteRow P T E) {w : World} {l : List Obj} {d : Nat} {v : Value} {s : List Nat} (h : Has0 w l v s)
    {j o2 m c2 : Nat} {X : List Nat} {t2 : TypeId} {f2 : Nat × Nat} (ty : TypeId) (hj : l[j]? = some (.cells (cv .u8 X) t2 f2)) (hX : o2 + m ≤ X.length) (hm : 0 < m) (hs : s.length + m ≤ 1099511627776) :
    ∃ v' l' d', (apN #[T, T] ty #[v, .slice (some ⟨w.heap.size + j, o2, none⟩) m c2]).run P (Wd w l d) = .ok v' (Wd w l' d') ∧ Has w l' v' (s ++ (X.drop o2).take m) ∧ Kept w v v' l l' := by
  obtain ⟨hT, ti, hi, hz, h1, hb⟩ := hR
  have hxl : ((X.drop o2).take m).length = m := by simp; omega
  have hcl : (cv .u8 ((X.drop o2).take m)).toList.length = m * ti.size := by rw [h1]; simp [cv]; omega
  have hnews := take_drop_cells (w := w) (d := d) (o2 := o2) (m := m) hj
  unfold apN
  rcases h with ⟨rfl, rfl⟩ | ⟨i, S, t, f, rfl, hl, hf, ht, hle⟩
  · have hr := run_append_nil (P := P) (Wd w l d) T ty E ti (.int .u8 0) hT hi hz ⟨w.heap.size + j, o2, none⟩ m c2 _ hcl hnews hm (by simp at hs; omega) (by rw [hb]; simp at hs; omega)
    rw [Wd_drew, Wd_alloc, Wd_size, zeroCells_u8] at hr
    refine ⟨_, _, _, hr, ?_, ?_⟩
    · have hge := grownCap_ge (Wd w l d) m 0 E
      refine ⟨l.length, (X.drop o2).take m ++ rep (grownCap (Wd w l d) m 0 E - m), E, (0, 0), ?_, ?_, okf_none _, ?_, ?_⟩
      · simp [hxl]; omega
      · rw [List.getElem?_concat_length]
        congr 2
        apply Array.ext'; simp [cv]
      · simp [hxl]
      · simp [hxl]
    · exact ⟨by simp, fun p hp _ => ⟨List.getElem?_append_left hp, fun n c e => by simp at e⟩⟩
  · by_cases hroom : s.length + m ≤ S.length
    · have hr := run_storeCells_f (P := P) (w.heap.size + i) s.length t f (cv .u8 ((X.drop o2).take m)).toList 0 (cv .u8 S) (Wd w l d) (by rw [Wd_at]; exact hl) (by simp [hxl]; omega) (by simpa using hf) cv_oneCell
      rw [Nat.add_zero, spl_cv, Wd_setRow _ _ _ _ _ _ _ _ hl] at hr
      have hfc := run_firstCells_some (P := P) (Wd w l d) ti.size m ⟨w.heap.size + j, o2, none⟩ m c2 _ hcl hnews
      have hadd : (⟨w.heap.size + i, 0, none⟩ : Addr).add s.length = ⟨w.heap.size + i, s.length, none⟩ := by unfold Addr.add; split <;> simp_all
      refine ⟨.slice (some ⟨w.heap.size + i, 0, none⟩) (s.length + m) S.length, l.set i (.cells (cv .u8 (spl S s.length ((X.drop o2).take m))) t f), d, ?_, ?_, ?_⟩
      · rw [h1] at hfc
        simp [Builtin.append_, run_underlying hT, sizeOf, typeInfo, hi, h1, Builtin.lenOf, hroom, hfc, hadd, hr]
      · have hi' := (List.getElem?_eq_some_iff.1 hl).1
        have hspl : (spl S s.length ((X.drop o2).take m)).length = S.length := spl_length _ _ _ (by omega)
        refine ⟨i, spl S s.length ((X.drop o2).take m), t, f, ?_, by simp [hi'], by rw [hspl]; exact hf, ?_, by rw [hspl]; simp [hxl]; omega⟩
        · rw [hspl]; simp [hxl]
        · have hA : (S.take s.length ++ (X.drop o2).take m).length = s.length + m := by rw [ht, List.length_append, hxl]
          unfold spl
          rw [show (s ++ (X.drop o2).take m).length = s.length + m by rw [List.length_append, hxl], List.take_append_of_le_length (by omega), List.take_of_length_le (by omega), ht]
      · refine ⟨by simp, fun p hp hv => ?_⟩
        have hne : i ≠ p := fun e => by subst e; exact hv _ _ rfl
        exact ⟨by rw [List.getElem?_set_ne hne], fun n c e => by simp at e⟩
    · have holds : ∀ k u, (cv .u8 s).toList[k]? = some u → (Wd w l d).cell? ((⟨w.heap.size + i, 0, none⟩ : Addr).add k) = some u := by
        have := take_drop_cells (w := w) (d := d) (o2 := 0) (m := s.length) hl
        rwa [List.drop_zero, ht] at this
      have hr := run_append_grow (P := P) (Wd w l d) T ty E ti (.int .u8 0) hT hi hz ⟨w.heap.size + i, 0, none⟩ s.length S.length (cv .u8 s).toList (by simp [cv, h1]) holds ⟨w.heap.size + j, o2, none⟩ m c2 _ hcl hnews (by omega) (by omega)
        (growslice_fits (by omega) (by rw [hb]; omega))
      rw [Wd_drew, Wd_alloc, Wd_size, zeroCells_u8] at hr
      refine ⟨_, _, _, hr, ?_, ?_⟩
      · have hge := grownCap_ge (Wd w l d) (s.length + m) S.length E
        refine ⟨l.length, s ++ (X.drop o2).take m ++ rep (grownCap (Wd w l d) (s.length + m) S.length E - (s.length + m)), E, (0, 0), ?_, ?_, okf_none _, ?_, ?_⟩
        · simp [hxl]; omega
        · rw [List.getElem?_concat_length]
          congr 2
          apply Array.ext'; simp [cv]
        · rw [List.take_left']
          simp
        · simp
      · exact ⟨by simp, fun p hp _ => ⟨List.getElem?_append_left hp, fun n c e => by simp at e⟩⟩

/-- append as an operation of the walk. -/
theorem wpList_app {P : Program} {ops : Array Oper} {rest : List Oper} {o : Oper} {a : Act} {Q : Exit → Act → World → Prop} {w : World} {l : List Obj} {d : Nat} (hgd : o.guard = none) (x y : Operand) (T E : TypeId)
    (ho : o.op = .call { callee := .builtin .append, args := #[x, y], argTypes := #[T, T] }) (hR : ByteRow P T E) (v : Value) (s : List Nat) (hv : a.eval x = v) (h : Has0 w l v s)
    (j o2 m c2 : Nat) (hy : a.eval y = .slice (some ⟨w.heap.size + j, o2, none⟩) m c2) (X : List Nat) (t2 : TypeId) (f2 : Nat × Nat) (hj : l[j]? = some (.cells (cv .u8 X) t2 f2)) (hX : o2 + m ≤ X.length) (hm : 0 < m) (hs : s.length + m ≤ 1099511627776)
    (hK : ∀ v' l' d', Hid (Has w l' v' (s ++ (X.drop o2).take m)) → Hid (Kept w v v' l l') → wpList P ops Q rest (a.put o.dst v') (Wd w l' d')) : wpList P ops Q (o :: rest) a (Wd w l d) := by
  refine wpList_plain hgd fun K hk => ?_
  obtain ⟨v', l', d', hr, h1, h2⟩ := append_has (d := d) (c2 := c2) hR h o.type hj hX hm hs
  have hr' : (Builtin.append_ #[T, T] o.type #[v, .slice (some ⟨w.heap.size + j, o2, none⟩) m c2]).run P (Wd w l d) = .ok v' (Wd w l' d') := hr
  unfold Oper.wp
  simp [execOp, ho, resolve, invoke, builtin, hv, hy, hr', Result.andThen]
  exact hk _ _ (hK v' l' d' h1 h2)

/-- The same as one step of a region that draws its order. -/
theorem step_app {P : Program} {ops : Array Oper} {o : Oper} {a : Act} {K : Act → World → Prop} {Q : Exit → Act → World → Prop} {E0 : Prop} {w : World} {l : List Obj} {d : Nat} (hgd : o.guard = none) (x y : Operand) (T E : TypeId)
    (ho : o.op = .call { callee := .builtin .append, args := #[x, y], argTypes := #[T, T] }) (hR : ByteRow P T E) (v : Value) (s : List Nat) (hv : a.eval x = v) (h : Has0 w l v s)
    (j o2 m c2 : Nat) (hy : a.eval y = .slice (some ⟨w.heap.size + j, o2, none⟩) m c2) (X : List Nat) (t2 : TypeId) (f2 : Nat × Nat) (hj : l[j]? = some (.cells (cv .u8 X) t2 f2)) (hX : o2 + m ≤ X.length) (hm : 0 < m) (hs : s.length + m ≤ 1099511627776)
    (hK : ∀ v' l' d', Hid (Has w l' v' (s ++ (X.drop o2).take m)) → Hid (Kept w v v' l l') → K (a.put o.dst v') (Wd w l' d')) :
    if Region.wanted o (yielded ops a.tmps) = true then Oper.wp P o a (Wd w l d) K Q else E0 := by
  have hw : Region.wanted o (yielded ops a.tmps) = true := by simp [Region.wanted, hgd]
  rw [if_pos hw]
  obtain ⟨v', l', d', hr, h1, h2⟩ := append_has (d := d) (c2 := c2) hR h o.type hj hX hm hs
  have hr' : (Builtin.append_ #[T, T] o.type #[v, .slice (some ⟨w.heap.size + j, o2, none⟩) m c2]).run P (Wd w l d) = .ok v' (Wd w l' d') := hr
  unfold Oper.wp
  simp [execOp, ho, resolve, invoke, builtin, hv, hy, hr', Result.andThen]
  exact hK v' l' d' h1 h2
/-- A goal at which the walk stands still. -/
def Stop (p : Prop) : Prop := p
theorem stop {p : Prop} (h : Stop p) : p := h

/-- Stands still at a conversion. -/
theorem stop_conv {P : Program} {ops : Array Oper} {Q : Exit → Act → World → Prop} {rest : List Oper} {dst : Option Tmp} {S T : TypeId} {x : Operand} {ty : TypeId} {pos : String} {after : Array Edge} {guard : Option (Nat × Bool)} {a : Act} {w : World}
    (h : Stop (wpList P ops Q ({ dst, op := .convert S T x, type := ty, pos, after, guard } :: rest) a w)) : wpList P ops Q ({ dst, op := .convert S T x, type := ty, pos, after, guard } :: rest) a w := h

/-- A string as bytes of the call's own. -/
theorem bytes_has {P : Program} {S T E : TypeId} (hS : P.underlying S = some .string) (hT : P.underlying T = some (.slice E)) (hE : P.underlying E = some (.int .u8)) {w : World} {l : List Obj} {d : Nat} (s : ByteArray) :
    ∃ v l' d', (convert S T (.string s)).run P (Wd w l d) = .ok v (Wd w l' d') ∧ Has w l' v (bys s) ∧ ∃ o, l' = l ++ [o] := by
  have hr := run_bytes_of_string (P := P) (Wd w l d) S T E s hS hT hE
  have hge := grownCap_ge (Wd w l d) s.size 0 E
  generalize grownCap (Wd w l d) s.size 0 E = C at *
  have hrow : bytesRow s C = cv .u8 (bys s ++ rep (C - s.size)) := by
    unfold bytesRow
    rw [cells_bys]
    apply Array.ext'
    simp [cv, rep]
  have hlen : (bys s ++ rep (C - s.size)).length = C := by simp [bys_length]; omega
  rw [hrow, cv_size, hlen, Wd_drew, Wd_alloc, Wd_size] at hr
  refine ⟨_, _, _, hr, ⟨l.length, bys s ++ rep (C - s.size), E, (C, C + 1), ?_, by simp, ?_, ?_, ?_⟩, _, rfl⟩
  · rw [hlen, bys_length]
  · rw [hlen]; intro j hj h; omega
  · rw [List.take_left']; rfl
  · simp
/-- A string as bytes, as an operation of the walk. -/
theorem wpList_bytes {P : Program} {ops : Array Oper} {rest : List Oper} {o : Oper} {a : Act} {Q : Exit → Act → World → Prop} {w : World} {l : List Obj} {d : Nat} (hgd : o.guard = none) (x : Operand) (S T E : TypeId)
    (ho : o.op = .convert S T x) (hS : P.underlying S = some .string) (hT : P.underlying T = some (.slice E)) (hE : P.underlying E = some (.int .u8)) (s : ByteArray) (hx : a.eval x = .string s)
    (hK : ∀ v' l' d', Hid (Has w l' v' (bys s)) → Hid (∃ o, l' = l ++ [o]) → wpList P ops Q rest (a.put o.dst v') (Wd w l' d')) : wpList P ops Q (o :: rest) a (Wd w l d) := by
  refine wpList_plain hgd fun K hk => ?_
  obtain ⟨v', l', d', hr, h1, h2⟩ := bytes_has (P := P) hS hT hE (w := w) (l := l) (d := d) s
  unfold Oper.wp
  simp [execOp, ho, hx, hr, Result.andThen]
  exact hk _ _ (hK v' l' d' h1 h2)
end Go.Own

/- Blocks of cells of whatever kinds: their laws to load, store, copy and append, over an old world with blocks behind it. No condition. | Slices of elements of whatever size, in rows of the call's own: append, whether it has room or grows. No condition but that the row is small. -/
import Derived.Test.YtlogjpmdfimgdaaGreatDoorZ03
namespace Go.Own.Jf
open Go.RowKit

/-! ### load, store -/
theorem loadCells_mix {P : Program} {b o n : Nat} {W : World} {c : Array Value} {t : TypeId} {f : Nat × Nat} (h2 : blk W b = some (.cells c t f)) (h3 : o + n ≤ c.size) :
    (loadCells ⟨b, o, none⟩ n).run P W = .ok (c.extract o (o + n)) W := by
  have hlen : (c.extract o (o + n)).toList.length = n := by simp; omega
  have := run_loadCells_list (P := P) W ⟨b, o, none⟩ (c.extract o (o + n)).toList (fun j v hv => by
    have hadd : (⟨b, o, none⟩ : Addr).add j = ⟨b, o + j, none⟩ := by unfold Addr.add; split <;> simp_all
    rw [hadd]
    simp only [World.cell?, show W.heap[b]? = _ from h2, Option.isSome_none, Bool.false_eq_true, if_false]
    rw [← hv]
    have hj : j < n := by
      rcases Nat.lt_or_ge j n with h | h
      · exact h
      · rw [List.getElem?_eq_none (by omega)] at hv; cases hv
    rw [Array.getElem?_toList, Array.getElem?_extract]
    rw [if_pos (by omega)])
  rw [hlen, Array.toArray_toList] at this
  exact this
theorem ldX_mix {P : Program} {T : TypeId} {n b o : Nat} {W : World} {c : Array Value} {t : TypeId} {f : Nat × Nat}
    (h1 : aggSize P T = some n) (h2 : blk W b = some (.cells c t f)) (h3 : o + n ≤ c.size) :
    ldX P T (some n) (some (.cells c t f)) b o W = .ok (.agg (c.extract o (o + n))) W := by
  obtain ⟨ha, hs⟩ := isAgg_of h1 W
  have hl := loadCells_mix (P := P) h2 h3
  simp [ldX, ldN, Instr.loadAt, Instr.sureAddr, loadVar, ha, hs, hl]
theorem ldX_mix1 {P : Program} {T : TypeId} {b o : Nat} {W : World} {c : Array Value} {t : TypeId} {f : Nat × Nat} {v : Value} (ha : (isAgg T).run P W = .ok false W)
    (h2 : blk W b = some (.cells c t f)) (h3 : c[o]? = some v) :
    ldX P T none (some (.cells c t f)) b o W = .ok v W := by
  have hc : W.cell? ⟨b, o, none⟩ = some v := by
    simp only [World.cell?, show W.heap[b]? = _ from h2, Option.isSome_none, Bool.false_eq_true, if_false]
    exact h3
  simp [ldX, ldN, Instr.loadAt, Instr.sureAddr, loadVar, ha, hc]
/-- x laid over the cells from o on. -/
def splA (c : Array Value) (o : Nat) (x : List Value) : Array Value := (c.toList.take o ++ x ++ c.toList.drop (o + x.length)).toArray
theorem stX_mix {P : Program} {T : TypeId} {n : Nat} {w : World} {l : List Obj} {d i o : Nat} {c x : Array Value} {t : TypeId}
    (h1 : (sizeOf T).run P (Wd w l d) = .ok n (Wd w l d)) (h2 : l[i]? = some (.cells c t (0, 0))) (hx : x.size = n) (h3 : o + n ≤ c.size) (h4 : ∀ v ∈ x.toList, v.oneCell' = true) :
    stX P T n (some (.cells c t (0, 0))) w l d i o (.agg x) = .ok () (Wd w (l.set i (.cells (splA c o x.toList) t (0, 0))) d) := by
  have hr := run_storeCells_at P (w.heap.size + i) o t x.toList 0 c (Wd w l d) (by rw [Wd_at]; exact h2) (by simp; omega) h4
  rw [Nat.add_zero, Wd_setRow _ _ _ _ _ _ _ _ h2] at hr
  simp [stX, stN, Instr.storeAt, Instr.sureAddr, storeVar, Value.cells, h1, hx, splA, hr]
theorem stX_mix1 {P : Program} {T : TypeId} {w : World} {l : List Obj} {d i o : Nat} {c : Array Value} {v : Value} {t : TypeId}
    (h1 : (sizeOf T).run P (Wd w l d) = .ok 1 (Wd w l d)) (hv : v.oneCell' = true) (h2 : l[i]? = some (.cells c t (0, 0))) (h3 : o < c.size) :
    stX P T 1 (some (.cells c t (0, 0))) w l d i o v = .ok () (Wd w (l.set i (.cells (splA c o [v]) t (0, 0))) d) := by
  have hc : v.cells = #[v] := by cases v <;> first | rfl | simp [Value.oneCell'] at hv
  have hr := run_storeCells_at P (w.heap.size + i) o t [v] 0 c (Wd w l d) (by rw [Wd_at]; exact h2) (by simp; omega) (by simpa using hv)
  rw [Nat.add_zero, Wd_setRow _ _ _ _ _ _ _ _ h2] at hr
  simp [stX, stN, Instr.storeAt, Instr.sureAddr, storeVar, hc, h1, splA, hr]
/-- A result that lies in a block of the call's own. -/
theorem ret_mix {P : Program} {fn : Func} {R : Ending → World → Prop} {a : Act} {w : World} {l : List Obj} {d p i n : Nat} {T : TypeId} {c : Array Value} {t : TypeId} {f : Nat × Nat}
    (h : fn.results = #[.cell p T]) (hp : a.tmps.getD p undef = .pointer (some ⟨w.heap.size + i, 0, none⟩)) (h1 : aggSize P T = some n)
    (h2 : l[i]? = some (.cells c t f)) (hn : c.size = n) (hd : a.defers = []) (hR : R (.returned (.agg c)) (Wd w l d)) :
    bodyPost P fn R .ret a (Wd w l d) := by
  refine ⟨hd, .agg c, ?_, hR⟩
  have hl := ldX_mix (P := P) (T := T) (n := n) (b := w.heap.size + i) (o := 0) (W := Wd w l d) (c := c) (t := t) (f := f) h1 (by rw [blk_at]; exact h2) (by omega)
  rw [Nat.zero_add, ← hn, Array.extract_size, hn] at hl
  have hl' : (loadVar T ⟨w.heap.size + i, 0, none⟩).run P (Wd w l d) = .ok (.agg c) (Wd w l d) := by
    simpa [ldX, ldN, Instr.loadAt, Instr.sureAddr] using hl
  have hp' : a.tmps[p]?.getD undef = .pointer (some ⟨w.heap.size + i, 0, none⟩) := by simpa using hp
  simp [results, h, hp', asAddr, hl']
/-- Two results, the first of them in a block of the call's own. -/
theorem ret_mix2 {P : Program} {fn : Func} {R : Ending → World → Prop} {a : Act} {w : World} {l : List Obj} {d p q i n : Nat} {T : TypeId} {c : Array Value} {t : TypeId} {f : Nat × Nat} {v : Value}
    (h : fn.results = #[.cell p T, .tmp q]) (hp : a.tmps.getD p undef = .pointer (some ⟨w.heap.size + i, 0, none⟩)) (hq : a.tmps.getD q undef = v) (h1 : aggSize P T = some n)
    (h2 : l[i]? = some (.cells c t f)) (hn : c.size = n) (hd : a.defers = []) (hR : R (.returned (.tuple #[.agg c, v])) (Wd w l d)) :
    bodyPost P fn R .ret a (Wd w l d) := by
  refine ⟨hd, .tuple #[.agg c, v], ?_, hR⟩
  have hl := ldX_mix (P := P) (T := T) (n := n) (b := w.heap.size + i) (o := 0) (W := Wd w l d) (c := c) (t := t) (f := f) h1 (by rw [blk_at]; exact h2) (by omega)
  rw [Nat.zero_add, ← hn, Array.extract_size, hn] at hl
  have hl' : (loadVar T ⟨w.heap.size + i, 0, none⟩).run P (Wd w l d) = .ok (.agg c) (Wd w l d) := by
    simpa [ldX, ldN, Instr.loadAt, Instr.sureAddr] using hl
  have hp' : a.tmps[p]?.getD undef = .pointer (some ⟨w.heap.size + i, 0, none⟩) := by simpa using hp
  have hq' : a.tmps[q]?.getD undef = v := by simpa using hq
  simp [results, h, hp', hq', asAddr, hl']
end Go.Own.Jf
namespace Go.Own.Jf
open Go.RowKit

/-- v is a slice of n elements of sz cells each, in a row at a place that A allows; its cells are C. -/
def RowV (A : Nat → Prop) (w : World) (l : List Obj) (sz n : Nat) (v : Value) (C : List Value) : Prop :=
  (v = .slice none 0 0 ∧ n = 0 ∧ C = []) ∨
  ∃ i c X t, A i ∧ v = .slice (some ⟨w.heap.size + i, 0, none⟩) n c ∧ l[i]? = some (.cells (List.toArray X) t (0, 0)) ∧ X.length = c * sz ∧ n ≤ c ∧ X.take (n * sz) = C
/-- The slice v lies not at place p. -/
def NotAt (w : World) (v : Value) (p : Nat) : Prop := ∀ n c, v ≠ .slice (some ⟨w.heap.size + p, 0, none⟩) n c
theorem RowV.length {A : Nat → Prop} {w : World} {l : List Obj} {sz n : Nat} {v : Value} {C : List Value} (h : RowV A w l sz n v C) : C.length = n * sz := by
  rcases h with ⟨_, rfl, rfl⟩ | ⟨i, c, X, t, _, _, _, hX, hn, rfl⟩
  · simp
  · have := Nat.mul_le_mul_right sz hn
    simp; omega
theorem RowV.mono {A B : Nat → Prop} {w : World} {l l' : List Obj} {sz n : Nat} {v : Value} {C : List Value} (h : RowV A w l sz n v C) (hl : ∀ p, A p → p < l.length → B p ∧ l'[p]? = l[p]?) : RowV B w l' sz n v C := by
  rcases h with h | ⟨i, c, X, t, hA, hv, hi, h⟩
  · exact .inl h
  · have := hl i hA (List.getElem?_eq_some_iff.1 hi).1
    exact .inr ⟨i, c, X, t, this.1, hv, by rw [this.2]; exact hi, h⟩
theorem RowV.more {A : Nat → Prop} {w : World} {l : List Obj} {sz n : Nat} {v : Value} {C : List Value} (h : RowV A w l sz n v C) (g : List Obj) : RowV A w (l ++ g) sz n v C :=
  h.mono fun _ hp hlt => ⟨hp, List.getElem?_append_left hlt⟩
theorem RowV.lit {A : Nat → Prop} {w : World} {l : List Obj} {sz n j : Nat} {C : List Value} {t : TypeId} (hA : A j) (h : l[j]? = some (.cells C.toArray t (0, 0))) (hC : C.length = n * sz) : RowV A w l sz n (.slice (some ⟨w.heap.size + j, 0, none⟩) n n) C :=
  .inr ⟨j, n, C, t, hA, rfl, h, hC, Nat.le_refl _, List.take_of_length_le (by omega)⟩
structure RowT (P : Program) (T E : TypeId) (sz : Nat) : Prop where
  slice : P.underlying T = some (.slice E)
  info : ∃ i z, P.info? E = some i ∧ i.zero = some z ∧ i.size = sz ∧ z.cells.size = sz ∧ i.bytes ≤ 1048576

theorem zeroCells_size (z : Array Value) (n : Nat) : (Builtin.zeroCells z n).size = n * z.size := by simp [Builtin.zeroCells]
theorem row_cells {w : World} {l : List Obj} {d i k : Nat} {X : List Value} {t : TypeId} {f : Nat × Nat} (hi : l[i]? = some (.cells X.toArray t f)) :
    ∀ j v, (X.take k)[j]? = some v → (Wd w l d).cell? ((⟨w.heap.size + i, 0, none⟩ : Addr).add j) = some v := by
  intro j v hv
  have hadd : (⟨w.heap.size + i, 0, none⟩ : Addr).add j = ⟨w.heap.size + i, j, none⟩ := by unfold Addr.add; split <;> simp_all
  rw [hadd]
  have hb : (Wd w l d).heap[w.heap.size + i]? = some (.cells X.toArray t f) := by rw [Wd_at]; exact hi
  simp only [World.cell?, hb, Option.isSome_none, Bool.false_eq_true, if_false]
  have hj : j < k := by
    rcases Nat.lt_or_ge j k with h | h
    · exact h
    · rw [List.getElem?_eq_none (by simp; omega)] at hv; cases hv
  rw [List.getElem?_take_of_lt hj] at hv
  simpa using hv

theorem append_row {P : Program} {T E : TypeId} {sz : Nat} (hR : RowT P T E sz) {A B : Nat → Prop} {w : World} {l : List Obj} {d n m : Nat} {v x : Value} {C N : List Value} (hA : ∀ p, l.length ≤ p → A p) (h : RowV A w l sz n v C) (hx : RowV B w l sz m x N)
    (ty : TypeId) (h1 : ∀ u ∈ N, u.oneCell' = true) (hs : n + m ≤ 1048576) :
    ∃ v' l' d', (apN #[T, T] ty #[v, x]).run P (Wd w l d) = .ok v' (Wd w l' d') ∧ RowV A w l' sz (n + m) v' (C ++ N) ∧ l.length ≤ l'.length ∧ (∀ p, p < l.length → NotAt w v p → l'[p]? = l[p]?) := by
  obtain ⟨hT, ti, z, hi, hz, hsz, hzc, hb⟩ := hR
  have hbb : (n + m) * ti.bytes ≤ 140737488355328 := by
    have := Nat.mul_le_mul hs hb
    omega
  have hNl := hx.length
  have hfc : (Builtin.firstCells ti.size m x).run P (Wd w l d) = .ok N.toArray (Wd w l d) ∧ (Builtin.lenOf x).run P (Wd w l d) = .ok m (Wd w l d) := by
    rcases hx with ⟨rfl, rfl, rfl⟩ | ⟨j, c2, Y, t2, hBj, rfl, hj, hY, hm, rfl⟩
    · exact ⟨by simp [Builtin.firstCells], rfl⟩
    · exact ⟨run_firstCells_some (P := P) (Wd w l d) ti.size m ⟨w.heap.size + j, 0, none⟩ m c2 _ (by rw [hNl, hsz]) (row_cells hj), rfl⟩
  obtain ⟨hfc, hln⟩ := hfc
  unfold apN
  rcases h with ⟨rfl, rfl, rfl⟩ | ⟨i, c, X, t, hAi, rfl, hl, hX, hnc, rfl⟩
  · by_cases hm0 : m = 0
    · subst hm0
      obtain rfl : N = [] := List.length_eq_zero_iff.1 (by simpa using hNl)
      refine ⟨.slice none 0 0, l, d, ?_, .inl ⟨rfl, by omega, rfl⟩, Nat.le_refl _, fun _ _ _ => rfl⟩
      simp [Builtin.append_, run_underlying hT, sizeOf, typeInfo, hi, hln, hfc]
    · rcases hx with ⟨_, e, _⟩ | ⟨j, c2, Y, t2, hBj, rfl, hj, hY, hm, rfl⟩
      · exact absurd e hm0
      have hr := run_append_nil (P := P) (Wd w l d) T ty E ti z hT hi hz ⟨w.heap.size + j, 0, none⟩ m c2 _ (by rw [hNl, hsz]) (row_cells hj) (by omega) (by omega) (by rw [Nat.zero_add] at hbb; omega)
      rw [Wd_drew, Wd_alloc, Wd_size] at hr
      have hge := grownCap_ge (Wd w l d) m 0 E
      refine ⟨_, _, _, hr, .inr ⟨l.length, grownCap (Wd w l d) m 0 E, Y.take (m * sz) ++ (Builtin.zeroCells z.cells (grownCap (Wd w l d) m 0 E - m)).toList, E, hA _ (Nat.le_refl _), by rw [Nat.zero_add], ?_, ?_, by omega, ?_⟩, by simp, fun p hp _ => List.getElem?_append_left hp⟩
      · rw [List.getElem?_concat_length]
        congr 2
        apply Array.ext'; simp
      · rw [List.length_append, hNl, Array.length_toList, zeroCells_size, hzc, ← Nat.add_mul]
        congr 1; omega
      · rw [Nat.zero_add, List.nil_append, List.take_append_of_le_length (by omega), List.take_of_length_le (by omega)]
  · have hnsz : n * sz ≤ X.length := by rw [hX]; exact Nat.mul_le_mul_right _ hnc
    by_cases hroom : n + m ≤ c
    · have hfit : n * sz + N.length ≤ X.length := by rw [hNl, hX, ← Nat.add_mul]; exact Nat.mul_le_mul_right _ hroom
      have hr := run_storeCells_at P (w.heap.size + i) (n * sz) t N 0 X.toArray (Wd w l d) (by rw [Wd_at]; exact hl) (by simp; omega) h1
      rw [Nat.add_zero, Wd_setRow _ _ _ _ _ _ _ _ hl] at hr
      have hadd : (⟨w.heap.size + i, 0, none⟩ : Addr).add (n * sz) = ⟨w.heap.size + i, n * sz, none⟩ := by unfold Addr.add; split <;> simp_all
      have hi' := (List.getElem?_eq_some_iff.1 hl).1
      refine ⟨.slice (some ⟨w.heap.size + i, 0, none⟩) (n + m) c, l.set i (.cells (List.toArray (X.take (n * sz) ++ N ++ X.drop (n * sz + N.length))) t (0, 0)), d, ?_, .inr ⟨i, c, X.take (n * sz) ++ N ++ X.drop (n * sz + N.length), t, hAi, rfl, by simp [hi'], ?_, hroom, ?_⟩, by simp, ?_⟩
      · rw [hsz] at hfc
        have hr' := hr
        simp only [List.append_assoc] at hr'
        simp [Builtin.append_, run_underlying hT, sizeOf, typeInfo, hi, hsz, hln, hroom, hfc, hadd, hr']
      · simp; omega
      · rw [List.take_append_of_le_length (by simp [Nat.add_mul]; omega), List.take_of_length_le (by simp [Nat.add_mul]; omega)]
      · intro p hp hv
        have hne : i ≠ p := fun e => by subst e; exact hv _ _ rfl
        rw [List.getElem?_set_ne hne]
    · have hm0 : m ≠ 0 := by omega
      rcases hx with ⟨_, e, _⟩ | ⟨j, c2, Y, t2, hBj, rfl, hj, hY, hm, rfl⟩
      · exact absurd e hm0
      have hr := run_append_grow (P := P) (Wd w l d) T ty E ti z hT hi hz ⟨w.heap.size + i, 0, none⟩ n c (X.take (n * sz)) (by rw [hsz]; simp; omega) (row_cells hl) ⟨w.heap.size + j, 0, none⟩ m c2 _ (by rw [hNl, hsz]) (row_cells hj) (by omega) (by omega)
        (growslice_fits (by omega) hbb)
      rw [Wd_drew, Wd_alloc, Wd_size] at hr
      have hge := grownCap_ge (Wd w l d) (n + m) c E
      refine ⟨_, _, _, hr, .inr ⟨l.length, grownCap (Wd w l d) (n + m) c E, X.take (n * sz) ++ Y.take (m * sz) ++ (Builtin.zeroCells z.cells (grownCap (Wd w l d) (n + m) c E - (n + m))).toList, E, hA _ (Nat.le_refl _), rfl, ?_, ?_, by omega, ?_⟩, by simp, fun p hp _ => List.getElem?_append_left hp⟩
      · rw [List.getElem?_concat_length]
        congr 2
        apply Array.ext'; simp
      · have h3 : (X.take (n * sz)).length = n * sz := by simp; omega
        rw [List.length_append, List.length_append, hNl, h3, Array.length_toList, zeroCells_size, hzc, ← Nat.add_mul, ← Nat.add_mul]
        congr 1; omega
      · have h3 : (X.take (n * sz)).length = n * sz := by simp; omega
        rw [List.take_append_of_le_length (by rw [List.length_append, h3, hNl, Nat.add_mul]; omega), List.take_of_length_le (by rw [List.length_append, h3, hNl, Nat.add_mul]; omega)]
/-- append as an operation of the walk. -/
theorem wpList_row {P : Program} {ops : Array Oper} {rest : List Oper} {o : Oper} {a : Act} {Q : Exit → Act → World → Prop} {w : World} {l : List Obj} {d : Nat} (hgd : o.guard = none) (x y : Operand) (T E : TypeId) {sz : Nat}
    (ho : o.op = .call { callee := .builtin .append, args := #[x, y], argTypes := #[T, T] }) (hR : RowT P T E sz) {A B : Nat → Prop} (hA : ∀ p, l.length ≤ p → A p) (v : Value) (n : Nat) (C : List Value) (hv : a.eval x = v) (h : RowV A w l sz n v C)
    (u : Value) (m : Nat) (N : List Value) (hu : a.eval y = u) (hx : RowV B w l sz m u N) (h1 : ∀ u ∈ N, u.oneCell' = true) (hs : n + m ≤ 1048576)
    (hK : ∀ v' l' d', Hid (RowV A w l' sz (n + m) v' (C ++ N)) → Hid (l.length ≤ l'.length) → Hid (∀ p, p < l.length → NotAt w v p → l'[p]? = l[p]?) → wpList P ops Q rest (a.put o.dst v') (Wd w l' d')) : wpList P ops Q (o :: rest) a (Wd w l d) := by
  refine wpList_plain hgd fun K hk => ?_
  obtain ⟨v', l', d', hr, h1, h2, h3⟩ := append_row (d := d) hR hA h hx o.type h1 hs
  have hr' : (Builtin.append_ #[T, T] o.type #[v, u]).run P (Wd w l d) = .ok v' (Wd w l' d') := hr
  unfold Oper.wp
  simp [execOp, ho, resolve, invoke, builtin, hv, hu, hr', Result.andThen]
  exact hk _ _ (hK v' l' d' h1 h2 h3)
/-- The same as one step of a region that draws its order. -/
theorem step_row {P : Program} {ops : Array Oper} {o : Oper} {a : Act} {K : Act → World → Prop} {Q : Exit → Act → World → Prop} {E0 : Prop} {w : World} {l : List Obj} {d : Nat} (hgd : o.guard = none) (x y : Operand) (T E : TypeId) {sz : Nat}
    (ho : o.op = .call { callee := .builtin .append, args := #[x, y], argTypes := #[T, T] }) (hR : RowT P T E sz) {A B : Nat → Prop} (hA : ∀ p, l.length ≤ p → A p) (v : Value) (n : Nat) (C : List Value) (hv : a.eval x = v) (h : RowV A w l sz n v C)
    (u : Value) (m : Nat) (N : List Value) (hu : a.eval y = u) (hx : RowV B w l sz m u N) (h1 : ∀ u ∈ N, u.oneCell' = true) (hs : n + m ≤ 1048576)
    (hK : ∀ v' l' d', Hid (RowV A w l' sz (n + m) v' (C ++ N)) → Hid (l.length ≤ l'.length) → Hid (∀ p, p < l.length → NotAt w v p → l'[p]? = l[p]?) → K (a.put o.dst v') (Wd w l' d')) :
    if Region.wanted o (yielded ops a.tmps) = true then Oper.wp P o a (Wd w l d) K Q else E0 := by
  have hw : Region.wanted o (yielded ops a.tmps) = true := by simp [Region.wanted, hgd]
  rw [if_pos hw]
  obtain ⟨v', l', d', hr, h1, h2, h3⟩ := append_row (d := d) hR hA h hx o.type h1 hs
  have hr' : (Builtin.append_ #[T, T] o.type #[v, u]).run P (Wd w l d) = .ok v' (Wd w l' d') := hr
  unfold Oper.wp
  simp [execOp, ho, resolve, invoke, builtin, hv, hu, hr', Result.andThen]
  exact hK v' l' d' h1 h2 h3

/-! ### Where a block lies -/
theorem set_same {l : List Obj} {m : Nat} {X : Obj} (h : (l[m]?).isSome = true) : (l.set m X)[m]? = some X := by
  have : m < l.length := by
    rcases Nat.lt_or_ge m l.length with h' | h'
    · exact h'
    · rw [List.getElem?_eq_none h'] at h; cases h
  simp [this]
theorem app_left {l g : List Obj} {m : Nat} (h : (l[m]?).isSome = true) : (l ++ g)[m]? = l[m]? := by
  have : m < l.length := by
    rcases Nat.lt_or_ge m l.length with h' | h'
    · exact h'
    · rw [List.getElem?_eq_none h'] at h; cases h
  exact List.getElem?_append_left this
theorem set_left {l g : List Obj} {m : Nat} {X : Obj} (h : (l[m]?).isSome = true) : (l ++ g).set m X = l.set m X ++ g := by
  have : m < l.length := by
    rcases Nat.lt_or_ge m l.length with h' | h'
    · exact h'
    · rw [List.getElem?_eq_none h'] at h; cases h
  exact List.set_append_left _ _ this
theorem app_some {l g : List Obj} {m : Nat} {X : Obj} (h : l[m]? = some X) : (l ++ g)[m]? = some X := by rw [app_left (by rw [h]; rfl), h]
theorem set_some {l : List Obj} {m : Nat} {X Y : Obj} (h : l[m]? = some Y) : (l.set m X)[m]? = some X := set_same (by rw [h]; rfl)
theorem set_other {l : List Obj} {m k : Nat} {X Y : Obj} (hne : m ≠ k) (h : l[k]? = some Y) : (l.set m X)[k]? = some Y := by rw [List.getElem?_set_ne hne, h]
theorem at_next {l : List Obj} {A B : Obj} {n : Nat} (h : l.length = n) : (l ++ [A, B])[n + 1]? = some B := by subst h; rw [List.getElem?_append_right (by omega)]; simp
theorem at_mid' {g r : List Obj} {a : Obj} {n : Nat} (h : g.length = n) : (g ++ a :: r)[n]? = some a := by subst h; simp
theorem set_mid' {g r : List Obj} {a b : Obj} {n : Nat} (h : g.length = n) : (g ++ a :: r).set n b = g ++ b :: r := by
  subst h
  rw [List.set_append_right _ _ (Nat.le_refl _)]; simp
end Go.Own.Jf

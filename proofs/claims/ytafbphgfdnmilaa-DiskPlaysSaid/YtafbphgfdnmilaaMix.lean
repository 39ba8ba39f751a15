/- Blocks of cells of whatever kinds: their laws to load, store, copy and append, over an old world with blocks behind it. No condition. -/
import Derived.Test.YtafbphgfdnmilaaApp
namespace Go.Own
open Go.RowKit

/-! ### load, store -/
theorem loadCells_mix {P : Program} {b o n : Nat} {W : World} {c : Array Value} {t : TypeId} {f : Nat × Nat} (h2 : blk W b = some (.cells c t f)) (h3 : o + n ≤ c.size) :
    (loadCells ⟨b, o, none⟩ n).run P W = .ok (c.extract o (o + n)) W := by
  have hlen : (c.extract o (o + n)).toList.length = n := by simp; omega
  have := run_loadCells_list (P := P) W ⟨b, o, none⟩ (c.extract o (o + n)).toList (fun j v hv => by
    have hadd : (⟨b, o, none⟩ : Addr).add j = ⟨b, o + j, none⟩ := by unfold Addr.add; split <;> simp_all
    rw [hadd]
    simp only [World.cell?, show W.heap[b]? = _ from h2, Option.isSome_none, Bool.false_eq_true, if_false]
    rw [← hv]
    have hj : j < n := by
      rcases Nat.lt_or_ge j n with h | h
      · exact h
      · rw [List.getElem?_eq_none (by omega)] at hv; cases hv
    rw [Array.getElem?_toList, Array.getElem?_extract]
    rw [if_pos (by omega)])
  rw [hlen, Array.toArray_toList] at this
  exact this
theorem ldX_mix {P : Program} {T : TypeId} {n b o : Nat} {W : World} {c : Array Value} {t : TypeId} {f : Nat × Nat}
    (h1 : aggSize P T = some n) (h2 : blk W b = some (.cells c t f)) (h3 : o + n ≤ c.size) :
    ldX P T (some n) (some (.cells c t f)) b o W = .ok (.agg (c.extract o (o + n))) W := by
  obtain ⟨ha, hs⟩ := isAgg_of h1 W
  have hl := loadCells_mix (P := P) h2 h3
  simp [ldX, ldN, Instr.loadAt, Instr.sureAddr, loadVar, ha, hs, hl]
theorem ldX_mix1 {P : Program} {T : TypeId} {b o : Nat} {W : World} {c : Array Value} {t : TypeId} {f : Nat × Nat} {v : Value} (ha : (isAgg T).run P W = .ok false W)
    (h2 : blk W b = some (.cells c t f)) (h3 : c[o]? = some v) :
    ldX P T none (some (.cells c t f)) b o W = .ok v W := by
  have hc : W.cell? ⟨b, o, none⟩ = some v := by
    simp only [World.cell?, show W.heap[b]? = _ from h2, Option.isSome_none, Bool.false_eq_true, if_false]
    exact h3
  simp [ldX, ldN, Instr.loadAt, Instr.sureAddr, loadVar, ha, hc]
/-- x laid over the cells from o on. -/
def splA (c : Array Value) (o : Nat) (x : List Value) : Array Value := (c.toList.take o ++ x ++ c.toList.drop (o + x.length)).toArray
theorem stX_mix {P : Program} {T : TypeId} {n : Nat} {w : World} {l : List Obj} {d i o : Nat} {c x : Array Value} {t : TypeId}
    (h1 : (sizeOf T).run P (Wd w l d) = .ok n (Wd w l d)) (h2 : l[i]? = some (.cells c t (0, 0))) (hx : x.size = n) (h3 : o + n ≤ c.size) (h4 : ∀ v ∈ x.toList, v.oneCell' = true) :
    stX P T n (some (.cells c t (0, 0))) w l d i o (.agg x) = .ok () (Wd w (l.set i (.cells (splA c o x.toList) t (0, 0))) d) := by
  have hr := run_storeCells_at P (w.heap.size + i) o t x.toList 0 c (Wd w l d) (by rw [Wd_at]; exact h2) (by simp; omega) h4
  rw [Nat.add_zero, Wd_setRow _ _ _ _ _ _ _ _ h2] at hr
  simp [stX, stN, Instr.storeAt, Instr.sureAddr, storeVar, Value.cells, h1, hx, splA, hr]
theorem stX_mix1 {P : Program} {T : TypeId} {w : World} {l : List Obj} {d i o : Nat} {c : Array Value} {v : Value} {t : TypeId}
    (h1 : (sizeOf T).run P (Wd w l d) = .ok 1 (Wd w l d)) (hv : v.oneCell' = true) (h2 : l[i]? = some (.cells c t (0, 0))) (h3 : o < c.size) :
    stX P T 1 (some (.cells c t (0, 0))) w l d i o v = .ok () (Wd w (l.set i (.cells (splA c o [v]) t (0, 0))) d) := by
  have hc : v.cells = #[v] := by cases v <;> first | rfl | simp [Value.oneCell'] at hv
  have hr := run_storeCells_at P (w.heap.size + i) o t [v] 0 c (Wd w l d) (by rw [Wd_at]; exact h2) (by simp; omega) (by simpa using hv)
  rw [Nat.add_zero, Wd_setRow _ _ _ _ _ _ _ _ h2] at hr
  simp [stX, stN, Instr.storeAt, Instr.sureAddr, storeVar, hc, h1, splA, hr]
/-- A result that lies in a block of the call's own. -/
theorem ret_mix {P : Program} {fn : Func} {R : Ending → World → Prop} {a : Act} {w : World} {l : List Obj} {d p i n : Nat} {T : TypeId} {c : Array Value} {t : TypeId} {f : Nat × Nat}
    (h : fn.results = #[.cell p T]) (hp : a.tmps.getD p undef = .pointer (some ⟨w.heap.size + i, 0, none⟩)) (h1 : aggSize P T = some n)
    (h2 : l[i]? = some (.cells c t f)) (hn : c.size = n) (hd : a.defers = []) (hR : R (.returned (.agg c)) (Wd w l d)) :
    bodyPost P fn R .ret a (Wd w l d) := by
  refine ⟨hd, .agg c, ?_, hR⟩
  have hl := ldX_mix (P := P) (T := T) (n := n) (b := w.heap.size + i) (o := 0) (W := Wd w l d) (c := c) (t := t) (f := f) h1 (by rw [blk_at]; exact h2) (by omega)
  rw [Nat.zero_add, ← hn, Array.extract_size, hn] at hl
  have hl' : (loadVar T ⟨w.heap.size + i, 0, none⟩).run P (Wd w l d) = .ok (.agg c) (Wd w l d) := by
    simpa [ldX, ldN, Instr.loadAt, Instr.sureAddr] using hl
  have hp' : a.tmps[p]?.getD undef = .pointer (some ⟨w.heap.size + i, 0, none⟩) := by simpa using hp
  simp [results, h, hp', asAddr, hl']
/-- Two results, the first of them in a block of the call's own. -/
theorem ret_mix2 {P : Program} {fn : Func} {R : Ending → World → Prop} {a : Act} {w : World} {l : List Obj} {d p q i n : Nat} {T : TypeId} {c : Array Value} {t : TypeId} {f : Nat × Nat} {v : Value}
    (h : fn.results = #[.cell p T, .tmp q]) (hp : a.tmps.getD p undef = .pointer (some ⟨w.heap.size + i, 0, none⟩)) (hq : a.tmps.getD q undef = v) (h1 : aggSize P T = some n)
    (h2 : l[i]? = some (.cells c t f)) (hn : c.size = n) (hd : a.defers = []) (hR : R (.returned (.tuple #[.agg c, v])) (Wd w l d)) :
    bodyPost P fn R .ret a (Wd w l d) := by
  refine ⟨hd, .tuple #[.agg c, v], ?_, hR⟩
  have hl := ldX_mix (P := P) (T := T) (n := n) (b := w.heap.size + i) (o := 0) (W := Wd w l d) (c := c) (t := t) (f := f) h1 (by rw [blk_at]; exact h2) (by omega)
  rw [Nat.zero_add, ← hn, Array.extract_size, hn] at hl
  have hl' : (loadVar T ⟨w.heap.size + i, 0, none⟩).run P (Wd w l d) = .ok (.agg c) (Wd w l d) := by
    simpa [ldX, ldN, Instr.loadAt, Instr.sureAddr] using hl
  have hp' : a.tmps[p]?.getD undef = .pointer (some ⟨w.heap.size + i, 0, none⟩) := by simpa using hp
  have hq' : a.tmps[q]?.getD undef = v := by simpa using hq
  simp [results, h, hp', hq', asAddr, hl']
end Go.Own

/- The document's own key made ready. -/
import Derived.Test.YtfamoakicgmfgaaGreatB5
namespace Go.Own
open Go.RowKit
theorem alX_two {P : Program} {T : TypeId} {w : World} {l : List Obj} {d : Nat} {a b : Value} (h : zeroOf P T = .agg #[a, b]) :
    alX P T (.agg #[a, b]) w l d = .ok (.pointer (some ⟨w.heap.size + l.length, 0, none⟩)) (Wd w (l ++ [.cells #[a, b] T (0, 0)]) d) := by
  simp [alX, alN, Instr.alloc, run_zeroOf h, newVar, newRow, Value.cells, Wd_size, Wd_alloc]
theorem stX_two {P : Program} {T : TypeId} {w : World} {l : List Obj} {d i : Nat} {a b a' b' : Value} {t : TypeId}
    (h1 : (sizeOf T).run P (Wd w l d) = .ok 2 (Wd w l d)) (h2 : l[i]? = some (.cells #[a, b] t (0, 0))) (ha : a'.oneCell' = true) (hb : b'.oneCell' = true) :
    stX P T 2 (some (.cells #[a, b] t (0, 0))) w l d i 0 (.agg #[a', b']) = .ok () (Wd w (l.set i (.cells #[a', b'] t (0, 0))) d) := by
  have hr := run_storeCells_at P (w.heap.size + i) 0 t [a', b'] 0 #[a, b] (Wd w l d) (by rw [Wd_at]; exact h2) (by simp) (by simp [ha, hb])
  rw [Nat.add_zero] at hr
  simp only [List.take_zero, List.nil_append, List.length_cons, List.length_nil, Nat.zero_add, List.drop_of_length_le (show [a, b].length ≤ 1 + 1 by simp), List.append_nil] at hr
  rw [Wd_setRow _ _ _ _ _ _ _ _ h2] at hr
  simp [stX, stN, Instr.storeAt, Instr.sureAddr, storeVar, Value.cells, h1, hr]
theorem Has.shift {w : World} {l : List Obj} {d : Nat} {m : List Obj} {v : Value} {s : List Nat} (h : Has (Wd w l d) m v s) : Has w (l ++ m) v s := by
  obtain ⟨i, S, t, f, h1, h2, h3⟩ := h
  refine ⟨l.length + i, S, t, f, ?_, ?_, h3⟩
  · rw [h1, Wd_size, Nat.add_assoc]
  · rw [List.getElem?_append_right (by omega)]
    simpa using h2
theorem Has.set {w : World} {l : List Obj} {v : Value} {s : List Nat} {p : Nat} {o o' : Obj} (h : Has w l v s) (hp : l[p]? = some o) (ho : ∀ S t f, o ≠ .cells (cv .u8 S) t f) : Has w (l.set p o') v s := by
  obtain ⟨i, S, t, f, h1, h2, h3⟩ := h
  refine ⟨i, S, t, f, h1, ?_, h3⟩
  by_cases e : p = i
  · subst e; rw [hp] at h2; exact absurd (Option.some.inj h2) (ho _ _ _)
  · rw [List.getElem?_set_ne e]; exact h2
end Go.Own
namespace Go.Proofs.YtfamoakicgmfgaaGreat
open Go.RowKit Go.Own
theorem z76 : zeroOf Tryz.prog 76 = .agg #[.slice none 0 0, .slice none 0 0] := by kernel_rfl
theorem ag76 : aggSize Tryz.prog 76 = some 2 := by kernel_rfl
theorem cs76 : Tryz.prog.cellsOf 76 = 2 := by kernel_rfl
theorem sz76 (W : World) : (sizeOf 76).run Tryz.prog W = .ok 2 W := by kernel_rfl
theorem bu29_0 (W : World) : (buN 76 #[]).run Tryz.prog W = .ok (.agg #[.slice none 0 0, .slice none 0 0]) W := by kernel_rfl
theorem bu76 (p q : Option Addr) (a b c e : Nat) (W : World) : (buN 76 #[(0, .slice p a b), (1, .slice q c e)]).run Tryz.prog W = .ok (.agg #[.slice p a b, .slice q c e]) W := by kernel_rfl
theorem ld29 {W : World} {b : Nat} {x y : Value} {t : TypeId} {f : Nat × Nat} (h : blk W b = some (.cells #[x, y] t f)) : (loadVar 76 ⟨b, 0, none⟩).run Tryz.prog W = .ok (.agg #[x, y]) W := by
  obtain ⟨ha, _⟩ := isAgg_of ag76 W
  have hl := run_loadCells_list (P := Tryz.prog) W ⟨b, 0, none⟩ [x, y] (fun j v hv => by
    have hadd : (⟨b, 0, none⟩ : Addr).add j = ⟨b, j, none⟩ := by unfold Addr.add; split <;> simp_all
    rw [hadd]
    simp only [World.cell?, show W.heap[b]? = _ from h, Option.isSome_none, Bool.false_eq_true, if_false]
    simpa using hv)
  have hl2 : (loadCells ⟨b, 0, none⟩ 2).run Tryz.prog W = .ok #[x, y] W := hl
  simp [loadVar, ha, hl2]
attribute [local go_sem] ag5 cs5 sz5 isa5 z76 ag76 cs76 sz76 bu76 bu29_0
theorem stX29 {P : Program} {T : TypeId} {w : World} {l : List Obj} {d i : Nat} {a b : Value} {p q : Option Addr} {n c m e : Nat} {t : TypeId}
    (h1 : (sizeOf T).run P (Wd w l d) = .ok 2 (Wd w l d)) (h2 : l[i]? = some (.cells #[a, b] t (0, 0))) :
    stX P T 2 (some (.cells #[a, b] t (0, 0))) w l d i 0 (.agg #[.slice p n c, .slice q m e]) = .ok () (Wd w (l.set i (.cells #[.slice p n c, .slice q m e] t (0, 0))) d) := stX_two h1 h2 rfl rfl
theorem two_ne (p : Option Addr) (a b : Nat) (y : Value) (t : TypeId) (S : List Nat) (t' : TypeId) (f f' : Nat × Nat) : Obj.cells #[.slice p a b, y] t f ≠ .cells (cv .u8 S) t' f' := by
  intro e
  injection e with e1
  cases S <;> simp [cv] at e1
attribute [local go_sem] alX_two stX29
theorem ret29 {R : Ending → World → Prop} {a : Act} {w : World} {l : List Obj} {d p i : Nat} {x y : Value} {t : TypeId} {f : Nat × Nat} {fn : Func} {r : Nat} {n : Int}
    (h : fn.results = #[.cell p 76, .tmp r]) (hp : a.tmps.getD p undef = .pointer (some ⟨w.heap.size + i, 0, none⟩)) (hr : a.tmps.getD r undef = .int .i64 n)
    (h2 : l[i]? = some (.cells #[x, y] t f)) (hd : a.defers = []) (hR : R (.returned (.tuple #[.agg #[x, y], .int .i64 n])) (Wd w l d)) : bodyPost Tryz.prog fn R .ret a (Wd w l d) := by
  refine ⟨hd, .tuple #[.agg #[x, y], .int .i64 n], ?_, hR⟩
  have hl := ld29 (W := Wd w l d) (b := w.heap.size + i) (by rw [blk_at]; exact h2)
  have hp' : a.tmps[p]?.getD undef = .pointer (some ⟨w.heap.size + i, 0, none⟩) := by simpa using hp
  have hr' : a.tmps[r]?.getD undef = .int .i64 n := by simpa using hr
  simp [results, h, hp', hr', asAddr, hl]
theorem sofar52 (key : List Nat) : sofar key 52 = words cs0 key := by
  unfold sofar
  rw [List.take_of_length_le (by rw [wst_length _ _ _ (Nat.le_refl _)]; exact Nat.le_refl 240)]
  rfl
set_option maxRecDepth 100000 in
theorem refNew_bad (key : ByteArray) (h : key.size ≠ 32) (w : World) :
    Calls Tryz.prog 38 #[.string key] w fun e w' => e = .returned (.tuple #[.agg #[.slice none 0 0, .slice none 0 0], .int .i64 2]) ∧ Grows w w' := by
  have hb : ((key.size : Int) != 32) = true := by simp; omega
  clear h
  refine calls_wd ?_
  go_enter Tryz.func38, Tryz.ntmps38
  go_wp2
  exact ret29 (i := 0) rfl rfl rfl rfl rfl ⟨rfl, Grows.of _ _ _⟩
set_option maxRecDepth 100000 in
set_option maxHeartbeats 1000000 in
theorem refNew_ok (key : ByteArray) (h : key.size = 32) (w : World) :
    Calls Tryz.prog 38 #[.string key] w fun e w' => ∃ v b l d, e = .returned (.tuple #[.agg #[v, b], .int .i64 0]) ∧ w' = Wd w l d ∧ Has w l v (words cs0 (bys key)) ∧ Has w l b boxes := by
  have hb : ((key.size : Int) != 32) = false := by simp; omega
  have H := Lib.hid h; clear h
  have hbl := Lib.hid boxes_length
  refine calls_wd ?_
  go_enter Tryz.func38, Tryz.ntmps38
  go_wp2_with fail
  refine (refBoxes_any _).mono ?_
  rintro e w' ⟨b, l, d, rfl, rfl, hb⟩
  obtain ⟨i, S, t, f, rfl, hi, _, ht, hle⟩ := hb.shift
  rw [hbl.out] at ht hle ⊢
  rw [Wd_wd]
  go_wp2_with fail
  refine (refWords_any key H.out _ S.length S t f ht hle _ (by rw [blk_at]; exact hi)).mono ?_
  rintro e w' ⟨v, l', d', rfl, rfl, hv⟩
  rw [sofar52] at hv
  have HB := hb.shift.more l'
  rw [hbl.out] at HB
  have HV := Lib.hid hv.shift
  obtain ⟨i', S', t', f', rfl, _⟩ := hv.shift
  rw [Wd_wd]
  have HB' := Lib.hid (Has.set (p := 0) (o' := .cells #[.slice (some ⟨w.heap.size + i', 0, none⟩) (words cs0 (bys key)).length S'.length, .slice (some ⟨w.heap.size + i, 0, none⟩) 256 S.length] 76 (0, 0)) HB rfl (fun _ _ _ => two_ne _ _ _ _ _ _ _ _ _))
  have HV' := Lib.hid (Has.set (p := 0) (o' := .cells #[.slice (some ⟨w.heap.size + i', 0, none⟩) (words cs0 (bys key)).length S'.length, .slice (some ⟨w.heap.size + i, 0, none⟩) 256 S.length] 76 (0, 0)) HV.out rfl (fun _ _ _ => two_ne _ _ _ _ _ _ _ _ _))
  clear HB HV hb hv
  go_wp2
  exact ret29 (i := 0) rfl rfl rfl rfl rfl ⟨_, _, _, _, rfl, rfl, HV'.out, HB'.out⟩
end Go.Proofs.YtfamoakicgmfgaaGreat

/- ShaTells' own walk. -/
import Derived.Test.YtbiadmhomadflaaGreatDoorR4
import Derived.Test.YtbiadmhomadflaaGreatDoorH1
import Derived.Test.YtbiadmhomadflaaGreatDoorS1
namespace Go.Proofs.YtbiadmhomadflaaGreatDoor.Sm
open Go.RowKit Go.Own

theorem bs22 (w : World) (l : List Obj) (d : Nat) : (bsN 93 0 #[]).run Tryz.prog (Wd w l d) =
    .ok (.slice (some ⟨w.heap.size + l.length, 0, none⟩) 0 0) (Wd w (l ++ [.cells #[] 9 (0, 0)]) d) := by
  rw [← Wd_alloc, ← Wd_size w l d]
  generalize Wd w l d = W
  kernel_rfl
theorem info9 : (Tryz.prog.info? 9).map (fun i => (i.zero, i.size, i.bytes)) = some (some (.string ByteArray.empty), 1, 16) := by kernel_rfl
/-- An empty row of the call's own, and so many strings behind it. -/
theorem strs_app (W : World) (b : Addr) (p : Option Addr) (ss : List ByteArray) (cap : Nat) (ty : TypeId) (hP : PartsO W p ss) (hl : ss.length ≤ 1000000) :
    ∃ v' c' g e, (Builtin.append_ #[93, 93] ty #[.slice (some b) 0 0, .slice p ss.length cap]).run Tryz.prog W = .ok (.slice v' ss.length c') (Wd W g e) ∧ Parts (Wd W g e) v' ss := by
  obtain ⟨ti, hi, hz, h1, hb⟩ : ∃ ti, Tryz.prog.info? 9 = some ti ∧ ti.zero = some (.string ByteArray.empty) ∧ ti.size = 1 ∧ ti.bytes = 16 := by
    have h := info9
    cases hi : Tryz.prog.info? 9 with
    | none => rw [hi] at h; cases h
    | some i =>
      rw [hi] at h
      simp at h
      exact ⟨i, rfl, h.1, h.2.1, h.2.2⟩
  cases ss with
  | nil =>
    refine ⟨some b, 0, [], 0, ?_, fun j s hs => by simp at hs⟩
    rw [Wd_nil]
    cases p <;> simp [Builtin.append_, run_underlying Tryz.underlying93, sizeOf, typeInfo, hi, Builtin.lenOf, Builtin.firstCells, storeCells]
    simp [loadCells, loadCellsFrom, storeCells]
  | cons s0 rest =>
    obtain ⟨pb, o, c, t, f, rfl, hblk, _⟩ := hP 0 s0 rfl
    have hnews : ∀ (j : Nat) v, ((s0 :: rest).map Value.string)[j]? = some v → W.cell? ((⟨pb, o, none⟩ : Addr).add j) = some v := by
      intro j v hv
      rw [List.getElem?_map, Option.map_eq_some_iff] at hv
      obtain ⟨s, hs, rfl⟩ := hv
      obtain ⟨b', o', c', t', f', e, hb', hc'⟩ := hP j s hs
      simp only [Option.some.injEq, Addr.mk.injEq] at e
      obtain ⟨rfl, rfl, _⟩ := e
      have hadd : (⟨pb, o, none⟩ : Addr).add j = ⟨pb, o + j, none⟩ := by unfold Addr.add; split <;> simp_all
      rw [hadd]
      simp only [World.cell?, show W.heap[pb]? = _ from hb', Option.isSome_none, Bool.false_eq_true, if_false]
      exact hc'
    have hr := run_append_grow (P := Tryz.prog) W 93 ty 9 ti _ Tryz.underlying93 hi hz b 0 0 [] (by simp) (fun j v h => by simp at h) ⟨pb, o, none⟩ (s0 :: rest).length cap ((s0 :: rest).map Value.string) (by rw [h1]; simp) hnews (by simp) (by simp at hl ⊢; omega)
      (growslice_fits (by simp) (by rw [hb]; simp at hl ⊢; omega))
    rw [← Wd_nil W, Wd_drew, Wd_alloc, Wd_size, Wd_nil, List.nil_append, Nat.zero_add] at hr
    have hb0 : ∀ (X : Obj) (e : Nat), blk (Wd W [X] e) (W.heap.size + ([] : List Obj).length) = some X := fun X e => by
      rw [show W.heap.size + ([] : List Obj).length = W.heap.size from rfl, blk_at0]; rfl
    refine ⟨_, _, _, _, hr, fun j s hs => ?_⟩
    have hj := (List.getElem?_eq_some_iff.1 hs).1
    exact ⟨_, _, 9, (0, 0), rfl, hb0 _ _, by
      rw [Array.getElem?_append_left (by simpa using hj)]
      have hm := congrArg (Option.map Value.string) hs
      rw [← List.getElem?_map] at hm
      simpa using hm⟩

/-- The same as an operation of the walk, guarded or not. -/
theorem wpList_strs {ops : Array Oper} {rest : List Oper} {o : Oper} {a : Act} {Q : Exit → Act → World → Prop} {w : World} {l : List Obj} {d : Nat} (hw : Region.wanted o (yielded ops a.tmps) = true) (x y : Operand)
    (ho : o.op = .call { callee := .builtin .append, args := #[x, y], argTypes := #[93, 93] }) (b : Addr) (hx : a.eval x = .slice (some b) 0 0) (p : Option Addr) (ss : List ByteArray) (cap : Nat) (hy : a.eval y = .slice p ss.length cap) (hP : PartsO w p ss) (hl : ss.length ≤ 1000000)
    (hK : ∀ v' c' l' d', Parts (Wd w l' d') v' ss → wpList Tryz.prog ops Q rest (a.put o.dst (.slice v' ss.length c')) (Wd w l' d')) : wpList Tryz.prog ops Q (o :: rest) a (Wd w l d) := by
  refine wpList_step fun K hk => ?_
  rw [if_pos hw]
  obtain ⟨v', c', g, e, hr, h1⟩ := strs_app (Wd w l d) b p ss cap o.type (hP.wd _ _) hl
  rw [Wd_wd] at hr h1
  unfold Oper.wp
  simp [execOp, ho, resolve, invoke, builtin, hx, hy, hr, Result.andThen]
  exact hk _ _ (hK v' c' _ _ h1)
theorem bys_cat (x : List Nat) (s : ByteArray) : mkS x ++ s = mkS (x ++ bys s) := by
  rw [← mkS_append, mkS_bys]
theorem allB_B8 (ss : List ByteArray) : B8 (allB ss) := fun n hn => by
  obtain ⟨s, _, h⟩ := List.mem_flatMap.1 hn
  exact B8.bys s n h
attribute [local go_sem] isa9 ag9 ldX_some bs22
attribute [-go_sem] run_string_add_if
end Go.Proofs.YtbiadmhomadflaaGreatDoor.Sm

/- More operations by themselves: a part of a slice, an element's and a field's address, lengths, bytes, sums of strings; sorting by insertion, plainly. No condition. -/
import Derived.Test.YtbfcbffmgdijfaaR2
import Derived.Laws.Slices
import Derived.WalkLawsBesides
namespace Go.Proofs.Ytbfcbffmgdijfaa
open Go.RowKit Go.Own
section
variable {ρ : Operand → Value} {W : World} {dst : Option Tmp} {ty : TypeId} {pos : String} {after : Array Edge} {guard : Option (Nat × Bool)} {x y : Operand}
theorem exec_head {p : Option Addr} {n cap k : Nat} (h1 : ρ x = .slice p n cap) (h2 : ρ y = .int .i64 (k : Int)) (hk : k ≤ cap) :
    (execOp ρ { dst, op := .slice 22 x none (some y) none, type := ty, pos, after, guard }).run Try.prog W = .ok (.value (sliced p 0 k cap 2)) W := by
  have hz : (sizeOf (Try.prog.elem 22)).run Try.prog W = .ok 2 W := by kernel_rfl
  have hr := run_slice_h (P := Try.prog) W 22 p n cap Try.underlying22 .i64 (k : Int) (by omega) (by omega)
  rw [hz] at hr
  simp only [Result.andThen_ok, Int.toNat_natCast] at hr
  have ha : (Instr.sliceAt 22 (.slice p n cap) none (some (.int .i64 (k : Int))) none).run Try.prog W = .ok (sliced p 0 k cap 2) W := by
    rw [run_sliceAt_slice W 22 _ _ _ _ Try.underlying22]; exact hr
  simp [execOp, h1, h2, ha, Result.andThen]
theorem exec_tail {p : Option Addr} {n cap k : Nat} (h1 : ρ x = .slice p n cap) (h2 : ρ y = .int .i64 (k : Int)) (hk : k ≤ n) :
    (execOp ρ { dst, op := .slice 22 x (some y) none none, type := ty, pos, after, guard }).run Try.prog W = .ok (.value (sliced p k n cap 2)) W := by
  have hz : (sizeOf (Try.prog.elem 22)).run Try.prog W = .ok 2 W := by kernel_rfl
  have hr := run_slice_l (P := Try.prog) W 22 p n cap Try.underlying22 .i64 (k : Int) (by omega) (by omega)
  rw [hz] at hr
  simp only [Result.andThen_ok, Int.toNat_natCast] at hr
  have ha : (Instr.sliceAt 22 (.slice p n cap) (some (.int .i64 (k : Int))) none none).run Try.prog W = .ok (sliced p k n cap 2) W := by
    rw [run_sliceAt_slice W 22 _ _ _ _ Try.underlying22]; exact hr
  simp [execOp, h1, h2, ha, Result.andThen]
theorem exec_indexAddr {b o n cap i : Nat} (h1 : ρ x = .slice (some ⟨b, o, none⟩) n cap) (h2 : ρ y = .int .i64 (i : Int)) (hi : i < n) :
    (execOp ρ { dst, op := .indexAddr 22 x y, type := ty, pos, after, guard }).run Try.prog W = .ok (.value (.pointer (some ⟨b, o + i * 2, none⟩))) W := by
  have hii : (i : Int) < n := by omega
  have hadd : (⟨b, o, none⟩ : Addr).add (i * 2) = ⟨b, o + i * 2, none⟩ := by unfold Addr.add; split <;> simp_all
  simp [execOp, h1, h2, go_sem, hii, hadd, Result.andThen]
theorem exec_field0 {b o : Nat} (h1 : ρ x = .pointer (some ⟨b, o, none⟩)) :
    (execOp ρ { dst, op := .fieldAddr 39 x 0, type := ty, pos, after, guard }).run Try.prog W = .ok (.value (.pointer (some ⟨b, o, none⟩))) W := by
  have e : ∀ b o, (Instr.fieldAt 39 (.pointer (some ⟨b, o, none⟩)) 0).run Try.prog W = .ok (.pointer (some ⟨b, o, none⟩)) W := fun _ _ => by kernel_rfl
  simp [execOp, h1, e, Result.andThen]
theorem exec_field1 {b o : Nat} (h1 : ρ x = .pointer (some ⟨b, o, none⟩)) :
    (execOp ρ { dst, op := .fieldAddr 39 x 1, type := ty, pos, after, guard }).run Try.prog W = .ok (.value (.pointer (some ⟨b, o + 1, none⟩))) W := by
  have e : ∀ b o, (Instr.fieldAt 39 (.pointer (some ⟨b, o, none⟩)) 1).run Try.prog W = .ok (.pointer (some ⟨b, o + 1, none⟩)) W := fun _ _ => by kernel_rfl
  simp [execOp, h1, e, Result.andThen]
end
theorem head_eq (p : Option Addr) (k cap : Nat) : sliced p 0 k cap 2 = .slice p k cap := by
  unfold sliced
  split
  · rename_i h; rw [h]; rfl
  · cases p with
    | none => rfl
    | some a => simp [Addr.add]
theorem PsC.tail {W : World} {p : Option Addr} {n cap : Nat} {L : List P2} (h : PsC W (.slice p n cap) L) {k : Nat} (hk : k ≤ n) : PsC W (sliced p k n cap 2) (L.drop k) := by
  obtain ⟨hn, hle⟩ := h.cap_le
  obtain ⟨p', cap', e, _, hc⟩ := h
  simp only [Value.slice.injEq] at e
  obtain ⟨rfl, _, rfl⟩ := e
  refine ⟨_, cap - k, by unfold sliced; rw [List.length_drop, hn], by rw [List.length_drop]; omega, fun j u hu => ?_⟩
  rw [← cellsP_drop, List.getElem?_drop] at hu
  obtain ⟨b, o, rfl, h2⟩ := hc _ u hu
  have hlt := (List.getElem?_eq_some_iff.1 hu).1
  rw [cellsP_length] at hlt
  have hne : ¬ cap = k := by omega
  rw [if_neg hne]
  refine ⟨b, o + k * 2, ?_, by rw [Nat.add_assoc]; exact h2⟩
  simp only [Option.map_some, Option.some.injEq]
  unfold Addr.add; split <;> simp_all
/-! ### plainly -/
theorem bytesLess_iff : ∀ (a b : List UInt8), Op.bytesLess a b = decide (a < b)
  | _, [] => by simp [Op.bytesLess]
  | [], _ :: _ => by simp [Op.bytesLess]
  | a :: x, b :: y => by
    have ih := bytesLess_iff x y
    simp only [Op.bytesLess, ih]
    rw [Bool.eq_iff_iff]
    simp [List.cons_lt_cons_iff]
theorem less_kl (x y : P2) : Op.bytesLess x.1.toList y.1.toList = decide (kl x < kl y) := by
  rw [ByteArray.toList_eq, ByteArray.toList_eq, bytesLess_iff]; rfl
theorem ins_sorted {M : List P2} {x : P2} {k : Nat} (hs : M.Pairwise (fun a b => leP a b = true)) (hd : ∀ b ∈ M.drop k, kl x < kl b) (ht : k = 0 ∨ ∃ y, M[k - 1]? = some y ∧ ¬ kl x < kl y) (hk : k ≤ M.length) :
    (M.take k ++ [x] ++ M.drop k).Pairwise (fun a b => leP a b = true) := by
  have hsp : (M.take k ++ M.drop k).Pairwise (fun a b => leP a b = true) := by rw [List.take_append_drop]; exact hs
  rw [List.pairwise_append] at hsp
  obtain ⟨h1, h2, h3⟩ := hsp
  have hx : ∀ a ∈ M.take k, leP a x = true := fun a ha => by
    rcases ht with rfl | ⟨y, hy, hle⟩
    · simp at ha
    · have hyl : leP y x = true := by simp only [leP, decide_eq_true_eq]; exact List.not_lt.1 hle
      obtain ⟨j, hj, rfl⟩ := List.getElem_of_mem ha
      have hjk : j < k := by simp at hj; omega
      have hkm : k - 1 < M.length := (List.getElem?_eq_some_iff.1 hy).1
      have hyv : M[k - 1] = y := (List.getElem?_eq_some_iff.1 hy).2
      rw [List.getElem_take]
      by_cases e : j = k - 1
      · subst e; rw [hyv]; exact hyl
      · have := List.pairwise_iff_getElem.1 hs j (k - 1) (by omega) hkm (by omega)
        rw [hyv] at this
        exact leP_trans _ _ _ this hyl
  have hxd : ∀ b ∈ M.drop k, leP x b = true := fun b hb => by
    simp only [leP, decide_eq_true_eq]; exact List.le_of_lt (hd b hb)
  rw [List.pairwise_append, List.pairwise_append]
  refine ⟨⟨h1, List.pairwise_singleton _ _, fun a ha b hb => by rw [List.mem_singleton.1 hb]; exact hx a ha⟩, h2, fun a ha b hb => ?_⟩
  rcases List.mem_append.1 ha with h | h
  · exact h3 a h b hb
  · rw [List.mem_singleton.1 h]; exact hxd b hb
theorem ins_perm (M : List P2) (x : P2) (k : Nat) : (M.take k ++ [x] ++ M.drop k).Perm (M ++ [x]) := by
  have h1 : (M.take k ++ [x] ++ M.drop k).Perm (x :: (M.take k ++ M.drop k)) := by
    rw [List.append_assoc]
    exact List.perm_middle
  rw [List.take_append_drop] at h1
  exact h1.trans (List.perm_append_singleton x M).symm
end Go.Proofs.Ytbfcbffmgdijfaa

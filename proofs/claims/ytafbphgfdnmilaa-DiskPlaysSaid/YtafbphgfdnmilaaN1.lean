/- When the power fails in a write or a flush, plainly. No condition. -/
import Derived.Test.YtafbphgfdnmilaaW1
namespace Go.Proofs.Ytafbphgfdnmilaa
open Go.RowKit Go.Own

/-- What a write or a flush leaves of a disk that is on. -/
structure Step (M N : Dk) (c : Nat) : Prop where
  code : c = if M.cat = 1 then 7 else 0
  off : N.off = decide (M.cat = 1)
  n : N.n = M.n
  count : N.count ≤ M.count + 1
  cat : N.cat = if M.cat = 0 then 0 else M.cat - 1
theorem counted_step {M : Dk} (h0 : 0 ≤ M.cat) (hoff : M.off = false) : M.counted.2 = (if M.cat = 1 then 7 else 0) ∧ M.counted.1.off = decide (M.cat = 1) ∧ M.counted.1.n = M.n ∧ M.counted.1.count ≤ M.count ∧ M.counted.1.cat = (if M.cat = 0 then 0 else M.cat - 1) := by
  unfold Dk.counted
  by_cases hz : M.cat = 0
  · rw [if_pos hz, if_neg (by omega), if_pos hz]
    refine ⟨rfl, ?_, rfl, Nat.le_refl _, hz⟩
    show M.off = _
    rw [hoff, hz]; rfl
  · rw [if_neg hz]
    by_cases hp : 0 < M.cat - 1
    · rw [if_pos hp, if_neg (by omega), if_neg hz]
      refine ⟨rfl, ?_, rfl, Nat.le_refl _, rfl⟩
      show M.off = _
      rw [hoff, decide_eq_false (by omega)]
    · have h1 : M.cat = 1 := by omega
      rw [if_neg hp, if_pos h1, if_neg hz]
      unfold Dk.crash
      rw [if_neg (by rw [hoff]; simp)]
      refine ⟨rfl, ?_, rfl, Nat.zero_le _, ?_⟩
      · show true = _; rw [decide_eq_true h1]
      · show (0 : Int) = _; omega
theorem flush_step {M : Dk} (h0 : 0 ≤ M.cat) (hoff : M.off = false) : Step M M.flush.1 M.flush.2 := by
  obtain ⟨h1, h2, h3, h4, h5⟩ := counted_step h0 hoff
  unfold Dk.flush
  rw [if_neg (by rw [hoff]; simp)]
  by_cases hc : M.cat = 1
  · rw [if_neg (by rw [h1, if_pos hc]; omega)]
    exact ⟨h1, h2, h3, by omega, h5⟩
  · rw [if_pos (by rw [h1, if_neg hc])]
    exact ⟨by rw [if_neg hc], h2, h3, Nat.zero_le _, h5⟩
theorem write_step {M : Dk} {a : Nat} {s : List Nat} (h0 : 0 ≤ M.cat) (hoff : M.off = false) (ha : a < M.n) (hs : s.length ≤ 64) : Step M (M.write (a : Int) s).1 (M.write (a : Int) s).2 := by
  have hr : refE M.off M.n (a : Int) = 0 := by
    unfold refE
    rw [if_neg (by rw [hoff]; simp), if_neg (by omega)]
  obtain ⟨h1, h2, h3, h4, h5⟩ := counted_step (M := M.waited a (filL s)) h0 hoff
  have e : M.write (a : Int) s = (M.waited a (filL s)).counted := by
    unfold Dk.write
    rw [if_pos hr, if_neg (by omega)]
    rfl
  rw [e]
  exact ⟨h1, h2, h3, h4, h5⟩
theorem Step.calm {M N : Dk} {c : Nat} (h : Step M N c) (h1 : M.cat ≠ 1) : c = 0 ∧ N.off = false :=
  ⟨by rw [h.code, if_neg h1], by rw [h.off, decide_eq_false h1]⟩
theorem Step.down {M N : Dk} {c : Nat} (h : Step M N c) (h1 : M.cat = 1) : c = 7 ∧ N.off = true ∧ N.cat = 0 :=
  ⟨by rw [h.code, if_pos h1], by rw [h.off, decide_eq_true h1], by rw [h.cat, if_neg (by omega)]; omega⟩

/-- The slice v, that came in, holds these bools. -/
def Bools (w : World) (v : Value) (L : List Bool) : Prop := ∃ po cap, v = .slice po L.length cap ∧ ∀ k b, L[k]? = some b → ∃ g o C t f, po = some ⟨g, o, none⟩ ∧ blk w g = some (.cells C t f) ∧ C[o + k]? = some (.bool b)
end Go.Proofs.Ytafbphgfdnmilaa

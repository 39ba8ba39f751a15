/- Rows of pairs of the call's own; a string in a box. No condition. -/
import Derived.Test.YtfamoakicgmfgaaLC3
import Derived.Test.YtfamoakicgmfgaaLC5
namespace Go.Proofs.Ytfamoakicgmfgaa.Lb
open Go.RowKit Go.Own.Lb Go.Maps Go.WideMaps
/-- Block B holds the string s, which may be written. -/
def Box (w : World) (B : Nat) (s : ByteArray) : Prop := w.heap[B]? = some (.cells #[.string s] 9 (0, 0))
theorem grown_more {w w1 w2 : World} {B : Nat} {row : Option Nat} (h : w.grownBy w1 (some B)) (k : w1.grownBy w2 row) (hr : ∀ g, row = some g → w.heap.size ≤ g ∨ g = B) : w.grownBy w2 (some B) :=
  ⟨k.os.trans h.os, k.tape.trans h.tape, k.output.trans h.output, Nat.le_trans h.size k.size, fun i hi hne => by
    rw [k.block i (Nat.lt_of_lt_of_le hi h.size) (fun e => ?_)]
    · exact h.block i hi hne
    · rcases hr i e.symm with h1 | h1
      · omega
      · exact hne (by rw [h1])⟩
theorem info33 : (Try.prog.info? 33).map (fun i => (i.zero, i.size, i.bytes)) = some (some (.agg #[.string { data := #[] }, .string { data := #[] }]), 2, 32) := by kernel_rfl
theorem pair_new (w : World) (a b : Value) (t : TypeId) : ∀ (j : Nat) u, [a, b][j]? = some u → (w.alloc (.cells #[a, b] t)).cell? ((⟨w.heap.size, 0, none⟩ : Addr).add j) = some u := fun j u h => by
  have hadd : (⟨w.heap.size, 0, none⟩ : Addr).add j = ⟨w.heap.size, j, none⟩ := by unfold Addr.add; split <;> simp_all
  rw [hadd, cell_new]
  simpa using h
theorem two_one (a b : ByteArray) : ∀ u ∈ [Value.string a, Value.string b], u.oneCell' = true := fun u h => by
  simp at h; rcases h with rfl | rfl <;> rfl
/-- The slice v holds the pairs M, in a row of the call's own. -/
def OwnP (w : World) (B : Nat) (v : Value) (M : List P2) : Prop := w.ownsRow B 33 2 v M.length (cellsP M)
theorem OwnP.nil (w : World) (B : Nat) : OwnP w B (.slice none 0 0) [] := World.ownsRow_nil w B 33 2
theorem OwnP.shape {w : World} {B : Nat} {v : Value} {M : List P2} (h : OwnP w B v M) : ∃ p c, v = .slice p M.length c := by
  rcases h.2 with ⟨rfl, h2⟩ | ⟨g, cap, cur, rfl, _⟩
  · rw [h2]; exact ⟨_, _, rfl⟩
  · exact ⟨_, _, rfl⟩
theorem OwnP.ps {w : World} {B : Nat} {v : Value} {M : List P2} (h : OwnP w B v M) : PsC w v M := by
  rcases h.2 with ⟨rfl, h2⟩ | ⟨g, cap, cur, rfl, _, _, hnc, _⟩
  · have : M = [] := List.eq_nil_of_length_eq_zero h2
    subst this
    exact ⟨none, 0, rfl, Nat.le_refl _, fun j u hu => by simp [cellsP] at hu⟩
  · refine ⟨_, _, rfl, hnc, fun j u hu => ⟨g, 0, rfl, ?_⟩⟩
    have := h.cells (g := g) rfl j u hu
    have hadd : (⟨g, 0, none⟩ : Addr).add j = ⟨g, 0 + j, none⟩ := by unfold Addr.add; split <;> simp_all
    rwa [hadd] at this
theorem OwnP.block {w : World} {B0 : Nat} {v : Value} {M : List P2} (h : OwnP w B0 v M) : ∀ g, v.ownBlock = some g → B0 ≤ g := fun g hg => (h.lt g hg).1
theorem OwnP.past {w w' : World} {B B0 : Nat} {v : Value} {M : List P2} (h : OwnP w B0 v M) (hg : w.grownBy w' (some B)) (hB : B < B0) : OwnP w' B0 v M :=
  h.kept hg (Or.inr fun e => by have := h.block B e; omega)
theorem Box.past {w w' : World} {B : Nat} {s : ByteArray} {row : Option Nat} (h : Box w B s) (hg : w.grownBy w' row) (hne : row ≠ some B) : Box w' B s :=
  (hg.block B (Array.getElem?_eq_some_iff.1 h).1 (fun e => hne e.symm)).trans h
theorem box_new (w : World) (s : ByteArray) : Box (w.alloc (.cells #[.string s] 9)) w.heap.size s := heap_alloc_new w _
theorem str_ff {a b : ByteArray} (h : a ≠ b) : (a.toList == b.toList) = false := by
  rw [ByteArray.toList_eq, ByteArray.toList_eq]
  exact beq_eq_false_iff_ne.2 fun e => h (ByteArray.ext (Array.toList_inj.1 e))
theorem below_but {w w1 : World} {o : Obj} (h : (w.alloc o).grownBy w1 (some w.heap.size)) : Below w.heap.size w w1 := by
  have hs := h.size
  simp at hs
  refine ⟨h.os, h.tape, h.output, by omega, fun k hk => ?_⟩
  rw [h.block k (by simp; omega) (fun e => by have := Option.some.inj e; omega)]
  exact ((Below.refl w.heap.size w).alloc (Nat.le_refl _) o).block k hk
end Go.Proofs.Ytfamoakicgmfgaa.Lb

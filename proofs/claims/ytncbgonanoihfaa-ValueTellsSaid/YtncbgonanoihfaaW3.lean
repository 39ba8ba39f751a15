/- Rows of bytes of the call's own. No condition but the sizes. -/
import Derived.Test.YtncbgonanoihfaaW2
import Derived.Lib.AppendStr
import Derived.Laws.BytesArg
import Derived.Laws.Cells
namespace Go.Proofs.Ytncbgonanoihfaa
open Go.RowKit Go.Own
/-- Bytes as cells. -/
def nb (l : List Nat) : List Value := l.map fun (n : Nat) => Value.int .u8 (n : Int)
theorem nb_append (a b : List Nat) : nb (a ++ b) = nb a ++ nb b := by simp [nb]
theorem nb_str (s : ByteArray) : Lib.strCells s = nb (bys s) := by
  simp [Lib.strCells, nb, bys]
/-- The slice v holds these bytes, in a row of the call's own. -/
def OwnB (w : World) (B : Nat) (v : Value) (l : List Nat) : Prop := w.ownsRow B 5 1 v l.length (nb l)
theorem info5 : (Try.prog.info? 5).map (fun i => (i.zero, i.size, i.bytes)) = some (some (.int .u8 0), 1, 1) := by kernel_rfl
theorem OwnB.nil (w : World) (B : Nat) : OwnB w B (.slice none 0 0) [] := World.ownsRow_nil w B 5 1
theorem OwnB.below {w w' : World} {B : Nat} {v : Value} {l : List Nat} (h : OwnB w B v l) (hb : Below w.heap.size w w') : OwnB w' B v l := own_kept h hb
theorem conv_nil (w : World) : (convert 56 9 (.slice none 0 0)).run Try.prog w = .ok (.string (mkS [])) w := by kernel_rfl
theorem OwnB.shape {w : World} {B : Nat} {v : Value} {l : List Nat} (h : OwnB w B v l) : ∃ p c, v = .slice p l.length c := by
  rcases h.2 with ⟨rfl, h2⟩ | ⟨g, cap, cur, rfl, _⟩
  · rw [h2]; exact ⟨_, _, rfl⟩
  · exact ⟨_, _, rfl⟩
theorem OwnB.str {w : World} {B : Nat} {v : Value} {l : List Nat} (h : OwnB w B v l) : (convert 56 9 v).run Try.prog w = .ok (.string (mkS l)) w := by
  rcases h.2 with ⟨rfl, h2⟩ | ⟨g, cap, cur, rfl, hb, hg, hc, hm, hs, ht⟩
  · have : l = [] := List.eq_nil_of_length_eq_zero h2
    subst this
    exact conv_nil w
  · have hl := run_loadCells_list (P := Try.prog) w ⟨g, 0, none⟩ (nb l) (fun j u hu => h.cells (g := g) rfl j u hu)
    have hl' : (loadCells ⟨g, 0, none⟩ l.length).run Try.prog w = .ok ((l.map fun (n : Nat) => (n : Int)).map (Value.int .u8)).toArray w := by
      have e : (nb l).length = l.length := by simp [nb]
      rw [e] at hl
      rw [hl]
      simp [nb, Function.comp_def]
    rw [run_convert_bytes_string w 56 9 5 _ _ _ Try.underlying56 Try.underlying5 Try.underlying9, run_bytesToString w _ _ _ _ hl', foldl_push_bytes]
    simp [mkS, Function.comp_def]
theorem byte_one (c : Nat) : ∀ u ∈ [Value.int .u8 (c : Int)], u.oneCell' = true := fun u hu => by
  simp at hu; subst hu; rfl
/-- An append of one byte. -/
theorem wpList_byte {ops : Array Oper} {rest : List Oper} {o : Oper} {a : Act} {Q : Exit → Act → World → Prop} {W : World} (hgd : o.guard = none) (s x : Operand)
    (ho : o.op = .call { callee := .builtin .append, args := #[s, x], argTypes := #[56, 56] }) (w : World) (B : Nat) (v : Value) (l : List Nat) (c : Nat) (hW : W = w.alloc (.cells #[.int .u8 (c : Int)] 5)) (hs : a.eval s = v) (hrow : OwnB w B v l)
    (hx : a.eval x = .slice (some ⟨w.heap.size, 0, none⟩) 1 1) (hlen : l.length + 1 ≤ 140737488355328) (hB : B ≤ w.heap.size)
    (h : ∀ v' w', OwnB w' B v' (l ++ [c]) → Below B w w' → wpList Try.prog ops Q rest (a.put o.dst v') w') : wpList Try.prog ops Q (o :: rest) a W := by
  subst hW
  obtain ⟨i0, hi, hz0, hz1, hz2⟩ := info_parts info5
  refine wpList_append_own _ hgd s x 56 ho B 5 i0 (.int .u8 0) 1 1 Try.underlying56 hi hz0 hz1 hz2 rfl (by decide) v l.length (nb l) hs (World.ownsRow.alloc hrow _) ⟨w.heap.size, 0, none⟩ 1 1 [.int .u8 (c : Int)] hx rfl (one_new _ _ _) (byte_one c) (by unfold maxLen; omega) (by omega) (by simp; omega) ?_
  intro v' w1 hown1 hgr _
  refine h _ w1 ?_ ?_
  · unfold OwnB
    rw [nb_append, List.length_append]
    exact hown1
  · exact ((Below.refl B w).alloc hB _).grown hgr (by simp; omega) (fun k hk => (hrow.lt k hk).1)
/-- An append of a text's bytes. -/
theorem wpList_text {ops : Array Oper} {rest : List Oper} {o : Oper} {a : Act} {Q : Exit → Act → World → Prop} {w : World} (hgd : o.guard = none) (x y : Operand)
    (ho : o.op = .call { callee := .builtin .append, args := #[x, y], argTypes := #[56, 9] }) (B : Nat) (v : Value) (l : List Nat) (s : ByteArray) (hs : a.eval x = v) (hrow : OwnB w B v l)
    (hx : a.eval y = .string s) (hlen : l.length + s.size ≤ 140737488355328) (hB : B ≤ w.heap.size)
    (h : ∀ v' w', OwnB w' B v' (l ++ bys s) → Below B w w' → wpList Try.prog ops Q rest (a.put o.dst v') w') : wpList Try.prog ops Q (o :: rest) a w := by
  obtain ⟨i0, hi, hz0, hz1, hz2⟩ := info_parts info5
  refine Lib.wpList_append_own_string _ hgd x y 56 9 ho B 5 i0 Try.underlying56 Try.underlying9 hi hz0 hz1 hz2 _ _ _ hs hrow s hx (by unfold maxLen; omega) (by omega) hB ?_
  intro v2 w2 hown3 hgrow2 _
  refine h _ w2 ?_ ((Below.refl B w).grown hgrow2 hB (fun k hk => (hrow.lt k hk).1))
  unfold OwnB
  rw [nb_append, List.length_append, bys_length, ← nb_str]
  exact hown3
end Go.Proofs.Ytncbgonanoihfaa

/- Contexts: a counted piece behind others, by contract; a row of bytes of the call's own as a string. No condition but the sizes. -/
import Derived.Test.YtfihbfkgkljjdaaC1
import Derived.Lib.AppendStr
import Derived.Laws.BytesArg
import Derived.Laws.Cells
namespace Go.Proofs.Ytfihbfkgkljjdaa
open Go.RowKit Go.Own Go.Maps Go.WideMaps
/-- Bytes as cells. -/
def nb (l : List Nat) : List Value := l.map fun (n : Nat) => Value.int .u8 (n : Int)
theorem nb_append (a b : List Nat) : nb (a ++ b) = nb a ++ nb b := by simp [nb]
theorem nb_str (s : ByteArray) : Lib.strCells s = nb (bys s) := by
  simp [Lib.strCells, nb, bys]
/-- The slice v holds these bytes, in a row of the call's own. -/
def OwnB (w : World) (B : Nat) (v : Value) (l : List Nat) : Prop := w.ownsRow B 5 1 v l.length (nb l)
theorem info5 : (Try.prog.info? 5).map (fun i => (i.zero, i.size, i.bytes)) = some (some (.int .u8 0), 1, 1) := by kernel_rfl
theorem OwnB.nil (w : World) (B : Nat) : OwnB w B (.slice none 0 0) [] := World.ownsRow_nil w B 5 1
theorem conv_nil (w : World) : (convert 81 9 (.slice none 0 0)).run Try.prog w = .ok (.string (mkS [])) w := by kernel_rfl
theorem OwnB.shape {w : World} {B : Nat} {v : Value} {l : List Nat} (h : OwnB w B v l) : ∃ p c, v = .slice p l.length c := by
  rcases h.2 with ⟨rfl, h2⟩ | ⟨g, cap, cur, rfl, _⟩
  · rw [h2]; exact ⟨_, _, rfl⟩
  · exact ⟨_, _, rfl⟩
theorem OwnB.str {w : World} {B : Nat} {v : Value} {l : List Nat} (h : OwnB w B v l) : (convert 81 9 v).run Try.prog w = .ok (.string (mkS l)) w := by
  rcases h.2 with ⟨rfl, h2⟩ | ⟨g, cap, cur, rfl, hb, hg, hc, hm, hs, ht⟩
  · have : l = [] := List.eq_nil_of_length_eq_zero h2
    subst this
    exact conv_nil w
  · have hl := run_loadCells_list (P := Try.prog) w ⟨g, 0, none⟩ (nb l) (fun j u hu => h.cells (g := g) rfl j u hu)
    have hl' : (loadCells ⟨g, 0, none⟩ l.length).run Try.prog w = .ok ((l.map fun (n : Nat) => (n : Int)).map (Value.int .u8)).toArray w := by
      have e : (nb l).length = l.length := by simp [nb]
      rw [e] at hl
      rw [hl]
      simp [nb, Function.comp_def]
    rw [run_convert_bytes_string w 81 9 5 _ _ _ Try.underlying81 Try.underlying5 Try.underlying9, run_bytesToString w _ _ _ _ hl', foldl_push_bytes]
    simp [mkS, Function.comp_def]
theorem below_of_grown {w w' : World} {B : Nat} {v : Value} {l : List Nat} (h : OwnB w B v l) (hg : w.grownBy w' v.ownBlock) (hB : B ≤ w.heap.size) : Below B w w' :=
  (Below.refl B w).grown hg hB (fun j hj => (h.lt j hj).1)
set_option maxRecDepth 100000 in
set_option maxHeartbeats 1000000 in
theorem counted_any (s : ByteArray) (hs : s.size ≤ 255) (l : List Nat) (hl : l.length ≤ 1000000) (v : Value) (B : Nat) (w : World) (hB : B ≤ w.heap.size) (hown : OwnB w B v l) :
    Calls Try.prog 45 #[v, .string s] w fun e w' => ∃ v', e = .returned v' ∧ OwnB w' B v' (l ++ s.size :: bys s) ∧ Below B w w' := by
  obtain ⟨i0, hi, hz0, hz1, hz2⟩ := info_parts info5
  obtain ⟨p, c, rfl⟩ := hown.shape
  obtain ⟨n, hn⟩ : ∃ n, l.length = n := ⟨_, rfl⟩
  have hown1 : w.ownsRow B 5 1 (.slice p n c) n (nb l) := by rw [← hn]; exact hown
  have HB0 := Lib.hid (fun w' (hg : w.grownBy w' (Value.slice p n c).ownBlock) => below_of_grown hown (by rw [hn]; exact hg) hB)
  rw [hn] at hl ⊢
  have HN := Lib.hid hn
  clear hn hown
  have hw8 : IntKind.u8.wrap (s.size : Int) = (s.size : Int) := by simp [IntKind.wrap, IntKind.bits, IntKind.signed]; omega
  go_enter Try.func45, Try.ntmps45
  go_wp2_with (at_builtin; refine wpList_append_own _ rfl (.tmp 5) (.tmp 9) 81 rfl B 5 i0 (.int .u8 0) 1 1 Try.underlying81 hi hz0 hz1 hz2 rfl (by decide) _ _ _ rfl (hown1.alloc _) ⟨w.heap.size, 0, none⟩ 1 1 [.int .u8 (s.size : Int)] rfl rfl (cell_one_new _ _ _) (ints_oneCell .u8 [(s.size : Int)]) (by unfold maxLen; omega) (by omega) (by simp; omega) ?_)
  intro v1 w1 hown2 hgrow1 _
  have HG1 := Lib.hid (HB0.out w1 ((World.grownBy_alloc _ _ _).trans hgrow1))
  clear hgrow1
  have hB1 : B ≤ w1.heap.size := Nat.le_trans hB HG1.out.size
  go_wp2_with (at_builtin; (refine Lib.wpList_append_own_string _ rfl (.tmp 10) (.tmp 11) 81 9 rfl B 5 i0 Try.underlying81 Try.underlying9 hi hz0 hz1 hz2 _ _ _ rfl hown2 s rfl (by unfold maxLen; omega) (by omega) hB1 ?_))
  intro v2 w2 hown3 hgrow2 _
  have HG2 : Hid (Below B w w2) := Lib.hid (HG1.out.grown hgrow2 hB1 (fun j hj => (hown2.lt j hj).1))
  clear hgrow2 hown2
  go_wp2
  go_ret
  refine ⟨v2, rfl, ?_, HG2.out⟩
  have e : n + 1 + s.size = (l ++ s.size :: bys s).length := by simp [bys_length, HN.out]; omega
  rw [e, nb_str, ← show nb (l ++ s.size :: bys s) = nb l ++ Value.int .u8 (s.size : Int) :: nb (bys s) by simp [nb]] at hown3
  exact hown3
end Go.Proofs.Ytfihbfkgkljjdaa

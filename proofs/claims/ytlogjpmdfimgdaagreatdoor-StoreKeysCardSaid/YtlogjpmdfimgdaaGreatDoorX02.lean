/- A row of values of the call's own. No condition. | Rows of bytes of the call's own. No condition but the sizes. | A map from keys to values, in memory: what stands at each key; rows of strings of the call's own. No condition. | The library's sort of strings, at this program: laid by the kit's own command and written out in plain words. No condition. | The library's sort, on a row of strings of the call's own; what a sorted row of a map's keys is. No condition but the row's size. -/
import Derived.Test.YtlogjpmdfimgdaaGreatDoorX01
import Derived.Deep.AppendLies
import Derived.Lib.AppendStr
import Derived.Laws.BytesArg
import Derived.Laws.Cells
import Derived.Maps.RangeWalk
import Derived.Maps.OwnSet
import Derived.StringKeys
import Derived.Laws.EntriesVeiled
import Derived.Shelf.SortM.Plain
import Derived.Shelf.SortM.SortNone
import Derived.Test.YtlogjpmdfimgdaaGreatDoorProg
import Derived.Sort.OwnSorted
namespace Go.Proofs.YtlogjpmdfimgdaaGreatDoor
open Go.RowKit Go.Own
theorem info20 : (Tryz.prog.info? 20).map (fun i => (i.zero, i.size, i.bytes)) = some (some .nilIface, 1, 16) := by kernel_rfl
/-- The slice v holds the values l, in a row of the call's own; their lists lie in other blocks, from B on. -/
def RowA (w : World) (B : Nat) (v : Value) (l : List A) : Prop :=
  ∃ us, w.ownsRow B 20 1 v l.length us ∧ ∀ (i : Nat) (x : A), l[i]? = some x → ∃ u, us[i]? = some u ∧ AAt w (fun b => B ≤ b ∧ v.ownBlock ≠ some b) u x
theorem AAt.fresh {w w' : World} {S : Nat → Prop} {v : Value} {a : A} (h : AAt w S v a) (hb : Below w.heap.size w w') : AAt w' S v a :=
  h.keep (fun _ h _ => h) hb.size (fun b _ hlt => hb.block b hlt)
theorem grown_of_below {w w' : World} (h : Below w.heap.size w w') (row : Option Nat) : w.grownBy w' row := ⟨h.os, h.tape, h.output, h.size, fun k hk _ => h.block k hk⟩
theorem own_kept {w w' : World} {B E z n : Nat} {v : Value} {xs : List Value} (h : w.ownsRow B E z v n xs) (hb : Below w.heap.size w w') : w'.ownsRow B E z v n xs :=
  h.kept (grown_of_below hb none) (by cases hv : v.ownBlock <;> simp)
theorem RowA.below {w w' : World} {B : Nat} {v : Value} {l : List A} (h : RowA w B v l) (hb : Below w.heap.size w w') : RowA w' B v l := by
  obtain ⟨us, h1, h2⟩ := h
  refine ⟨us, own_kept h1 hb, fun i x hx => ?_⟩
  obtain ⟨u, hu, ha⟩ := h2 i x hx
  exact ⟨u, hu, ha.fresh hb⟩
theorem RowA.lt {w : World} {B : Nat} {v : Value} {l : List A} (h : RowA w B v l) : ∀ g, v.ownBlock = some g → B ≤ g ∧ g < w.heap.size := by
  obtain ⟨us, h1, h2⟩ := h
  exact h1.lt
theorem RowA.shape {w : World} {B : Nat} {v : Value} {l : List A} (h : RowA w B v l) : ∃ p c, v = .slice p l.length c := by
  obtain ⟨us, h1, h2⟩ := h
  rcases h1.2 with ⟨rfl, h0⟩ | ⟨g, cap, cur, rfl, _⟩
  · rw [h0]; exact ⟨_, _, rfl⟩
  · exact ⟨_, _, rfl⟩
theorem RowA.has {w : World} {B : Nat} {v : Value} {l : List A} (h : RowA w B v l) : AAt w (fun b => B ≤ b) (.iface 67 v) (.list l) := by
  obtain ⟨us, h1, h2⟩ := h
  rcases h1.2 with ⟨rfl, h0⟩ | ⟨g, cap, cur, rfl, hb, hg, hle, hm, hs, ht⟩
  · have : l = [] := List.eq_nil_of_length_eq_zero h0
    subst this
    exact .nil
  · refine .list g 0 l.length cap l (fun j => us.getD j .nilIface) rfl hb (Array.getElem?_eq_some_iff.1 hg).1 hle (by unfold maxLen at hm; exact hm) (fun j x hx => ?_) (fun j x hx => ?_)
    · obtain ⟨u, hu, _⟩ := h2 j x hx
      have := h1.cells (g := g) rfl j u hu
      rw [hadd] at this
      rw [this]
      simp [List.getD, hu]
    · obtain ⟨u, hu, ha⟩ := h2 j x hx
      have e : us.getD j .nilIface = u := by simp [List.getD, hu]
      rw [e]
      exact ha.keep (fun b hb _ => hb.1) (Nat.le_refl _) (fun _ _ _ => rfl)
theorem RowA.nil (w : World) (B : Nat) : RowA w B (.slice none 0 0) [] := ⟨[], World.ownsRow_nil w B 20 1, fun i x hx => by simp at hx⟩
theorem RowA.made {w : World} {B : Nat} (hB : B ≤ w.heap.size) (cur : Array Value) (cap : Nat) (hc : cap ≤ 9223372036854775807) (hs : cur.size = cap) : RowA (w.alloc (.cells cur 20)) B (.slice (some ⟨w.heap.size, 0, none⟩) 0 cap) [] :=
  ⟨[], World.ownsRow_made w cur cap hB (by unfold maxLen; exact hc) (by omega), fun i x hx => by simp at hx⟩
/-- One more. -/
theorem RowA.snoc {w w1 : World} {B : Nat} {v : Value} {l : List A} {us : List Value} {u : Value} {x : A} {o : Obj} {g cap : Nat}
    (h2 : ∀ (i : Nat) (x : A), l[i]? = some x → ∃ u, us[i]? = some u ∧ AAt w (fun b => B ≤ b ∧ v.ownBlock ≠ some b) u x) (hu : AAt w (fun b => B ≤ b ∧ v.ownBlock ≠ some b) u x) (hul : us.length = l.length)
    (hown : w1.ownsRow B 20 1 (.slice (some ⟨g, 0, none⟩) (l.length + 1) cap) (l.length + 1) (us ++ [u])) (hg : (w.alloc o).grownBy w1 v.ownBlock) (hat : v.ownBlock = some g ∨ g = w.heap.size + 1) :
    RowA w1 B (.slice (some ⟨g, 0, none⟩) (l.length + 1) cap) (l ++ [x]) := by
  have hsz : w.heap.size ≤ w1.heap.size := by have := hg.size; simp at this; omega
  have keep : ∀ {u x}, AAt w (fun b => B ≤ b ∧ v.ownBlock ≠ some b) u x → AAt w1 (fun b => B ≤ b ∧ (Value.slice (some ⟨g, 0, none⟩) (l.length + 1) cap).ownBlock ≠ some b) u x := fun {u x} h => by
    refine h.keep (fun b hb hlt => ⟨hb.1, fun e => ?_⟩) hsz (fun b hb hlt => ?_)
    · simp only [Value.ownBlock, Option.some.injEq] at e
      subst e
      rcases hat with h | h
      · exact hb.2 h
      · omega
    · rw [hg.block b (by simp; omega) (fun e => hb.2 e.symm)]
      exact heap_alloc_old w o hlt
  refine ⟨us ++ [u], by simpa using hown, fun i y hy => ?_⟩
  rcases Nat.lt_or_ge i l.length with hi | hi
  · rw [List.getElem?_append_left hi] at hy
    obtain ⟨u', hu', ha⟩ := h2 i y hy
    exact ⟨u', by rw [List.getElem?_append_left (by omega)]; exact hu', keep ha⟩
  · rw [List.getElem?_append_right hi] at hy
    have hi0 : i - l.length = 0 := by
      have := (List.getElem?_eq_some_iff.1 hy).1
      simp at this; omega
    rw [hi0] at hy
    simp at hy
    subst hy
    exact ⟨u, by rw [List.getElem?_append_right (by omega), hul, hi0]; rfl, keep hu⟩
theorem AAt.one {w : World} {S : Nat → Prop} {v : Value} {a : A} (h : AAt w S v a) : v.oneCell' = true := by cases h <;> rfl
theorem one_new (w : World) (a : Value) (t : TypeId) : ∀ (j : Nat) u, [a][j]? = some u → (w.alloc (.cells #[a] t)).cell? ((⟨w.heap.size, 0, none⟩ : Addr).add j) = some u := fun j u h => by
  rw [hadd, cell_new]
  simpa using h
theorem one_one {a : Value} (h : a.oneCell' = true) : ∀ u ∈ [a], u.oneCell' = true := fun u hu => by
  simp at hu; subst hu; exact h
theorem AAt.form {w : World} {S : Nat → Prop} {v : Value} {a : A} (h : AAt w S v a) : (∃ t u, v = .iface t u) ∨ v = .nilIface := by
  cases h
  all_goals first | exact Or.inl ⟨_, _, rfl⟩ | exact Or.inr rfl
theorem bs_one {v : Value} (h : (∃ t u, v = .iface t u) ∨ v = .nilIface) (W : World) : (Instr.buildSlice 67 1 #[(0, v)]).run Tryz.prog W = .ok (.slice (some ⟨W.heap.size, 0, none⟩) 1 1) (W.alloc (.cells #[v] 20)) := by
  rcases h with ⟨t, u, rfl⟩ | rfl
  · kernel_rfl
  · kernel_rfl
/-- An append of one value. -/
theorem wpList_push {ops : Array Oper} {rest : List Oper} {o : Oper} {a : Act} {Q : Exit → Act → World → Prop} {W : World} (hgd : o.guard = none) (s x : Operand)
    (ho : o.op = .call { callee := .builtin .append, args := #[s, x], argTypes := #[67, 67] }) (w : World) (B : Nat) (v : Value) (l : List A) (y : A) (r : Value) (hW : W = w.alloc (.cells #[r] 20)) (hs : a.eval s = v) (hrow : RowA w B v l)
    (hr : AAt w (fun b => B ≤ b ∧ v.ownBlock ≠ some b) r y) (hx : a.eval x = .slice (some ⟨w.heap.size, 0, none⟩) 1 1) (hlen : l.length ≤ 1000000) (hB : B ≤ w.heap.size)
    (h : ∀ v' w', RowA w' B v' (l ++ [y]) → Below B w w' → wpList Tryz.prog ops Q rest (a.put o.dst v') w') : wpList Tryz.prog ops Q (o :: rest) a W := by
  subst hW
  obtain ⟨i0, hi, hz0, hz1, hz2⟩ := info_parts info20
  obtain ⟨us, hown, hall⟩ := hrow
  refine wpList_append_lies _ hgd s x 67 ho B 20 i0 .nilIface 1 16 Tryz.underlying67 hi hz0 hz1 hz2 rfl (by decide) v l.length us hs (hown.alloc _) ⟨w.heap.size, 0, none⟩ 1 1 [r] hx rfl (one_new _ _ _) (one_one hr.one) (by decide) (by unfold maxLen; omega) (by omega) (by simp; omega) (w.heap.size + 1) (by simp) ?_
  intro g cap w1 hown1 hgr hat _
  refine h _ w1 (RowA.snoc hall hr (by have := hown.1; omega) hown1 hgr hat) ?_
  exact ((Below.refl B w).alloc hB _).grown hgr (by simp; omega) (fun k hk => (hown.lt k hk).1)
end Go.Proofs.YtlogjpmdfimgdaaGreatDoor
namespace Go.Proofs.YtlogjpmdfimgdaaGreatDoor
open Go.RowKit Go.Own
/-- Bytes as cells. -/
def nb (l : List Nat) : List Value := l.map fun (n : Nat) => Value.int .u8 (n : Int)
theorem nb_append (a b : List Nat) : nb (a ++ b) = nb a ++ nb b := by simp [nb]
theorem nb_str (s : ByteArray) : Lib.strCells s = nb (bys s) := by
  simp [Lib.strCells, nb, bys]
/-- The slice v holds these bytes, in a row of the call's own. -/
def OwnB (w : World) (B : Nat) (v : Value) (l : List Nat) : Prop := w.ownsRow B 5 1 v l.length (nb l)
theorem info5 : (Tryz.prog.info? 5).map (fun i => (i.zero, i.size, i.bytes)) = some (some (.int .u8 0), 1, 1) := by kernel_rfl
theorem OwnB.nil (w : World) (B : Nat) : OwnB w B (.slice none 0 0) [] := World.ownsRow_nil w B 5 1
theorem OwnB.below {w w' : World} {B : Nat} {v : Value} {l : List Nat} (h : OwnB w B v l) (hb : Below w.heap.size w w') : OwnB w' B v l := own_kept h hb
theorem conv_nil (w : World) : (convert 140 9 (.slice none 0 0)).run Tryz.prog w = .ok (.string (mkS [])) w := by kernel_rfl
theorem OwnB.shape {w : World} {B : Nat} {v : Value} {l : List Nat} (h : OwnB w B v l) : ∃ p c, v = .slice p l.length c := by
  rcases h.2 with ⟨rfl, h2⟩ | ⟨g, cap, cur, rfl, _⟩
  · rw [h2]; exact ⟨_, _, rfl⟩
  · exact ⟨_, _, rfl⟩
theorem OwnB.str {w : World} {B : Nat} {v : Value} {l : List Nat} (h : OwnB w B v l) : (convert 140 9 v).run Tryz.prog w = .ok (.string (mkS l)) w := by
  rcases h.2 with ⟨rfl, h2⟩ | ⟨g, cap, cur, rfl, hb, hg, hc, hm, hs, ht⟩
  · have : l = [] := List.eq_nil_of_length_eq_zero h2
    subst this
    exact conv_nil w
  · have hl := run_loadCells_list (P := Tryz.prog) w ⟨g, 0, none⟩ (nb l) (fun j u hu => h.cells (g := g) rfl j u hu)
    have hl' : (loadCells ⟨g, 0, none⟩ l.length).run Tryz.prog w = .ok ((l.map fun (n : Nat) => (n : Int)).map (Value.int .u8)).toArray w := by
      have e : (nb l).length = l.length := by simp [nb]
      rw [e] at hl
      rw [hl]
      simp [nb, Function.comp_def]
    rw [run_convert_bytes_string w 140 9 5 _ _ _ Tryz.underlying140 Tryz.underlying5 Tryz.underlying9, run_bytesToString w _ _ _ _ hl', foldl_push_bytes]
    simp [mkS, Function.comp_def]
theorem byte_one (c : Nat) : ∀ u ∈ [Value.int .u8 (c : Int)], u.oneCell' = true := fun u hu => by
  simp at hu; subst hu; rfl
/-- An append of one byte. -/
theorem wpList_byte {ops : Array Oper} {rest : List Oper} {o : Oper} {a : Act} {Q : Exit → Act → World → Prop} {W : World} (hgd : o.guard = none) (s x : Operand)
    (ho : o.op = .call { callee := .builtin .append, args := #[s, x], argTypes := #[140, 140] }) (w : World) (B : Nat) (v : Value) (l : List Nat) (c : Nat) (hW : W = w.alloc (.cells #[.int .u8 (c : Int)] 5)) (hs : a.eval s = v) (hrow : OwnB w B v l)
    (hx : a.eval x = .slice (some ⟨w.heap.size, 0, none⟩) 1 1) (hlen : l.length + 1 ≤ 140737488355328) (hB : B ≤ w.heap.size)
    (h : ∀ v' w', OwnB w' B v' (l ++ [c]) → Below B w w' → wpList Tryz.prog ops Q rest (a.put o.dst v') w') : wpList Tryz.prog ops Q (o :: rest) a W := by
  subst hW
  obtain ⟨i0, hi, hz0, hz1, hz2⟩ := info_parts info5
  refine wpList_append_own _ hgd s x 140 ho B 5 i0 (.int .u8 0) 1 1 Tryz.underlying140 hi hz0 hz1 hz2 rfl (by decide) v l.length (nb l) hs (World.ownsRow.alloc hrow _) ⟨w.heap.size, 0, none⟩ 1 1 [.int .u8 (c : Int)] hx rfl (one_new _ _ _) (byte_one c) (by unfold maxLen; omega) (by omega) (by simp; omega) ?_
  intro v' w1 hown1 hgr _
  refine h _ w1 ?_ ?_
  · unfold OwnB
    rw [nb_append, List.length_append]
    exact hown1
  · exact ((Below.refl B w).alloc hB _).grown hgr (by simp; omega) (fun k hk => (hrow.lt k hk).1)
/-- An append of a text's bytes. -/
theorem wpList_text {ops : Array Oper} {rest : List Oper} {o : Oper} {a : Act} {Q : Exit → Act → World → Prop} {w : World} (hgd : o.guard = none) (x y : Operand)
    (ho : o.op = .call { callee := .builtin .append, args := #[x, y], argTypes := #[140, 9] }) (B : Nat) (v : Value) (l : List Nat) (s : ByteArray) (hs : a.eval x = v) (hrow : OwnB w B v l)
    (hx : a.eval y = .string s) (hlen : l.length + s.size ≤ 140737488355328) (hB : B ≤ w.heap.size)
    (h : ∀ v' w', OwnB w' B v' (l ++ bys s) → Below B w w' → wpList Tryz.prog ops Q rest (a.put o.dst v') w') : wpList Tryz.prog ops Q (o :: rest) a w := by
  obtain ⟨i0, hi, hz0, hz1, hz2⟩ := info_parts info5
  refine Lib.wpList_append_own_string _ hgd x y 140 9 ho B 5 i0 Tryz.underlying140 Tryz.underlying9 hi hz0 hz1 hz2 _ _ _ hs hrow s hx (by unfold maxLen; omega) (by omega) hB ?_
  intro v2 w2 hown3 hgrow2 _
  refine h _ w2 ?_ ((Below.refl B w).grown hgrow2 hB (fun k hk => (hrow.lt k hk).1))
  unfold OwnB
  rw [nb_append, List.length_append, bys_length, ← nb_str]
  exact hown3
end Go.Proofs.YtlogjpmdfimgdaaGreatDoor
namespace Go.Proofs.YtlogjpmdfimgdaaGreatDoor
open Go.RowKit Go.Own Go.Maps Go.WideMaps
/-- Each element as itself. -/
def RV : Value → Option (DataW Value × List MemPlace) := fun v => some (.held v, [])
def kl (s : ByteArray) : Lit := .string s.data.toList
theorem kl_inj {s t : ByteArray} (h : kl s = kl t) : s = t := by
  unfold kl at h
  simp only [Lit.string.injEq] at h
  exact ByteArray.ext (Array.toList_inj.1 h)
theorem kl_key (s : ByteArray) : WideAt.IsKeyLit (kl s) := trivial
theorem law9 : Keyed Tryz.prog 9 := string_keyed Tryz.underlying9
theorem kl_of {s : ByteArray} (h : s.size ≤ maxLen) : keyOf Tryz.prog 9 (.string s) = some (kl s) := keyOf_string_mk Tryz.underlying9 h
/-- Block b is a map of at most n keys; at each key there stands what f says. -/
def MapV (w : World) (b n : Nat) (f : ByteArray → Option Value) : Prop :=
  ∃ D : DataW Value, w.ownsMap Tryz.prog 9 RV b n D ∧ ∀ s, (f s = none ∧ has D (kl s) = false) ∨ ∃ v, f s = some v ∧ has D (kl s) = true ∧ ∀ z, D.atKey (kl s) z = .held v
theorem MapV.lt {w : World} {b n : Nat} {f : ByteArray → Option Value} (h : MapV w b n f) : b < w.heap.size := by
  obtain ⟨D, h1, _⟩ := h
  exact h1.lt
theorem MapV.kept {w w' : World} {b n : Nat} {f : ByteArray → Option Value} {row : Option Nat} (h : MapV w b n f) (hg : w.grownBy w' row) (hne : some b ≠ row) : MapV w' b n f := by
  obtain ⟨D, h1, h2⟩ := h
  exact ⟨D, h1.kept hg hne, h2⟩
theorem MapV.below {w w' : World} {b n : Nat} {f : ByteArray → Option Value} (h : MapV w b n f) (hb : Below w.heap.size w w') : MapV w' b n f := h.kept (grown_of_below hb none) (by simp)
theorem MapV.mono {w : World} {b n m : Nat} {f : ByteArray → Option Value} (h : MapV w b n f) (hn : n ≤ m) : MapV w b m f := by
  obtain ⟨D, h1, h2⟩ := h
  exact ⟨D, h1.mono hn, h2⟩
theorem MapV.made (w : World) : MapV (w.alloc (.map #[] 0)) w.heap.size 0 (fun _ => none) :=
  ⟨.map [], World.ownsMap_made w _ _ _, fun _ => Or.inl ⟨rfl, rfl⟩⟩
def putF (f : ByteArray → Option Value) (s : ByteArray) (v : Value) : ByteArray → Option Value := fun t => if t = s then some v else f t
def delF (f : ByteArray → Option Value) (s : ByteArray) : ByteArray → Option Value := fun t => if t = s then none else f t
/-- A key is given a value. -/
theorem MapV.put {w : World} {b n : Nat} {f : ByteArray → Option Value} (h : MapV w b n f) (hn : n < maxLen) (s : ByteArray) (hs : s.size ≤ maxLen) (v : Value) :
    ∃ w', (Instr.mapUpdate 84 (.map (some b)) (.string s) v).run Tryz.prog w = .ok () w' ∧ MapV w' b (n + 1) (putF f s v) ∧ w.grownBy w' (some b) := by
  obtain ⟨D, h1, h2⟩ := h
  obtain ⟨w', hrun, h3, h4⟩ := h1.update law9 Tryz.underlying84 hn (key := .string s) (val := v) (kl_of hs) rfl
  refine ⟨w', hrun, ⟨_, h3, fun t => ?_⟩, h4⟩
  unfold putF
  by_cases e : t = s
  · subst e
    rw [if_pos rfl]
    exact Or.inr ⟨v, rfl, has_put_same (h1.isMap) (kl_key t) _, fun z => atKey_put_same (h1.isMap) (kl_key t) _ z⟩
  · rw [if_neg e]
    have hne : kl t ≠ kl s := fun hx => e (kl_inj hx)
    rcases h2 t with ⟨a1, a2⟩ | ⟨u, a1, a2, a3⟩
    · exact Or.inl ⟨a1, by rw [has_put_other hne]; exact a2⟩
    · exact Or.inr ⟨u, a1, by rw [has_put_other hne]; exact a2, fun z => by rw [atKey_put_other hne]; exact a3 z⟩
/-- A key is taken away. -/
theorem MapV.del {w : World} {b n : Nat} {f : ByteArray → Option Value} (h : MapV w b n f) (s : ByteArray) (hs : s.size ≤ maxLen) (ty : TypeId) :
    ∃ w', (Builtin.delete_ #[84, 9] ty #[.map (some b), .string s]).run Tryz.prog w = .ok (.tuple #[]) w' ∧ MapV w' b n (delF f s) ∧ w.grownBy w' (some b) := by
  obtain ⟨D, h1, h2⟩ := h
  obtain ⟨w', hrun, h3, h4⟩ := h1.drop law9 Tryz.underlying84 (key := .string s) (kl_of hs) ty
  refine ⟨w', hrun, ⟨_, h3, fun t => ?_⟩, h4.grown⟩
  unfold delF
  by_cases e : t = s
  · subst e
    rw [if_pos rfl]
    exact Or.inl ⟨rfl, has_del_same⟩
  · rw [if_neg e]
    have hne : kl t ≠ kl s := fun hx => e (kl_inj hx)
    rcases h2 t with ⟨a1, a2⟩ | ⟨u, a1, a2, a3⟩
    · exact Or.inl ⟨a1, by rw [has_del_other hne]; exact a2⟩
    · exact Or.inr ⟨u, a1, by rw [has_del_other hne]; exact a2, fun z => by rw [atKey_del_other hne]; exact a3 z⟩
theorem zero20 (w : World) : (zeroValue 20).run Tryz.prog w = .ok .nilIface w := by kernel_rfl
/-- What stands at a key, and whether there is one. -/
theorem MapV.look {w : World} {b n : Nat} {f : ByteArray → Option Value} (h : MapV w b n f) (s : ByteArray) (hs : s.size ≤ maxLen) :
    (Instr.lookup 84 (.map (some b)) (.string s) true).run Tryz.prog w = .ok (.tuple #[(f s).getD .nilIface, .bool (f s).isSome]) w ∧
    (Instr.lookup 84 (.map (some b)) (.string s) false).run Tryz.prog w = .ok ((f s).getD .nilIface) w := by
  obtain ⟨D, h1, h2⟩ := h
  obtain ⟨v, ps, hrun, hv⟩ := h1.look_ok law9 Tryz.underlying84 (zero20 w) (zd := .held .nilIface) (zp := []) rfl (key := .string s) (kl_of hs)
  obtain ⟨v', ps', hrun', hv'⟩ := h1.lookup law9 Tryz.underlying84 (zero20 w) (zd := .held .nilIface) (zp := []) rfl (key := .string s) (kl_of hs)
  unfold RV at hv hv'
  simp only [Option.some.injEq, Prod.mk.injEq] at hv hv'
  rcases h2 s with ⟨a1, a2⟩ | ⟨u, a1, a2, a3⟩
  · rw [atKey_of_not_has a2] at hv hv'
    have e1 := hv.1
    have e2 := hv'.1
    simp only [DataW.held.injEq] at e1 e2
    subst e1 e2
    rw [a1]
    rw [a2] at hrun
    exact ⟨hrun, hrun'⟩
  · rw [a3] at hv hv'
    have e1 := hv.1
    have e2 := hv'.1
    simp only [DataW.held.injEq] at e1 e2
    subst e1 e2
    rw [a1]
    rw [a2] at hrun
    exact ⟨hrun, hrun'⟩
/-! ### Rows of strings -/
def sb (l : List ByteArray) : List Value := l.map Value.string
/-- The slice v holds these strings, in a row of the call's own. -/
def OwnS (w : World) (B : Nat) (v : Value) (l : List ByteArray) : Prop := w.ownsRow B 9 1 v l.length (sb l)
theorem info9 : (Tryz.prog.info? 9).map (fun i => (i.zero, i.size, i.bytes)) = some (some (.string { data := #[] }), 1, 16) := by kernel_rfl
theorem OwnS.nil (w : World) (B : Nat) : OwnS w B (.slice none 0 0) [] := World.ownsRow_nil w B 9 1
theorem OwnS.below {w w' : World} {B : Nat} {v : Value} {l : List ByteArray} (h : OwnS w B v l) (hb : Below w.heap.size w w') : OwnS w' B v l := own_kept h hb
theorem strOne (c : ByteArray) : ∀ u ∈ [Value.string c], u.oneCell' = true := fun u hu => by
  simp at hu; subst hu; rfl
/-- An append of one string. -/
theorem wpList_str {ops : Array Oper} {rest : List Oper} {o : Oper} {a : Act} {Q : Exit → Act → World → Prop} {W : World} (hgd : o.guard = none) (s x : Operand)
    (ho : o.op = .call { callee := .builtin .append, args := #[s, x], argTypes := #[29, 29] }) (w : World) (B : Nat) (v : Value) (l : List ByteArray) (c : ByteArray) (hW : W = w.alloc (.cells #[.string c] 9)) (hs : a.eval s = v) (hrow : OwnS w B v l)
    (hx : a.eval x = .slice (some ⟨w.heap.size, 0, none⟩) 1 1) (hlen : l.length + 1 ≤ 1000000) (hB : B ≤ w.heap.size)
    (h : ∀ v' w', OwnS w' B v' (l ++ [c]) → w.grownBy w' v.ownBlock → Below B w w' → wpList Tryz.prog ops Q rest (a.put o.dst v') w') : wpList Tryz.prog ops Q (o :: rest) a W := by
  subst hW
  obtain ⟨i0, hi, hz0, hz1, hz2⟩ := info_parts info9
  refine wpList_append_own _ hgd s x 29 ho B 9 i0 (.string { data := #[] }) 1 16 Tryz.underlying29 hi hz0 hz1 hz2 rfl (by decide) v l.length (sb l) hs (World.ownsRow.alloc hrow _) ⟨w.heap.size, 0, none⟩ 1 1 [.string c] hx rfl (one_new _ _ _) (strOne c) (by unfold maxLen; omega) (by omega) (by simp; omega) ?_
  intro v' w1 hown1 hgr _
  refine h _ w1 ?_ ?_ ?_
  · unfold OwnS sb
    rw [List.map_append, List.length_append]
    exact hown1
  · exact (World.grownBy_alloc w _ v.ownBlock).andThen hgr (fun j hj => Or.inr hj)
  · exact ((Below.refl B w).alloc hB _).grown hgr (by simp; omega) (fun k hk => (hrow.lt k hk).1)
end Go.Proofs.YtlogjpmdfimgdaaGreatDoor
namespace Go.Proofs.YtlogjpmdfimgdaaGreatDoor
open Go.RowKit Go.Sort Go.Shelf
def itSort_ren : Go.Shelf.Ren := ⟨fun | 6 => 50 | 8 => 75 | 9 => 74 | 19 => 112 | 20 => 113 | 21 => 103 | 22 => 104 | 23 => 105 | 24 => 106 | 25 => 107 | 26 => 108 | 27 => 109 | 28 => 110 | 29 => 111 | 36 => 131 | 31 => 132 | 32 => 133 | 37 => 134 | 38 => 135 | 39 => 136 | 41 => 148 | n => n, fun | 27 => 29 | 29 => 9 | 3 => 3 | 32 => 154 | 26 => 29 | 0 => 0 | 44 => 195 | 46 => 39 | 4 => 4 | 36 => 188 | 35 => 187 | 41 => 192 | 5 => 5 | 9 => 9 | 53 => 213 | 57 => 217 | 63 => 237 | 64 => 238 | n => n, fun | n => n⟩
theorem itSort : Go.Proofs.SlLaysM.n6 Tryz.prog itSort_ren := {
  mixed := by kernel_rfl
  f6 := ⟨Tryz.f50.name, by decide, Tryz.func50.trans (congrArg some (by kernel_rfl))⟩
  f8 := Tryz.func75.trans (congrArg some (by kernel_rfl))
  f9 := ⟨Tryz.f74.name, by decide, Tryz.func74.trans (congrArg some (by kernel_rfl))⟩
  f19 := Tryz.func112.trans (congrArg some (by kernel_rfl))
  f20 := Tryz.func113.trans (congrArg some (by kernel_rfl))
  f21 := ⟨Tryz.f103.name, by decide, Tryz.func103.trans (congrArg some (by kernel_rfl))⟩
  f22 := ⟨Tryz.f104.name, by decide, Tryz.func104.trans (congrArg some (by kernel_rfl))⟩
  f23 := ⟨Tryz.f105.name, by decide, Tryz.func105.trans (congrArg some (by kernel_rfl))⟩
  f24 := ⟨Tryz.f106.name, by decide, Tryz.func106.trans (congrArg some (by kernel_rfl))⟩
  f25 := ⟨Tryz.f107.name, by decide, Tryz.func107.trans (congrArg some (by kernel_rfl))⟩
  f26 := ⟨Tryz.f108.name, by decide, Tryz.func108.trans (congrArg some (by kernel_rfl))⟩
  f27 := ⟨Tryz.f109.name, by decide, Tryz.func109.trans (congrArg some (by kernel_rfl))⟩
  f28 := ⟨Tryz.f110.name, by decide, Tryz.func110.trans (congrArg some (by kernel_rfl))⟩
  f29 := ⟨Tryz.f111.name, by decide, Tryz.func111.trans (congrArg some (by kernel_rfl))⟩
  f31 := Tryz.func132.trans (congrArg some (by kernel_rfl))
  f32 := Tryz.func133.trans (congrArg some (by kernel_rfl))
  f36 := ⟨Tryz.f131.name, by decide, Tryz.func131.trans (congrArg some (by kernel_rfl))⟩
  f37 := ⟨Tryz.f134.name, by decide, Tryz.func134.trans (congrArg some (by kernel_rfl))⟩
  f38 := ⟨Tryz.f135.name, by decide, Tryz.func135.trans (congrArg some (by kernel_rfl))⟩
  f39 := ⟨Tryz.f136.name, by decide, Tryz.func136.trans (congrArg some (by kernel_rfl))⟩
  f41 := ⟨Tryz.f148.name, by decide, Tryz.func148.trans (congrArg some (by kernel_rfl))⟩
  t0 := Tryz.underlying0
  a0 := Tryz.isAgg0
  z0 := Tryz.sizeOf0
  v0 := Tryz.zeroValue0
  t3 := Tryz.underlying3
  a3 := Tryz.isAgg3
  z3 := Tryz.sizeOf3
  v3 := Tryz.zeroValue3
  t4 := Tryz.underlying4
  a4 := Tryz.isAgg4
  z4 := Tryz.sizeOf4
  v4 := Tryz.zeroValue4
  t5 := Tryz.underlying5
  a5 := Tryz.isAgg5
  z5 := Tryz.sizeOf5
  v5 := Tryz.zeroValue5
  t9 := Tryz.underlying9
  a9 := Tryz.isAgg9
  z9 := Tryz.sizeOf9
  v9 := Tryz.zeroValue9
  t26 := Tryz.underlying29
  a26 := Tryz.isAgg29
  z26 := Tryz.sizeOf29
  v26 := Tryz.zeroValue29
  t27 := Tryz.underlying29
  a27 := Tryz.isAgg29
  z27 := Tryz.sizeOf29
  v27 := Tryz.zeroValue29
  t29 := Tryz.underlying9
  a29 := Tryz.isAgg9
  z29 := Tryz.sizeOf9
  v29 := Tryz.zeroValue9
  t32 := Tryz.underlying154
  a32 := Tryz.isAgg154
  z32 := Tryz.sizeOf154
  v32 := Tryz.zeroValue154
  t35 := Tryz.underlying187
  a35 := Tryz.isAgg187
  z35 := Tryz.sizeOf187
  v35 := Tryz.zeroValue187
  t36 := Tryz.underlying188
  a36 := Tryz.isAgg188
  z36 := Tryz.sizeOf188
  v36 := Tryz.zeroValue188
  t41 := Tryz.underlying192
  a41 := Tryz.isAgg192
  z41 := Tryz.sizeOf192
  v41 := Tryz.zeroValue192
  t44 := Tryz.underlying195
  a44 := Tryz.isAgg195
  z44 := Tryz.sizeOf195
  v44 := Tryz.zeroValue195
  t46 := Tryz.underlying39
  a46 := Tryz.isAgg39
  z46 := Tryz.sizeOf39
  v46 := Tryz.zeroValue39
  t53 := Tryz.underlying213
  a53 := Tryz.isAgg213
  z53 := Tryz.sizeOf213
  v53 := Tryz.zeroValue213
  t57 := Tryz.underlying217
  a57 := Tryz.isAgg217
  z57 := Tryz.sizeOf217
  v57 := Tryz.zeroValue217
  t63 := Tryz.underlying237
  a63 := Tryz.isAgg237
  z63 := Tryz.sizeOf237
  v63 := Tryz.zeroValue237
  t64 := Tryz.underlying238
  a64 := Tryz.isAgg238
  z64 := Tryz.sizeOf238
  v64 := Tryz.zeroValue238 }
end Go.Proofs.YtlogjpmdfimgdaaGreatDoor
namespace Go.Own
/-- Strings, the lesser ones ahead. -/
def sortS (l : List ByteArray) : List ByteArray := ((l.map fun s => s.data.toList).mergeSort fun x y => decide (x ≤ y)).map fun x => ⟨x.toArray⟩
theorem sortS_length (l : List ByteArray) : (sortS l).length = l.length := by
  unfold sortS
  rw [List.length_map, (List.mergeSort_perm _ _).length_eq, List.length_map]
theorem sortS_perm (l : List ByteArray) : (sortS l).Perm l := by
  unfold sortS
  have h := (List.mergeSort_perm (l.map fun s => s.data.toList) (fun x y => decide (x ≤ y))).map fun x => (⟨x.toArray⟩ : ByteArray)
  refine h.trans ?_
  rw [List.map_map]
  have e : ((fun x : List UInt8 => (⟨x.toArray⟩ : ByteArray)) ∘ fun s : ByteArray => s.data.toList) = id := by
    funext s
    simp
  rw [e, List.map_id]
theorem sortS_rises (l : List ByteArray) : (sortS l).Pairwise fun a b => a.data.toList ≤ b.data.toList := by
  unfold sortS
  have h := List.pairwise_mergeSort (le := fun (x y : List UInt8) => decide (x ≤ y)) (fun a b c h1 h2 => by
    simp only [decide_eq_true_eq] at *
    exact List.le_trans h1 h2) (fun a b => by
    simp only [Bool.or_eq_true, decide_eq_true_eq]
    exact List.le_total a b) (l.map fun s => s.data.toList)
  rw [List.pairwise_map]
  exact h.imp fun {a b} hab => by simpa using hab
/-- Just the keys that are there and wanted, each once, the lesser ones ahead. -/
def Rises (f : ByteArray → Option Value) (p : ByteArray → Bool) (ks : List ByteArray) : Prop :=
  ks.Pairwise (fun a b => a.data.toList < b.data.toList) ∧ ∀ s, s ∈ ks ↔ ((f s).isSome = true ∧ p s = true)
theorem rises_of {f : ByteArray → Option Value} {p : ByteArray → Bool} {l : List ByteArray} (hn : l.Nodup) (hm : ∀ s, s ∈ l ↔ ((f s).isSome = true ∧ p s = true)) : Rises f p (sortS l) := by
  refine ⟨?_, fun s => by rw [(sortS_perm l).mem_iff]; exact hm s⟩
  have h1 := sortS_rises l
  have h2 : (sortS l).Nodup := (sortS_perm l).nodup_iff.2 hn
  have h3 := h1.and h2
  refine h3.imp fun {a b} ⟨hab, hne⟩ => ?_
  by_cases h : a.data.toList < b.data.toList
  · exact h
  · exact absurd (ByteArray.ext (Array.toList_inj.1 (List.le_antisymm hab (List.not_lt.1 h)))) hne
/-- Two such rows are the same. -/
theorem Rises.unique {f : ByteArray → Option Value} {p : ByteArray → Bool} {l m : List ByteArray} (h : Rises f p l) (k : Rises f p m) : l = m := by
  have hperm : l.Perm m := by
    refine (List.perm_ext_iff_of_nodup ?_ ?_).2 fun s => by rw [h.2, k.2]
    · exact h.1.imp fun {a b} hab e => by subst e; exact List.lt_irrefl _ hab
    · exact k.1.imp fun {a b} hab e => by subst e; exact List.lt_irrefl _ hab
  exact hperm.eq_of_pairwise (fun a b _ _ h1 h2 => absurd (List.lt_trans h1 h2) (List.lt_irrefl _)) h.1 k.1
end Go.Own
namespace Go.Proofs.YtlogjpmdfimgdaaGreatDoor
open Go.RowKit Go.Own Go.Maps Go.WideMaps Go.Sort
theorem enc_str (s : ByteArray) : encStr s.data.toList = .string s := by
  simp [encStr]
theorem sort_any (w : World) (B : Nat) (v : Value) (l : List ByteArray) (h : OwnS w B v l) (hl : l.length ≤ 1000000) :
    Calls Tryz.prog 50 #[v] w fun e w' => e = .returned (.tuple #[]) ∧ OwnS w' B v (sortS l) ∧ w.grownBy w' v.ownBlock := by
  rcases h.2 with ⟨rfl, h0⟩ | ⟨g, cap, cur, rfl, hb, hg, h1, h2, h3, h4⟩
  · have : l = [] := List.eq_nil_of_length_eq_zero h0
    subst this
    refine (AnyM.slices_Sort_string_none itSort none 0 w).mono fun e w' ⟨he, hw⟩ => ?_
    subst hw
    exact ⟨he, (by rw [show sortS ([] : List ByteArray) = [] by simp [sortS]]; exact h), ⟨rfl, rfl, rfl, Nat.le_refl _, fun _ _ _ => rfl⟩⟩
  · have hlen : (l.map fun s => s.data.toList).length = l.length := List.length_map _
    have ht : cur.toList.take (l.map fun s => s.data.toList).length = (l.map fun s => s.data.toList).map encStr := by
      rw [hlen]
      rw [Nat.mul_one] at h4
      rw [h4]
      simp [sb, List.map_map, Function.comp_def, enc_str]
    have hH := holds_of_block hg ht
    have := AnyM.slices_Sort_string itSort g 0 cap (l.map fun s => s.data.toList) w hH (Array.getElem?_eq_some_iff.1 hg).1 (by rw [hlen]; omega)
    rw [hlen] at this
    refine this.mono fun e w' ⟨he, n, os, hw⟩ => ⟨he, ?_, ?_⟩
    · subst hw
      have h5 := ownsRow_sorted (w := w) (base := B) (g := g) (cap := cap) (n := n) (e := 9) (os := os) (ss := l.map fun s => s.data.toList) (ts := (l.map fun s => s.data.toList).mergeSort fun x y => decide (x ≤ y)) (by rw [(List.mergeSort_perm _ _).length_eq]) hb hg (by rw [hlen]; exact h1) h2 h3
      unfold OwnS
      rw [sortS_length]
      rw [hlen] at h5
      have e2 : sb (sortS l) = ((l.map fun s => s.data.toList).mergeSort fun x y => decide (x ≤ y)).map encStr := by
        simp [sb, sortS, List.map_map, Function.comp_def]
      rw [e2]
      exact h5
    · subst hw
      exact grownBy_sorted _
end Go.Proofs.YtlogjpmdfimgdaaGreatDoor

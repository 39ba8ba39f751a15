/- What the walk of a range over a function wants: worlds with another number of draws, what is left at a function's end, regions with a tail in a round. No condition. -/
import Derived.Test.YtfamoakicgmfgaaX1
import Derived.Test.YtfamoakicgmfgaaApp
namespace Go.Own
open Go Go.RowKit
/-- The same world, but for the draws. -/
def Same (w w1 : World) : Prop := w1.heap = w.heap ∧ w1.os = w.os ∧ w1.tape = w.tape ∧ w1.output = w.output
theorem Same.refl (w : World) : Same w w := ⟨rfl, rfl, rfl, rfl⟩
theorem Same.trans {a b c : World} (h : Same a b) (k : Same b c) : Same a c := ⟨k.1.trans h.1, k.2.1.trans h.2.1, k.2.2.1.trans h.2.2.1, k.2.2.2.trans h.2.2.2⟩
theorem Same.size {w w1 : World} (h : Same w w1) : w1.heap.size = w.heap.size := by rw [h.1]
theorem Same.below {w w1 : World} (h : Same w w1) (l : List Obj) (d : Nat) : Below w.heap.size w (Wd w1 l d) := by
  refine ⟨h.2.1, h.2.2.1, h.2.2.2, by simp [Wd, h.1], fun k hk => ?_⟩
  simp [Wd, h.1, Array.getElem?_append, hk]
/-- What lies as it lay below w's end is w with blocks behind it, but for the draws. -/
theorem below_same {w W : World} (h : Below w.heap.size w W) : ∃ w1 l, Same w w1 ∧ W = Wd w1 l 0 := by
  refine ⟨{ w with drawn := W.drawn }, W.heap.toList.drop w.heap.size, ⟨rfl, rfl, rfl, rfl⟩, ?_⟩
  have e : W.heap = w.heap ++ (W.heap.toList.drop w.heap.size).toArray := by
    apply Array.ext'
    rw [Array.toList_append]
    show W.heap.toList = w.heap.toList ++ W.heap.toList.drop w.heap.size
    have h1 : W.heap.toList.take w.heap.size = w.heap.toList := by
      apply List.ext_getElem?
      intro i
      rw [List.getElem?_take]
      split
      · rename_i hi
        have := h.block i hi
        simpa using this
      · rename_i hi
        rw [List.getElem?_eq_none (by simpa using hi)]
    rw [← h1, List.take_append_drop]
  have h1 := h.os
  have h2 := h.tape
  have h3 := h.output
  rcases W with ⟨hp, tp, dr, os, out⟩
  simp only at h1 h2 h3
  subst h1 h2 h3
  exact congrArg (fun x => World.mk x w.tape dr w.os w.output) e
theorem blk_same {w w1 : World} (h : Same w w1) (l : List Obj) (d e b : Nat) : blk (Wd w1 l d) b = blk (Wd w l e) b := by
  unfold blk Wd; simp only [h.1]
theorem blk_app' {w : World} {l m : List Obj} {d e b : Nat} {o : Obj} (h : blk (Wd w l d) b = some o) : blk (Wd w (l ++ m) e) b = some o := by
  have h2 := blk_old _ m e _ h
  rw [Wd_wd] at h2
  exact h2
theorem blk_app_same {w w1 : World} (h : Same w w1) {l m : List Obj} {d e b : Nat} {o : Obj} (hb : blk (Wd w l d) b = some o) : blk (Wd w1 (l ++ m) e) b = some o := by
  rw [blk_same h (l ++ m) e 0]; exact blk_app' hb
/-- A block that is no cells, or a new one, may turn. -/
theorem grown_wd {w1 W' : World} {L : List Obj} {row : Option Nat} (hg : (Wd w1 L 0).grownBy W' row) (hr : ∀ r, row = some r → w1.heap.size ≤ r) :
    ∃ w2 L', Same w1 w2 ∧ W' = Wd w2 L' 0 ∧ L.length ≤ L'.length ∧ ∀ p, p < L.length → row ≠ some (w1.heap.size + p) → L'[p]? = L[p]? := by
  have hB : Below w1.heap.size w1 W' := by
    refine ((Same.refl w1).below L 0).trans ?_
    refine ⟨hg.os, hg.tape, hg.output, hg.size, fun k hk => hg.block k (by simp [Wd]; omega) (fun e => ?_)⟩
    have := hr k e.symm; omega
  obtain ⟨w2, L', hs, rfl⟩ := below_same hB
  refine ⟨w2, L', hs, rfl, ?_, fun p hp hne => ?_⟩
  · have := hg.size; simp [Wd, hs.1] at this; omega
  · have h1 := hg.block (w1.heap.size + p) (by simp [Wd]; omega) (fun e => hne e.symm)
    rw [Wd_at] at h1
    have h2 : (Wd w2 L' 0).heap[w1.heap.size + p]? = L'[p]? := by
      rw [← hs.size]; exact Wd_at w2 L' 0 p
    rw [← h2, h1]

theorem below_lay {w1 W : World} {M : List Obj} {B : Nat} (hB : B = w1.heap.size + M.length) (h : Below B (Wd w1 M 0) W) : ∃ w3 g, Same w1 w3 ∧ W = Wd w3 (M ++ g) 0 := by
  subst hB
  have h' : Below (Wd w1 M 0).heap.size (Wd w1 M 0) W := by rw [Wd_size]; exact h
  obtain ⟨w2, l, hs, rfl⟩ := below_same h'
  refine ⟨{ w1 with drawn := w2.drawn }, l, ⟨rfl, rfl, rfl, rfl⟩, ?_⟩
  rcases w2 with ⟨hp, tp, dr, os, out⟩
  obtain ⟨e1, e2, e3, e4⟩ := hs
  simp only at e1 e2 e3 e4
  subst e1 e2 e3 e4
  simp [Wd]
theorem lay_below {w1 w3 : World} (h : Same w1 w3) (M g : List Obj) (e : Nat) {B : Nat} (hB : B ≤ w1.heap.size + M.length) : Below B (Wd w1 M 0) (Wd w3 (M ++ g) e) := by
  refine ⟨h.2.1, h.2.2.1, h.2.2.2, by simp [Wd, h.1], fun k hk => ?_⟩
  simp only [Wd, h.1, Array.getElem?_append, List.getElem?_toArray, List.getElem?_append]
  by_cases h1 : k < w1.heap.size
  · rw [if_pos h1, if_pos h1]
  · rw [if_neg h1, if_neg h1, if_pos (by omega)]
theorem keeps_set {w : World} {l g : List Obj} {d e i : Nat} {X : Obj} (h : ∀ o, l[i]? = some o → o.isCells = true) : KeepsOthers (Wd w l d) (Wd w (l.set i X ++ g) e) := by
  refine ⟨by simp [Wd], fun k o hk ho => ?_⟩
  simp only [Wd, Array.getElem?_append, List.getElem?_toArray] at hk ⊢
  by_cases h1 : k < w.heap.size
  · rw [if_pos h1] at hk ⊢; exact hk
  · rw [if_neg h1] at hk ⊢
    have h2 := (List.getElem?_eq_some_iff.1 hk).1
    have h3 : i ≠ k - w.heap.size := fun e => by
      rw [← e] at hk
      rw [h o hk] at ho
      cases ho
    rw [List.getElem?_append_left (by rw [List.length_set]; exact h2), List.getElem?_set_ne h3, hk]

/-! ### The marks that the loops leave -/
def marks (w : World) (js : List Nat) : List Deferred := js.map fun j => { target := .collected (w.heap.size + j), args := #[] }
theorem Wd_putObj (w : World) (l : List Obj) (d j : Nat) (o : Obj) : (Wd w l d).putObj (w.heap.size + j) o = Wd w (l.set j o) d := by
  unfold World.putObj Wd
  simp only [World.mk.injEq, and_true]
  apply Array.ext'
  simp only [Array.toList_setIfInBounds, Array.toList_append]
  rw [List.set_append_right _ _ (by simp)]
  simp
theorem leaves_marks {F : Fence} {n : Nat} {P : Program} {fn : Func} {tmps : Array Value} {R : Ending → World → Prop} (w : World) (d : Nat) : ∀ (js : List Nat) (l : List Obj), (∀ j ∈ js, l[j]? = some (.deferred (some []))) → js.Nodup →
    (∀ l', (∀ i, i ∉ js → l'[i]? = l[i]?) → ∃ v, (results fn tmps).run P (Wd w l' d) = .ok v (Wd w l' d) ∧ R (.returned v) (Wd w l' d)) → LeavesInM F n P fn tmps R (marks w js) .returning (Wd w l d)
  | [], l, _, _, h => h l fun _ _ => rfl
  | j :: js, l, hj, hn, h => by
    have hb : (Wd w l d).heap[w.heap.size + j]? = some (.deferred (some [])) := by rw [Wd_at]; exact hj j List.mem_cons_self
    refine ⟨by simp, .inl ⟨_, _, rfl, run_takeDeferred hb, ?_⟩⟩
    rw [Wd_putObj]
    have hn' := List.nodup_cons.1 hn
    refine leaves_marks w d js _ (fun i hi => ?_) hn'.2 (fun l' hl' => h l' fun i hi => ?_)
    · have : j ≠ i := fun e => hn'.1 (e ▸ hi)
      rw [List.getElem?_set_ne this]; exact hj i (List.mem_cons_of_mem _ hi)
    · rw [hl' i (fun e => hi (List.mem_cons_of_mem _ e)), List.getElem?_set_ne (fun e : j = i => hi (by rw [← e]; exact List.mem_cons_self))]

/-! ### Regions with a tail in one order -/
theorem any_class_tail {P : Program} {C : World → Prop} {Q : Exit → Act → World → Prop} {a : Act} {w : World} {l : List Oper} (n : Nat) (hB : Region.lexTailB .any l.toArray n = true)
    (hC : C w) (h : wpQuiet P l.toArray C (fun a' => ∀ w', C w' → wpList P l.toArray Q (l.drop n) a' w') (l.take n) a) : wpAny P .any l.toArray Q l.toArray.size (Array.replicate l.toArray.size false) a w := by
  simp only [Region.lexTailB, Bool.and_eq_true, decide_eq_true_eq] at hB
  obtain ⟨⟨⟨⟨hsel, hn⟩, hs⟩, hc⟩, hlex⟩ := hB
  have hnl : n < l.length := by simpa using hn
  have htl : (l.take n).length = n := List.length_take_of_le (Nat.le_of_lt hnl)
  have hdl : (l.drop n).length = l.toArray.size - n := by simp
  have inv0 : HeadInv .any l.toArray n (Array.replicate l.toArray.size false) :=
    { size := by simp
      closed := fun j oj _ hl => by rw [getD_replicate_false] at hl; cases hl
      tail := fun t _ ht => getD_in (by simpa using ht) (getD_replicate_false _ _) }
  have H := HeadQ.lex (md := .any) (g := l.toArray.size - n) hsel hs hc hn (l.take n) 0 _ a
    (fun j hj => by rw [htl] at hj; simp [hj]) (by omega) inv0 (by rw [htl]; exact hlex) h
  have K := HeadQ.any (Q := Q) (g := l.toArray.size - n) (fun done a' w' hw' hL => by
    have := wpAny_of_seq (P := P) (md := .any) (Q' := Q) (l.drop n) n done a' w' (fun j => by simp [List.getElem?_drop]) (by rw [hdl]; exact hL.1) (hL.2 w' hw')
    rwa [hdl] at this) _ _ _ _ hC H
  rwa [htl, Nat.add_sub_cancel' (Nat.le_of_lt hn)] at K
theorem rnd_region_more {P : Program} {id k n : Nat} {Q : Exit → Act → World → Prop} {a : Act} {w : World} {l0 : List Obj} {d : Nat} {l : List Oper} (m : Nat) (hm : P.follows .mixedOrders = true) (hn : noDefer l.toArray = true) (hL : ¬ LetsOut Q) (hB : Region.lexTailB .any l.toArray m = true)
    (h : wpQuiet P l.toArray (More w l0) (fun a' => ∀ g e, wpList P l.toArray Q (l.drop m) a' (Wd w (l0 ++ g) e)) (l.take m) a) : (Code.region id l.toArray true).wpIn (rnd k) n P Q a (Wd w l0 d) := by
  refine region_rnd hm hn hL (any_class_tail (C := More w l0) m hB ⟨[], d + 1, by rw [List.append_nil]; rfl⟩ ?_)
  have e : (fun a' => ∀ w', More w l0 w' → wpList P l.toArray Q (l.drop m) a' w') = fun a' => ∀ g e, wpList P l.toArray Q (l.drop m) a' (Wd w (l0 ++ g) e) := by
    funext a'
    exact propext all_more
  rw [e]
  exact h
theorem rnd_region_drew {P : Program} {id k n : Nat} {Q : Exit → Act → World → Prop} {a : Act} {w : World} {l0 : List Obj} {d : Nat} {l : List Oper} (m : Nat) (hm : P.follows .mixedOrders = true) (hn : noDefer l.toArray = true) (hL : ¬ LetsOut Q) (hB : Region.lexTailB .any l.toArray m = true)
    (h : wpQuiet P l.toArray (Drew w l0) (fun a' => ∀ e, wpList P l.toArray Q (l.drop m) a' (Wd w l0 e)) (l.take m) a) : (Code.region id l.toArray true).wpIn (rnd k) n P Q a (Wd w l0 d) := by
  refine region_rnd hm hn hL (any_class_tail (C := Drew w l0) m hB ⟨d + 1, rfl⟩ ?_)
  have e : (fun a' => ∀ w', Drew w l0 w' → wpList P l.toArray Q (l.drop m) a' w') = fun a' => ∀ e, wpList P l.toArray Q (l.drop m) a' (Wd w l0 e) := by
    funext a'
    exact propext all_drew
  rw [e]
  exact h
end Go.Own
namespace Go.Proofs.Ytfamoakicgmfgaa
open Go.RowKit Go.Own
/-- A loop over the pieces of a text. -/
theorem wp_pieces {tp : Nat} {g : Operand} {assign body : Code} {Q : Exit → Act → World → Prop} {a : Act} {w : World} (t : ByteArray) (ht : t.size ≤ 1000000) (b : Nat) (hb : blk w b = some (.cells #[.string t] 9 (0, 0)))
    (hg : a.eval g = .func (.func 62) #[] #[.pointer (some ⟨b, 0, none⟩)]) (I : List Pc → World → Prop) (hI : OwnFrom w.heap.size I) (h0 : I [] w) (a₁ : Pc → Act)
    (hassign : ∀ (l : Nat) (x : Pc) (W : World) (K : Act → World → Prop), K (a₁ x) W → assign.wpIn (rnd l) 1 Try.prog (Exit.then K (fun _ _ _ => False)) { tmps := a.tmps.setIfInBounds tp (.string x.1), defers := [] } W)
    (hbody : ∀ (l : Nat) (pre : List Pc) (x : Pc) (W : World), I pre W → pre.length < (t.size + 15) / 16 → body.wpIn (rnd l) 1 Try.prog (ownPostK (KeepsB b) I (fun _ _ _ => False) (pre ++ [x]) W) (a₁ x) W)
    (hdone : ∀ (D : Nat) (W : World), w.heap.size ≤ D → I (pcsB t ((t.size + 15) / 16)) W → W.heap[D]? = some (.deferred (some [])) → Q .normal { a with defers := { target := .collected D, args := #[] } :: a.defers } W) :
    (Code.rangeFunc g #[tp] assign body).wp Try.prog Q a w := by
  have hbl : b < w.heap.size := by
    unfold blk at hb
    rcases Nat.lt_or_ge b w.heap.size with h' | h'
    · exact h'
    · simp [Array.getElem?_eq_none h'] at hb
  refine (wpIn_wide (n := 3)).1 ?_
  refine wpIn_rangeFunc_ownF (F := Fence.wide) rfl (by decide) (gf := 62) hg trivial (enters_of Try.func62 (by kernel_rfl) rfl) (pieces_stops t ht b (3 - 1) w hb) (fun h k o ho => k o (h o ho)) (fun W l o o' hl _ _ _ o2 ho2 => ?_)
    (Below.refl _ _) (fun _ => rfl) I (fun _ _ _ => False) hI (fun _ _ _ _ _ hs _ _ => hs) h0 a₁ (fun l x W K hK => ?_) (fun l pre x W hW hlen => hbody l pre x W hW hlen) ?_ ?_
  · unfold blk at ho2 ⊢
    rw [World.putObj_heap_other (by omega)]; exact ho2
  · have e : (#[tp].zip #[Value.string x.1]).foldl (fun t (p, v) => t.setIfInBounds p v) a.tmps = a.tmps.setIfInBounds tp (.string x.1) := by simp
    rw [e]
    exact hassign l x W K hK
  · rintro D xs W hD rfl hW hK
    exact hdone D W hD hW hK
  · rintro D c pre W _ _ h _
    exact h.elim
end Go.Proofs.Ytfamoakicgmfgaa

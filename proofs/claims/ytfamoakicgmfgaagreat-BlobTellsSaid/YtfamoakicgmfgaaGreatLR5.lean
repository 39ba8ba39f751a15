/- append to rows of pairs; a context with a pair more, and one with a value changed, plainly. No condition but that rows are small. | A region that draws its order and whose operations make memory of their own: each operation's value by a property that lasts; no order is gone through. No condition. | Operations run by themselves, out of their operands' values; frames out of their slots. No condition. | More operations by themselves: a part of a slice, an element's and a field's address, lengths, bytes, sums of strings; sorting by insertion, plainly. No condition. | The document's order of a row of pairs: sorted by insertion, by contract. No condition but the row's sizes. | More operations by themselves: strings loaded, their lengths, one byte as a string, sums. No condition. -/
import Derived.Test.YtfamoakicgmfgaaGreatLC6
import Derived.Deep.AppendSrc
import Derived.WalkKit
import Derived.StillTail
import Derived.Still
import Derived.Deep.Quiet
import Derived.Deep.QuietTactic
import Derived.Below
import Derived.WalkSpells
import Derived.Laws.Slices
import Derived.WalkLawsBesides
import Derived.Laws.Concat
namespace Go.Proofs.YtfamoakicgmfgaaGreat.Lb
open Go.RowKit Go.Own.Lb
/-- What comes behind: pairs out of a slice that may be nil. -/
theorem src_pairs {W : World} {p : Option Addr} {n cap : Nat} {L : List P2} (hP : PsC W (.slice p n cap) L) (i : TypeInfo) (hi : i.size = 2) : Src Tryz.prog i.size 24 (.slice p n cap) n (cellsP L) W := by
  have hn := hP.cap_le.1
  cases p with
  | none =>
    have hL : L = [] := by
      cases L with
      | nil => rfl
      | cons x L =>
        obtain ⟨b, o, e, _⟩ := hP.at (k := 0) (x := x) rfl
        cases e
    subst hL
    subst hn
    exact Src.ofNil W Tryz.underlying24 cap
  | some a =>
    refine Src.ofSlice W Tryz.underlying24 a n cap (cellsP L) (by rw [cellsP_length, hn, hi]) (fun j u hu => ?_) (cellsP_one L)
    obtain ⟨p', cap', e, _, hc⟩ := hP
    simp only [Value.slice.injEq] at e
    obtain ⟨e1, _, _⟩ := e
    obtain ⟨b, o, e2, h⟩ := hc j u hu
    rw [← e1] at e2
    obtain rfl := Option.some.inj e2
    have hadd : (⟨b, o, none⟩ : Addr).add j = ⟨b, o + j, none⟩ := by unfold Addr.add; split <;> simp_all
    rw [hadd]; exact h
theorem info39b : ∃ i, Tryz.prog.info? 42 = some i ∧ i.zero = some (.agg #[.string { data := #[] }, .string { data := #[] }]) ∧ i.size = 2 ∧ i.bytes = 32 := by
  obtain ⟨i, h1, h2, h3, h4⟩ := info_parts info42
  exact ⟨i, h1, h2, h3, h4⟩
theorem first0 (W : World) (g k : Nat) : (Builtin.firstCells k 0 (.slice (some ⟨g, 0, none⟩) 0 0)).run Tryz.prog W = .ok (([] : List Value).toArray) W := by
  simp [Builtin.firstCells, loadCells, loadCellsFrom]
/-- Behind a row without room. -/
theorem app_fresh {W : World} {B g : Nat} (hg : B ≤ g) (hb : W.heap[g]? = some (.cells #[] 42 (0, 0))) {p : Option Addr} {n cap : Nat} {L : List P2} (hP : PsC W (.slice p n cap) L) (hn : n ≤ 100000) (hB : B ≤ W.heap.size) (ty : TypeId) :
    ∃ v' W', (Builtin.append_ #[24, 24] ty #[.slice (some ⟨g, 0, none⟩) 0 0, .slice p n cap]).run Tryz.prog W = .ok v' W' ∧ OwnP W' B v' L ∧ Below W.heap.size W W' := by
  obtain ⟨i, hi, hz, h2, h32⟩ := info39b
  have hs := src_pairs hP i h2
  have hnl := hP.cap_le.1
  by_cases h0 : n = 0
  · subst h0
    have hL : L = [] := List.eq_nil_of_length_eq_zero hnl.symm
    subst hL
    refine ⟨.slice (some ⟨g, 0, none⟩) 0 0, W, ?_, ⟨rfl, Or.inr ⟨g, 0, #[], rfl, hg, hb, Nat.le_refl _, Nat.zero_le _, rfl, rfl⟩⟩, Below.refl _ _⟩
    have := run_append_room_src (P := Tryz.prog) W 24 24 ty 42 i Tryz.underlying24 hi g 0 0 0 (.slice p 0 cap) 0 (cellsP []) hs (by omega) (fun j hj => by simp [cellsP] at hj) (fun j hj => by simp [cellsP] at hj)
    simpa [cellsP, World.setCells] using this
  · have hr := run_append_grow_src (P := Tryz.prog) W 24 24 ty 42 i _ Tryz.underlying24 hi hz (some ⟨g, 0, none⟩) 0 0 [] (first0 _ _ _) (.slice p n cap) n (cellsP L) hs (by omega) (by omega) (growslice_fits (by omega) (by rw [h32]; omega))
    have hge := grownCap_ge W (0 + n) 0 42
    have hle := grownCap_le_maxLen W (0 + n) 0 42 (by unfold maxLen; omega)
    rw [Nat.zero_add] at hr hge hle
    refine ⟨_, _, hr, ⟨cellsP_length L, Or.inr ⟨W.heap.size, grownCap W n 0 42, _, ?_, hB, heap_alloc_new W.drew _, ?_, hle, ?_, ?_⟩⟩, ?_⟩
    · rw [hnl]
    · omega
    · simp [size_zeroCells, cellsP_length, Value.cells]; omega
    · simp only [List.nil_append, Array.toList_append]
      rw [← cellsP_length L]
      exact List.take_left
    · exact (Below.refl W.heap.size W).drew.alloc (by simp) _
/-- Behind a row of the call's own. -/
theorem app_own {W : World} {B : Nat} {v : Value} {M : List P2} (hown : OwnP W B v M) {p : Option Addr} {n cap : Nat} {L : List P2} (hP : PsC W (.slice p n cap) L) (hn : M.length + n ≤ 100000) (hB : B ≤ W.heap.size) (ty : TypeId) :
    ∃ v' W', (Builtin.append_ #[24, 24] ty #[v, .slice p n cap]).run Tryz.prog W = .ok v' W' ∧ OwnP W' B v' (M ++ L) ∧ W.grownBy W' v.ownBlock := by
  obtain ⟨i, hi, hz, h2, h32⟩ := info39b
  have hnl := hP.cap_le.1
  by_cases h0 : n = 0
  · subst h0
    have hL : L = [] := List.eq_nil_of_length_eq_zero hnl.symm
    subst hL
    have hs := src_pairs hP i h2
    rw [List.append_nil]
    refine ⟨v, W, ?_, hown, ⟨rfl, rfl, rfl, Nat.le_refl _, fun _ _ _ => rfl⟩⟩
    rcases hown.2 with ⟨rfl, hM⟩ | ⟨g, c, cur, rfl, _, hg, hc, _⟩
    · cases p with
      | none => simp [Builtin.append_, run_underlying Tryz.underlying24, sizeOf, typeInfo, hi, Builtin.lenOf, Builtin.firstCells]
      | some a => simp [Builtin.append_, run_underlying Tryz.underlying24, sizeOf, typeInfo, hi, Builtin.lenOf, Builtin.firstCells, loadCells, loadCellsFrom]
    · have := run_append_room_src (P := Tryz.prog) W 24 24 ty 42 i Tryz.underlying24 hi g 0 M.length c (.slice p 0 cap) 0 (cellsP []) hs (by omega) (fun j hj => by simp [cellsP] at hj) (fun j hj => by simp [cellsP] at hj)
      simpa [cellsP, World.setCells] using this
  · cases p with
    | none =>
      obtain ⟨x, hx⟩ : ∃ x, L[0]? = some x := ⟨_, List.getElem?_eq_getElem (by omega)⟩
      obtain ⟨b, o, e, _⟩ := hP.at hx
      cases e
    | some a =>
      have hs := src_pairs hP i h2
      obtain ⟨v', W', hr, hown', hg, _⟩ := run_append_own (P := Tryz.prog) W B 24 ty 42 i _ 2 32 Tryz.underlying24 hi hz h2 h32 rfl (by decide) v M.length (cellsP M) hown a n cap (cellsP L) (by rw [cellsP_length, hnl]) (fun j u hu => by
          obtain ⟨p', cap', e, _, hc⟩ := hP
          simp only [Value.slice.injEq] at e
          obtain ⟨e1, _, _⟩ := e
          obtain ⟨b, o, e2, h⟩ := hc j u hu
          rw [← e1] at e2
          obtain rfl := Option.some.inj e2
          have hadd : (⟨b, o, none⟩ : Addr).add j = ⟨b, o + j, none⟩ := by unfold Addr.add; split <;> simp_all
          rw [hadd]; exact h) (cellsP_one L) (by unfold maxLen; omega) (by omega) hB
      refine ⟨v', W', hr, ?_, hg⟩
      unfold OwnP
      rw [List.length_append, cellsP_append, ← hnl]
      exact hown'
/-! ### plainly -/
end Go.Proofs.YtfamoakicgmfgaaGreat.Lb
namespace Go.Own.Lb
open Go Go.RowKit
/-- The first number that is not done is ready, if each operation waits for earlier ones alone. -/
theorem ready_ne {md : Region.Mode} {ops : Array Oper} {done : Array Bool} (hs : done.size = ops.size) (hb : (ops.toList.zipIdx.all fun (o, i) => o.after.all fun e => decide (e.on < i)) = true)
    {i : Nat} (hi : done.getD i true = false) : Region.ready md ops done ≠ [] := by
  induction i using Nat.strongRecOn with
  | _ i ih =>
    have hlt : i < done.size := by
      rcases Nat.lt_or_ge i done.size with h | h
      · exact h
      · simp [h] at hi
    have ho : ops[i]? = some ops[i] := by simp [hs ▸ hlt]
    by_cases hr : i ∈ Region.ready md ops done
    · exact List.ne_nil_of_mem hr
    · have h1 : ∃ e ∈ ops[i].after, done.getD e.on false ≠ true := by
        apply Classical.byContradiction
        intro hn
        apply hr
        refine mem_ready.2 ⟨hi, _, ho, fun e he _ => ?_⟩
        apply Classical.byContradiction
        intro h2
        exact hn ⟨e, he, h2⟩
      obtain ⟨e, he, h2⟩ := h1
      have hlt2 : e.on < i := by
        have h3 := List.all_eq_true.1 hb (ops[i], i) (by
          rw [List.mem_zipIdx_iff_getElem?]
          simp [hs ▸ hlt])
        have h4 : ops[i].after.all (fun e => decide (e.on < i)) = true := h3
        rw [Array.all_eq_true_iff_forall_mem] at h4
        exact of_decide_eq_true (h4 e he)
      refine ih e.on hlt2 ?_
      have : e.on < done.size := by omega
      simp [Array.getD, this] at h2 ⊢
      exact h2
theorem getD_set_self_true {i : Nat} {done : Array Bool} : (done.setIfInBounds i true).getD i true = true := by
  rcases Nat.lt_or_ge i done.size with h | h
  · simp [h]
  · simp
theorem wpAny_of_inv {P : Program} {ops : Array Oper} {Q : Exit → Act → World → Prop} (Inv : Array Bool → Act → World → Prop)
    (hb : (ops.toList.zipIdx.all fun (o, i) => o.after.all fun e => decide (e.on < i)) = true)
    (hstep : ∀ done a w i, Inv done a w → done.getD i true = false → (∀ o, ops[i]? = some o → ∀ e ∈ o.after, Region.binds .any e = true → done.getD e.on false = true) → i < ops.size → wpOp P ops Q i (Inv (done.setIfInBounds i true)) a w)
    (hend : ∀ done a w, Inv done a w → (∀ i, i < ops.size → done.getD i false = true) → Q .normal a w) :
    ∀ (fuel : Nat) (done : Array Bool) (a : Act) (w : World), done.size = ops.size → (List.range ops.size).countP (fun i => !done.getD i true) ≤ fuel → Inv done a w → wpAny P .any ops Q fuel done a w := by
  have hall : ∀ done : Array Bool, done.size = ops.size → Region.ready .any ops done = [] → ∀ i, i < ops.size → done.getD i false = true := fun done hs h i hi => by
    have h1 : ¬ done.getD i true = false := fun h2 => ready_ne hs hb h2 h
    have : i < done.size := by omega
    simp [Array.getD, this] at h1 ⊢
    exact h1
  have wpOp_to : ∀ {i : Nat} {K K' : Act → World → Prop} {a : Act} {w : World}, (∀ a w, K a w → K' a w) → wpOp P ops Q i K a w → wpOp P ops Q i K' a w := fun hK h => wpOp_mono hK h
  intro fuel
  induction fuel with
  | zero =>
    intro done a w hs hc hI
    have hr : Region.ready .any ops done = [] := by
      cases hr : Region.ready .any ops done with
      | nil => rfl
      | cons i r =>
        have hi : i ∈ Region.ready .any ops done := by rw [hr]; exact List.mem_cons_self
        have h1 := (mem_ready.1 hi).1
        have h2 : i < ops.size := by
          obtain ⟨o, ho, _⟩ := (mem_ready.1 hi).2
          exact (Array.getElem?_eq_some_iff.1 ho).1
        have h3 : 0 < (List.range ops.size).countP (fun i => !done.getD i true) := List.countP_pos_iff.2 ⟨i, List.mem_range.2 h2, by rw [h1]; rfl⟩
        omega
    exact ⟨hr, hend _ _ _ hI (hall _ hs hr)⟩
  | succ fuel ih =>
    intro done a w hs hc hI
    refine ⟨fun h => hend _ _ _ hI (hall _ hs h), fun i hi => ?_⟩
    obtain ⟨h1, o, ho, h3⟩ := mem_ready.1 hi
    have h2 : i < ops.size := (Array.getElem?_eq_some_iff.1 ho).1
    refine wpOp_to (fun a' w' h => ih _ _ _ (by simp [hs]) ?_ h) (hstep done a w i hI h1 (fun o' ho' => by rw [ho] at ho'; cases ho'; exact h3) h2)
    have hlt : (List.range ops.size).countP (fun j => !(done.setIfInBounds i true).getD j true) < (List.range ops.size).countP (fun j => !done.getD j true) := by
      have hsub : ∀ (l : List Nat), i ∈ l → l.countP (fun j => !(done.setIfInBounds i true).getD j true) < l.countP (fun j => !done.getD j true) := by
        have hle : ∀ (l : List Nat), l.countP (fun j => !(done.setIfInBounds i true).getD j true) ≤ l.countP (fun j => !done.getD j true) := fun l => List.countP_mono_left fun j _ hj => by
          by_cases hij : i = j
          · subst hij
            have hz : (done.setIfInBounds i true).getD i true = true := getD_set_self_true
            rw [hz] at hj; cases hj
          · rwa [getD_set_ne true hij] at hj
        intro l
        induction l with
        | nil => intro h; cases h
        | cons x l ihl =>
          intro h
          rw [List.countP_cons, List.countP_cons]
          by_cases hx : i = x
          · subst hx
            have hz : (done.setIfInBounds i true).getD i true = true := getD_set_self_true
            have := hle l
            rw [hz, h1]
            simp only [Bool.not_true, Bool.not_false, Bool.false_eq_true, if_false, if_true]
            omega
          · have := ihl (List.mem_of_ne_of_mem hx h)
            rw [getD_set_ne true hx]
            omega
      exact hsub _ (List.mem_range.2 h2)
    omega
theorem wpOp_at {P : Program} {ops : Array Oper} {Q : Exit → Act → World → Prop} {i : Nat} {K : Act → World → Prop} {a : Act} {w : World} (o : Oper) (hi : ops[i]? = some o) (hg : o.guard = none)
    (h : ∀ K' : Act → World → Prop, (∀ a w, K a w → K' a w) → o.wp P a w K' Q) : wpOp P ops Q i K a w := by
  have h2 := h K fun _ _ h => h
  unfold wpOp
  rw [hi]
  simp only [Region.wanted, hg, if_true]
  exact Or.inl h2
theorem done_set {done : Array Bool} {i j : Nat} (h : (done.setIfInBounds i true).getD j false = true) : i = j ∨ done.getD j false = true := by
  by_cases hij : i = j
  · exact Or.inl hij
  · rw [getD_set_ne false hij] at h; exact Or.inr h

/-- Does operation o wait for number i? -/
def waits (o : Oper) (i : Nat) : Bool := o.after.any fun e => Region.binds .any e && decide (e.on = i)
theorem waits_spec {o : Oper} {i : Nat} (h : waits o i = true) : ∃ e ∈ o.after, Region.binds .any e = true ∧ e.on = i := by
  obtain ⟨j, hj, h2⟩ := Array.any_eq_true.1 h
  simp only [Bool.and_eq_true, decide_eq_true_eq] at h2
  exact ⟨o.after[j], Array.getElem_mem hj, h2⟩
/-- No guard, each with a slot of its own below n, each waiting for earlier ones alone. -/
def plainB (l : List Oper) (n : Nat) : Bool :=
  (l.zipIdx.all fun (o, i) => o.after.all fun e => decide (e.on < i)) && l.all (fun o => o.guard.isNone && o.dst.any (fun s => decide (s < n))) && decide ((l.map fun o => o.dst).Nodup)
/-- At the time of operation i slot s is as it was: whoever writes it waits for i, or is it. -/
def keepsB (l : List Oper) (i s : Nat) : Bool := l.zipIdx.all fun (o, j) => decide (o.dst ≠ some s) || decide (j = i) || waits o i

/-- Does operation o read what number i made? -/
def reads (o : Oper) (i : Nat) : Bool := o.after.any fun e => Region.binds .any e && decide (e.on = i) && (match e.ground with | .data => true | _ => false)
theorem reads_waits {o : Oper} {i : Nat} (h : reads o i = true) : waits o i = true := by
  obtain ⟨j, hj, h2⟩ := Array.any_eq_true.1 h
  simp only [Bool.and_eq_true] at h2
  exact Array.any_eq_true.2 ⟨j, hj, by simp only [Bool.and_eq_true]; exact h2.1⟩
/-- No operation reads it. -/
def lastB (l : List Oper) (j : Nat) : Bool := l.all fun o => !reads o j
/-- Does it wait for number i, or for one that does? -/
def waits2 (l : List Oper) (o : Oper) (i : Nat) : Bool := waits o i || l.zipIdx.any fun (o2, m) => waits o m && waits o2 i
/-- At the time of operation i: number j may be done, and may be read behind it. -/
def liveB (l : List Oper) (i j : Nat) : Bool :=
  decide (j ≠ i) && (l.zipIdx.all fun (o, k) => decide (k ≠ j) || !waits2 l o i) && (lastB l j || l.zipIdx.any fun (o, k) => decide (k ≠ i) && reads o j && (l.zipIdx.all fun (oi, m) => decide (m ≠ i) || !waits2 l oi k))

structure StInv (l : List Oper) (T : Nat → Value → World → Prop) (a0 : Act) (w0 : World) (done : Array Bool) (a : Act) (W : World) : Prop where
  below : Below w0.heap.size w0 W
  defers : a.defers = a0.defers
  size : a.tmps.size = a0.tmps.size
  fixed : ∀ s, (∀ i o, l[i]? = some o → done.getD i false = true → o.dst ≠ some s) → a.tmps.getD s undef = a0.tmps.getD s undef
  vals : ∀ i o s, l[i]? = some o → done.getD i false = true → o.dst = some s → ((∃ k ok, l[k]? = some ok ∧ done.getD k false = false ∧ reads ok i = true) ∨ lastB l i = true) → T i (a.tmps.getD s undef) W
  closed : ∀ i o, l[i]? = some o → done.getD i false = true → ∀ e ∈ o.after, Region.binds .any e = true → done.getD e.on false = true

theorem put_at {a : Act} {s : Nat} {v : Value} (h : s < a.tmps.size) (k : Nat) : (a.put (some s) v).tmps.getD k undef = if k = s then v else a.tmps.getD k undef := by
  simp only [Act.put]
  by_cases e : k = s
  · subst e; simp [h]
  · rw [if_neg e]
    simp only [Array.getD_eq_getD_getElem?]
    rw [Array.getElem?_setIfInBounds_ne (fun h => e h.symm)]

/-- The law: hstep gives each operation's value and world, out of those that it waits for. -/
theorem wp_region_stable {P : Program} {id : Nat} {Q : Exit → Act → World → Prop} {a0 : Act} {w0 : World} {l : List Oper} (T : Nat → Value → World → Prop) (hm : P.follows .mixedOrders = true) (hp : plainB l a0.tmps.size = true)
    (hstep : ∀ i o, l[i]? = some o → ∀ (a : Act) (W : World), Below w0.heap.size w0 W → (∀ j oj s, l[j]? = some oj → oj.dst = some s → reads o j = true → T j (a.tmps.getD s undef) W) → (∀ s, keepsB l i s = true → a.tmps.getD s undef = a0.tmps.getD s undef) →
      ∃ v W', (execOp a.eval o).run P W = .ok (.value v) W' ∧ Below w0.heap.size w0 W' ∧ T i v W' ∧ ∀ j v', liveB l i j = true → T j v' W → T j v' W')
    (hend : ∀ (a : Act) (W : World), Below w0.heap.size w0 W → a.defers = a0.defers → a.tmps.size = a0.tmps.size → (∀ s, (l.all fun o => decide (o.dst ≠ some s)) = true → a.tmps.getD s undef = a0.tmps.getD s undef) → (∀ i o s, l[i]? = some o → o.dst = some s → lastB l i = true → T i (a.tmps.getD s undef) W) → Q .normal a W) :
    (Code.region id l.toArray true).wp P Q a0 w0 := by
  simp only [plainB, Bool.and_eq_true, decide_eq_true_eq] at hp
  obtain ⟨⟨hb, hg⟩, hn⟩ := hp
  have hg2 : ∀ (i : Nat) (o : Oper), l[i]? = some o → o.guard = none ∧ ∃ s, o.dst = some s ∧ s < a0.tmps.size := fun i o ho => by
    have h1 := List.all_eq_true.1 hg o (List.mem_of_getElem? ho)
    simp only [Bool.and_eq_true, Option.isNone_iff_eq_none, Option.any_eq_true, decide_eq_true_eq] at h1
    exact h1
  have hnd : ∀ (i j : Nat) (oi oj : Oper), l[i]? = some oi → l[j]? = some oj → oi.dst = oj.dst → i = j := fun i j oi oj h1 h2 e => by
    have hi := (List.getElem?_eq_some_iff.1 h1).1
    have hj := (List.getElem?_eq_some_iff.1 h2).1
    refine (List.getElem_inj (xs := l.map fun o => o.dst) (h₀ := by simpa using hi) (h₁ := by simpa using hj) hn).1 ?_
    simp only [List.getElem_map]
    rw [(List.getElem?_eq_some_iff.1 h1).2, (List.getElem?_eq_some_iff.1 h2).2, e]
  refine wp_region_any hm ?_
  refine wpAny_of_inv (StInv l T a0 w0) (by simpa using hb) ?_ ?_ _ _ _ _ (by simp) ?_ ?_
  · intro done a W i hI hnd1 hdep hlt
    have hil : i < l.length := by simpa using hlt
    have ho : l[i]? = some l[i] := List.getElem?_eq_getElem hil
    generalize hoi : l[i] = o at ho
    obtain ⟨hgn, s, hs, hsz⟩ := hg2 i o ho
    have hnf : done.getD i false = false := by
      cases h : done.getD i false with
      | false => rfl
      | true => rw [getD_both hnd1] at h; cases h
    obtain ⟨v, W', hr, hB, hTi, hTk⟩ := hstep i o ho a W hI.below
      (fun j oj sj hj hsj hw => by
        obtain ⟨e, he, hbi, hon⟩ := waits_spec (reads_waits hw)
        exact hI.vals j oj sj hj (hon ▸ hdep o (by simpa using ho) e he hbi) hsj (Or.inl ⟨i, o, ho, hnf, hw⟩))
      (fun s' hk => hI.fixed s' fun j oj hj hdj hds => by
        have h1 := List.all_eq_true.1 hk (oj, j) (by rw [List.mem_zipIdx_iff_getElem?]; simpa using hj)
        simp only [Bool.or_eq_true, decide_eq_true_eq] at h1
        rcases h1 with (h1 | h1) | h1
        · exact h1 hds
        · subst h1; rw [hnf] at hdj; cases hdj
        · obtain ⟨e, he, hbi, hon⟩ := waits_spec h1
          have h2 := hI.closed j oj hj hdj e he hbi
          rw [hon, hnf] at h2; cases h2)
    refine wpOp_at o (by simpa using ho) hgn fun K' hK' => ?_
    unfold Oper.wp
    rw [hr]
    refine hK' _ _ ?_
    have hput := fun k => put_at (a := a) (s := s) (v := v) (by rw [hI.size]; exact hsz) k
    rw [hs]
    refine ⟨hB, hI.defers, ?_, fun k hk => ?_, fun j oj sj hj hdj hsj hnd2 => ?_, fun j oj hj hdj e he hbi => ?_⟩
    · simp [Act.put, hI.size]
    · rw [hput k]
      have hne : k ≠ s := fun e => hk i o ho (by
        rw [e] at *
        have hds : i < done.size := by
          rcases Nat.lt_or_ge i done.size with h | h
          · exact h
          · simp [h] at hnd1
        simp [hds]) (by rw [e]; exact hs)
      rw [if_neg hne]
      exact hI.fixed k fun j oj hj hdj => hk j oj hj (by
        by_cases e : i = j
        · subst e; rw [hnf] at hdj; cases hdj
        · rw [getD_set_ne false e]; exact hdj)
    · rw [hput sj]
      rcases done_set hdj with h1 | h1
      · subst h1
        have : oj = o := Option.some.inj (hj.symm.trans ho)
        subst this
        rw [if_pos (Option.some.inj (hsj.symm.trans hs))]
        exact hTi
      · have hne : sj ≠ s := fun e => by
          have := hnd j i oj o hj ho (by rw [hsj, hs, e])
          subst this
          rw [hnf] at h1; cases h1
        rw [if_neg hne]
        have hji : j ≠ i := fun e => by subst e; rw [hnf] at h1; cases h1
        have hjw : waits2 l oj i = false := by
          cases hw : waits2 l oj i with
          | false => rfl
          | true =>
            unfold waits2 at hw
            rw [Bool.or_eq_true] at hw
            rcases hw with hw | hw
            · obtain ⟨e, he, hbi, hon⟩ := waits_spec hw
              have h2 := hI.closed j oj hj h1 e he hbi
              rw [hon, hnf] at h2; cases h2
            · obtain ⟨⟨o2, m⟩, hm2, h⟩ := List.any_eq_true.1 hw
              rw [List.mem_zipIdx_iff_getElem?] at hm2
              simp only [Bool.and_eq_true] at h
              obtain ⟨e, he, hbi, hon⟩ := waits_spec h.1
              have h2 := hI.closed j oj hj h1 e he hbi
              rw [hon] at h2
              obtain ⟨e', he', hbi', hon'⟩ := waits_spec h.2
              have h3 := hI.closed m o2 hm2 h2 e' he' hbi'
              rw [hon', hnf] at h3; cases h3
        have hl1 : (l.zipIdx.all fun (o, k) => decide (k ≠ j) || !waits2 l o i) = true := List.all_eq_true.2 fun ⟨o', k⟩ hk => by
          rw [List.mem_zipIdx_iff_getElem?] at hk
          by_cases e : k = j
          · subst e
            have : o' = oj := Option.some.inj (hk.symm.trans hj)
            subst this
            simp [hjw]
          · simp [e]
        have hold : (∃ k ok, l[k]? = some ok ∧ done.getD k false = false ∧ reads ok j = true) ∨ lastB l j = true := by
          rcases hnd2 with ⟨k, ok, hk, hdk, hrk⟩ | h2
          · have hki : i ≠ k := fun e => by
              subst e
              have hds : i < done.size := by
                rcases Nat.lt_or_ge i done.size with h | h
                · exact h
                · simp [h] at hnd1
              simp [hds] at hdk
            rw [getD_set_ne false hki] at hdk
            exact Or.inl ⟨k, ok, hk, hdk, hrk⟩
          · exact Or.inr h2
        refine hTk _ _ ?_ (hI.vals j oj sj hj h1 hsj hold)
        unfold liveB
        rw [Bool.and_eq_true, Bool.and_eq_true, Bool.or_eq_true]
        refine ⟨⟨decide_eq_true hji, hl1⟩, ?_⟩
        rcases hnd2 with ⟨k, ok, hk, hdk, hrk⟩ | h2
        · right
          have hki : i ≠ k := fun e => by
            subst e
            have hds : i < done.size := by
              rcases Nat.lt_or_ge i done.size with h | h
              · exact h
              · simp [h] at hnd1
            simp [hds] at hdk
          rw [getD_set_ne false hki] at hdk
          refine List.any_eq_true.2 ⟨(ok, k), by rw [List.mem_zipIdx_iff_getElem?]; exact hk, ?_⟩
          simp only [Bool.and_eq_true, decide_eq_true_eq]
          refine ⟨⟨fun e => hki e.symm, hrk⟩, List.all_eq_true.2 fun ⟨o', m⟩ hm2 => ?_⟩
          rw [List.mem_zipIdx_iff_getElem?] at hm2
          by_cases e : m = i
          · subst e
            have : o' = o := Option.some.inj (hm2.symm.trans ho)
            subst this
            cases hw : waits2 l o' k with
            | false => simp
            | true =>
              unfold waits2 at hw
              rw [Bool.or_eq_true] at hw
              rcases hw with hw | hw
              · obtain ⟨e, he, hbi, hon⟩ := waits_spec hw
                have h3 := hdep o' (by simpa using ho) e he hbi
                rw [hon, hdk] at h3; cases h3
              · obtain ⟨⟨o2, m2⟩, hm3, h⟩ := List.any_eq_true.1 hw
                rw [List.mem_zipIdx_iff_getElem?] at hm3
                simp only [Bool.and_eq_true] at h
                obtain ⟨e, he, hbi, hon⟩ := waits_spec h.1
                have h3 := hdep o' (by simpa using ho) e he hbi
                rw [hon] at h3
                obtain ⟨e', he', hbi', hon'⟩ := waits_spec h.2
                have h4 := hI.closed m2 o2 hm3 h3 e' he' hbi'
                rw [hon', hdk] at h4; cases h4
          · simp [e]
        · exact Or.inl h2
    · rcases done_set hdj with h1 | h1
      · subst h1
        have : oj = o := Option.some.inj (hj.symm.trans ho)
        subst this
        have h2 := hdep oj (by simpa using ho) e he hbi
        by_cases e2 : i = e.on
        · rw [← e2] at h2; rw [hnf] at h2; cases h2
        · rw [getD_set_ne false e2]; exact h2
      · have h2 := hI.closed j oj hj h1 e he hbi
        by_cases e2 : i = e.on
        · rw [← e2] at h2; rw [hnf] at h2; cases h2
        · rw [getD_set_ne false e2]; exact h2
  · intro done a W hI hall
    refine hend a W hI.below hI.defers hI.size (fun s hs => hI.fixed s fun i o ho _ => ?_) (fun i o s ho hs hl => hI.vals i o s ho (hall i ?_) hs (Or.inr hl))
    · have := List.all_eq_true.1 hs o (List.mem_of_getElem? ho)
      simpa using this
    · have := (List.getElem?_eq_some_iff.1 ho).1
      simpa using this
  · have hc : ∀ (n m : Nat), ((List.range m).countP fun i => !(Array.replicate n false).getD i true) ≤ m := fun n m => by
      have := List.countP_le_length (l := List.range m) (p := fun i => !(Array.replicate n false).getD i true)
      simpa using this
    exact hc _ _
  · have hz : ∀ n j, (Array.replicate n false).getD j false ≠ true := fun n j h => by rw [getD_replicate_false] at h; cases h
    exact ⟨⟨rfl, rfl, rfl, Nat.le_refl _, fun _ _ => rfl⟩, rfl, rfl, fun _ _ => rfl, fun i o s _ h => absurd h (hz _ _), fun i o _ h => absurd h (hz _ _)⟩
end Go.Own.Lb
namespace Go.Own.Lb
open Go Go.RowKit
section
variable {P : Program} {ρ : Operand → Value} {W W' : World} {dst : Option Tmp} {ty : TypeId} {pos : String} {after : Array Edge} {guard : Option (Nat × Bool)} {v u r : Value} {x y : Operand}
theorem exec_move (h : ρ x = v) : (execOp ρ { dst, op := .move x, type := ty, pos, after, guard }).run P W = .ok (.value v) W := by
  subst h; rfl
theorem exec_assign (h : ρ x = v) : (execOp ρ { dst, op := .assign x, type := ty, pos, after, guard }).run P W = .ok (.value v) W := by
  subst h; rfl
theorem exec_append {t t' : TypeId} (h1 : ρ x = v) (h2 : ρ y = u) (hr : (Builtin.append_ #[t, t'] ty #[v, u]).run P W = .ok r W') :
    (execOp ρ { dst, op := .call { callee := .builtin .append, args := #[x, y], argTypes := #[t, t'] }, type := ty, pos, after, guard }).run P W = .ok (.value r) W' := by
  simp [execOp, resolve, invoke, builtin, h1, h2, hr, Result.andThen]
theorem exec_load {T : TypeId} (h1 : ρ x = v) (hr : (Instr.loadAt T v).run P W = .ok r W) : (execOp ρ { dst, op := .load T x, type := ty, pos, after, guard }).run P W = .ok (.value r) W := by
  have e : execOp ρ { dst, op := .load T x, type := ty, pos, after, guard } = (Instr.loadAt T (ρ x) >>= fun v => pure (.value v)) := rfl
  rw [e, h1]
  simp [hr, Result.andThen]
theorem exec_convert {S T : TypeId} (h1 : ρ x = v) (hr : (convert S T v).run P W = .ok r W) : (execOp ρ { dst, op := .convert S T x, type := ty, pos, after, guard }).run P W = .ok (.value r) W := by
  simp [execOp, h1, hr, Result.andThen]
end
theorem eval_tmp (a : Act) (s : Nat) : a.eval (.tmp s) = a.tmps.getD s undef := rfl
theorem frame_lit (a : Act) (n : Nat) (h : a.tmps.size = n) (hd : a.defers = []) : a = { tmps := ((List.range n).map fun k => a.tmps.getD k undef).toArray, defers := [] } := by
  obtain ⟨t, d⟩ := a
  simp only at h hd
  subst hd
  congr 1
  apply Array.ext
  · simp [h]
  · intro i h1 h2
    simp [Array.getD, h1]
end Go.Own.Lb
namespace Go.Proofs.YtfamoakicgmfgaaGreat.Lb
open Go.RowKit Go.Own.Lb
theorem OwnP.below {W W' : World} {B : Nat} {v : Value} {M : List P2} (h : OwnP W B v M) (hb : Below W.heap.size W W') : OwnP W' B v M := by
  unfold OwnP at h ⊢
  exact h.kept (row := none) ⟨hb.os, hb.tape, hb.output, hb.size, fun k hk _ => hb.block k hk⟩ (by
    rcases h.2 with ⟨rfl, _⟩ | ⟨g, c, cur, rfl, _⟩
    · exact Or.inl rfl
    · exact Or.inr (by simp [Value.ownBlock]))
/-- What is there of an empty row. -/
def Empty0 (W : World) (B : Nat) (v : Value) : Prop := ∃ g, v = .slice (some ⟨g, 0, none⟩) 0 0 ∧ B ≤ g ∧ W.heap[g]? = some (.cells #[] 42 (0, 0))
theorem Empty0.below {W W' : World} {B : Nat} {v : Value} (h : Empty0 W B v) (hb : Below W.heap.size W W') : Empty0 W' B v := by
  obtain ⟨g, h1, h2, h3⟩ := h
  exact ⟨g, h1, h2, (hb.block g (Array.getElem?_eq_some_iff.1 h3).1).trans h3⟩
theorem exec_empty {ρ : Operand → Value} {W : World} {dst : Option Tmp} {ty : TypeId} {pos : String} {after : Array Edge} {guard : Option (Nat × Bool)} :
    (execOp ρ { dst, op := .buildSlice 24 0 #[], type := ty, pos, after, guard }).run Tryz.prog W = .ok (.value (.slice (some ⟨W.heap.size, 0, none⟩) 0 0)) (W.alloc (.cells #[] 42)) := by
  have e : (Instr.buildSlice 24 0 #[]).run Tryz.prog W = .ok (.slice (some ⟨W.heap.size, 0, none⟩) 0 0) (W.alloc (.cells #[] 42)) := by kernel_rfl
  simp [execOp, e, Result.andThen]
theorem exec_one {ρ : Operand → Value} {W : World} {dst : Option Tmp} {ty : TypeId} {pos : String} {after : Array Edge} {guard : Option (Nat × Bool)} {x : Operand} {a b : ByteArray} (h : ρ x = .agg #[.string a, .string b]) :
    (execOp ρ { dst, op := .buildSlice 24 1 #[(0, x)], type := ty, pos, after, guard }).run Tryz.prog W = .ok (.value (.slice (some ⟨W.heap.size, 0, none⟩) 1 1)) (W.alloc (.cells #[.string a, .string b] 42)) := by
  have e : (Instr.buildSlice 24 1 #[(0, .agg #[.string a, .string b])]).run Tryz.prog W = .ok (.slice (some ⟨W.heap.size, 0, none⟩) 1 1) (W.alloc (.cells #[.string a, .string b] 42)) := by kernel_rfl
  simp [execOp, h, e, Result.andThen]
theorem ps_one (W : World) (x : P2) : PsC (W.alloc (.cells #[.string x.1, .string x.2] 42)) (.slice (some ⟨W.heap.size, 0, none⟩) 1 1) [x] := by
  refine ⟨_, _, rfl, Nat.le_refl _, fun j u hu => ⟨W.heap.size, 0, rfl, ?_⟩⟩
  rw [cell_new, Nat.zero_add]
  simpa [cellsP] using hu
end Go.Proofs.YtfamoakicgmfgaaGreat.Lb
namespace Go.Proofs.YtfamoakicgmfgaaGreat.Lb
open Go.RowKit Go.Own.Lb
section
variable {ρ : Operand → Value} {W : World} {dst : Option Tmp} {ty : TypeId} {pos : String} {after : Array Edge} {guard : Option (Nat × Bool)} {x y : Operand}
set_option maxRecDepth 100000 in
theorem exec_head {p : Option Addr} {n cap k : Nat} (h1 : ρ x = .slice p n cap) (h2 : ρ y = .int .i64 (k : Int)) (hk : k ≤ cap) :
    (execOp ρ { dst, op := .slice 24 x none (some y) none, type := ty, pos, after, guard }).run Tryz.prog W = .ok (.value (sliced p 0 k cap 2)) W := by
  have hz : (sizeOf (Tryz.prog.elem 24)).run Tryz.prog W = .ok 2 W := by kernel_rfl
  have hr := run_slice_h (P := Tryz.prog) W 24 p n cap Tryz.underlying24 .i64 (k : Int) (by omega) (by omega)
  rw [hz] at hr
  simp only [Result.andThen_ok, Int.toNat_natCast] at hr
  have ha : (Instr.sliceAt 24 (.slice p n cap) none (some (.int .i64 (k : Int))) none).run Tryz.prog W = .ok (sliced p 0 k cap 2) W := by
    rw [run_sliceAt_slice W 24 _ _ _ _ Tryz.underlying24]; exact hr
  simp [execOp, h1, h2, ha, Result.andThen]
set_option maxRecDepth 100000 in
theorem exec_tail {p : Option Addr} {n cap k : Nat} (h1 : ρ x = .slice p n cap) (h2 : ρ y = .int .i64 (k : Int)) (hk : k ≤ n) :
    (execOp ρ { dst, op := .slice 24 x (some y) none none, type := ty, pos, after, guard }).run Tryz.prog W = .ok (.value (sliced p k n cap 2)) W := by
  have hz : (sizeOf (Tryz.prog.elem 24)).run Tryz.prog W = .ok 2 W := by kernel_rfl
  have hr := run_slice_l (P := Tryz.prog) W 24 p n cap Tryz.underlying24 .i64 (k : Int) (by omega) (by omega)
  rw [hz] at hr
  simp only [Result.andThen_ok, Int.toNat_natCast] at hr
  have ha : (Instr.sliceAt 24 (.slice p n cap) (some (.int .i64 (k : Int))) none none).run Tryz.prog W = .ok (sliced p k n cap 2) W := by
    rw [run_sliceAt_slice W 24 _ _ _ _ Tryz.underlying24]; exact hr
  simp [execOp, h1, h2, ha, Result.andThen]
set_option maxRecDepth 100000 in
theorem exec_indexAddr {b o n cap i : Nat} (h1 : ρ x = .slice (some ⟨b, o, none⟩) n cap) (h2 : ρ y = .int .i64 (i : Int)) (hi : i < n) :
    (execOp ρ { dst, op := .indexAddr 24 x y, type := ty, pos, after, guard }).run Tryz.prog W = .ok (.value (.pointer (some ⟨b, o + i * 2, none⟩))) W := by
  have hii : (i : Int) < n := by omega
  have hadd : (⟨b, o, none⟩ : Addr).add (i * 2) = ⟨b, o + i * 2, none⟩ := by unfold Addr.add; split <;> simp_all
  simp [execOp, h1, h2, go_sem, hii, hadd, Result.andThen]
set_option maxRecDepth 100000 in
theorem exec_field0 {b o : Nat} (h1 : ρ x = .pointer (some ⟨b, o, none⟩)) :
    (execOp ρ { dst, op := .fieldAddr 42 x 0, type := ty, pos, after, guard }).run Tryz.prog W = .ok (.value (.pointer (some ⟨b, o, none⟩))) W := by
  have e : ∀ b o, (Instr.fieldAt 42 (.pointer (some ⟨b, o, none⟩)) 0).run Tryz.prog W = .ok (.pointer (some ⟨b, o, none⟩)) W := fun _ _ => by kernel_rfl
  simp [execOp, h1, e, Result.andThen]
set_option maxRecDepth 100000 in
theorem exec_field1 {b o : Nat} (h1 : ρ x = .pointer (some ⟨b, o, none⟩)) :
    (execOp ρ { dst, op := .fieldAddr 42 x 1, type := ty, pos, after, guard }).run Tryz.prog W = .ok (.value (.pointer (some ⟨b, o + 1, none⟩))) W := by
  have e : ∀ b o, (Instr.fieldAt 42 (.pointer (some ⟨b, o, none⟩)) 1).run Tryz.prog W = .ok (.pointer (some ⟨b, o + 1, none⟩)) W := fun _ _ => by kernel_rfl
  simp [execOp, h1, e, Result.andThen]
end
theorem head_eq (p : Option Addr) (k cap : Nat) : sliced p 0 k cap 2 = .slice p k cap := by
  unfold sliced
  split
  · rename_i h; rw [h]; rfl
  · cases p with
    | none => rfl
    | some a => simp [Addr.add]
theorem PsC.tail {W : World} {p : Option Addr} {n cap : Nat} {L : List P2} (h : PsC W (.slice p n cap) L) {k : Nat} (hk : k ≤ n) : PsC W (sliced p k n cap 2) (L.drop k) := by
  obtain ⟨hn, hle⟩ := h.cap_le
  obtain ⟨p', cap', e, _, hc⟩ := h
  simp only [Value.slice.injEq] at e
  obtain ⟨rfl, _, rfl⟩ := e
  refine ⟨_, cap - k, by unfold sliced; rw [List.length_drop, hn], by rw [List.length_drop]; omega, fun j u hu => ?_⟩
  rw [← cellsP_drop, List.getElem?_drop] at hu
  obtain ⟨b, o, rfl, h2⟩ := hc _ u hu
  have hlt := (List.getElem?_eq_some_iff.1 hu).1
  rw [cellsP_length] at hlt
  have hne : ¬ cap = k := by omega
  rw [if_neg hne]
  refine ⟨b, o + k * 2, ?_, by rw [Nat.add_assoc]; exact h2⟩
  simp only [Option.map_some, Option.some.injEq]
  unfold Addr.add; split <;> simp_all
/-! ### plainly -/
theorem bytesLess_iff : ∀ (a b : List UInt8), Op.bytesLess a b = decide (a < b)
  | _, [] => by simp [Op.bytesLess]
  | [], _ :: _ => by simp [Op.bytesLess]
  | a :: x, b :: y => by
    have ih := bytesLess_iff x y
    simp only [Op.bytesLess, ih]
    rw [Bool.eq_iff_iff]
    simp [List.cons_lt_cons_iff]
theorem less_kl (x y : P2) : Op.bytesLess x.1.toList y.1.toList = decide (kl x < kl y) := by
  rw [ByteArray.toList_eq, ByteArray.toList_eq, bytesLess_iff]; rfl
theorem ins_sorted {M : List P2} {x : P2} {k : Nat} (hs : M.Pairwise (fun a b => leP a b = true)) (hd : ∀ b ∈ M.drop k, kl x < kl b) (ht : k = 0 ∨ ∃ y, M[k - 1]? = some y ∧ ¬ kl x < kl y) (hk : k ≤ M.length) :
    (M.take k ++ [x] ++ M.drop k).Pairwise (fun a b => leP a b = true) := by
  have hsp : (M.take k ++ M.drop k).Pairwise (fun a b => leP a b = true) := by rw [List.take_append_drop]; exact hs
  rw [List.pairwise_append] at hsp
  obtain ⟨h1, h2, h3⟩ := hsp
  have hx : ∀ a ∈ M.take k, leP a x = true := fun a ha => by
    rcases ht with rfl | ⟨y, hy, hle⟩
    · simp at ha
    · have hyl : leP y x = true := by simp only [leP, decide_eq_true_eq]; exact List.not_lt.1 hle
      obtain ⟨j, hj, rfl⟩ := List.getElem_of_mem ha
      have hjk : j < k := by simp at hj; omega
      have hkm : k - 1 < M.length := (List.getElem?_eq_some_iff.1 hy).1
      have hyv : M[k - 1] = y := (List.getElem?_eq_some_iff.1 hy).2
      rw [List.getElem_take]
      by_cases e : j = k - 1
      · subst e; rw [hyv]; exact hyl
      · have := List.pairwise_iff_getElem.1 hs j (k - 1) (by omega) hkm (by omega)
        rw [hyv] at this
        exact leP_trans _ _ _ this hyl
  have hxd : ∀ b ∈ M.drop k, leP x b = true := fun b hb => by
    simp only [leP, decide_eq_true_eq]; exact List.le_of_lt (hd b hb)
  rw [List.pairwise_append, List.pairwise_append]
  refine ⟨⟨h1, List.pairwise_singleton _ _, fun a ha b hb => by rw [List.mem_singleton.1 hb]; exact hx a ha⟩, h2, fun a ha b hb => ?_⟩
  rcases List.mem_append.1 ha with h | h
  · exact h3 a h b hb
  · rw [List.mem_singleton.1 h]; exact hxd b hb
theorem ins_perm (M : List P2) (x : P2) (k : Nat) : (M.take k ++ [x] ++ M.drop k).Perm (M ++ [x]) := by
  have h1 : (M.take k ++ [x] ++ M.drop k).Perm (x :: (M.take k ++ M.drop k)) := by
    rw [List.append_assoc]
    exact List.perm_middle
  rw [List.take_append_drop] at h1
  exact h1.trans (List.perm_append_singleton x M).symm
end Go.Proofs.YtfamoakicgmfgaaGreat.Lb
namespace Go.Proofs.YtfamoakicgmfgaaGreat.Lb
open Go.RowKit Go.Own.Lb
/-- What each operation of an insertion makes. -/
def TS (M : List P2) (x : P2) (q : Nat) (B : Nat) (s0 s1 s2 s3 s4 s5 : Value) : Nat → Value → World → Prop
  | 0, v, W => Empty0 W B v
  | 1, v, _ => v = s0
  | 2, v, _ => v = .int .i64 (q : Int)
  | 3, v, _ => v = s1
  | 4, v, W => OwnP W B v (M.take q)
  | 5, v, _ => v = s2
  | 6, v, _ => v = s3
  | 7, v, _ => v = s4
  | 8, v, _ => v = .agg #[.string x.1, .string x.2]
  | 9, v, W => PsC W v [x]
  | 10, v, W => OwnP W B v (M.take q ++ [x])
  | 11, v, _ => v = s0
  | 12, v, _ => v = .int .i64 (q : Int)
  | 13, v, _ => v = s5
  | 14, v, W => OwnP W B v (M.take q ++ [x] ++ M.drop q)
  | 15, v, W => OwnP W B v (M.take q ++ [x] ++ M.drop q)
  | _, _, _ => True
theorem TS.below {M : List P2} {x : P2} {q B : Nat} {s0 s1 s2 s3 s4 s5 : Value} {W W' : World} (hb : Below W.heap.size W W') : ∀ (j : Nat) v, TS M x q B s0 s1 s2 s3 s4 s5 j v W → TS M x q B s0 s1 s2 s3 s4 s5 j v W'
  | 0, _, h => Empty0.below h hb
  | 1, _, h => h
  | 2, _, h => h
  | 3, _, h => h
  | 4, _, h => OwnP.below h hb
  | 5, _, h => h
  | 6, _, h => h
  | 7, _, h => h
  | 8, _, h => h
  | 9, _, h => PsC.below h hb
  | 10, _, h => OwnP.below h hb
  | 11, _, h => h
  | 12, _, h => h
  | 13, _, h => h
  | 14, _, h => OwnP.below h hb
  | 15, _, h => OwnP.below h hb
  | _ + 16, _, _ => trivial
set_option maxRecDepth 100000 in
set_option maxHeartbeats 12000000 in
theorem refSorted_any (L : List P2) (p : Option Addr) (cap : Nat) (hL : L.length ≤ 1000) (w : World) (hP : PsC w (.slice p L.length cap) L) :
    Calls Tryz.prog 36 #[.slice p L.length cap] w fun e w' => ∃ v M, e = .returned v ∧ M.Perm L ∧ M.Pairwise (fun a b => leP a b = true) ∧ PsC w' v M ∧ Below w.heap.size w w' := by
  obtain ⟨n, hn⟩ : ∃ n, L.length = n := ⟨_, rfl⟩
  rw [hn] at hL ⊢
  have HN := Lib.hid hn
  have HP := Lib.hid hP
  clear hn hP
  go_enter Tryz.func36, Tryz.ntmps36
  go_wp2
  go_loopw [3, 4] (fun v i wr => ∃ (j : Nat) (M : List P2), j ≤ n ∧ i = .int .i64 (j : Int) ∧ Hid (PsC wr v M) ∧ Hid (M.Perm (L.take j)) ∧ Hid (M.Pairwise (fun a b => leP a b = true)) ∧ Hid (Below w.heap.size w wr)) (fun _ i _ => n - (intOf i).toNat)
  case atStart => exact ⟨0, [], Nat.zero_le _, rfl, Lib.hid ⟨none, 0, rfl, Nat.le_refl _, fun j u hu => by simp [cellsP] at hu⟩, Lib.hid (by simp), Lib.hid List.Pairwise.nil, Lib.hid (Below.refl _ _)⟩
  case round =>
    obtain ⟨j, M, hj, rfl, HM, HPM, HSM, HB⟩ := hrel
    obtain ⟨pM, cM, rfl, hcM, _⟩ := id HM.out
    have hMl : M.length = j := by rw [HPM.out.length_eq, List.length_take, HN.out]; omega
    rw [hMl] at HM hcM ⊢
    have HML := Lib.hid hMl
    clear hMl
    by_cases hlt : j < n
    · obtain ⟨x, hx⟩ : ∃ x, L[j]? = some x := ⟨_, List.getElem?_eq_getElem (by rw [HN.out]; exact hlt)⟩
      have HX := Lib.hid hx
      clear hx
      have hji : (j : Int) < n := by omega
      go_wp2
      go_loopw [5] (fun k wi => ∃ q : Nat, q ≤ j ∧ k = .int .i64 (q : Int) ∧ Hid (∀ b ∈ M.drop q, kl x < kl b) ∧ Hid (Below wr.heap.size wr wi)) (fun k _ => (intOf k).toNat)
      case atStart => exact ⟨j, Nat.le_refl _, rfl, Lib.hid (by rw [List.drop_eq_nil_of_le (by rw [HML.out]; exact Nat.le_refl _)]; simp), Lib.hid (Below.refl _ _)⟩
      case round =>
        obtain ⟨q, hq, rfl, HD, HBr⟩ := hrel
        have HB2 := Lib.hid (HB.out.trans (HBr.out.mono HB.out.size))
        have hcase : (∃ (q' : Nat) (y : P2), (q : Int) - 1 = (q' : Int) ∧ 0 < q ∧ q' < j ∧ q = q' + 1 ∧ M[q']? = some y ∧ kl x < kl y) ∨ q = 0 ∨ ∃ (q' : Nat) (y : P2), (q : Int) - 1 = (q' : Int) ∧ 0 < q ∧ q' < j ∧ M[q']? = some y ∧ ¬ kl x < kl y ∧ q - 1 = q' := by
          rcases Nat.eq_zero_or_pos q with h | h
          · exact Or.inr (Or.inl h)
          · have hy := List.getElem?_eq_getElem (l := M) (i := q - 1) (by rw [HML.out]; omega)
            by_cases hl : kl x < kl (M[q - 1]'(by rw [HML.out]; omega))
            · exact Or.inl ⟨q - 1, _, by omega, h, by omega, by omega, hy, hl⟩
            · exact Or.inr (Or.inr ⟨q - 1, _, by omega, h, by omega, hy, hl, rfl⟩)
        obtain ⟨b, o, rfl, c0, c1⟩ := (HP.out.below HB2.out).at HX.out
        rcases hcase with ⟨q', y, hqm, hpos, hqj, hqe, hy, hl⟩ | h0 | ⟨q', y, hqm, hpos, hqj, hy, hl, hqe⟩
        · have HD2 : Hid (∀ b ∈ M.drop q', kl x < kl b) := Lib.hid (fun b hb => by
            rw [List.drop_eq_getElem_cons (List.getElem?_eq_some_iff.1 hy).1, (List.getElem?_eq_some_iff.1 hy).2, List.mem_cons, ← hqe] at hb
            rcases hb with rfl | hb
            · exact hl
            · exact HD.out b hb)
          obtain ⟨b', o', rfl, d0, _⟩ := (HM.out.below HBr.out).at hy
          have hls : Op.bytesLess x.1.toList y.1.toList = true := by rw [less_kl]; exact decide_eq_true hl
          have hqi : (q' : Int) < (j : Int) := by omega
          clear hl hy hqe
          go_wp2
          go_quiet (fail)
          go_wp2
          go_roundw
          case rel => exact ⟨q', by omega, by go_num, HD2, Lib.hid (below_drewN HBr.out _)⟩
          case measure => simp [intOf]; omega
        · have HT : Hid (q = 0 ∨ ∃ y, M[q - 1]? = some y ∧ ¬ kl x < kl y) := Lib.hid (Or.inl h0)
          have hd : ¬ 0 < q := by omega
          clear h0
          go_wp2
          go_quiet (fail)
          go_wp2
          refine wp_region_stable (TS M x q wr.heap.size (.slice pM j cM) (.slice pM q cM) (.slice (some ⟨b, o, none⟩) n cap) (.int .i64 (j : Int)) (.pointer (some ⟨b, o + j * 2, none⟩)) (sliced pM q j cM 2)) (by kernel_rfl) (by kernel_rfl) ?_ ?_
          · intro i op ho a W hB hdep hfix
            have hBs := hB.size
            have hbr := (below_drewN HBr.out _).trans (hB.mono (below_drewN HBr.out _).size)
            have hst := fun W' (h : Below W.heap.size W W') => hB.trans (h.mono hBs)
            match i, ho with
            | 0, ho =>
              simp only [List.getElem?_cons_zero, Option.some.injEq] at ho
              subst ho
              have hb : Below W.heap.size W (W.alloc (.cells #[] 42)) := (Below.refl _ _).alloc (Nat.le_refl _) _
              exact ⟨_, _, exec_empty, hst _ hb, ⟨_, rfl, hBs, heap_alloc_new W _⟩, fun j v' _ h => TS.below hb j v' h⟩
            | 1, ho =>
              simp only [List.getElem?_cons_zero, List.getElem?_cons_succ, Option.some.injEq] at ho
              subst ho
              exact ⟨_, _, exec_move rfl, hB, (hfix 3 (by decide +kernel)).trans rfl, fun j v' _ h => h⟩
            | 2, ho =>
              simp only [List.getElem?_cons_zero, List.getElem?_cons_succ, Option.some.injEq] at ho
              subst ho
              exact ⟨_, _, exec_move rfl, hB, (hfix 5 (by decide +kernel)).trans rfl, fun j v' _ h => h⟩
            | 3, ho =>
              simp only [List.getElem?_cons_zero, List.getElem?_cons_succ, Option.some.injEq] at ho
              subst ho
              have e1 : a.tmps.getD 33 undef = .slice pM j cM := hdep 1 _ 33 rfl rfl (by decide +kernel)
              have e2 : a.tmps.getD 34 undef = .int .i64 (q : Int) := hdep 2 _ 34 rfl rfl (by decide +kernel)
              exact ⟨_, _, exec_head e1 e2 (by omega), hB, head_eq _ _ _, fun j v' _ h => h⟩
            | 4, ho =>
              simp only [List.getElem?_cons_zero, List.getElem?_cons_succ, Option.some.injEq] at ho
              subst ho
              obtain ⟨g, e0, hg, hgb⟩ := hdep 0 _ 32 rfl rfl (by decide +kernel)
              have e3 : a.tmps.getD 35 undef = .slice pM q cM := hdep 3 _ 35 rfl rfl (by decide +kernel)
              obtain ⟨v', W', hr, ho', hb⟩ := app_fresh (B := wr.heap.size) hg hgb ((HM.out.below hbr).first q (by rw [HML.out]; exact hq)) (by omega) hBs 24
              exact ⟨_, _, exec_append e0 e3 hr, hst _ hb, ho', fun j v' _ h => TS.below hb j v' h⟩
            | 5, ho =>
              simp only [List.getElem?_cons_zero, List.getElem?_cons_succ, Option.some.injEq] at ho
              subst ho
              exact ⟨_, _, exec_move rfl, hB, (hfix 0 (by decide +kernel)).trans rfl, fun j v' _ h => h⟩
            | 6, ho =>
              simp only [List.getElem?_cons_zero, List.getElem?_cons_succ, Option.some.injEq] at ho
              subst ho
              exact ⟨_, _, exec_move rfl, hB, (hfix 4 (by decide +kernel)).trans rfl, fun j v' _ h => h⟩
            | 7, ho =>
              simp only [List.getElem?_cons_zero, List.getElem?_cons_succ, Option.some.injEq] at ho
              subst ho
              have e5 : a.tmps.getD 37 undef = .slice (some ⟨b, o, none⟩) n cap := hdep 5 _ 37 rfl rfl (by decide +kernel)
              have e6 : a.tmps.getD 38 undef = .int .i64 (j : Int) := hdep 6 _ 38 rfl rfl (by decide +kernel)
              exact ⟨_, _, exec_indexAddr e5 e6 hlt, hB, rfl, fun j v' _ h => h⟩
            | 8, ho =>
              simp only [List.getElem?_cons_zero, List.getElem?_cons_succ, Option.some.injEq] at ho
              subst ho
              have e7 : a.tmps.getD 39 undef = .pointer (some ⟨b, o + j * 2, none⟩) := hdep 7 _ 39 rfl rfl (by decide +kernel)
              obtain ⟨b2, o2, e, g0, g1⟩ := (HP.out.below (HB.out.trans (hbr.mono HB.out.size))).at HX.out
              simp only [Option.some.injEq, Addr.mk.injEq] at e
              obtain ⟨rfl, rfl, _⟩ := e
              exact ⟨_, _, exec_load e7 (ld_pair W (by kernel_rfl) (by kernel_rfl) g0 g1), hB, rfl, fun j v' _ h => h⟩
            | 9, ho =>
              simp only [List.getElem?_cons_zero, List.getElem?_cons_succ, Option.some.injEq] at ho
              subst ho
              have e8 : a.tmps.getD 40 undef = .agg #[.string x.1, .string x.2] := hdep 8 _ 40 rfl rfl (by decide +kernel)
              have hb : Below W.heap.size W (W.alloc (.cells #[.string x.1, .string x.2] 42)) := (Below.refl _ _).alloc (Nat.le_refl _) _
              exact ⟨_, _, exec_one e8, hst _ hb, ps_one W x, fun j v' _ h => TS.below hb j v' h⟩
            | 10, ho =>
              simp only [List.getElem?_cons_zero, List.getElem?_cons_succ, Option.some.injEq] at ho
              subst ho
              have e4 : OwnP W wr.heap.size (a.tmps.getD 36 undef) (M.take q) := hdep 4 _ 36 rfl rfl (by decide +kernel)
              have e9 : PsC W (a.tmps.getD 41 undef) [x] := hdep 9 _ 41 rfl rfl (by decide +kernel)
              obtain ⟨p4, c4, h4, _⟩ := id e9
              rw [h4] at e9
              obtain ⟨v', W', hr, ho', hg⟩ := app_own e4 e9 (by rw [List.length_take, HML.out]; simp; omega) hBs 24
              refine ⟨_, _, exec_append rfl h4 hr, hB.grown hg hBs (fun j hj => (e4.lt j hj).1), ho', fun j v' hl h => ?_⟩
              match j, hl, h with
              | 0, hl, h => exact absurd hl (by decide +kernel)
              | 1, hl, h => exact h
              | 2, hl, h => exact h
              | 3, hl, h => exact h
              | 4, hl, h => exact absurd hl (by decide +kernel)
              | 5, hl, h => exact h
              | 6, hl, h => exact h
              | 7, hl, h => exact h
              | 8, hl, h => exact h
              | 9, hl, h => exact absurd hl (by decide +kernel)
              | 10, hl, h => exact absurd hl (by decide +kernel)
              | 11, hl, h => exact h
              | 12, hl, h => exact h
              | 13, hl, h => exact h
              | 14, hl, h => exact absurd hl (by decide +kernel)
              | 15, hl, h => exact absurd hl (by decide +kernel)
              | _ + 16, _, _ => trivial
            | 11, ho =>
              simp only [List.getElem?_cons_zero, List.getElem?_cons_succ, Option.some.injEq] at ho
              subst ho
              exact ⟨_, _, exec_move rfl, hB, (hfix 3 (by decide +kernel)).trans rfl, fun j v' _ h => h⟩
            | 12, ho =>
              simp only [List.getElem?_cons_zero, List.getElem?_cons_succ, Option.some.injEq] at ho
              subst ho
              exact ⟨_, _, exec_move rfl, hB, (hfix 5 (by decide +kernel)).trans rfl, fun j v' _ h => h⟩
            | 13, ho =>
              simp only [List.getElem?_cons_zero, List.getElem?_cons_succ, Option.some.injEq] at ho
              subst ho
              have e1 : a.tmps.getD 43 undef = .slice pM j cM := hdep 11 _ 43 rfl rfl (by decide +kernel)
              have e2 : a.tmps.getD 44 undef = .int .i64 (q : Int) := hdep 12 _ 44 rfl rfl (by decide +kernel)
              exact ⟨_, _, exec_tail e1 e2 hq, hB, rfl, fun j v' _ h => h⟩
            | 14, ho =>
              simp only [List.getElem?_cons_zero, List.getElem?_cons_succ, Option.some.injEq] at ho
              subst ho
              have e10 : OwnP W wr.heap.size (a.tmps.getD 42 undef) (M.take q ++ [x]) := hdep 10 _ 42 rfl rfl (by decide +kernel)
              have e13 : a.tmps.getD 45 undef = sliced pM q j cM 2 := hdep 13 _ 45 rfl rfl (by decide +kernel)
              have hpt := (HM.out.below hbr).tail hq
              obtain ⟨p4, c4, h4, _⟩ := id hpt
              rw [h4] at hpt e13
              obtain ⟨v', W', hr, ho', hg⟩ := app_own e10 hpt (by simp [HML.out]; omega) hBs 24
              refine ⟨_, _, exec_append rfl e13 hr, hB.grown hg hBs (fun j hj => (e10.lt j hj).1), ho', fun j v' hl h => ?_⟩
              match j, hl, h with
              | 0, hl, h => exact absurd hl (by decide +kernel)
              | 1, hl, h => exact h
              | 2, hl, h => exact h
              | 3, hl, h => exact h
              | 4, hl, h => exact absurd hl (by decide +kernel)
              | 5, hl, h => exact h
              | 6, hl, h => exact h
              | 7, hl, h => exact h
              | 8, hl, h => exact h
              | 9, hl, h => exact absurd hl (by decide +kernel)
              | 10, hl, h => exact absurd hl (by decide +kernel)
              | 11, hl, h => exact h
              | 12, hl, h => exact h
              | 13, hl, h => exact h
              | 14, hl, h => exact absurd hl (by decide +kernel)
              | 15, hl, h => exact absurd hl (by decide +kernel)
              | _ + 16, _, _ => trivial
            | 15, ho =>
              simp only [List.getElem?_cons_zero, List.getElem?_cons_succ, Option.some.injEq] at ho
              subst ho
              have e14 : OwnP W wr.heap.size (a.tmps.getD 46 undef) (M.take q ++ [x] ++ M.drop q) := hdep 14 _ 46 rfl rfl (by decide +kernel)
              exact ⟨_, _, exec_assign rfl, hB, e14, fun j v' _ h => h⟩
            | i + 16, ho => simp at ho
          · intro a W hB hd hsz hfix hT
            have h15 : OwnP W wr.heap.size (a.tmps.getD 3 undef) (M.take q ++ [x] ++ M.drop q) := hT 15 _ 3 rfl rfl (by decide +kernel)
            have h0 : a.tmps.getD 0 undef = .slice (some ⟨b, o, none⟩) n cap := (hfix 0 (by decide +kernel)).trans rfl
            have h4 : a.tmps.getD 4 undef = .int .i64 (j : Int) := (hfix 4 (by decide +kernel)).trans rfl
            have h1 : a.tmps.getD 1 undef = undef := (hfix 1 (by decide +kernel)).trans rfl
            have h2 : a.tmps.getD 2 undef = .slice none 0 0 := (hfix 2 (by decide +kernel)).trans rfl
            have h47 : a.tmps.getD 47 undef = undef := (hfix 47 (by decide +kernel)).trans rfl
            have hbr := (below_drewN HBr.out _).trans (hB.mono (below_drewN HBr.out _).size)
            have HB9 := Lib.hid (HB.out.trans (hbr.mono HB.out.size))
            have HP9 := Lib.hid h15.ps
            have HM9 : Hid ((M.take q ++ [x] ++ M.drop q).Perm (L.take (j + 1))) := Lib.hid ((ins_perm M x q).trans (by rw [take_succ_at L j x HX.out]; exact HPM.out.append_right _))
            have HS9 := Lib.hid (ins_sorted HSM.out HD.out HT.out (by rw [HML.out]; exact hq))
            rw [frame_lit a 48 hsz hd]
            clear hfix hT hsz hd h15 hB hbr HB2 HBr c0 c1 HD HT
            simp only [List.range, List.range.loop, List.map]
            generalize a.tmps = t at *
            rw [h0, h1, h2, h4, h47]
            generalize t.getD 3 undef = v3 at *
            clear h0 h1 h2 h4 h47
            generalize t.getD 5 undef = v5
            generalize t.getD 6 undef = v6
            generalize t.getD 7 undef = v7
            generalize t.getD 8 undef = v8
            generalize t.getD 9 undef = v9
            generalize t.getD 10 undef = v10
            generalize t.getD 11 undef = v11
            generalize t.getD 12 undef = v12
            generalize t.getD 13 undef = v13
            generalize t.getD 14 undef = v14
            generalize t.getD 15 undef = v15
            generalize t.getD 16 undef = v16
            generalize t.getD 17 undef = v17
            generalize t.getD 18 undef = v18
            generalize t.getD 19 undef = v19
            generalize t.getD 20 undef = v20
            generalize t.getD 21 undef = v21
            generalize t.getD 22 undef = v22
            generalize t.getD 23 undef = v23
            generalize t.getD 24 undef = v24
            generalize t.getD 25 undef = v25
            generalize t.getD 26 undef = v26
            generalize t.getD 27 undef = v27
            generalize t.getD 28 undef = v28
            generalize t.getD 29 undef = v29
            generalize t.getD 30 undef = v30
            generalize t.getD 31 undef = v31
            generalize t.getD 32 undef = v32
            generalize t.getD 33 undef = v33
            generalize t.getD 34 undef = v34
            generalize t.getD 35 undef = v35
            generalize t.getD 36 undef = v36
            generalize t.getD 37 undef = v37
            generalize t.getD 38 undef = v38
            generalize t.getD 39 undef = v39
            generalize t.getD 40 undef = v40
            generalize t.getD 41 undef = v41
            generalize t.getD 42 undef = v42
            generalize t.getD 43 undef = v43
            generalize t.getD 44 undef = v44
            generalize t.getD 45 undef = v45
            generalize t.getD 46 undef = v46
            go_wp2
            go_roundw
            case rel => exact ⟨j + 1, _, by omega, by go_num, HP9, HM9, HS9, HB9⟩
            case measure => simp [intOf]; omega
        · have HT : Hid (q = 0 ∨ ∃ y, M[q - 1]? = some y ∧ ¬ kl x < kl y) := Lib.hid (Or.inr ⟨y, by rw [hqe]; exact hy, hl⟩)
          obtain ⟨b', o', rfl, d0, _⟩ := (HM.out.below HBr.out).at hy
          have hls : Op.bytesLess x.1.toList y.1.toList = false := by rw [less_kl]; exact decide_eq_false hl
          have hqi : (q' : Int) < (j : Int) := by omega
          clear hl hy hqe
          go_wp2
          go_quiet (fail)
          go_wp2
          refine wp_region_stable (TS M x q wr.heap.size (.slice (some ⟨b', o', none⟩) j cM) (.slice (some ⟨b', o', none⟩) q cM) (.slice (some ⟨b, o, none⟩) n cap) (.int .i64 (j : Int)) (.pointer (some ⟨b, o + j * 2, none⟩)) (sliced (some ⟨b', o', none⟩) q j cM 2)) (by kernel_rfl) (by kernel_rfl) ?_ ?_
          · intro i op ho a W hB hdep hfix
            have hBs := hB.size
            have hbr := (below_drewN HBr.out _).trans (hB.mono (below_drewN HBr.out _).size)
            have hst := fun W' (h : Below W.heap.size W W') => hB.trans (h.mono hBs)
            match i, ho with
            | 0, ho =>
              simp only [List.getElem?_cons_zero, Option.some.injEq] at ho
              subst ho
              have hb : Below W.heap.size W (W.alloc (.cells #[] 42)) := (Below.refl _ _).alloc (Nat.le_refl _) _
              exact ⟨_, _, exec_empty, hst _ hb, ⟨_, rfl, hBs, heap_alloc_new W _⟩, fun j v' _ h => TS.below hb j v' h⟩
            | 1, ho =>
              simp only [List.getElem?_cons_zero, List.getElem?_cons_succ, Option.some.injEq] at ho
              subst ho
              exact ⟨_, _, exec_move rfl, hB, (hfix 3 (by decide +kernel)).trans rfl, fun j v' _ h => h⟩
            | 2, ho =>
              simp only [List.getElem?_cons_zero, List.getElem?_cons_succ, Option.some.injEq] at ho
              subst ho
              exact ⟨_, _, exec_move rfl, hB, (hfix 5 (by decide +kernel)).trans rfl, fun j v' _ h => h⟩
            | 3, ho =>
              simp only [List.getElem?_cons_zero, List.getElem?_cons_succ, Option.some.injEq] at ho
              subst ho
              have e1 : a.tmps.getD 33 undef = .slice (some ⟨b', o', none⟩) j cM := hdep 1 _ 33 rfl rfl (by decide +kernel)
              have e2 : a.tmps.getD 34 undef = .int .i64 (q : Int) := hdep 2 _ 34 rfl rfl (by decide +kernel)
              exact ⟨_, _, exec_head e1 e2 (by omega), hB, head_eq _ _ _, fun j v' _ h => h⟩
            | 4, ho =>
              simp only [List.getElem?_cons_zero, List.getElem?_cons_succ, Option.some.injEq] at ho
              subst ho
              obtain ⟨g, e0, hg, hgb⟩ := hdep 0 _ 32 rfl rfl (by decide +kernel)
              have e3 : a.tmps.getD 35 undef = .slice (some ⟨b', o', none⟩) q cM := hdep 3 _ 35 rfl rfl (by decide +kernel)
              obtain ⟨v', W', hr, ho', hb⟩ := app_fresh (B := wr.heap.size) hg hgb ((HM.out.below hbr).first q (by rw [HML.out]; exact hq)) (by omega) hBs 24
              exact ⟨_, _, exec_append e0 e3 hr, hst _ hb, ho', fun j v' _ h => TS.below hb j v' h⟩
            | 5, ho =>
              simp only [List.getElem?_cons_zero, List.getElem?_cons_succ, Option.some.injEq] at ho
              subst ho
              exact ⟨_, _, exec_move rfl, hB, (hfix 0 (by decide +kernel)).trans rfl, fun j v' _ h => h⟩
            | 6, ho =>
              simp only [List.getElem?_cons_zero, List.getElem?_cons_succ, Option.some.injEq] at ho
              subst ho
              exact ⟨_, _, exec_move rfl, hB, (hfix 4 (by decide +kernel)).trans rfl, fun j v' _ h => h⟩
            | 7, ho =>
              simp only [List.getElem?_cons_zero, List.getElem?_cons_succ, Option.some.injEq] at ho
              subst ho
              have e5 : a.tmps.getD 37 undef = .slice (some ⟨b, o, none⟩) n cap := hdep 5 _ 37 rfl rfl (by decide +kernel)
              have e6 : a.tmps.getD 38 undef = .int .i64 (j : Int) := hdep 6 _ 38 rfl rfl (by decide +kernel)
              exact ⟨_, _, exec_indexAddr e5 e6 hlt, hB, rfl, fun j v' _ h => h⟩
            | 8, ho =>
              simp only [List.getElem?_cons_zero, List.getElem?_cons_succ, Option.some.injEq] at ho
              subst ho
              have e7 : a.tmps.getD 39 undef = .pointer (some ⟨b, o + j * 2, none⟩) := hdep 7 _ 39 rfl rfl (by decide +kernel)
              obtain ⟨b2, o2, e, g0, g1⟩ := (HP.out.below (HB.out.trans (hbr.mono HB.out.size))).at HX.out
              simp only [Option.some.injEq, Addr.mk.injEq] at e
              obtain ⟨rfl, rfl, _⟩ := e
              exact ⟨_, _, exec_load e7 (ld_pair W (by kernel_rfl) (by kernel_rfl) g0 g1), hB, rfl, fun j v' _ h => h⟩
            | 9, ho =>
              simp only [List.getElem?_cons_zero, List.getElem?_cons_succ, Option.some.injEq] at ho
              subst ho
              have e8 : a.tmps.getD 40 undef = .agg #[.string x.1, .string x.2] := hdep 8 _ 40 rfl rfl (by decide +kernel)
              have hb : Below W.heap.size W (W.alloc (.cells #[.string x.1, .string x.2] 42)) := (Below.refl _ _).alloc (Nat.le_refl _) _
              exact ⟨_, _, exec_one e8, hst _ hb, ps_one W x, fun j v' _ h => TS.below hb j v' h⟩
            | 10, ho =>
              simp only [List.getElem?_cons_zero, List.getElem?_cons_succ, Option.some.injEq] at ho
              subst ho
              have e4 : OwnP W wr.heap.size (a.tmps.getD 36 undef) (M.take q) := hdep 4 _ 36 rfl rfl (by decide +kernel)
              have e9 : PsC W (a.tmps.getD 41 undef) [x] := hdep 9 _ 41 rfl rfl (by decide +kernel)
              obtain ⟨p4, c4, h4, _⟩ := id e9
              rw [h4] at e9
              obtain ⟨v', W', hr, ho', hg⟩ := app_own e4 e9 (by rw [List.length_take, HML.out]; simp; omega) hBs 24
              refine ⟨_, _, exec_append rfl h4 hr, hB.grown hg hBs (fun j hj => (e4.lt j hj).1), ho', fun j v' hl h => ?_⟩
              match j, hl, h with
              | 0, hl, h => exact absurd hl (by decide +kernel)
              | 1, hl, h => exact h
              | 2, hl, h => exact h
              | 3, hl, h => exact h
              | 4, hl, h => exact absurd hl (by decide +kernel)
              | 5, hl, h => exact h
              | 6, hl, h => exact h
              | 7, hl, h => exact h
              | 8, hl, h => exact h
              | 9, hl, h => exact absurd hl (by decide +kernel)
              | 10, hl, h => exact absurd hl (by decide +kernel)
              | 11, hl, h => exact h
              | 12, hl, h => exact h
              | 13, hl, h => exact h
              | 14, hl, h => exact absurd hl (by decide +kernel)
              | 15, hl, h => exact absurd hl (by decide +kernel)
              | _ + 16, _, _ => trivial
            | 11, ho =>
              simp only [List.getElem?_cons_zero, List.getElem?_cons_succ, Option.some.injEq] at ho
              subst ho
              exact ⟨_, _, exec_move rfl, hB, (hfix 3 (by decide +kernel)).trans rfl, fun j v' _ h => h⟩
            | 12, ho =>
              simp only [List.getElem?_cons_zero, List.getElem?_cons_succ, Option.some.injEq] at ho
              subst ho
              exact ⟨_, _, exec_move rfl, hB, (hfix 5 (by decide +kernel)).trans rfl, fun j v' _ h => h⟩
            | 13, ho =>
              simp only [List.getElem?_cons_zero, List.getElem?_cons_succ, Option.some.injEq] at ho
              subst ho
              have e1 : a.tmps.getD 43 undef = .slice (some ⟨b', o', none⟩) j cM := hdep 11 _ 43 rfl rfl (by decide +kernel)
              have e2 : a.tmps.getD 44 undef = .int .i64 (q : Int) := hdep 12 _ 44 rfl rfl (by decide +kernel)
              exact ⟨_, _, exec_tail e1 e2 hq, hB, rfl, fun j v' _ h => h⟩
            | 14, ho =>
              simp only [List.getElem?_cons_zero, List.getElem?_cons_succ, Option.some.injEq] at ho
              subst ho
              have e10 : OwnP W wr.heap.size (a.tmps.getD 42 undef) (M.take q ++ [x]) := hdep 10 _ 42 rfl rfl (by decide +kernel)
              have e13 : a.tmps.getD 45 undef = sliced (some ⟨b', o', none⟩) q j cM 2 := hdep 13 _ 45 rfl rfl (by decide +kernel)
              have hpt := (HM.out.below hbr).tail hq
              obtain ⟨p4, c4, h4, _⟩ := id hpt
              rw [h4] at hpt e13
              obtain ⟨v', W', hr, ho', hg⟩ := app_own e10 hpt (by simp [HML.out]; omega) hBs 24
              refine ⟨_, _, exec_append rfl e13 hr, hB.grown hg hBs (fun j hj => (e10.lt j hj).1), ho', fun j v' hl h => ?_⟩
              match j, hl, h with
              | 0, hl, h => exact absurd hl (by decide +kernel)
              | 1, hl, h => exact h
              | 2, hl, h => exact h
              | 3, hl, h => exact h
              | 4, hl, h => exact absurd hl (by decide +kernel)
              | 5, hl, h => exact h
              | 6, hl, h => exact h
              | 7, hl, h => exact h
              | 8, hl, h => exact h
              | 9, hl, h => exact absurd hl (by decide +kernel)
              | 10, hl, h => exact absurd hl (by decide +kernel)
              | 11, hl, h => exact h
              | 12, hl, h => exact h
              | 13, hl, h => exact h
              | 14, hl, h => exact absurd hl (by decide +kernel)
              | 15, hl, h => exact absurd hl (by decide +kernel)
              | _ + 16, _, _ => trivial
            | 15, ho =>
              simp only [List.getElem?_cons_zero, List.getElem?_cons_succ, Option.some.injEq] at ho
              subst ho
              have e14 : OwnP W wr.heap.size (a.tmps.getD 46 undef) (M.take q ++ [x] ++ M.drop q) := hdep 14 _ 46 rfl rfl (by decide +kernel)
              exact ⟨_, _, exec_assign rfl, hB, e14, fun j v' _ h => h⟩
            | i + 16, ho => simp at ho
          · intro a W hB hd hsz hfix hT
            have h15 : OwnP W wr.heap.size (a.tmps.getD 3 undef) (M.take q ++ [x] ++ M.drop q) := hT 15 _ 3 rfl rfl (by decide +kernel)
            have h0 : a.tmps.getD 0 undef = .slice (some ⟨b, o, none⟩) n cap := (hfix 0 (by decide +kernel)).trans rfl
            have h4 : a.tmps.getD 4 undef = .int .i64 (j : Int) := (hfix 4 (by decide +kernel)).trans rfl
            have h1 : a.tmps.getD 1 undef = undef := (hfix 1 (by decide +kernel)).trans rfl
            have h2 : a.tmps.getD 2 undef = .slice none 0 0 := (hfix 2 (by decide +kernel)).trans rfl
            have h47 : a.tmps.getD 47 undef = undef := (hfix 47 (by decide +kernel)).trans rfl
            have hbr := (below_drewN HBr.out _).trans (hB.mono (below_drewN HBr.out _).size)
            have HB9 := Lib.hid (HB.out.trans (hbr.mono HB.out.size))
            have HP9 := Lib.hid h15.ps
            have HM9 : Hid ((M.take q ++ [x] ++ M.drop q).Perm (L.take (j + 1))) := Lib.hid ((ins_perm M x q).trans (by rw [take_succ_at L j x HX.out]; exact HPM.out.append_right _))
            have HS9 := Lib.hid (ins_sorted HSM.out HD.out HT.out (by rw [HML.out]; exact hq))
            rw [frame_lit a 48 hsz hd]
            clear hfix hT hsz hd h15 hB hbr HB2 HBr c0 c1 HD HT
            simp only [List.range, List.range.loop, List.map]
            generalize a.tmps = t at *
            rw [h0, h1, h2, h4, h47]
            generalize t.getD 3 undef = v3 at *
            clear h0 h1 h2 h4 h47
            generalize t.getD 5 undef = v5
            generalize t.getD 6 undef = v6
            generalize t.getD 7 undef = v7
            generalize t.getD 8 undef = v8
            generalize t.getD 9 undef = v9
            generalize t.getD 10 undef = v10
            generalize t.getD 11 undef = v11
            generalize t.getD 12 undef = v12
            generalize t.getD 13 undef = v13
            generalize t.getD 14 undef = v14
            generalize t.getD 15 undef = v15
            generalize t.getD 16 undef = v16
            generalize t.getD 17 undef = v17
            generalize t.getD 18 undef = v18
            generalize t.getD 19 undef = v19
            generalize t.getD 20 undef = v20
            generalize t.getD 21 undef = v21
            generalize t.getD 22 undef = v22
            generalize t.getD 23 undef = v23
            generalize t.getD 24 undef = v24
            generalize t.getD 25 undef = v25
            generalize t.getD 26 undef = v26
            generalize t.getD 27 undef = v27
            generalize t.getD 28 undef = v28
            generalize t.getD 29 undef = v29
            generalize t.getD 30 undef = v30
            generalize t.getD 31 undef = v31
            generalize t.getD 32 undef = v32
            generalize t.getD 33 undef = v33
            generalize t.getD 34 undef = v34
            generalize t.getD 35 undef = v35
            generalize t.getD 36 undef = v36
            generalize t.getD 37 undef = v37
            generalize t.getD 38 undef = v38
            generalize t.getD 39 undef = v39
            generalize t.getD 40 undef = v40
            generalize t.getD 41 undef = v41
            generalize t.getD 42 undef = v42
            generalize t.getD 43 undef = v43
            generalize t.getD 44 undef = v44
            generalize t.getD 45 undef = v45
            generalize t.getD 46 undef = v46
            go_wp2
            go_roundw
            case rel => exact ⟨j + 1, _, by omega, by go_num, HP9, HM9, HS9, HB9⟩
            case measure => simp [intOf]; omega
    · obtain rfl : j = n := by omega
      have HZ : Hid (M.Perm L) := Lib.hid (by have := HPM.out; rwa [List.take_of_length_le (by rw [HN.out]; exact Nat.le_refl _)] at this)
      go_wp2
      go_ret
      exact ⟨_, M, rfl, HZ.out, HSM.out, HM.out, HB.out⟩
end Go.Proofs.YtfamoakicgmfgaaGreat.Lb
namespace Go.Proofs.YtfamoakicgmfgaaGreat.Lb
open Go.RowKit Go.Own.Lb
attribute [-go_sem] run_string_add_if
section
variable {ρ : Operand → Value} {W : World} {dst : Option Tmp} {ty : TypeId} {pos : String} {after : Array Edge} {guard : Option (Nat × Bool)} {x y : Operand}
theorem ld_str {W : World} {b k : Nat} {s : ByteArray} (h : W.cell? ⟨b, k, none⟩ = some (.string s)) : (Instr.loadAt 9 (.pointer (some ⟨b, k, none⟩))).run Tryz.prog W = .ok (.string s) W := by
  simp [go_sem, h]
theorem exec_len {s : ByteArray} (h : ρ x = .string s) :
    (execOp ρ { dst, op := .call { callee := .builtin .len, args := #[x], argTypes := #[9] }, type := 3, pos, after, guard }).run Tryz.prog W = .ok (.value (.int .i64 (s.size : Int))) W := by
  have e : (Builtin.len_ #[9] 3 #[.string s]).run Tryz.prog W = .ok (.int .i64 (s.size : Int)) W := by
    simp [go_sem]
  simp [execOp, resolve, invoke, builtin, h, e, Result.andThen]
theorem conv35 {k : Nat} (h : k ≤ 255) : (convert 3 5 (.int .i64 (k : Int))).run Tryz.prog W = .ok (.int .u8 (k : Int)) W := by
  have e : (convert 3 5 (.int .i64 (k : Int))).run Tryz.prog W = .ok (.int .u8 (IntKind.u8.wrap (k : Int))) W := by kernel_rfl
  rw [e]
  have : IntKind.u8.wrap (k : Int) = (k : Int) := by simp [IntKind.wrap, IntKind.bits, IntKind.signed]; omega
  rw [this]
theorem exec_byte {k : Nat} (h : ρ x = .int .u8 (k : Int)) :
    (execOp ρ { dst, op := .buildSlice 52 1 #[(0, x)], type := ty, pos, after, guard }).run Tryz.prog W = .ok (.value (.slice (some ⟨W.heap.size, 0, none⟩) 1 1)) (W.alloc (.cells #[.int .u8 (k : Int)] 5)) := by
  have e : (Instr.buildSlice 52 1 #[(0, .int .u8 (k : Int))]).run Tryz.prog W = .ok (.slice (some ⟨W.heap.size, 0, none⟩) 1 1) (W.alloc (.cells #[.int .u8 (k : Int)] 5)) := by kernel_rfl
  simp [execOp, h, e, Result.andThen]
theorem byte_own (W : World) (B k : Nat) (hB : B ≤ W.heap.size) : OwnB (W.alloc (.cells #[.int .u8 (k : Int)] 5)) B (.slice (some ⟨W.heap.size, 0, none⟩) 1 1) [k] :=
  ⟨rfl, Or.inr ⟨W.heap.size, 1, #[.int .u8 (k : Int)], rfl, hB, heap_alloc_new W _, by simp, by unfold maxLen; omega, by simp, by simp [nb]⟩⟩
theorem exec_add {a b : ByteArray} (h1 : ρ x = .string a) (h2 : ρ y = .string b) (hs : a.size + b.size ≤ 1000000) :
    (execOp ρ { dst, op := .binOp .add 9 x y 9, type := ty, pos, after, guard }).run Tryz.prog W = .ok (.value (.string (a ++ b))) W := by
  have hadd : (Op.stringOp .add a b).run Tryz.prog W = .ok (.string (a ++ b)) W := run_string_add_sum W a b (by omega)
  simp [execOp, h1, h2, go_sem, hadd, Result.andThen]
end
theorem OwnB.below {W W' : World} {B : Nat} {v : Value} {l : List Nat} (h : OwnB W B v l) (hb : Below W.heap.size W W') : OwnB W' B v l := by
  unfold OwnB at h ⊢
  exact h.kept (row := none) ⟨hb.os, hb.tape, hb.output, hb.size, fun k hk _ => hb.block k hk⟩ (by
    rcases h.2 with ⟨rfl, _⟩ | ⟨g, c, cur, rfl, _⟩
    · exact Or.inl rfl
    · exact Or.inr (by simp [Value.ownBlock]))
end Go.Proofs.YtfamoakicgmfgaaGreat.Lb

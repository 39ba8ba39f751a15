/- A region that draws its order, whose operations read, make memory, or call what leaves what was there: each operation's value by a property that lasts; guards that are met. No condition. -/
import Derived.Test.YtbaheeofdelbhaaFR1
namespace Go.Own.Fr
open Go Go.RowKit Go.Own
/-- The first number that is not done is ready, if each operation waits for earlier ones alone. -/
theorem ready_ne2 {md : Region.Mode} {ops : Array Oper} {done : Array Bool} (hs : done.size = ops.size) (hb : (ops.toList.zipIdx.all fun (o, i) => o.after.all fun e => !Region.binds md e || decide (e.on < i)) = true)
    {i : Nat} (hi : done.getD i true = false) : Region.ready md ops done ≠ [] := by
  induction i using Nat.strongRecOn with
  | _ i ih =>
    have hlt : i < done.size := by
      rcases Nat.lt_or_ge i done.size with h | h
      · exact h
      · simp [h] at hi
    have ho : ops[i]? = some ops[i] := by simp [hs ▸ hlt]
    by_cases hr : i ∈ Region.ready md ops done
    · exact List.ne_nil_of_mem hr
    · have h1 : ∃ e ∈ ops[i].after, Region.binds md e = true ∧ done.getD e.on false ≠ true := by
        apply Classical.byContradiction
        intro hn
        apply hr
        refine mem_ready.2 ⟨hi, _, ho, fun e he hbi => ?_⟩
        apply Classical.byContradiction
        intro h2
        exact hn ⟨e, he, hbi, h2⟩
      obtain ⟨e, he, hbi, h2⟩ := h1
      have hlt2 : e.on < i := by
        have h3 := List.all_eq_true.1 hb (ops[i], i) (by
          rw [List.mem_zipIdx_iff_getElem?]
          simp [hs ▸ hlt])
        have h4 : ops[i].after.all (fun e => !Region.binds md e || decide (e.on < i)) = true := h3
        rw [Array.all_eq_true_iff_forall_mem] at h4
        have h5 := h4 e he
        rw [hbi] at h5
        simpa using h5
      refine ih e.on hlt2 ?_
      have : e.on < done.size := by omega
      simp [Array.getD, this] at h2 ⊢
      exact h2
theorem wpAny_of_inv2 {P : Program} {ops : Array Oper} {Q : Exit → Act → World → Prop} (Inv : Array Bool → Act → World → Prop)
    (hb : (ops.toList.zipIdx.all fun (o, i) => o.after.all fun e => !Region.binds .any e || decide (e.on < i)) = true)
    (hstep : ∀ done a w i, Inv done a w → done.getD i true = false → (∀ o, ops[i]? = some o → ∀ e ∈ o.after, Region.binds .any e = true → done.getD e.on false = true) → i < ops.size → wpOp P ops Q i (Inv (done.setIfInBounds i true)) a w)
    (hend : ∀ done a w, Inv done a w → (∀ i, i < ops.size → done.getD i false = true) → Q .normal a w) :
    ∀ (fuel : Nat) (done : Array Bool) (a : Act) (w : World), done.size = ops.size → (List.range ops.size).countP (fun i => !done.getD i true) ≤ fuel → Inv done a w → wpAny P .any ops Q fuel done a w := by
  have hall : ∀ done : Array Bool, done.size = ops.size → Region.ready .any ops done = [] → ∀ i, i < ops.size → done.getD i false = true := fun done hs h i hi => by
    have h1 : ¬ done.getD i true = false := fun h2 => ready_ne2 hs hb h2 h
    have : i < done.size := by omega
    simp [Array.getD, this] at h1 ⊢
    exact h1
  have wpOp_to : ∀ {i : Nat} {K K' : Act → World → Prop} {a : Act} {w : World}, (∀ a w, K a w → K' a w) → wpOp P ops Q i K a w → wpOp P ops Q i K' a w := fun hK h => wpOp_mono hK h
  intro fuel
  induction fuel with
  | zero =>
    intro done a w hs hc hI
    have hr : Region.ready .any ops done = [] := by
      cases hr : Region.ready .any ops done with
      | nil => rfl
      | cons i r =>
        have hi : i ∈ Region.ready .any ops done := by rw [hr]; exact List.mem_cons_self
        have h1 := (mem_ready.1 hi).1
        have h2 : i < ops.size := by
          obtain ⟨o, ho, _⟩ := (mem_ready.1 hi).2
          exact (Array.getElem?_eq_some_iff.1 ho).1
        have h3 : 0 < (List.range ops.size).countP (fun i => !done.getD i true) := List.countP_pos_iff.2 ⟨i, List.mem_range.2 h2, by rw [h1]; rfl⟩
        omega
    exact ⟨hr, hend _ _ _ hI (hall _ hs hr)⟩
  | succ fuel ih =>
    intro done a w hs hc hI
    refine ⟨fun h => hend _ _ _ hI (hall _ hs h), fun i hi => ?_⟩
    obtain ⟨h1, o, ho, h3⟩ := mem_ready.1 hi
    have h2 : i < ops.size := (Array.getElem?_eq_some_iff.1 ho).1
    refine wpOp_to (fun a' w' h => ih _ _ _ (by simp [hs]) ?_ h) (hstep done a w i hI h1 (fun o' ho' => by rw [ho] at ho'; cases ho'; exact h3) h2)
    have hlt : (List.range ops.size).countP (fun j => !(done.setIfInBounds i true).getD j true) < (List.range ops.size).countP (fun j => !done.getD j true) := by
      have hsub : ∀ (l : List Nat), i ∈ l → l.countP (fun j => !(done.setIfInBounds i true).getD j true) < l.countP (fun j => !done.getD j true) := by
        have hle : ∀ (l : List Nat), l.countP (fun j => !(done.setIfInBounds i true).getD j true) ≤ l.countP (fun j => !done.getD j true) := fun l => List.countP_mono_left fun j _ hj => by
          by_cases hij : i = j
          · subst hij
            have hz : (done.setIfInBounds i true).getD i true = true := getD_set_self_true
            rw [hz] at hj; cases hj
          · rwa [getD_set_ne true hij] at hj
        intro l
        induction l with
        | nil => intro h; cases h
        | cons x l ihl =>
          intro h
          rw [List.countP_cons, List.countP_cons]
          by_cases hx : i = x
          · subst hx
            have hz : (done.setIfInBounds i true).getD i true = true := getD_set_self_true
            have := hle l
            rw [hz, h1]
            simp only [Bool.not_true, Bool.not_false, Bool.false_eq_true, if_false, if_true]
            omega
          · have := ihl (List.mem_of_ne_of_mem hx h)
            rw [getD_set_ne true hx]
            omega
      exact hsub _ (List.mem_range.2 h2)
    omega
/-- Each with a slot of its own below n, each waiting for earlier ones alone, and for what it is guarded by. -/
def plainG (l : List Oper) (n : Nat) : Bool :=
  (l.zipIdx.all fun (o, i) => o.after.all fun e => !Region.binds .any e || decide (e.on < i)) && l.all (fun o => o.dst.any (fun s => decide (s < n)) && (match o.guard with | none => true | some (j, _) => waits o j)) && decide ((l.map fun o => o.dst).Nodup)
structure FInv (l : List Oper) (T : Nat → Value → World → Prop) (a0 : Act) (w0 : World) (done : Array Bool) (a : Act) (W : World) : Prop where
  below : Below w0.heap.size w0 W
  defers : a.defers = a0.defers
  size : a.tmps.size = a0.tmps.size
  fixed : ∀ s, (∀ i o, l[i]? = some o → done.getD i false = true → o.dst ≠ some s) → a.tmps.getD s undef = a0.tmps.getD s undef
  vals : ∀ i o s, l[i]? = some o → done.getD i false = true → o.dst = some s → T i (a.tmps.getD s undef) W
  closed : ∀ i o, l[i]? = some o → done.getD i false = true → ∀ e ∈ o.after, Region.binds .any e = true → done.getD e.on false = true
theorem wpOp_want {P : Program} {ops : Array Oper} {Q : Exit → Act → World → Prop} {i : Nat} {K : Act → World → Prop} {a : Act} {w : World} (o : Oper) (hi : ops[i]? = some o) (hg : Region.wanted o (yielded ops a.tmps) = true) (h : o.wp P a w K Q) : wpOp P ops Q i K a w := by
  unfold wpOp
  rw [hi]
  simp only [hg, if_true]
  exact Or.inl h
/-- What an operation does: it lays a value that has the property, and nothing of what was there turns. -/
def Lays (P : Program) (T : Nat → Value → World → Prop) (i : Nat) (o : Oper) (a : Act) (W : World) : Prop :=
  ∀ Q, o.wp P a W (fun a' W' => ∃ v, a' = a.put o.dst v ∧ Below W.heap.size W W' ∧ T i v W') Q
theorem wp_region_fine {P : Program} {id : Nat} {Q : Exit → Act → World → Prop} {a0 : Act} {w0 : World} {l : List Oper} (T : Nat → Value → World → Prop) (hm : P.follows .mixedOrders = true) (hp : plainG l a0.tmps.size = true)
    (hlast : ∀ i v W W', T i v W → Below W.heap.size W W' → T i v W')
    (hguard : ∀ (i : Nat) (o : Oper) j b, l[i]? = some o → o.guard = some (j, b) → ∀ v W, T j v W → v = .bool b)
    (hstep : ∀ i o, l[i]? = some o → ∀ (a : Act) (W : World), Below w0.heap.size w0 W → (∀ j oj s, l[j]? = some oj → oj.dst = some s → waits o j = true → T j (a.tmps.getD s undef) W) → (∀ s, keepsB l i s = true → a.tmps.getD s undef = a0.tmps.getD s undef) → Lays P T i o a W)
    (hend : ∀ (a : Act) (W : World), Below w0.heap.size w0 W → a.defers = a0.defers → a.tmps.size = a0.tmps.size → (∀ s, (l.all fun o => decide (o.dst ≠ some s)) = true → a.tmps.getD s undef = a0.tmps.getD s undef) → (∀ i o s, l[i]? = some o → o.dst = some s → T i (a.tmps.getD s undef) W) → Q .normal a W) :
    (Code.region id l.toArray true).wp P Q a0 w0 := by
  simp only [plainG, Bool.and_eq_true, decide_eq_true_eq] at hp
  obtain ⟨⟨hb, hg⟩, hn⟩ := hp
  have hg2 : ∀ (i : Nat) (o : Oper), l[i]? = some o → (∃ s, o.dst = some s ∧ s < a0.tmps.size) ∧ ∀ j b, o.guard = some (j, b) → waits o j = true := fun i o ho => by
    have h1 := List.all_eq_true.1 hg o (List.mem_of_getElem? ho)
    simp only [Bool.and_eq_true, Option.any_eq_true, decide_eq_true_eq] at h1
    refine ⟨h1.1, fun j b hjb => ?_⟩
    have h2 := h1.2
    rw [hjb] at h2
    exact h2
  have hnd : ∀ (i j : Nat) (oi oj : Oper), l[i]? = some oi → l[j]? = some oj → oi.dst = oj.dst → i = j := fun i j oi oj h1 h2 e => by
    have hi := (List.getElem?_eq_some_iff.1 h1).1
    have hj := (List.getElem?_eq_some_iff.1 h2).1
    refine (List.getElem_inj (xs := l.map fun o => o.dst) (h₀ := by simpa using hi) (h₁ := by simpa using hj) hn).1 ?_
    simp only [List.getElem_map]
    rw [(List.getElem?_eq_some_iff.1 h1).2, (List.getElem?_eq_some_iff.1 h2).2, e]
  refine wp_region_any hm ?_
  refine wpAny_of_inv2 (fun done a W => done.size = l.length ∧ FInv l T a0 w0 done a W) (by simpa using hb) ?_ ?_ _ _ _ _ (by simp) ?_ ?_
  · rintro done a W i ⟨hds, hI⟩ hnd1 hdep hlt
    have hil : i < l.length := by simpa using hlt
    have ho : l[i]? = some l[i] := List.getElem?_eq_getElem hil
    generalize hoi : l[i] = o at ho
    obtain ⟨⟨s, hs, hsz⟩, hgw⟩ := hg2 i o ho
    have hnf : done.getD i false = false := by
      cases h : done.getD i false with
      | false => rfl
      | true => rw [getD_both hnd1] at h; cases h
    have hvals : ∀ j oj s, l[j]? = some oj → oj.dst = some s → waits o j = true → T j (a.tmps.getD s undef) W := fun j oj sj hj hsj hw => by
      obtain ⟨e, he, hbi, hon⟩ := waits_spec hw
      exact hI.vals j oj sj hj (hon ▸ hdep o (by simpa using ho) e he hbi) hsj
    refine wpOp_want o (by simpa using ho) ?_ (Oper.wp_mono ?_ (hstep i o ho a W hI.below hvals (fun s' hk => hI.fixed s' fun j oj hj hdj hds2 => by
      have h1 := List.all_eq_true.1 hk (oj, j) (by rw [List.mem_zipIdx_iff_getElem?]; simpa using hj)
      simp only [Bool.or_eq_true, decide_eq_true_eq] at h1
      rcases h1 with (h1 | h1) | h1
      · exact h1 hds2
      · subst h1; rw [hnf] at hdj; cases hdj
      · obtain ⟨e, he, hbi, hon⟩ := waits_spec h1
        have h2 := hI.closed j oj hj hdj e he hbi
        rw [hon, hnf] at h2; cases h2) _))
    · cases hgd : o.guard with
      | none => simp [Region.wanted, hgd]
      | some p =>
        obtain ⟨j, b⟩ := p
        have hw := hgw j b hgd
        obtain ⟨e, he, hbi, hon⟩ := waits_spec hw
        have hdj : done.getD j false = true := hon ▸ hdep o (by simpa using ho) e he hbi
        have hjl : j < l.length := by
          rcases Nat.lt_or_ge j done.size with h | h
          · omega
          · simp [h] at hdj
        have hoj : l[j]? = some l[j] := List.getElem?_eq_getElem hjl
        obtain ⟨⟨sj, hsj, hsjz⟩, _⟩ := hg2 j _ hoj
        have hT := hvals j _ sj hoj hsj hw
        have hv := hguard i o j b ho hgd _ _ hT
        have ht : a.tmps[sj]? = some (.bool b) := by
          have h3 : sj < a.tmps.size := by rw [hI.size]; exact hsjz
          rw [← hv]
          simp [Array.getD, h3]
        simp [Region.wanted, hgd, yielded, hoj, hsj, ht]
    · rintro a' W' ⟨v, rfl, hB, hTi⟩
      refine ⟨by simp [hds], ?_⟩
      have hput := fun k => put_at (a := a) (s := s) (v := v) (by rw [hI.size]; exact hsz) k
      rw [hs]
      refine ⟨hI.below.trans (hB.mono hI.below.size), hI.defers, ?_, fun k hk => ?_, fun j oj sj hj hdj hsj => ?_, fun j oj hj hdj e he hbi => ?_⟩
      · simp [Act.put, hI.size]
      · rw [hput k]
        have hne : k ≠ s := fun e => hk i o ho (by
          have hds : i < done.size := by omega
          simp [hds]) (by rw [e]; exact hs)
        rw [if_neg hne]
        exact hI.fixed k fun j oj hj hdj => hk j oj hj (by
          by_cases e : i = j
          · subst e; rw [hnf] at hdj; cases hdj
          · rw [getD_set_ne false e]; exact hdj)
      · rw [hput sj]
        rcases done_set hdj with h1 | h1
        · subst h1
          have : oj = o := Option.some.inj (hj.symm.trans ho)
          subst this
          rw [if_pos (Option.some.inj (hsj.symm.trans hs))]
          exact hTi
        · have hne : sj ≠ s := fun e => by
            have := hnd j i oj o hj ho (by rw [hsj, hs, e])
            subst this
            rw [hnf] at h1; cases h1
          rw [if_neg hne]
          exact hlast _ _ _ _ (hI.vals j oj sj hj h1 hsj) hB
      · rcases done_set hdj with h1 | h1
        · subst h1
          have : oj = o := Option.some.inj (hj.symm.trans ho)
          subst this
          have h2 := hdep oj (by simpa using ho) e he hbi
          by_cases e2 : i = e.on
          · rw [← e2] at h2; rw [hnf] at h2; cases h2
          · rw [getD_set_ne false e2]; exact h2
        · have h2 := hI.closed j oj hj h1 e he hbi
          by_cases e2 : i = e.on
          · rw [← e2] at h2; rw [hnf] at h2; cases h2
          · rw [getD_set_ne false e2]; exact h2
  · rintro done a W ⟨hds, hI⟩ hall
    refine hend a W hI.below hI.defers hI.size (fun s hs => hI.fixed s fun i o ho _ => ?_) (fun i o s ho hs => hI.vals i o s ho (hall i ?_) hs)
    · have := List.all_eq_true.1 hs o (List.mem_of_getElem? ho)
      simpa using this
    · have := (List.getElem?_eq_some_iff.1 ho).1
      simpa using this
  · have hc : ∀ (n m : Nat), ((List.range m).countP fun i => !(Array.replicate n false).getD i true) ≤ m := fun n m => by
      have := List.countP_le_length (l := List.range m) (p := fun i => !(Array.replicate n false).getD i true)
      simpa using this
    exact hc _ _
  · have hz : ∀ n j, (Array.replicate n false).getD j false ≠ true := fun n j h => by rw [getD_replicate_false] at h; cases h
    exact ⟨by simp, ⟨rfl, rfl, rfl, Nat.le_refl _, fun _ _ => rfl⟩, rfl, rfl, fun _ _ => rfl, fun i o s _ h => absurd h (hz _ _), fun i o _ h => absurd h (hz _ _)⟩
theorem lays_value {P : Program} {T : Nat → Value → World → Prop} {i : Nat} {o : Oper} {a : Act} {W W' : World} {v : Value} (hr : (execOp a.eval o).run P W = .ok (.value v) W') (hB : Below W.heap.size W W') (hT : T i v W') : Lays P T i o a W := fun Q => by
  unfold Oper.wp
  rw [hr]
  exact ⟨v, rfl, hB, hT⟩
theorem lays_same {P : Program} {T : Nat → Value → World → Prop} {i : Nat} {o : Oper} {a : Act} {W : World} {v : Value} (hr : (execOp a.eval o).run P W = .ok (.value v) W) (hT : T i v W) : Lays P T i o a W := lays_value hr (Below.refl _ _) hT
theorem lays_call {P : Program} {T : Nat → Value → World → Prop} {i : Nat} {a : Act} {W : World} {dst : Option Tmp} {f : FuncId} {xs : Array Operand} {ats : Array TypeId} {ty : TypeId} {pos : String} {after : Array Edge} {guard : Option (Nat × Bool)} (args : Array Value) (hargs : xs.map a.eval = args)
    (hf : (callFunc f args).run P W = .ok (.enter f args) W) (hc : Calls P f args W fun e W' => ∃ v, e = .returned v ∧ Below W.heap.size W W' ∧ T i v W') : Lays P T i { dst, op := .call { callee := .value (.func f), args := xs, argTypes := ats }, type := ty, pos, after, guard } a W := fun Q => by
  unfold Oper.wp
  rw [execOp_call_go, hargs]
  simp only [Array.empty_append, Array.append_empty]
  rw [hf]
  refine hc.mono ?_
  rintro e W' ⟨v, rfl, hB, hT⟩
  exact ⟨v, rfl, hB, hT⟩
end Go.Own.Fr

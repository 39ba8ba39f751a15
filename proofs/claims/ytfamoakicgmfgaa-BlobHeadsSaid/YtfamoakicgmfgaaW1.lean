/- Two laws for regions that draw their order: one by an invariant over what has been done; and: what holds of a region outside of a loop over a function holds inside of its round. No condition. -/
import Derived.Test.YtfamoakicgmfgaaReg3
import Derived.RangeFuncFrom
import Derived.OrdersIn
import Derived.TacticsIn
import Derived.RangeFuncCalls
namespace Go.Own
open Go Go.RowKit

/-- The first number that is not done is ready, if each operation waits for earlier ones alone. -/
theorem ready_ne {md : Region.Mode} {ops : Array Oper} {done : Array Bool} (hs : done.size = ops.size) (hb : (ops.toList.zipIdx.all fun (o, i) => o.after.all fun e => decide (e.on < i)) = true)
    {i : Nat} (hi : done.getD i true = false) : Region.ready md ops done ≠ [] := by
  induction i using Nat.strongRecOn with
  | _ i ih =>
    have hlt : i < done.size := by
      rcases Nat.lt_or_ge i done.size with h | h
      · exact h
      · simp [h] at hi
    have ho : ops[i]? = some ops[i] := by simp [hs ▸ hlt]
    by_cases hr : i ∈ Region.ready md ops done
    · exact List.ne_nil_of_mem hr
    · have h1 : ∃ e ∈ ops[i].after, done.getD e.on false ≠ true := by
        apply Classical.byContradiction
        intro hn
        apply hr
        refine mem_ready.2 ⟨hi, _, ho, fun e he _ => ?_⟩
        apply Classical.byContradiction
        intro h2
        exact hn ⟨e, he, h2⟩
      obtain ⟨e, he, h2⟩ := h1
      have hlt2 : e.on < i := by
        have h3 := List.all_eq_true.1 hb (ops[i], i) (by
          rw [List.mem_zipIdx_iff_getElem?]
          simp [hs ▸ hlt])
        have h4 : ops[i].after.all (fun e => decide (e.on < i)) = true := h3
        rw [Array.all_eq_true_iff_forall_mem] at h4
        exact of_decide_eq_true (h4 e he)
      refine ih e.on hlt2 ?_
      have : e.on < done.size := by omega
      simp [Array.getD, this] at h2 ⊢
      exact h2
theorem getD_set_self_true {i : Nat} {done : Array Bool} : (done.setIfInBounds i true).getD i true = true := by
  rcases Nat.lt_or_ge i done.size with h | h
  · simp [h]
  · simp
theorem wpAny_of_inv {P : Program} {ops : Array Oper} {Q : Exit → Act → World → Prop} (Inv : Array Bool → Act → World → Prop)
    (hb : (ops.toList.zipIdx.all fun (o, i) => o.after.all fun e => decide (e.on < i)) = true)
    (hstep : ∀ done a w i, Inv done a w → done.getD i true = false → (∀ o, ops[i]? = some o → ∀ e ∈ o.after, Region.binds .any e = true → done.getD e.on false = true) → i < ops.size → wpOp P ops Q i (Inv (done.setIfInBounds i true)) a w)
    (hend : ∀ done a w, Inv done a w → (∀ i, i < ops.size → done.getD i false = true) → Q .normal a w) :
    ∀ (fuel : Nat) (done : Array Bool) (a : Act) (w : World), done.size = ops.size → (List.range ops.size).countP (fun i => !done.getD i true) ≤ fuel → Inv done a w → wpAny P .any ops Q fuel done a w := by
  have hall : ∀ done : Array Bool, done.size = ops.size → Region.ready .any ops done = [] → ∀ i, i < ops.size → done.getD i false = true := fun done hs h i hi => by
    have h1 : ¬ done.getD i true = false := fun h2 => ready_ne hs hb h2 h
    have : i < done.size := by omega
    simp [Array.getD, this] at h1 ⊢
    exact h1
  have wpOp_to : ∀ {i : Nat} {K K' : Act → World → Prop} {a : Act} {w : World}, (∀ a w, K a w → K' a w) → wpOp P ops Q i K a w → wpOp P ops Q i K' a w := fun hK h => wpOp_mono hK h
  intro fuel
  induction fuel with
  | zero =>
    intro done a w hs hc hI
    have hr : Region.ready .any ops done = [] := by
      cases hr : Region.ready .any ops done with
      | nil => rfl
      | cons i r =>
        have hi : i ∈ Region.ready .any ops done := by rw [hr]; exact List.mem_cons_self
        have h1 := (mem_ready.1 hi).1
        have h2 : i < ops.size := by
          obtain ⟨o, ho, _⟩ := (mem_ready.1 hi).2
          exact (Array.getElem?_eq_some_iff.1 ho).1
        have h3 : 0 < (List.range ops.size).countP (fun i => !done.getD i true) := List.countP_pos_iff.2 ⟨i, List.mem_range.2 h2, by rw [h1]; rfl⟩
        omega
    exact ⟨hr, hend _ _ _ hI (hall _ hs hr)⟩
  | succ fuel ih =>
    intro done a w hs hc hI
    refine ⟨fun h => hend _ _ _ hI (hall _ hs h), fun i hi => ?_⟩
    obtain ⟨h1, o, ho, h3⟩ := mem_ready.1 hi
    have h2 : i < ops.size := (Array.getElem?_eq_some_iff.1 ho).1
    refine wpOp_to (fun a' w' h => ih _ _ _ (by simp [hs]) ?_ h) (hstep done a w i hI h1 (fun o' ho' => by rw [ho] at ho'; cases ho'; exact h3) h2)
    have hlt : (List.range ops.size).countP (fun j => !(done.setIfInBounds i true).getD j true) < (List.range ops.size).countP (fun j => !done.getD j true) := by
      have hsub : ∀ (l : List Nat), i ∈ l → l.countP (fun j => !(done.setIfInBounds i true).getD j true) < l.countP (fun j => !done.getD j true) := by
        have hle : ∀ (l : List Nat), l.countP (fun j => !(done.setIfInBounds i true).getD j true) ≤ l.countP (fun j => !done.getD j true) := fun l => List.countP_mono_left fun j _ hj => by
          by_cases hij : i = j
          · subst hij
            have hz : (done.setIfInBounds i true).getD i true = true := getD_set_self_true
            rw [hz] at hj; cases hj
          · rwa [getD_set_ne true hij] at hj
        intro l
        induction l with
        | nil => intro h; cases h
        | cons x l ihl =>
          intro h
          rw [List.countP_cons, List.countP_cons]
          by_cases hx : i = x
          · subst hx
            have hz : (done.setIfInBounds i true).getD i true = true := getD_set_self_true
            have := hle l
            rw [hz, h1]
            simp only [Bool.not_true, Bool.not_false, Bool.false_eq_true, if_false, if_true]
            omega
          · have := ihl (List.mem_of_ne_of_mem hx h)
            rw [getD_set_ne true hx]
            omega
      exact hsub _ (List.mem_range.2 h2)
    omega
theorem wpOp_at {P : Program} {ops : Array Oper} {Q : Exit → Act → World → Prop} {i : Nat} {K : Act → World → Prop} {a : Act} {w : World} (o : Oper) (hi : ops[i]? = some o) (hg : o.guard = none)
    (h : ∀ K' : Act → World → Prop, (∀ a w, K a w → K' a w) → o.wp P a w K' Q) : wpOp P ops Q i K a w := by
  have h2 := h K fun _ _ h => h
  unfold wpOp
  rw [hi]
  simp only [Region.wanted, hg, if_true]
  exact Or.inl h2
theorem wpOp_lit {P : Program} {L : List Oper} {Q : Exit → Act → World → Prop} {i : Nat} {K : Act → World → Prop} {a : Act} {w : World} (hi : i < L.length)
    (h : ∀ o, L[i]? = some o → o.guard = none ∧ ∀ K' : Act → World → Prop, (∀ a w, K a w → K' a w) → o.wp P a w K' Q) : wpOp P L.toArray Q i K a w := by
  have ho : L[i]? = some L[i] := List.getElem?_eq_getElem hi
  exact wpOp_at L[i] (by rw [List.getElem?_toArray]; exact ho) (h _ ho).1 (h _ ho).2
theorem done_set {done : Array Bool} {i j : Nat} (h : (done.setIfInBounds i true).getD j false = true) : i = j ∨ done.getD j false = true := by
  by_cases hij : i = j
  · exact Or.inl hij
  · rw [getD_set_ne false hij] at h; exact Or.inr h
/-! ### Inside of a round -/
/-- The wide fence, in the round of the loop l. -/
def rnd (l : Nat) : Fence := Fence.wide.inRound l
section
variable {P : Program} {ops : Array Oper} {Q : Exit → Act → World → Prop} {l n : Nat}
theorem calls_rnd {f : FuncId} {args : Array Value} {w : World} {R : Ending → World → Prop} (h : Calls P f args w R) : CallsIn (rnd l) n P f args w R :=
  CallsIn.inRound l (callsIn_wide.2 h)
theorem rows_rnd {row : String} {args : Array Value} {w : World} {R : Value → World → Prop} (h : Rows P row args w R) : RowsIn (rnd l) n P row args w R :=
  fun c cs _ => let ⟨v, w', r, s⟩ := h c cs; ⟨v, w', r, stepsIn_wide.2 s⟩
theorem operIn_rnd {o : Oper} {a : Act} {w : World} {K K' : Act → World → Prop} (hd : ∀ c, o.op ≠ .defer c) (hK : ∀ a w, K a w → K' a w) (h : o.wp P a w K Q) : o.wpIn (rnd l) n P a w K' Q := by
  refine ⟨fun _ _ => trivial, ?_⟩
  rw [Oper.semAt_eq _ _ _ hd]
  unfold Oper.wp at h
  generalize (execOp a.eval o).run P w = r at h
  cases r with
  | ok x w' =>
    cases x with
    | value v => exact hK _ _ h
    | skip => exact hK _ _ h
    | defer d => exact hK _ _ h
    | enter f args =>
      refine ⟨fun h0 => (by cases h0), calls_rnd (Calls.mono h ?_)⟩
      intro e w2 he
      cases e with
      | returned v => exact hK _ _ he
      | panicked c => exact he
      | outgrown => exact he
    | row r args =>
      refine ⟨fun h0 => (by cases h0), rows_rnd (Rows.mono h ?_)⟩
      intro v w2 he
      exact hK _ _ he
    | _ => exact h.elim
  | halt h' w' => cases h' <;> first | exact h | exact h.elim
theorem wpOpIn_rnd {i : Nat} {a : Act} {w : World} {K K' : Act → World → Prop} (hL : ¬ LetsOut Q) (hd : ∀ o : Oper, ops[i]? = some o → ∀ c, o.op ≠ .defer c) (hK : ∀ a w, K a w → K' a w) (h : wpOp P ops Q i K a w) :
    wpOpIn (rnd l) n P ops Q i K' a w := by
  unfold wpOp at h
  unfold wpOpIn
  cases ho : ops[i]? with
  | none => rw [ho] at h; exact hK _ _ h
  | some o =>
    rw [ho] at h
    simp only at h ⊢
    split
    · rename_i hw
      rw [if_pos hw] at h
      rcases h with h | h
      · exact operIn_rnd (hd o ho) hK h
      · exact absurd h.2 hL
    · rename_i hw
      rw [if_neg hw] at h
      exact ⟨fun _ _ => trivial, hK _ _ h⟩
theorem wpAnyIn_rnd (hL : ¬ LetsOut Q) (hd : ∀ (i : Nat) (o : Oper), ops[i]? = some o → ∀ c, o.op ≠ .defer c) {md : Region.Mode} : ∀ (fuel : Nat) (done : Array Bool) (a : Act) (w : World), wpAny P md ops Q fuel done a w → wpAnyIn (rnd l) n P md ops Q fuel done a w
  | 0, _, _, _, h => h
  | fuel + 1, _, _, _, h => ⟨h.1, fun i hi => wpOpIn_rnd hL (hd i) (fun _ _ h => wpAnyIn_rnd hL hd fuel _ _ _ h) (h.2 i hi)⟩
theorem wpListIn_rnd (hL : ¬ LetsOut Q) : ∀ (L : List Oper) (a : Act) (w : World), (∀ o ∈ L, ∀ c, o.op ≠ .defer c) → wpList P ops Q L a w → wpListIn (rnd l) n P ops Q L a w
  | [], _, _, _, h => h
  | o :: rest, a, w, hd, h => by
    unfold wpList at h
    unfold wpListIn
    split
    · rename_i hw
      rw [if_pos hw] at h
      rcases h with h | h
      · exact operIn_rnd (hd o List.mem_cons_self) (fun _ _ h => wpListIn_rnd hL rest _ _ (fun o ho => hd o (List.mem_cons_of_mem _ ho)) h) h
      · exact absurd h.2 hL
    · rename_i hw
      rw [if_neg hw] at h
      exact ⟨fun _ _ => trivial, wpListIn_rnd hL rest _ _ (fun o ho => hd o (List.mem_cons_of_mem _ ho)) h⟩
/-- No deferred call among them. -/
def noDefer (ops : Array Oper) : Bool := ops.all fun o => match o.op with | .defer _ => false | _ => true
theorem noDefer_at (h : noDefer ops = true) : ∀ (i : Nat) (o : Oper), ops[i]? = some o → ∀ c, o.op ≠ .defer c := by
  intro i o ho c hc
  unfold noDefer at h
  have := Array.all_eq_true_iff_forall_mem.1 h o (Array.mem_of_getElem? ho)
  rw [hc] at this
  cases this
/-- A region that draws, inside of a round. -/
theorem region_rnd {id : Nat} {a : Act} {w : World} (hm : P.follows .mixedOrders = true) (hn : noDefer ops = true) (hL : ¬ LetsOut Q)
    (h : wpAny P .any ops Q ops.size (Array.replicate ops.size false) a { w with drawn := w.drawn + 1 }) : (Code.region id ops true).wpIn (rnd l) n P Q a w :=
  wpIn_region_any hm (wpAnyIn_rnd hL (noDefer_at hn) _ _ _ _ h)
theorem region_rnd_lit {id : Nat} {L : List Oper} {a : Act} {w : World} (hn : noDefer L.toArray = true) (hL : ¬ LetsOut Q)
    (h : wpList P L.toArray Q L a w) : (Code.region id L.toArray false).wpIn (rnd l) n P Q a w :=
  wpIn_region_lit (wpListIn_rnd hL _ _ _ (fun o ho => by
    obtain ⟨i, hi⟩ := List.mem_iff_getElem?.1 ho
    exact noDefer_at hn i o (by simpa using hi)) h)
end
end Go.Own

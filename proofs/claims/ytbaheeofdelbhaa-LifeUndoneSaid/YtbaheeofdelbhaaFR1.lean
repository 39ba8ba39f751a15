/- A region that draws its order and whose operations make memory of their own: each operation's value by a property that lasts; no order is gone through. No condition. -/
import Derived.WalkKit
import Derived.StillTail
import Derived.Still
import Derived.Deep.Quiet
import Derived.Deep.QuietTactic
import Derived.Below
namespace Go.Own.Fr
open Go Go.RowKit Go.Own
/-- The first number that is not done is ready, if each operation waits for earlier ones alone. -/
theorem ready_ne {md : Region.Mode} {ops : Array Oper} {done : Array Bool} (hs : done.size = ops.size) (hb : (ops.toList.zipIdx.all fun (o, i) => o.after.all fun e => decide (e.on < i)) = true)
    {i : Nat} (hi : done.getD i true = false) : Region.ready md ops done ≠ [] := by
  induction i using Nat.strongRecOn with
  | _ i ih =>
    have hlt : i < done.size := by
      rcases Nat.lt_or_ge i done.size with h | h
      · exact h
      · simp [h] at hi
    have ho : ops[i]? = some ops[i] := by simp [hs ▸ hlt]
    by_cases hr : i ∈ Region.ready md ops done
    · exact List.ne_nil_of_mem hr
    · have h1 : ∃ e ∈ ops[i].after, done.getD e.on false ≠ true := by
        apply Classical.byContradiction
        intro hn
        apply hr
        refine mem_ready.2 ⟨hi, _, ho, fun e he _ => ?_⟩
        apply Classical.byContradiction
        intro h2
        exact hn ⟨e, he, h2⟩
      obtain ⟨e, he, h2⟩ := h1
      have hlt2 : e.on < i := by
        have h3 := List.all_eq_true.1 hb (ops[i], i) (by
          rw [List.mem_zipIdx_iff_getElem?]
          simp [hs ▸ hlt])
        have h4 : ops[i].after.all (fun e => decide (e.on < i)) = true := h3
        rw [Array.all_eq_true_iff_forall_mem] at h4
        exact of_decide_eq_true (h4 e he)
      refine ih e.on hlt2 ?_
      have : e.on < done.size := by omega
      simp [Array.getD, this] at h2 ⊢
      exact h2
theorem getD_set_self_true {i : Nat} {done : Array Bool} : (done.setIfInBounds i true).getD i true = true := by
  rcases Nat.lt_or_ge i done.size with h | h
  · simp [h]
  · simp
theorem wpAny_of_inv {P : Program} {ops : Array Oper} {Q : Exit → Act → World → Prop} (Inv : Array Bool → Act → World → Prop)
    (hb : (ops.toList.zipIdx.all fun (o, i) => o.after.all fun e => decide (e.on < i)) = true)
    (hstep : ∀ done a w i, Inv done a w → done.getD i true = false → (∀ o, ops[i]? = some o → ∀ e ∈ o.after, Region.binds .any e = true → done.getD e.on false = true) → i < ops.size → wpOp P ops Q i (Inv (done.setIfInBounds i true)) a w)
    (hend : ∀ done a w, Inv done a w → (∀ i, i < ops.size → done.getD i false = true) → Q .normal a w) :
    ∀ (fuel : Nat) (done : Array Bool) (a : Act) (w : World), done.size = ops.size → (List.range ops.size).countP (fun i => !done.getD i true) ≤ fuel → Inv done a w → wpAny P .any ops Q fuel done a w := by
  have hall : ∀ done : Array Bool, done.size = ops.size → Region.ready .any ops done = [] → ∀ i, i < ops.size → done.getD i false = true := fun done hs h i hi => by
    have h1 : ¬ done.getD i true = false := fun h2 => ready_ne hs hb h2 h
    have : i < done.size := by omega
    simp [Array.getD, this] at h1 ⊢
    exact h1
  have wpOp_to : ∀ {i : Nat} {K K' : Act → World → Prop} {a : Act} {w : World}, (∀ a w, K a w → K' a w) → wpOp P ops Q i K a w → wpOp P ops Q i K' a w := fun hK h => wpOp_mono hK h
  intro fuel
  induction fuel with
  | zero =>
    intro done a w hs hc hI
    have hr : Region.ready .any ops done = [] := by
      cases hr : Region.ready .any ops done with
      | nil => rfl
      | cons i r =>
        have hi : i ∈ Region.ready .any ops done := by rw [hr]; exact List.mem_cons_self
        have h1 := (mem_ready.1 hi).1
        have h2 : i < ops.size := by
          obtain ⟨o, ho, _⟩ := (mem_ready.1 hi).2
          exact (Array.getElem?_eq_some_iff.1 ho).1
        have h3 : 0 < (List.range ops.size).countP (fun i => !done.getD i true) := List.countP_pos_iff.2 ⟨i, List.mem_range.2 h2, by rw [h1]; rfl⟩
        omega
    exact ⟨hr, hend _ _ _ hI (hall _ hs hr)⟩
  | succ fuel ih =>
    intro done a w hs hc hI
    refine ⟨fun h => hend _ _ _ hI (hall _ hs h), fun i hi => ?_⟩
    obtain ⟨h1, o, ho, h3⟩ := mem_ready.1 hi
    have h2 : i < ops.size := (Array.getElem?_eq_some_iff.1 ho).1
    refine wpOp_to (fun a' w' h => ih _ _ _ (by simp [hs]) ?_ h) (hstep done a w i hI h1 (fun o' ho' => by rw [ho] at ho'; cases ho'; exact h3) h2)
    have hlt : (List.range ops.size).countP (fun j => !(done.setIfInBounds i true).getD j true) < (List.range ops.size).countP (fun j => !done.getD j true) := by
      have hsub : ∀ (l : List Nat), i ∈ l → l.countP (fun j => !(done.setIfInBounds i true).getD j true) < l.countP (fun j => !done.getD j true) := by
        have hle : ∀ (l : List Nat), l.countP (fun j => !(done.setIfInBounds i true).getD j true) ≤ l.countP (fun j => !done.getD j true) := fun l => List.countP_mono_left fun j _ hj => by
          by_cases hij : i = j
          · subst hij
            have hz : (done.setIfInBounds i true).getD i true = true := getD_set_self_true
            rw [hz] at hj; cases hj
          · rwa [getD_set_ne true hij] at hj
        intro l
        induction l with
        | nil => intro h; cases h
        | cons x l ihl =>
          intro h
          rw [List.countP_cons, List.countP_cons]
          by_cases hx : i = x
          · subst hx
            have hz : (done.setIfInBounds i true).getD i true = true := getD_set_self_true
            have := hle l
            rw [hz, h1]
            simp only [Bool.not_true, Bool.not_false, Bool.false_eq_true, if_false, if_true]
            omega
          · have := ihl (List.mem_of_ne_of_mem hx h)
            rw [getD_set_ne true hx]
            omega
      exact hsub _ (List.mem_range.2 h2)
    omega
theorem wpOp_at {P : Program} {ops : Array Oper} {Q : Exit → Act → World → Prop} {i : Nat} {K : Act → World → Prop} {a : Act} {w : World} (o : Oper) (hi : ops[i]? = some o) (hg : o.guard = none)
    (h : ∀ K' : Act → World → Prop, (∀ a w, K a w → K' a w) → o.wp P a w K' Q) : wpOp P ops Q i K a w := by
  have h2 := h K fun _ _ h => h
  unfold wpOp
  rw [hi]
  simp only [Region.wanted, hg, if_true]
  exact Or.inl h2
theorem done_set {done : Array Bool} {i j : Nat} (h : (done.setIfInBounds i true).getD j false = true) : i = j ∨ done.getD j false = true := by
  by_cases hij : i = j
  · exact Or.inl hij
  · rw [getD_set_ne false hij] at h; exact Or.inr h

/-- Does operation o wait for number i? -/
def waits (o : Oper) (i : Nat) : Bool := o.after.any fun e => Region.binds .any e && decide (e.on = i)
theorem waits_spec {o : Oper} {i : Nat} (h : waits o i = true) : ∃ e ∈ o.after, Region.binds .any e = true ∧ e.on = i := by
  obtain ⟨j, hj, h2⟩ := Array.any_eq_true.1 h
  simp only [Bool.and_eq_true, decide_eq_true_eq] at h2
  exact ⟨o.after[j], Array.getElem_mem hj, h2⟩
/-- No guard, each with a slot of its own below n, each waiting for earlier ones alone. -/
def plainB (l : List Oper) (n : Nat) : Bool :=
  (l.zipIdx.all fun (o, i) => o.after.all fun e => decide (e.on < i)) && l.all (fun o => o.guard.isNone && o.dst.any (fun s => decide (s < n))) && decide ((l.map fun o => o.dst).Nodup)
/-- At the time of operation i slot s is as it was: whoever writes it waits for i, or is it. -/
def keepsB (l : List Oper) (i s : Nat) : Bool := l.zipIdx.all fun (o, j) => decide (o.dst ≠ some s) || decide (j = i) || waits o i

/-- Does operation o read what number i made? -/
def reads (o : Oper) (i : Nat) : Bool := o.after.any fun e => Region.binds .any e && decide (e.on = i) && (match e.ground with | .data => true | _ => false)
theorem reads_waits {o : Oper} {i : Nat} (h : reads o i = true) : waits o i = true := by
  obtain ⟨j, hj, h2⟩ := Array.any_eq_true.1 h
  simp only [Bool.and_eq_true] at h2
  exact Array.any_eq_true.2 ⟨j, hj, by simp only [Bool.and_eq_true]; exact h2.1⟩
/-- No operation reads it. -/
def lastB (l : List Oper) (j : Nat) : Bool := l.all fun o => !reads o j
/-- Does it wait for number i, or for one that does? -/
def waits2 (l : List Oper) (o : Oper) (i : Nat) : Bool := waits o i || l.zipIdx.any fun (o2, m) => waits o m && waits o2 i
/-- At the time of operation i: number j may be done, and may be read behind it. -/
def liveB (l : List Oper) (i j : Nat) : Bool :=
  decide (j ≠ i) && (l.zipIdx.all fun (o, k) => decide (k ≠ j) || !waits2 l o i) && (lastB l j || l.zipIdx.any fun (o, k) => decide (k ≠ i) && reads o j && (l.zipIdx.all fun (oi, m) => decide (m ≠ i) || !waits2 l oi k))

structure StInv (l : List Oper) (T : Nat → Value → World → Prop) (a0 : Act) (w0 : World) (done : Array Bool) (a : Act) (W : World) : Prop where
  below : Below w0.heap.size w0 W
  defers : a.defers = a0.defers
  size : a.tmps.size = a0.tmps.size
  fixed : ∀ s, (∀ i o, l[i]? = some o → done.getD i false = true → o.dst ≠ some s) → a.tmps.getD s undef = a0.tmps.getD s undef
  vals : ∀ i o s, l[i]? = some o → done.getD i false = true → o.dst = some s → ((∃ k ok, l[k]? = some ok ∧ done.getD k false = false ∧ reads ok i = true) ∨ lastB l i = true) → T i (a.tmps.getD s undef) W
  closed : ∀ i o, l[i]? = some o → done.getD i false = true → ∀ e ∈ o.after, Region.binds .any e = true → done.getD e.on false = true

theorem put_at {a : Act} {s : Nat} {v : Value} (h : s < a.tmps.size) (k : Nat) : (a.put (some s) v).tmps.getD k undef = if k = s then v else a.tmps.getD k undef := by
  simp only [Act.put]
  by_cases e : k = s
  · subst e; simp [h]
  · rw [if_neg e]
    simp only [Array.getD_eq_getD_getElem?]
    rw [Array.getElem?_setIfInBounds_ne (fun h => e h.symm)]

/-- The law: hstep gives each operation's value and world, out of those that it waits for. -/
theorem wp_region_stable {P : Program} {id : Nat} {Q : Exit → Act → World → Prop} {a0 : Act} {w0 : World} {l : List Oper} (T : Nat → Value → World → Prop) (hm : P.follows .mixedOrders = true) (hp : plainB l a0.tmps.size = true)
    (hstep : ∀ i o, l[i]? = some o → ∀ (a : Act) (W : World), Below w0.heap.size w0 W → (∀ j oj s, l[j]? = some oj → oj.dst = some s → reads o j = true → T j (a.tmps.getD s undef) W) → (∀ s, keepsB l i s = true → a.tmps.getD s undef = a0.tmps.getD s undef) →
      ∃ v W', (execOp a.eval o).run P W = .ok (.value v) W' ∧ Below w0.heap.size w0 W' ∧ T i v W' ∧ ∀ j v', liveB l i j = true → T j v' W → T j v' W')
    (hend : ∀ (a : Act) (W : World), Below w0.heap.size w0 W → a.defers = a0.defers → a.tmps.size = a0.tmps.size → (∀ s, (l.all fun o => decide (o.dst ≠ some s)) = true → a.tmps.getD s undef = a0.tmps.getD s undef) → (∀ i o s, l[i]? = some o → o.dst = some s → lastB l i = true → T i (a.tmps.getD s undef) W) → Q .normal a W) :
    (Code.region id l.toArray true).wp P Q a0 w0 := by
  simp only [plainB, Bool.and_eq_true, decide_eq_true_eq] at hp
  obtain ⟨⟨hb, hg⟩, hn⟩ := hp
  have hg2 : ∀ (i : Nat) (o : Oper), l[i]? = some o → o.guard = none ∧ ∃ s, o.dst = some s ∧ s < a0.tmps.size := fun i o ho => by
    have h1 := List.all_eq_true.1 hg o (List.mem_of_getElem? ho)
    simp only [Bool.and_eq_true, Option.isNone_iff_eq_none, Option.any_eq_true, decide_eq_true_eq] at h1
    exact h1
  have hnd : ∀ (i j : Nat) (oi oj : Oper), l[i]? = some oi → l[j]? = some oj → oi.dst = oj.dst → i = j := fun i j oi oj h1 h2 e => by
    have hi := (List.getElem?_eq_some_iff.1 h1).1
    have hj := (List.getElem?_eq_some_iff.1 h2).1
    refine (List.getElem_inj (xs := l.map fun o => o.dst) (h₀ := by simpa using hi) (h₁ := by simpa using hj) hn).1 ?_
    simp only [List.getElem_map]
    rw [(List.getElem?_eq_some_iff.1 h1).2, (List.getElem?_eq_some_iff.1 h2).2, e]
  refine wp_region_any hm ?_
  refine wpAny_of_inv (StInv l T a0 w0) (by simpa using hb) ?_ ?_ _ _ _ _ (by simp) ?_ ?_
  · intro done a W i hI hnd1 hdep hlt
    have hil : i < l.length := by simpa using hlt
    have ho : l[i]? = some l[i] := List.getElem?_eq_getElem hil
    generalize hoi : l[i] = o at ho
    obtain ⟨hgn, s, hs, hsz⟩ := hg2 i o ho
    have hnf : done.getD i false = false := by
      cases h : done.getD i false with
      | false => rfl
      | true => rw [getD_both hnd1] at h; cases h
    obtain ⟨v, W', hr, hB, hTi, hTk⟩ := hstep i o ho a W hI.below
      (fun j oj sj hj hsj hw => by
        obtain ⟨e, he, hbi, hon⟩ := waits_spec (reads_waits hw)
        exact hI.vals j oj sj hj (hon ▸ hdep o (by simpa using ho) e he hbi) hsj (Or.inl ⟨i, o, ho, hnf, hw⟩))
      (fun s' hk => hI.fixed s' fun j oj hj hdj hds => by
        have h1 := List.all_eq_true.1 hk (oj, j) (by rw [List.mem_zipIdx_iff_getElem?]; simpa using hj)
        simp only [Bool.or_eq_true, decide_eq_true_eq] at h1
        rcases h1 with (h1 | h1) | h1
        · exact h1 hds
        · subst h1; rw [hnf] at hdj; cases hdj
        · obtain ⟨e, he, hbi, hon⟩ := waits_spec h1
          have h2 := hI.closed j oj hj hdj e he hbi
          rw [hon, hnf] at h2; cases h2)
    refine wpOp_at o (by simpa using ho) hgn fun K' hK' => ?_
    unfold Oper.wp
    rw [hr]
    refine hK' _ _ ?_
    have hput := fun k => put_at (a := a) (s := s) (v := v) (by rw [hI.size]; exact hsz) k
    rw [hs]
    refine ⟨hB, hI.defers, ?_, fun k hk => ?_, fun j oj sj hj hdj hsj hnd2 => ?_, fun j oj hj hdj e he hbi => ?_⟩
    · simp [Act.put, hI.size]
    · rw [hput k]
      have hne : k ≠ s := fun e => hk i o ho (by
        rw [e] at *
        have hds : i < done.size := by
          rcases Nat.lt_or_ge i done.size with h | h
          · exact h
          · simp [h] at hnd1
        simp [hds]) (by rw [e]; exact hs)
      rw [if_neg hne]
      exact hI.fixed k fun j oj hj hdj => hk j oj hj (by
        by_cases e : i = j
        · subst e; rw [hnf] at hdj; cases hdj
        · rw [getD_set_ne false e]; exact hdj)
    · rw [hput sj]
      rcases done_set hdj with h1 | h1
      · subst h1
        have : oj = o := Option.some.inj (hj.symm.trans ho)
        subst this
        rw [if_pos (Option.some.inj (hsj.symm.trans hs))]
        exact hTi
      · have hne : sj ≠ s := fun e => by
          have := hnd j i oj o hj ho (by rw [hsj, hs, e])
          subst this
          rw [hnf] at h1; cases h1
        rw [if_neg hne]
        have hji : j ≠ i := fun e => by subst e; rw [hnf] at h1; cases h1
        have hjw : waits2 l oj i = false := by
          cases hw : waits2 l oj i with
          | false => rfl
          | true =>
            unfold waits2 at hw
            rw [Bool.or_eq_true] at hw
            rcases hw with hw | hw
            · obtain ⟨e, he, hbi, hon⟩ := waits_spec hw
              have h2 := hI.closed j oj hj h1 e he hbi
              rw [hon, hnf] at h2; cases h2
            · obtain ⟨⟨o2, m⟩, hm2, h⟩ := List.any_eq_true.1 hw
              rw [List.mem_zipIdx_iff_getElem?] at hm2
              simp only [Bool.and_eq_true] at h
              obtain ⟨e, he, hbi, hon⟩ := waits_spec h.1
              have h2 := hI.closed j oj hj h1 e he hbi
              rw [hon] at h2
              obtain ⟨e', he', hbi', hon'⟩ := waits_spec h.2
              have h3 := hI.closed m o2 hm2 h2 e' he' hbi'
              rw [hon', hnf] at h3; cases h3
        have hl1 : (l.zipIdx.all fun (o, k) => decide (k ≠ j) || !waits2 l o i) = true := List.all_eq_true.2 fun ⟨o', k⟩ hk => by
          rw [List.mem_zipIdx_iff_getElem?] at hk
          by_cases e : k = j
          · subst e
            have : o' = oj := Option.some.inj (hk.symm.trans hj)
            subst this
            simp [hjw]
          · simp [e]
        have hold : (∃ k ok, l[k]? = some ok ∧ done.getD k false = false ∧ reads ok j = true) ∨ lastB l j = true := by
          rcases hnd2 with ⟨k, ok, hk, hdk, hrk⟩ | h2
          · have hki : i ≠ k := fun e => by
              subst e
              have hds : i < done.size := by
                rcases Nat.lt_or_ge i done.size with h | h
                · exact h
                · simp [h] at hnd1
              simp [hds] at hdk
            rw [getD_set_ne false hki] at hdk
            exact Or.inl ⟨k, ok, hk, hdk, hrk⟩
          · exact Or.inr h2
        refine hTk _ _ ?_ (hI.vals j oj sj hj h1 hsj hold)
        unfold liveB
        rw [Bool.and_eq_true, Bool.and_eq_true, Bool.or_eq_true]
        refine ⟨⟨decide_eq_true hji, hl1⟩, ?_⟩
        rcases hnd2 with ⟨k, ok, hk, hdk, hrk⟩ | h2
        · right
          have hki : i ≠ k := fun e => by
            subst e
            have hds : i < done.size := by
              rcases Nat.lt_or_ge i done.size with h | h
              · exact h
              · simp [h] at hnd1
            simp [hds] at hdk
          rw [getD_set_ne false hki] at hdk
          refine List.any_eq_true.2 ⟨(ok, k), by rw [List.mem_zipIdx_iff_getElem?]; exact hk, ?_⟩
          simp only [Bool.and_eq_true, decide_eq_true_eq]
          refine ⟨⟨fun e => hki e.symm, hrk⟩, List.all_eq_true.2 fun ⟨o', m⟩ hm2 => ?_⟩
          rw [List.mem_zipIdx_iff_getElem?] at hm2
          by_cases e : m = i
          · subst e
            have : o' = o := Option.some.inj (hm2.symm.trans ho)
            subst this
            cases hw : waits2 l o' k with
            | false => simp
            | true =>
              unfold waits2 at hw
              rw [Bool.or_eq_true] at hw
              rcases hw with hw | hw
              · obtain ⟨e, he, hbi, hon⟩ := waits_spec hw
                have h3 := hdep o' (by simpa using ho) e he hbi
                rw [hon, hdk] at h3; cases h3
              · obtain ⟨⟨o2, m2⟩, hm3, h⟩ := List.any_eq_true.1 hw
                rw [List.mem_zipIdx_iff_getElem?] at hm3
                simp only [Bool.and_eq_true] at h
                obtain ⟨e, he, hbi, hon⟩ := waits_spec h.1
                have h3 := hdep o' (by simpa using ho) e he hbi
                rw [hon] at h3
                obtain ⟨e', he', hbi', hon'⟩ := waits_spec h.2
                have h4 := hI.closed m2 o2 hm3 h3 e' he' hbi'
                rw [hon', hdk] at h4; cases h4
          · simp [e]
        · exact Or.inl h2
    · rcases done_set hdj with h1 | h1
      · subst h1
        have : oj = o := Option.some.inj (hj.symm.trans ho)
        subst this
        have h2 := hdep oj (by simpa using ho) e he hbi
        by_cases e2 : i = e.on
        · rw [← e2] at h2; rw [hnf] at h2; cases h2
        · rw [getD_set_ne false e2]; exact h2
      · have h2 := hI.closed j oj hj h1 e he hbi
        by_cases e2 : i = e.on
        · rw [← e2] at h2; rw [hnf] at h2; cases h2
        · rw [getD_set_ne false e2]; exact h2
  · intro done a W hI hall
    refine hend a W hI.below hI.defers hI.size (fun s hs => hI.fixed s fun i o ho _ => ?_) (fun i o s ho hs hl => hI.vals i o s ho (hall i ?_) hs (Or.inr hl))
    · have := List.all_eq_true.1 hs o (List.mem_of_getElem? ho)
      simpa using this
    · have := (List.getElem?_eq_some_iff.1 ho).1
      simpa using this
  · have hc : ∀ (n m : Nat), ((List.range m).countP fun i => !(Array.replicate n false).getD i true) ≤ m := fun n m => by
      have := List.countP_le_length (l := List.range m) (p := fun i => !(Array.replicate n false).getD i true)
      simpa using this
    exact hc _ _
  · have hz : ∀ n j, (Array.replicate n false).getD j false ≠ true := fun n j h => by rw [getD_replicate_false] at h; cases h
    exact ⟨⟨rfl, rfl, rfl, Nat.le_refl _, fun _ _ => rfl⟩, rfl, rfl, fun _ _ => rfl, fun i o s _ h => absurd h (hz _ _), fun i o _ h => absurd h (hz _ _)⟩
end Go.Own.Fr

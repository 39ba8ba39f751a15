/- A region that draws its order, whose operations read, make memory, or call what leaves what was there: each operation's value by a property that lasts; guards that are met. No condition. | A journal plainly: records, halves, the writes and flushes that lay them. No condition. | Records: what was laid is taken; what is taken hangs on its own sectors alone. No condition. -/
import Derived.Test.YtlogjpmdfimgdaaGreatDoorZ12
import Derived.Test.YtlogjpmdfimgdaaGreatDoorZ11
import Derived.Test.YtlogjpmdfimgdaaGreatDoorZ07
namespace Go.Own.Jf
open Go Go.RowKit
/-- The first number that is not done is ready, if each operation waits for earlier ones alone. -/
theorem ready_ne2 {md : Region.Mode} {ops : Array Oper} {done : Array Bool} (hs : done.size = ops.size) (hb : (ops.toList.zipIdx.all fun (o, i) => o.after.all fun e => !Region.binds md e || decide (e.on < i)) = true)
    {i : Nat} (hi : done.getD i true = false) : Region.ready md ops done ≠ [] := by
  induction i using Nat.strongRecOn with
  | _ i ih =>
    have hlt : i < done.size := by
      rcases Nat.lt_or_ge i done.size with h | h
      · exact h
      · simp [h] at hi
    have ho : ops[i]? = some ops[i] := by simp [hs ▸ hlt]
    by_cases hr : i ∈ Region.ready md ops done
    · exact List.ne_nil_of_mem hr
    · have h1 : ∃ e ∈ ops[i].after, Region.binds md e = true ∧ done.getD e.on false ≠ true := by
        apply Classical.byContradiction
        intro hn
        apply hr
        refine mem_ready.2 ⟨hi, _, ho, fun e he hbi => ?_⟩
        apply Classical.byContradiction
        intro h2
        exact hn ⟨e, he, hbi, h2⟩
      obtain ⟨e, he, hbi, h2⟩ := h1
      have hlt2 : e.on < i := by
        have h3 := List.all_eq_true.1 hb (ops[i], i) (by
          rw [List.mem_zipIdx_iff_getElem?]
          simp [hs ▸ hlt])
        have h4 : ops[i].after.all (fun e => !Region.binds md e || decide (e.on < i)) = true := h3
        rw [Array.all_eq_true_iff_forall_mem] at h4
        have h5 := h4 e he
        rw [hbi] at h5
        simpa using h5
      refine ih e.on hlt2 ?_
      have : e.on < done.size := by omega
      simp [Array.getD, this] at h2 ⊢
      exact h2
theorem wpAny_of_inv2 {P : Program} {ops : Array Oper} {Q : Exit → Act → World → Prop} (Inv : Array Bool → Act → World → Prop)
    (hb : (ops.toList.zipIdx.all fun (o, i) => o.after.all fun e => !Region.binds .any e || decide (e.on < i)) = true)
    (hstep : ∀ done a w i, Inv done a w → done.getD i true = false → (∀ o, ops[i]? = some o → ∀ e ∈ o.after, Region.binds .any e = true → done.getD e.on false = true) → i < ops.size → wpOp P ops Q i (Inv (done.setIfInBounds i true)) a w)
    (hend : ∀ done a w, Inv done a w → (∀ i, i < ops.size → done.getD i false = true) → Q .normal a w) :
    ∀ (fuel : Nat) (done : Array Bool) (a : Act) (w : World), done.size = ops.size → (List.range ops.size).countP (fun i => !done.getD i true) ≤ fuel → Inv done a w → wpAny P .any ops Q fuel done a w := by
  have hall : ∀ done : Array Bool, done.size = ops.size → Region.ready .any ops done = [] → ∀ i, i < ops.size → done.getD i false = true := fun done hs h i hi => by
    have h1 : ¬ done.getD i true = false := fun h2 => ready_ne2 hs hb h2 h
    have : i < done.size := by omega
    simp [Array.getD, this] at h1 ⊢
    exact h1
  have wpOp_to : ∀ {i : Nat} {K K' : Act → World → Prop} {a : Act} {w : World}, (∀ a w, K a w → K' a w) → wpOp P ops Q i K a w → wpOp P ops Q i K' a w := fun hK h => wpOp_mono hK h
  intro fuel
  induction fuel with
  | zero =>
    intro done a w hs hc hI
    have hr : Region.ready .any ops done = [] := by
      cases hr : Region.ready .any ops done with
      | nil => rfl
      | cons i r =>
        have hi : i ∈ Region.ready .any ops done := by rw [hr]; exact List.mem_cons_self
        have h1 := (mem_ready.1 hi).1
        have h2 : i < ops.size := by
          obtain ⟨o, ho, _⟩ := (mem_ready.1 hi).2
          exact (Array.getElem?_eq_some_iff.1 ho).1
        have h3 : 0 < (List.range ops.size).countP (fun i => !done.getD i true) := List.countP_pos_iff.2 ⟨i, List.mem_range.2 h2, by rw [h1]; rfl⟩
        omega
    exact ⟨hr, hend _ _ _ hI (hall _ hs hr)⟩
  | succ fuel ih =>
    intro done a w hs hc hI
    refine ⟨fun h => hend _ _ _ hI (hall _ hs h), fun i hi => ?_⟩
    obtain ⟨h1, o, ho, h3⟩ := mem_ready.1 hi
    have h2 : i < ops.size := (Array.getElem?_eq_some_iff.1 ho).1
    refine wpOp_to (fun a' w' h => ih _ _ _ (by simp [hs]) ?_ h) (hstep done a w i hI h1 (fun o' ho' => by rw [ho] at ho'; cases ho'; exact h3) h2)
    have hlt : (List.range ops.size).countP (fun j => !(done.setIfInBounds i true).getD j true) < (List.range ops.size).countP (fun j => !done.getD j true) := by
      have hsub : ∀ (l : List Nat), i ∈ l → l.countP (fun j => !(done.setIfInBounds i true).getD j true) < l.countP (fun j => !done.getD j true) := by
        have hle : ∀ (l : List Nat), l.countP (fun j => !(done.setIfInBounds i true).getD j true) ≤ l.countP (fun j => !done.getD j true) := fun l => List.countP_mono_left fun j _ hj => by
          by_cases hij : i = j
          · subst hij
            have hz : (done.setIfInBounds i true).getD i true = true := getD_set_self_true
            rw [hz] at hj; cases hj
          · rwa [getD_set_ne true hij] at hj
        intro l
        induction l with
        | nil => intro h; cases h
        | cons x l ihl =>
          intro h
          rw [List.countP_cons, List.countP_cons]
          by_cases hx : i = x
          · subst hx
            have hz : (done.setIfInBounds i true).getD i true = true := getD_set_self_true
            have := hle l
            rw [hz, h1]
            simp only [Bool.not_true, Bool.not_false, Bool.false_eq_true, if_false, if_true]
            omega
          · have := ihl (List.mem_of_ne_of_mem hx h)
            rw [getD_set_ne true hx]
            omega
      exact hsub _ (List.mem_range.2 h2)
    omega
/-- Each with a slot of its own below n, each waiting for earlier ones alone, and for what it is guarded by. -/
def plainG (l : List Oper) (n : Nat) : Bool :=
  (l.zipIdx.all fun (o, i) => o.after.all fun e => !Region.binds .any e || decide (e.on < i)) && l.all (fun o => o.dst.any (fun s => decide (s < n)) && (match o.guard with | none => true | some (j, _) => waits o j)) && decide ((l.map fun o => o.dst).Nodup)
structure FInv (l : List Oper) (T : Nat → Value → World → Prop) (a0 : Act) (w0 : World) (done : Array Bool) (a : Act) (W : World) : Prop where
  below : Below w0.heap.size w0 W
  defers : a.defers = a0.defers
  size : a.tmps.size = a0.tmps.size
  fixed : ∀ s, (∀ i o, l[i]? = some o → done.getD i false = true → o.dst ≠ some s) → a.tmps.getD s undef = a0.tmps.getD s undef
  vals : ∀ i o s, l[i]? = some o → done.getD i false = true → o.dst = some s → T i (a.tmps.getD s undef) W
  closed : ∀ i o, l[i]? = some o → done.getD i false = true → ∀ e ∈ o.after, Region.binds .any e = true → done.getD e.on false = true
theorem wpOp_want {P : Program} {ops : Array Oper} {Q : Exit → Act → World → Prop} {i : Nat} {K : Act → World → Prop} {a : Act} {w : World} (o : Oper) (hi : ops[i]? = some o) (hg : Region.wanted o (yielded ops a.tmps) = true) (h : o.wp P a w K Q) : wpOp P ops Q i K a w := by
  unfold wpOp
  rw [hi]
  simp only [hg, if_true]
  exact Or.inl h
/-- What an operation does: it lays a value that has the property, and nothing of what was there turns. -/
def Lays (P : Program) (T : Nat → Value → World → Prop) (i : Nat) (o : Oper) (a : Act) (W : World) : Prop :=
  ∀ Q, o.wp P a W (fun a' W' => ∃ v, a' = a.put o.dst v ∧ Below W.heap.size W W' ∧ T i v W') Q
theorem wp_region_fine {P : Program} {id : Nat} {Q : Exit → Act → World → Prop} {a0 : Act} {w0 : World} {l : List Oper} (T : Nat → Value → World → Prop) (hm : P.follows .mixedOrders = true) (hp : plainG l a0.tmps.size = true)
    (hlast : ∀ i v W W', T i v W → Below W.heap.size W W' → T i v W')
    (hguard : ∀ (i : Nat) (o : Oper) j b, l[i]? = some o → o.guard = some (j, b) → ∀ v W, T j v W → v = .bool b)
    (hstep : ∀ i o, l[i]? = some o → ∀ (a : Act) (W : World), Below w0.heap.size w0 W → (∀ j oj s, l[j]? = some oj → oj.dst = some s → waits o j = true → T j (a.tmps.getD s undef) W) → (∀ s, keepsB l i s = true → a.tmps.getD s undef = a0.tmps.getD s undef) → Lays P T i o a W)
    (hend : ∀ (a : Act) (W : World), Below w0.heap.size w0 W → a.defers = a0.defers → a.tmps.size = a0.tmps.size → (∀ s, (l.all fun o => decide (o.dst ≠ some s)) = true → a.tmps.getD s undef = a0.tmps.getD s undef) → (∀ i o s, l[i]? = some o → o.dst = some s → T i (a.tmps.getD s undef) W) → Q .normal a W) :
    (Code.region id l.toArray true).wp P Q a0 w0 := by
  simp only [plainG, Bool.and_eq_true, decide_eq_true_eq] at hp
  obtain ⟨⟨hb, hg⟩, hn⟩ := hp
  have hg2 : ∀ (i : Nat) (o : Oper), l[i]? = some o → (∃ s, o.dst = some s ∧ s < a0.tmps.size) ∧ ∀ j b, o.guard = some (j, b) → waits o j = true := fun i o ho => by
    have h1 := List.all_eq_true.1 hg o (List.mem_of_getElem? ho)
    simp only [Bool.and_eq_true, Option.any_eq_true, decide_eq_true_eq] at h1
    refine ⟨h1.1, fun j b hjb => ?_⟩
    have h2 := h1.2
    rw [hjb] at h2
    exact h2
  have hnd : ∀ (i j : Nat) (oi oj : Oper), l[i]? = some oi → l[j]? = some oj → oi.dst = oj.dst → i = j := fun i j oi oj h1 h2 e => by
    have hi := (List.getElem?_eq_some_iff.1 h1).1
    have hj := (List.getElem?_eq_some_iff.1 h2).1
    refine (List.getElem_inj (xs := l.map fun o => o.dst) (h₀ := by simpa using hi) (h₁ := by simpa using hj) hn).1 ?_
    simp only [List.getElem_map]
    rw [(List.getElem?_eq_some_iff.1 h1).2, (List.getElem?_eq_some_iff.1 h2).2, e]
  refine wp_region_any hm ?_
  refine wpAny_of_inv2 (fun done a W => done.size = l.length ∧ FInv l T a0 w0 done a W) (by simpa using hb) ?_ ?_ _ _ _ _ (by simp) ?_ ?_
  · rintro done a W i ⟨hds, hI⟩ hnd1 hdep hlt
    have hil : i < l.length := by simpa using hlt
    have ho : l[i]? = some l[i] := List.getElem?_eq_getElem hil
    generalize hoi : l[i] = o at ho
    obtain ⟨⟨s, hs, hsz⟩, hgw⟩ := hg2 i o ho
    have hnf : done.getD i false = false := by
      cases h : done.getD i false with
      | false => rfl
      | true => rw [getD_both hnd1] at h; cases h
    have hvals : ∀ j oj s, l[j]? = some oj → oj.dst = some s → waits o j = true → T j (a.tmps.getD s undef) W := fun j oj sj hj hsj hw => by
      obtain ⟨e, he, hbi, hon⟩ := waits_spec hw
      exact hI.vals j oj sj hj (hon ▸ hdep o (by simpa using ho) e he hbi) hsj
    refine wpOp_want o (by simpa using ho) ?_ (Oper.wp_mono ?_ (hstep i o ho a W hI.below hvals (fun s' hk => hI.fixed s' fun j oj hj hdj hds2 => by
      have h1 := List.all_eq_true.1 hk (oj, j) (by rw [List.mem_zipIdx_iff_getElem?]; simpa using hj)
      simp only [Bool.or_eq_true, decide_eq_true_eq] at h1
      rcases h1 with (h1 | h1) | h1
      · exact h1 hds2
      · subst h1; rw [hnf] at hdj; cases hdj
      · obtain ⟨e, he, hbi, hon⟩ := waits_spec h1
        have h2 := hI.closed j oj hj hdj e he hbi
        rw [hon, hnf] at h2; cases h2) _))
    · cases hgd : o.guard with
      | none => simp [Region.wanted, hgd]
      | some p =>
        obtain ⟨j, b⟩ := p
        have hw := hgw j b hgd
        obtain ⟨e, he, hbi, hon⟩ := waits_spec hw
        have hdj : done.getD j false = true := hon ▸ hdep o (by simpa using ho) e he hbi
        have hjl : j < l.length := by
          rcases Nat.lt_or_ge j done.size with h | h
          · omega
          · simp [h] at hdj
        have hoj : l[j]? = some l[j] := List.getElem?_eq_getElem hjl
        obtain ⟨⟨sj, hsj, hsjz⟩, _⟩ := hg2 j _ hoj
        have hT := hvals j _ sj hoj hsj hw
        have hv := hguard i o j b ho hgd _ _ hT
        have ht : a.tmps[sj]? = some (.bool b) := by
          have h3 : sj < a.tmps.size := by rw [hI.size]; exact hsjz
          rw [← hv]
          simp [Array.getD, h3]
        simp [Region.wanted, hgd, yielded, hoj, hsj, ht]
    · rintro a' W' ⟨v, rfl, hB, hTi⟩
      refine ⟨by simp [hds], ?_⟩
      have hput := fun k => put_at (a := a) (s := s) (v := v) (by rw [hI.size]; exact hsz) k
      rw [hs]
      refine ⟨hI.below.trans (hB.mono hI.below.size), hI.defers, ?_, fun k hk => ?_, fun j oj sj hj hdj hsj => ?_, fun j oj hj hdj e he hbi => ?_⟩
      · simp [Act.put, hI.size]
      · rw [hput k]
        have hne : k ≠ s := fun e => hk i o ho (by
          have hds : i < done.size := by omega
          simp [hds]) (by rw [e]; exact hs)
        rw [if_neg hne]
        exact hI.fixed k fun j oj hj hdj => hk j oj hj (by
          by_cases e : i = j
          · subst e; rw [hnf] at hdj; cases hdj
          · rw [getD_set_ne false e]; exact hdj)
      · rw [hput sj]
        rcases done_set hdj with h1 | h1
        · subst h1
          have : oj = o := Option.some.inj (hj.symm.trans ho)
          subst this
          rw [if_pos (Option.some.inj (hsj.symm.trans hs))]
          exact hTi
        · have hne : sj ≠ s := fun e => by
            have := hnd j i oj o hj ho (by rw [hsj, hs, e])
            subst this
            rw [hnf] at h1; cases h1
          rw [if_neg hne]
          exact hlast _ _ _ _ (hI.vals j oj sj hj h1 hsj) hB
      · rcases done_set hdj with h1 | h1
        · subst h1
          have : oj = o := Option.some.inj (hj.symm.trans ho)
          subst this
          have h2 := hdep oj (by simpa using ho) e he hbi
          by_cases e2 : i = e.on
          · rw [← e2] at h2; rw [hnf] at h2; cases h2
          · rw [getD_set_ne false e2]; exact h2
        · have h2 := hI.closed j oj hj h1 e he hbi
          by_cases e2 : i = e.on
          · rw [← e2] at h2; rw [hnf] at h2; cases h2
          · rw [getD_set_ne false e2]; exact h2
  · rintro done a W ⟨hds, hI⟩ hall
    refine hend a W hI.below hI.defers hI.size (fun s hs => hI.fixed s fun i o ho _ => ?_) (fun i o s ho hs => hI.vals i o s ho (hall i ?_) hs)
    · have := List.all_eq_true.1 hs o (List.mem_of_getElem? ho)
      simpa using this
    · have := (List.getElem?_eq_some_iff.1 ho).1
      simpa using this
  · have hc : ∀ (n m : Nat), ((List.range m).countP fun i => !(Array.replicate n false).getD i true) ≤ m := fun n m => by
      have := List.countP_le_length (l := List.range m) (p := fun i => !(Array.replicate n false).getD i true)
      simpa using this
    exact hc _ _
  · have hz : ∀ n j, (Array.replicate n false).getD j false ≠ true := fun n j h => by rw [getD_replicate_false] at h; cases h
    exact ⟨by simp, ⟨rfl, rfl, rfl, Nat.le_refl _, fun _ _ => rfl⟩, rfl, rfl, fun _ _ => rfl, fun i o s _ h => absurd h (hz _ _), fun i o _ h => absurd h (hz _ _)⟩
theorem lays_value {P : Program} {T : Nat → Value → World → Prop} {i : Nat} {o : Oper} {a : Act} {W W' : World} {v : Value} (hr : (execOp a.eval o).run P W = .ok (.value v) W') (hB : Below W.heap.size W W') (hT : T i v W') : Lays P T i o a W := fun Q => by
  unfold Oper.wp
  rw [hr]
  exact ⟨v, rfl, hB, hT⟩
theorem lays_same {P : Program} {T : Nat → Value → World → Prop} {i : Nat} {o : Oper} {a : Act} {W : World} {v : Value} (hr : (execOp a.eval o).run P W = .ok (.value v) W) (hT : T i v W) : Lays P T i o a W := lays_value hr (Below.refl _ _) hT
theorem lays_call {P : Program} {T : Nat → Value → World → Prop} {i : Nat} {a : Act} {W : World} {dst : Option Tmp} {f : FuncId} {xs : Array Operand} {ats : Array TypeId} {ty : TypeId} {pos : String} {after : Array Edge} {guard : Option (Nat × Bool)} (args : Array Value) (hargs : xs.map a.eval = args)
    (hf : (callFunc f args).run P W = .ok (.enter f args) W) (hc : Calls P f args W fun e W' => ∃ v, e = .returned v ∧ Below W.heap.size W W' ∧ T i v W') : Lays P T i { dst, op := .call { callee := .value (.func f), args := xs, argTypes := ats }, type := ty, pos, after, guard } a W := fun Q => by
  unfold Oper.wp
  rw [execOp_call_go, hargs]
  simp only [Array.empty_append, Array.append_empty]
  rw [hf]
  refine hc.mono ?_
  rintro e W' ⟨v, rfl, hB, hT⟩
  exact ⟨v, rfl, hB, hT⟩
end Go.Own.Jf
namespace Go.Proofs.YtlogjpmdfimgdaaGreatDoor.Jf
open Go.RowKit Go.Own.Jf

/-- k bytes of n, the highest first. -/
def be (k n : Nat) : List Nat := (List.range k).map fun i => n / 2 ^ (8 * (k - 1 - i)) % 256
/-- The number of bytes. -/
def val (s : List Nat) : Nat := s.foldl (fun n b => n * 256 + b) 0
/-- How many sectors a text of k bytes takes. -/
def secs (k : Nat) : Nat := (k + 113) / 64
def bodyL (g n : Nat) (t : List Nat) : List Nat := [76] ++ be 8 g ++ be 4 n ++ be 4 t.length ++ t
def allL (g n : Nat) (t : List Nat) : List Nat := bodyL g n t ++ Sm.digL (bodyL g n t)
/-- A record's bytes as they lie on sectors. -/
def laidL (g n : Nat) (t : List Nat) : List Nat :=
  (allL g n t).take (min 63 (allL g n t).length) ++ rep (63 - min 63 (allL g n t).length) ++ [76] ++ (allL g n t).drop (min 63 (allL g n t).length)
/-- The record at the beginning of sectors. -/
def takenL (x : List Nat) : Option (Nat × Nat × List Nat) :=
  if x.length < 64 ∨ gi x 0 ≠ 76 ∨ gi x 63 ≠ 76 then none
  else if val ((x.drop 1).take 8) < 1 ∨ 1099511627776 < val ((x.drop 1).take 8) ∨ 65535 < val ((x.drop 13).take 4) then none
  else if x.length < secs (val ((x.drop 13).take 4)) * 64 then none
  else if ((x.take 63 ++ (x.drop 64).take (secs (val ((x.drop 13).take 4)) * 64 - 64)).drop (17 + val ((x.drop 13).take 4))).take 32 =
      Sm.digL ((x.take 63 ++ (x.drop 64).take (secs (val ((x.drop 13).take 4)) * 64 - 64)).take (17 + val ((x.drop 13).take 4)))
    then some (val ((x.drop 1).take 8), val ((x.drop 9).take 4), ((x.take 63 ++ (x.drop 64).take (secs (val ((x.drop 13).take 4)) * 64 - 64)).drop 17).take (val ((x.drop 13).take 4)))
  else none
/-- A half, with what it tells. -/
structure Hf where
  first : Nat
  size : Nat
  gen : Nat
  used : Nat
  texts : List (List Nat)
def Hf.other (h : Hf) : Hf := ⟨h.size - h.first, h.size, 0, 0, []⟩
def Hf.with (h : Hf) (t : List Nat) : Hf := { h with used := h.used + secs t.length, texts := h.texts ++ [t] }
def Hf.room (h : Hf) : Int := min 65535 (((h.size : Int) - h.used) * 64 - 50)
/-- One record more of what lies in it, if there is one. -/
def Hf.next (h : Hf) (x : List Nat) : Option Hf :=
  match takenL (x.drop (h.used * 64)) with
  | none => none
  | some (g, n, t) => if n ≠ h.texts.length ∨ h.gen ≠ 0 ∧ g ≠ h.gen then none else some ({ h with gen := g }.with t)
/-- All of them. -/
def Hf.tell (x : List Nat) : Nat → Hf → Hf
  | 0, h => h
  | f + 1, h => match h.next x with | none => h | some k => Hf.tell x f k
/-- What lies in it, of a disk. -/
def Hf.read (h : Hf) (M : Dk) : List Nat := (List.range h.size).flatMap fun i => (M.read ((h.first + i : Nat) : Int)).1
def Hf.told (h : Hf) (M : Dk) : Hf := h.tell (h.read M) (h.size + 1)

/-- A write, or a flush. -/
inductive Stp where
  | w (a : Nat) (s : List Nat)
  | f
def Stp.run (M : Dk) : Stp → Dk × Nat
  | .w a s => M.write (a : Int) s
  | .f => M.flush
def runS (M : Dk) : List Stp → Dk × Bool
  | [] => (M, true)
  | s :: r => if (s.run M).2 = 0 then runS (s.run M).1 r else ((s.run M).1, false)
/-- What lies on the sector of number i. -/
def chunk (y : List Nat) (i : Nat) : List Nat := (y.drop (i * 64)).take 64
/-- The writes of sectors i, i - 1, .., 1; a flush; that of sector 0. -/
def Hf.down (h : Hf) (y : List Nat) : Nat → List Stp
  | 0 => [.f, .w (h.first + h.used) (chunk y 0)]
  | i + 1 => .w (h.first + (h.used + (i + 1))) (chunk y (i + 1)) :: h.down y i
def Hf.laying (h : Hf) (t : List Nat) : List Stp :=
  h.down (laidL h.gen h.texts.length t) (((laidL h.gen h.texts.length t).length - 1) / 64) ++ [.f]
def Hf.ending (h : Hf) : List Stp := if h.used = h.size then [] else [.w (h.first + h.used) []]
/-- A journal. -/
structure Jn where
  now : Hf
  off : Bool
def Jn.turn (J : Jn) (M : Dk) (next : Hf) (l : List Stp) : Jn × Dk × Nat :=
  if (runS M l).2 then (⟨next, J.off⟩, (runS M l).1, 0) else (⟨⟨0, next.size, 0, 0, []⟩, true⟩, (runS M l).1, 7)
def Jn.append (J : Jn) (M : Dk) (s : List Nat) : Jn × Dk × Nat :=
  if J.off then (J, M, 7)
  else if J.now.room < s.length then (J, M, 6)
  else J.turn M ({ J.now with gen := max J.now.gen 1 }.with s) (({ J.now with gen := max J.now.gen 1 }.with s).ending ++ ({ J.now with gen := max J.now.gen 1 } : Hf).laying s)
/-- The half behind the texts l, and what lays them, a list for each; none, if they don't go into it. -/
def Hf.lays (h : Hf) : List (List Nat) → Option (Hf × List (List Stp))
  | [] => some (h, [])
  | t :: r => if h.room < t.length then none else match (h.with t).lays r with | none => none | some (k, ls) => some (k, h.laying t :: ls)
def someL (l : List (List Nat)) : List (List Nat) := if l = [] then [[]] else l
def Jn.anew (J : Jn) (M : Dk) (l : List (List Nat)) : Jn × Dk × Nat :=
  if J.off then (J, M, 7)
  else if J.now.gen = 1099511627776 then (J, M, 1)
  else match ({ J.now.other with gen := J.now.gen + 1 } : Hf).lays (someL l) with
    | none => (J, M, 6)
    | some (k, ls) => J.turn M k ([.w (J.now.other.first) [], .f] ++ k.ending ++ ls.reverse.flatten)
/-- A disk's journal. -/
def openJ (M : Dk) : Option Jn × Nat :=
  if M.n < 8 ∨ M.n % 2 ≠ 0 then (none, 1)
  else if M.off then (none, 7)
  else if ((⟨0, M.n / 2, 0, 0, []⟩ : Hf).told M).gen < ((⟨0, M.n / 2, 0, 0, []⟩ : Hf).other.told M).gen then (some ⟨(⟨0, M.n / 2, 0, 0, []⟩ : Hf).other.told M, false⟩, 0)
  else (some ⟨(⟨0, M.n / 2, 0, 0, []⟩ : Hf).told M, false⟩, 0)
end Go.Proofs.YtlogjpmdfimgdaaGreatDoor.Jf
namespace Go.Proofs.YtlogjpmdfimgdaaGreatDoor.Jf
open Go.RowKit Go.Own.Jf

theorem be_length (k n : Nat) : (be k n).length = k := by simp [be]
theorem be_B8 (k n : Nat) : B8 (be k n) := fun x hx => by
  simp only [be, List.mem_map] at hx
  obtain ⟨i, _, rfl⟩ := hx
  exact Nat.mod_lt _ (by decide)
theorem val_snoc (s : List Nat) (b : Nat) : val (s ++ [b]) = val s * 256 + b := by simp [val]
theorem be_succ (k n : Nat) : be (k + 1) n = be k (n / 256) ++ [n % 256] := by
  unfold be
  rw [List.range_succ, List.map_append]
  congr 1
  · apply List.map_congr_left
    intro i hi
    have hi' := List.mem_range.1 hi
    rw [show 8 * (k + 1 - 1 - i) = 8 + 8 * (k - 1 - i) by omega, Nat.pow_add, ← Nat.div_div_eq_div_mul]
  · simp
theorem val_be : ∀ (k n : Nat), n < 256 ^ k → val (be k n) = n
  | 0, n, h => by simp at h; subst h; rfl
  | k + 1, n, h => by
    rw [be_succ, val_snoc, val_be k (n / 256) (by rw [Nat.pow_succ] at h; omega)]
    omega
theorem secs_pos (k : Nat) : 1 ≤ secs k := by unfold secs; omega
theorem secs_room (k : Nat) : k + 50 ≤ secs k * 64 := by unfold secs; omega
theorem secs_small {k : Nat} (h : k ≤ 14) : secs k = 1 := by unfold secs; omega
theorem body_length (g n : Nat) (t : List Nat) : (bodyL g n t).length = 17 + t.length := by simp [bodyL, be_length]; omega
theorem all_length (g n : Nat) (t : List Nat) : (allL g n t).length = 49 + t.length := by rw [allL, List.length_append, body_length, Sm.digL_length]; omega
theorem laid_length (g n : Nat) (t : List Nat) : (laidL g n t).length = max 64 (50 + t.length) := by
  simp [laidL, all_length, rep_length]; omega
theorem laid_le (g n : Nat) (t : List Nat) : (laidL g n t).length ≤ secs t.length * 64 := by
  have h1 := secs_room t.length
  have h2 := secs_pos t.length
  rw [laid_length]; omega
/-- A record as it lies, filled up. -/
def recL (g n : Nat) (t : List Nat) : List Nat := laidL g n t ++ rep (secs t.length * 64 - (laidL g n t).length)
theorem rec_length (g n : Nat) (t : List Nat) : (recL g n t).length = secs t.length * 64 := by
  have := laid_le g n t
  rw [recL, List.length_append, rep_length]; omega
/-- A record's bytes, the mark between left out. -/
def midL (x : List Nat) (e : Nat) : List Nat := x.take 63 ++ (x.drop 64).take (e - 64)
theorem rec_mid (g n : Nat) (t r : List Nat) : ∃ z, midL (recL g n t ++ r) (secs t.length * 64) = allL g n t ++ z := by
  have hl := all_length g n t
  obtain ⟨A, hA⟩ : ∃ A, allL g n t = A := ⟨_, rfl⟩
  rw [hA] at hl
  unfold midL recL laidL
  rw [hA]
  by_cases h : t.length ≤ 14
  · rw [secs_small h, Nat.min_eq_right (by omega), List.take_of_length_le (Nat.le_refl _)]
    refine ⟨rep (63 - A.length), ?_⟩
    simp only [List.append_assoc, Nat.one_mul, Nat.sub_self, List.take_zero, List.append_nil]
    rw [← List.append_assoc, List.take_left' (by simp [rep_length]; omega)]
  · rw [Nat.min_eq_left (by omega)]
    have h1 : (A.take 63).length = 63 := by rw [List.length_take]; omega
    have h2 := secs_room t.length
    have e0 : rep (63 - 63) = [] := rfl
    simp only [e0, List.append_nil, List.append_assoc]
    rw [List.take_left' h1]
    have e1 : (A.take 63 ++ ([76] ++ (A.drop 63 ++ (rep (secs t.length * 64 - (A.take 63 ++ ([76] ++ A.drop 63)).length) ++ r)))).drop 64 = A.drop 63 ++ (rep (secs t.length * 64 - (A.take 63 ++ ([76] ++ A.drop 63)).length) ++ r) := by
      rw [← List.append_assoc, List.drop_left' (by rw [List.length_append, h1]; rfl)]
    rw [e1, List.take_append, List.take_of_length_le (l := A.drop 63) (by rw [List.length_drop]; omega)]
    exact ⟨_, by rw [← List.append_assoc, List.take_append_drop]⟩
theorem rec_head (g n : Nat) (t r : List Nat) : (recL g n t ++ r).take 49 = (allL g n t).take 49 := by
  have hl := all_length g n t
  unfold recL laidL
  obtain ⟨A, hA⟩ : ∃ A, allL g n t = A := ⟨_, rfl⟩
  rw [hA] at hl ⊢
  simp only [List.append_assoc]
  rw [List.take_append_of_le_length (by rw [List.length_take]; omega), List.take_take]
  congr 1; omega
theorem gi_take {x : List Nat} {i n : Nat} (h : i < n) : gi (x.take n) i = gi x i := by
  simp [gi, List.getD, h]
theorem rec_mark (g n : Nat) (t r : List Nat) : gi (recL g n t ++ r) 63 = 76 := by
  have hl := all_length g n t
  unfold recL laidL
  obtain ⟨A, hA⟩ : ∃ A, allL g n t = A := ⟨_, rfl⟩
  rw [hA] at hl ⊢
  have h1 : (A.take (min 63 A.length) ++ rep (63 - min 63 A.length)).length = 63 := by rw [List.length_append, List.length_take, rep_length]; omega
  simp only [List.append_assoc]
  rw [← List.append_assoc]
  unfold gi
  rw [List.getD_eq_getElem?_getD, List.getElem?_append_right (by omega), h1]
  rfl
theorem drop_take_of {x A : List Nat} {n a k : Nat} (h : x.take n = A.take n) (hk : a + k ≤ n) : (x.drop a).take k = (A.drop a).take k := by
  have e : ∀ z : List Nat, (z.drop a).take k = ((z.take n).drop a).take k := fun z => by
    rw [List.drop_take, List.take_take, Nat.min_eq_left (by omega)]
  rw [e x, e A, h]
theorem all_eq (g n : Nat) (t : List Nat) : allL g n t = 76 :: (be 8 g ++ (be 4 n ++ (be 4 t.length ++ (t ++ Sm.digL (bodyL g n t))))) := by
  unfold allL
  conv => lhs; arg 1; unfold bodyL
  simp only [List.append_assoc, List.cons_append, List.nil_append]
theorem all_gen (g n : Nat) (t : List Nat) : ((allL g n t).drop 1).take 8 = be 8 g := by
  rw [all_eq, List.drop_succ_cons, List.drop_zero, List.take_left' (be_length 8 g)]
theorem all_num (g n : Nat) (t : List Nat) : ((allL g n t).drop 9).take 4 = be 4 n := by
  rw [all_eq, List.drop_succ_cons, List.drop_left' (be_length 8 g), List.take_left' (be_length 4 n)]
theorem all_len (g n : Nat) (t : List Nat) : ((allL g n t).drop 13).take 4 = be 4 t.length := by
  rw [all_eq, List.drop_succ_cons, ← List.append_assoc (be 8 g), List.drop_left' (by rw [List.length_append, be_length, be_length]), List.take_left' (be_length 4 _)]
theorem all_text (g n : Nat) (t z : List Nat) : ((allL g n t ++ z).drop 17).take t.length = t := by
  unfold allL bodyL
  have e : ([76] ++ be 8 g ++ be 4 n ++ be 4 t.length).length = 17 := by simp [be_length]
  rw [List.append_assoc, List.append_assoc ([76] ++ be 8 g ++ be 4 n ++ be 4 t.length), List.drop_left' e, List.take_left' rfl]
theorem all_dig (g n : Nat) (t z : List Nat) : ((allL g n t ++ z).drop (17 + t.length)).take 32 = Sm.digL ((allL g n t ++ z).take (17 + t.length)) := by
  unfold allL
  rw [List.append_assoc, List.drop_left' (body_length g n t), List.take_left' (body_length g n t), List.take_left' (Sm.digL_length _)]
/-- What was laid is taken. -/
theorem rec_taken (g n : Nat) (t r : List Nat) (h1 : 1 ≤ g) (h2 : g ≤ 1099511627776) (hn : n < 4294967296) (ht : t.length ≤ 65535) : takenL (recL g n t ++ r) = some (g, n, t) := by
  have hh := rec_head g n t r
  have hm := rec_mark g n t r
  obtain ⟨z, hz⟩ := rec_mid g n t r
  have hlen : secs t.length * 64 ≤ (recL g n t ++ r).length := by rw [List.length_append, rec_length]; omega
  have hp := secs_pos t.length
  obtain ⟨x, hx⟩ : ∃ x, recL g n t ++ r = x := ⟨_, rfl⟩
  rw [hx] at hh hm hz hlen ⊢
  have e1 : val ((x.drop 1).take 8) = g := by rw [drop_take_of hh (by decide), all_gen, val_be]; omega
  have e2 : val ((x.drop 9).take 4) = n := by rw [drop_take_of hh (by decide), all_num, val_be]; omega
  have e3 : val ((x.drop 13).take 4) = t.length := by rw [drop_take_of hh (by decide), all_len, val_be]; omega
  have e0 : gi x 0 = 76 := by
    rw [← gi_take (n := 49) (by decide), hh, gi_take (by decide)]; rfl
  unfold takenL
  rw [e1, e2, e3, if_neg (by omega), if_neg (by omega), if_neg (by omega)]
  have hz' : x.take 63 ++ (x.drop 64).take (secs t.length * 64 - 64) = allL g n t ++ z := hz
  rw [hz', if_pos (all_dig g n t z), all_text]
/-- What is known of what is taken. -/
theorem taken_some {x : List Nat} {g n : Nat} {t : List Nat} (h : takenL x = some (g, n, t)) :
    64 ≤ x.length ∧ gi x 0 = 76 ∧ gi x 63 = 76 ∧ val ((x.drop 1).take 8) = g ∧ val ((x.drop 9).take 4) = n ∧ val ((x.drop 13).take 4) = t.length ∧ 1 ≤ g ∧ g ≤ 1099511627776 ∧ t.length ≤ 65535 ∧ secs t.length * 64 ≤ x.length ∧
    ((midL x (secs t.length * 64)).drop (17 + t.length)).take 32 = Sm.digL ((midL x (secs t.length * 64)).take (17 + t.length)) ∧ ((midL x (secs t.length * 64)).drop 17).take t.length = t := by
  unfold takenL at h
  split at h
  · cases h
  · rename_i c1
    split at h
    · cases h
    · rename_i c2
      split at h
      · cases h
      · rename_i c3
        split at h
        · rename_i c4
          obtain ⟨k, hk⟩ : ∃ k, val ((x.drop 13).take 4) = k := ⟨_, rfl⟩
          rw [hk] at h c2 c3 c4
          simp only [Option.some.injEq, Prod.mk.injEq] at h
          obtain ⟨hg, hn, ht⟩ := h
          have hr := secs_room k
          have hp := secs_pos k
          have hl : t.length = k := by
            rw [← ht]
            simp only [List.length_take, List.length_drop, List.length_append]
            omega
          rw [hl, hk]
          refine ⟨by omega, by omega, by omega, hg, hn, rfl, by omega, by omega, by omega, by omega, c4, ?_⟩
          exact ht
        · cases h
theorem mid_of {x y : List Nat} {e : Nat} (h64 : 64 ≤ e) (h : y.take e = x.take e) : midL y e = midL x e := by
  unfold midL
  have e1 : y.take 63 = x.take 63 := by
    have := congrArg (List.take 63) h
    rwa [List.take_take, List.take_take, Nat.min_eq_left (by omega)] at this
  rw [e1, drop_take_of h (a := 64) (k := e - 64) (by omega)]
/-- It hangs on its own sectors alone. -/
theorem taken_local {x y : List Nat} {g n : Nat} {t : List Nat} (h : takenL x = some (g, n, t)) (hy : y.take (secs t.length * 64) = x.take (secs t.length * 64)) : takenL y = some (g, n, t) := by
  obtain ⟨a1, a2, a3, a4, a5, a6, a7, a8, a9, a10, a11, a12⟩ := taken_some h
  have hp := secs_pos t.length
  have hl : secs t.length * 64 ≤ y.length := by
    have := congrArg List.length hy
    rw [List.length_take, List.length_take] at this
    omega
  have hg : ∀ i, i < secs t.length * 64 → gi y i = gi x i := fun i hi => by rw [← gi_take hi, hy, gi_take hi]
  have e1 : val ((y.drop 1).take 8) = g := by rw [drop_take_of hy (by omega), a4]
  have e2 : val ((y.drop 9).take 4) = n := by rw [drop_take_of hy (by omega), a5]
  have e3 : val ((y.drop 13).take 4) = t.length := by rw [drop_take_of hy (by omega), a6]
  have e4 : midL y (secs t.length * 64) = midL x (secs t.length * 64) := mid_of (by omega) hy
  unfold takenL
  rw [e1, e2, e3, if_neg (by rw [hg 0 (by omega), hg 63 (by omega)]; omega), if_neg (by omega), if_neg (by omega)]
  have e4' : y.take 63 ++ (y.drop 64).take (secs t.length * 64 - 64) = midL x (secs t.length * 64) := e4
  rw [e4', if_pos a11, a12]
/-- An empty sector is no record. -/
theorem taken_empty {x : List Nat} (h : gi x 0 ≠ 76) : takenL x = none := by
  unfold takenL; rw [if_pos (by omega)]
theorem taken_short {x : List Nat} (h : x.length < 64) : takenL x = none := by
  unfold takenL; rw [if_pos (by omega)]
end Go.Proofs.YtlogjpmdfimgdaaGreatDoor.Jf

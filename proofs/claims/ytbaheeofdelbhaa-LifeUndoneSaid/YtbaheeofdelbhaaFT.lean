/- A region that draws its order: its first operations by properties that last, its last ones, which wait for them all, one by one. No condition. -/
import Derived.Test.YtbaheeofdelbhaaFR3
namespace Go.Own.Fr
open Go Go.RowKit Go.Own
/-- Does o wait for number j, by so many steps? -/
def waitsN (l : List Oper) : Nat → Oper → Nat → Bool
  | 0, o, j => waits o j
  | n + 1, o, j => waits o j || l.zipIdx.any fun (o2, m) => waits o m && waitsN l n o2 j
theorem waitsN_done {l : List Oper} {done : Array Bool} (hcl : ∀ i o, l[i]? = some o → done.getD i false = true → ∀ e ∈ o.after, Region.binds .any e = true → done.getD e.on false = true) :
    ∀ (n : Nat) (o : Oper) (j : Nat), (∀ e ∈ o.after, Region.binds .any e = true → done.getD e.on false = true) → waitsN l n o j = true → done.getD j false = true
  | 0, o, j, hdo, h => by
    obtain ⟨e, he, hbi, hon⟩ := waits_spec h
    exact hon ▸ hdo e he hbi
  | n + 1, o, j, hdo, h => by
    unfold waitsN at h
    rw [Bool.or_eq_true] at h
    rcases h with h | h
    · obtain ⟨e, he, hbi, hon⟩ := waits_spec h
      exact hon ▸ hdo e he hbi
    · obtain ⟨⟨o2, m⟩, hm2, h⟩ := List.any_eq_true.1 h
      rw [List.mem_zipIdx_iff_getElem?] at hm2
      simp only [Bool.and_eq_true] at h
      obtain ⟨e, he, hbi, hon⟩ := waits_spec h.1
      have h2 := hdo e he hbi
      rw [hon] at h2
      exact waitsN_done hcl n o2 j (hcl m o2 (by simpa using hm2) h2) h.2
/-- Each of the last operations waits for all that stand ahead of it, by up to six steps. -/
def tailB (hd tl : List Oper) : Bool := tl.zipIdx.all fun (o, k) => (List.range (hd.length + k)).all fun j => waitsN (hd ++ tl) 5 o j
theorem any_fine_tail {P : Program} {Q : Exit → Act → World → Prop} {a0 : Act} {w0 : World} (hd tl : List Oper) {L : List Oper} (hL : L = hd ++ tl) (T : Nat → Value → World → Prop) (hp : plainG hd a0.tmps.size = true)
    (hb0 : ((hd ++ tl).zipIdx.all fun (o, i) => o.after.all fun e => !Region.binds .any e || decide (e.on < i)) = true) (ht : tailB hd tl = true)
    (hlast : ∀ i v W W', T i v W → Below W.heap.size W W' → T i v W')
    (hguard : ∀ (i : Nat) (o : Oper) j b, hd[i]? = some o → o.guard = some (j, b) → ∀ v W, T j v W → v = .bool b)
    (hstep : ∀ i o, hd[i]? = some o → ∀ (a : Act) (W : World), Below w0.heap.size w0 W → (∀ j oj s, hd[j]? = some oj → oj.dst = some s → waits o j = true → T j (a.tmps.getD s undef) W) → (∀ s, keepsB hd i s = true → a.tmps.getD s undef = a0.tmps.getD s undef) → Lays P T i o a W)
    (hend : ∀ (a : Act) (W : World), Below w0.heap.size w0 W → a.defers = a0.defers → a.tmps.size = a0.tmps.size → (∀ s, (hd.all fun o => decide (o.dst ≠ some s)) = true → a.tmps.getD s undef = a0.tmps.getD s undef) → (∀ i o s, hd[i]? = some o → o.dst = some s → T i (a.tmps.getD s undef) W) → wpList P (hd ++ tl).toArray Q tl a W) :
    wpAny P .any L.toArray Q L.toArray.size (Array.replicate L.toArray.size false) a0 { w0 with drawn := w0.drawn + 1 } := by
  subst hL
  simp only [plainG, Bool.and_eq_true, decide_eq_true_eq] at hp
  obtain ⟨⟨hb, hg⟩, hn⟩ := hp
  have hg2 : ∀ (i : Nat) (o : Oper), hd[i]? = some o → (∃ s, o.dst = some s ∧ s < a0.tmps.size) ∧ ∀ j b, o.guard = some (j, b) → waits o j = true := fun i o ho => by
    have h1 := List.all_eq_true.1 hg o (List.mem_of_getElem? ho)
    simp only [Bool.and_eq_true, Option.any_eq_true, decide_eq_true_eq] at h1
    refine ⟨h1.1, fun j b hjb => ?_⟩
    have h2 := h1.2
    rw [hjb] at h2
    exact h2
  have hnd : ∀ (i j : Nat) (oi oj : Oper), hd[i]? = some oi → hd[j]? = some oj → oi.dst = oj.dst → i = j := fun i j oi oj h1 h2 e => by
    have hi := (List.getElem?_eq_some_iff.1 h1).1
    have hj := (List.getElem?_eq_some_iff.1 h2).1
    refine (List.getElem_inj (xs := hd.map fun o => o.dst) (h₀ := by simpa using hi) (h₁ := by simpa using hj) hn).1 ?_
    simp only [List.getElem_map]
    rw [(List.getElem?_eq_some_iff.1 h1).2, (List.getElem?_eq_some_iff.1 h2).2, e]
  have hhd : ∀ {i : Nat}, i < hd.length → (hd ++ tl)[i]? = hd[i]? := fun h => List.getElem?_append_left h
  have htl : ∀ {k : Nat} {o : Oper}, (hd ++ tl)[hd.length + k]? = some o → ∀ j, j < hd.length + k → waitsN (hd ++ tl) 5 o j = true := fun {k o} ho j hj => by
    rw [List.getElem?_append_right (by omega), Nat.add_sub_cancel_left] at ho
    have h1 := List.all_eq_true.1 ht (o, k) (by rw [List.mem_zipIdx_iff_getElem?]; simpa using ho)
    exact List.all_eq_true.1 h1 j (List.mem_range.2 hj)
  refine wpAny_of_inv2 (fun done a W => done.size = (hd ++ tl).length ∧ (∀ i o, (hd ++ tl)[i]? = some o → done.getD i false = true → ∀ e ∈ o.after, Region.binds .any e = true → done.getD e.on false = true) ∧
      (((∀ i, hd.length ≤ i → done.getD i false = false) ∧ FInv hd T a0 w0 done a W) ∨
       ∃ m, (∀ i, i < hd.length + m → done.getD i false = true) ∧ (∀ i, hd.length + m ≤ i → done.getD i false = false) ∧ wpList P (hd ++ tl).toArray Q (tl.drop m) a W)) (by simpa using hb0) ?_ ?_ _ _ _ _ (by simp) ?_ ?_
  · rintro done a W i ⟨hds, hcl, hI⟩ hnd1 hdep hlt
    have hil : i < (hd ++ tl).length := by simpa using hlt
    have ho : (hd ++ tl)[i]? = some (hd ++ tl)[i] := List.getElem?_eq_getElem hil
    generalize hoi : (hd ++ tl)[i] = o at ho
    have hnf : done.getD i false = false := by
      cases h : done.getD i false with
      | false => rfl
      | true => rw [getD_both hnd1] at h; cases h
    have hdo := hdep o (by simpa using ho)
    have hcl' : ∀ j oj, (hd ++ tl)[j]? = some oj → (done.setIfInBounds i true).getD j false = true → ∀ e ∈ oj.after, Region.binds .any e = true → (done.setIfInBounds i true).getD e.on false = true := fun j oj hj hdj e he hbi => by
      rcases done_set hdj with h1 | h1
      · subst h1
        have : oj = o := Option.some.inj (hj.symm.trans ho)
        subst this
        have h2 := hdo e he hbi
        by_cases e2 : i = e.on
        · rw [← e2] at h2; rw [hnf] at h2; cases h2
        · rw [getD_set_ne false e2]; exact h2
      · have h2 := hcl j oj hj h1 e he hbi
        by_cases e2 : i = e.on
        · rw [← e2] at h2; rw [hnf] at h2; cases h2
        · rw [getD_set_ne false e2]; exact h2
    -- what the tail's operation waits for is done
    have hw2 : ∀ k, i = hd.length + k → ∀ j, j < i → done.getD j false = true := fun k hk j hj => by
      exact waitsN_done hcl 5 o j hdo (htl (k := k) (o := o) (by rw [← hk]; exact ho) j (by omega))
    have hseq : ∀ m, i = hd.length + m → (∀ j, j < i → done.getD j false = true) → (∀ j, i ≤ j → done.getD j false = false) → wpList P (hd ++ tl).toArray Q (tl.drop m) a W →
        wpOp P (hd ++ tl).toArray Q i (fun a' W' => (done.setIfInBounds i true).size = (hd ++ tl).length ∧ (∀ i_1 o, (hd ++ tl)[i_1]? = some o → (done.setIfInBounds i true).getD i_1 false = true → ∀ e ∈ o.after, Region.binds .any e = true → (done.setIfInBounds i true).getD e.on false = true) ∧
          (((∀ j, hd.length ≤ j → (done.setIfInBounds i true).getD j false = false) ∧ FInv hd T a0 w0 (done.setIfInBounds i true) a' W') ∨
           ∃ m, (∀ j, j < hd.length + m → (done.setIfInBounds i true).getD j false = true) ∧ (∀ j, hd.length + m ≤ j → (done.setIfInBounds i true).getD j false = false) ∧ wpList P (hd ++ tl).toArray Q (tl.drop m) a' W')) a W := fun m hm1 hlow hhigh hl => by
      have hom : tl[m]? = some o := by
        have := ho
        rw [hm1, List.getElem?_append_right (by omega), Nat.add_sub_cancel_left] at this
        exact this
      have hml := (List.getElem?_eq_some_iff.1 hom).1
      rw [List.drop_eq_getElem_cons hml, (List.getElem?_eq_some_iff.1 hom).2] at hl
      have hK : ∀ a' W', wpList P (hd ++ tl).toArray Q (tl.drop (m + 1)) a' W' → ((done.setIfInBounds i true).size = (hd ++ tl).length ∧ (∀ i_1 o, (hd ++ tl)[i_1]? = some o → (done.setIfInBounds i true).getD i_1 false = true → ∀ e ∈ o.after, Region.binds .any e = true → (done.setIfInBounds i true).getD e.on false = true) ∧
          (((∀ j, hd.length ≤ j → (done.setIfInBounds i true).getD j false = false) ∧ FInv hd T a0 w0 (done.setIfInBounds i true) a' W') ∨
           ∃ m, (∀ j, j < hd.length + m → (done.setIfInBounds i true).getD j false = true) ∧ (∀ j, hd.length + m ≤ j → (done.setIfInBounds i true).getD j false = false) ∧ wpList P (hd ++ tl).toArray Q (tl.drop m) a' W')) := fun a' W' h => by
        refine ⟨by simp [hds], hcl', .inr ⟨m + 1, fun j hj => ?_, fun j hj => ?_, h⟩⟩
        · by_cases e : i = j
          · subst e; simp [hds ▸ hil]
          · rw [getD_set_ne false e]; exact hlow j (by omega)
        · rw [getD_set_ne false (by omega)]; exact hhigh j (by omega)
      unfold wpOp
      have ho' : (hd ++ tl).toArray[i]? = some o := by simpa using ho
      rw [ho']
      simp only [wpList] at hl
      split at hl
      · rename_i hw
        simp only [hw, if_true]
        exact hl.imp (Oper.wp_mono hK) fun h => h
      · rename_i hw
        simp only [hw]
        exact hK _ _ hl
    rcases hI with ⟨hT0, hI⟩ | ⟨m, hlow, hhigh, hl⟩
    · by_cases hih : i < hd.length
      · rw [hhd hih] at ho
        obtain ⟨⟨s, hs, hsz⟩, hgw⟩ := hg2 i o ho
        have hvals : ∀ j oj s, hd[j]? = some oj → oj.dst = some s → waits o j = true → T j (a.tmps.getD s undef) W := fun j oj sj hj hsj hw => by
          obtain ⟨e, he, hbi, hon⟩ := waits_spec hw
          exact hI.vals j oj sj hj (hon ▸ hdo e he hbi) hsj
        refine wpOp_want o (by simpa [hhd hih] using ho) ?_ (Oper.wp_mono ?_ (hstep i o ho a W hI.below hvals (fun s' hk => hI.fixed s' fun j oj hj hdj hds2 => by
          have h1 := List.all_eq_true.1 hk (oj, j) (by rw [List.mem_zipIdx_iff_getElem?]; simpa using hj)
          simp only [Bool.or_eq_true, decide_eq_true_eq] at h1
          rcases h1 with (h1 | h1) | h1
          · exact h1 hds2
          · subst h1; rw [hnf] at hdj; cases hdj
          · obtain ⟨e, he, hbi, hon⟩ := waits_spec h1
            have h2 := hI.closed j oj hj hdj e he hbi
            rw [hon, hnf] at h2; cases h2) _))
        · cases hgd : o.guard with
          | none => simp [Region.wanted, hgd]
          | some p =>
            obtain ⟨j, b⟩ := p
            have hw := hgw j b hgd
            obtain ⟨e, he, hbi, hon⟩ := waits_spec hw
            have hdj : done.getD j false = true := hon ▸ hdo e he hbi
            have hjl : j < hd.length := by
              rcases Nat.lt_or_ge j hd.length with h | h
              · exact h
              · rw [hT0 j h] at hdj; cases hdj
            have hoj : hd[j]? = some hd[j] := List.getElem?_eq_getElem hjl
            obtain ⟨⟨sj, hsj, hsjz⟩, _⟩ := hg2 j _ hoj
            have hT := hvals j _ sj hoj hsj hw
            have hv := hguard i o j b ho hgd _ _ hT
            have ht2 : a.tmps[sj]? = some (.bool b) := by
              have h3 : sj < a.tmps.size := by rw [hI.size]; exact hsjz
              rw [← hv]
              simp [Array.getD, h3]
            have hoj2 : (hd ++ tl)[j]? = some hd[j] := by rw [hhd hjl]; exact hoj
            simp [Region.wanted, hgd, yielded, hoj2, hsj, ht2]
        · rintro a' W' ⟨v, rfl, hB, hTi⟩
          refine ⟨by simp [hds], hcl', .inl ⟨fun j hj => by rw [getD_set_ne false (by omega)]; exact hT0 j hj, ?_⟩⟩
          have hput := fun k => put_at (a := a) (s := s) (v := v) (by rw [hI.size]; exact hsz) k
          rw [hs]
          refine ⟨hI.below.trans (hB.mono hI.below.size), hI.defers, ?_, fun k hk => ?_, fun j oj sj hj hdj hsj => ?_, fun j oj hj hdj e he hbi => ?_⟩
          · simp [Act.put, hI.size]
          · rw [hput k]
            have hne : k ≠ s := fun e => hk i o ho (by
              have hds : i < done.size := by omega
              simp [hds]) (by rw [e]; exact hs)
            rw [if_neg hne]
            exact hI.fixed k fun j oj hj hdj => hk j oj hj (by
              by_cases e : i = j
              · subst e; rw [hnf] at hdj; cases hdj
              · rw [getD_set_ne false e]; exact hdj)
          · rw [hput sj]
            rcases done_set hdj with h1 | h1
            · subst h1
              have : oj = o := Option.some.inj (hj.symm.trans ho)
              subst this
              rw [if_pos (Option.some.inj (hsj.symm.trans hs))]
              exact hTi
            · have hne : sj ≠ s := fun e => by
                have := hnd j i oj o hj ho (by rw [hsj, hs, e])
                subst this
                rw [hnf] at h1; cases h1
              rw [if_neg hne]
              exact hlast _ _ _ _ (hI.vals j oj sj hj h1 hsj) hB
          · exact hcl' j oj (by rw [hhd (List.getElem?_eq_some_iff.1 hj).1]; exact hj) hdj e he hbi
      · obtain ⟨k, hk⟩ : ∃ k, i = hd.length + k := ⟨i - hd.length, by omega⟩
        have hlow := hw2 k hk
        have hk0 : k = 0 := by
          rcases Nat.eq_zero_or_pos k with h | h
          · exact h
          · have h1 := hlow hd.length (by omega)
            rw [hT0 _ (Nat.le_refl _)] at h1; cases h1
        subst hk0
        refine hseq 0 hk hlow (fun j hj => hT0 j (by omega)) ?_
        rw [List.drop_zero]
        exact hend a W hI.below hI.defers hI.size (fun s hs => hI.fixed s fun j o ho _ => by
          have := List.all_eq_true.1 hs o (List.mem_of_getElem? ho)
          simpa using this) (fun j o s ho hs => hI.vals j o s ho (hlow j (by have := (List.getElem?_eq_some_iff.1 ho).1; omega)) hs)
    · have him : i = hd.length + m := by
        rcases Nat.lt_trichotomy i (hd.length + m) with h | h | h
        · rw [hlow i h] at hnf; cases hnf
        · exact h
        · obtain ⟨k, hk⟩ : ∃ k, i = hd.length + k := ⟨i - hd.length, by omega⟩
          have h1 := hw2 k hk (hd.length + m) h
          rw [hhigh _ (Nat.le_refl _)] at h1; cases h1
      exact hseq m him (fun j hj => hlow j (by omega)) (fun j hj => hhigh j (by omega)) hl
  · rintro done a W ⟨hds, hcl, hI⟩ hall
    have hall' : ∀ i, i < (hd ++ tl).length → done.getD i false = true := fun i hi => hall i (by simpa using hi)
    rcases hI with ⟨hT0, hI⟩ | ⟨m, hlow, hhigh, hl⟩
    · have h0 : tl = [] := by
        cases tl with
        | nil => rfl
        | cons o r =>
          have h1 := hall' hd.length (by simp)
          rw [hT0 _ (Nat.le_refl _)] at h1; cases h1
      subst h0
      exact hend a W hI.below hI.defers hI.size (fun s hs => hI.fixed s fun j o ho _ => by
          have := List.all_eq_true.1 hs o (List.mem_of_getElem? ho)
          simpa using this) (fun j o s ho hs => hI.vals j o s ho (hall' j (by have := (List.getElem?_eq_some_iff.1 ho).1; simp; omega)) hs)
    · have hml : tl.length ≤ m := by
        rcases Nat.lt_or_ge m tl.length with h | h
        · have h1 := hall' (hd.length + m) (by simp; omega)
          rw [hhigh _ (Nat.le_refl _)] at h1; cases h1
        · exact h
      rw [List.drop_of_length_le hml] at hl
      exact hl
  · have hc : ∀ (n m : Nat), ((List.range m).countP fun i => !(Array.replicate n false).getD i true) ≤ m := fun n m => by
      have := List.countP_le_length (l := List.range m) (p := fun i => !(Array.replicate n false).getD i true)
      simpa using this
    exact hc _ _
  · have hz : ∀ n j, (Array.replicate n false).getD j false ≠ true := fun n j h => by rw [getD_replicate_false] at h; cases h
    exact ⟨by simp, fun i o _ h => absurd h (hz _ _), .inl ⟨fun i _ => getD_replicate_false _ _, ⟨rfl, rfl, rfl, Nat.le_refl _, fun _ _ => rfl⟩, rfl, rfl, fun _ _ => rfl, fun i o s _ h => absurd h (hz _ _), fun i o _ h => absurd h (hz _ _)⟩⟩
theorem wp_region_fine_tail {P : Program} {id : Nat} {Q : Exit → Act → World → Prop} {a0 : Act} {w0 : World} (hd tl : List Oper) {L : List Oper} (hL : L = hd ++ tl) (T : Nat → Value → World → Prop) (hm : P.follows .mixedOrders = true) (hp : plainG hd a0.tmps.size = true)
    (hb0 : ((hd ++ tl).zipIdx.all fun (o, i) => o.after.all fun e => !Region.binds .any e || decide (e.on < i)) = true) (ht : tailB hd tl = true)
    (hlast : ∀ i v W W', T i v W → Below W.heap.size W W' → T i v W')
    (hguard : ∀ (i : Nat) (o : Oper) j b, hd[i]? = some o → o.guard = some (j, b) → ∀ v W, T j v W → v = .bool b)
    (hstep : ∀ i o, hd[i]? = some o → ∀ (a : Act) (W : World), Below w0.heap.size w0 W → (∀ j oj s, hd[j]? = some oj → oj.dst = some s → waits o j = true → T j (a.tmps.getD s undef) W) → (∀ s, keepsB hd i s = true → a.tmps.getD s undef = a0.tmps.getD s undef) → Lays P T i o a W)
    (hend : ∀ (a : Act) (W : World), Below w0.heap.size w0 W → a.defers = a0.defers → a.tmps.size = a0.tmps.size → (∀ s, (hd.all fun o => decide (o.dst ≠ some s)) = true → a.tmps.getD s undef = a0.tmps.getD s undef) → (∀ i o s, hd[i]? = some o → o.dst = some s → T i (a.tmps.getD s undef) W) → wpList P (hd ++ tl).toArray Q tl a W) :
    (Code.region id L.toArray true).wp P Q a0 w0 := wp_region_any hm (any_fine_tail hd tl hL T hp hb0 ht hlast hguard hstep hend)
/-! ### Properties by a list; operations by themselves -/
def TL (ps : List (Value → World → Prop)) (i : Nat) : Value → World → Prop := ps.getD i fun _ _ => True
def Lasts (p : Value → World → Prop) : Prop := ∀ v W W', p v W → Below W.heap.size W W' → p v W'
def eqv (x : Value) : Value → World → Prop := fun v _ => v = x
theorem eqv_last (x : Value) : Lasts (eqv x) := fun _ _ _ h _ => h
theorem TL_last {ps : List (Value → World → Prop)} (h : ∀ p ∈ ps, Lasts p) (i : Nat) (v : Value) (W W' : World) (hT : TL ps i v W) (hB : Below W.heap.size W W') : TL ps i v W' := by
  unfold TL at *
  rw [List.getD_eq_getElem?_getD] at *
  cases hi : ps[i]? with
  | none => rw [hi] at hT; trivial
  | some p => rw [hi] at hT; exact h p (List.mem_of_getElem? hi) _ _ _ hT hB
theorem TL_no_guard {hd : List Oper} (h : hd.all (fun o => o.guard.isNone) = true) {T : Nat → Value → World → Prop} : ∀ (i : Nat) (o : Oper) j b, hd[i]? = some o → o.guard = some (j, b) → ∀ v W, T j v W → v = .bool b := fun i o j b ho hg => by
  have := List.all_eq_true.1 h o (List.mem_of_getElem? ho)
  rw [hg] at this; cases this
theorem lays_eq {P : Program} {T : Nat → Value → World → Prop} {i : Nat} {o : Oper} {a : Act} {W : World} (v : Value) (hT : T i v W) (hr : (execOp a.eval o).run P W = .ok (.value v) W) : Lays P T i o a W := lays_same hr hT
theorem exec_move {P : Program} {ρ : Operand → Value} {W : World} {dst : Option Tmp} {ty : TypeId} {pos : String} {after : Array Edge} {guard : Option (Nat × Bool)} {v : Value} {x : Operand} (h : ρ x = v) : (execOp ρ { dst, op := .move x, type := ty, pos, after, guard }).run P W = .ok (.value v) W := by
  subst h; rfl
theorem exec_assign {P : Program} {ρ : Operand → Value} {W : World} {dst : Option Tmp} {ty : TypeId} {pos : String} {after : Array Edge} {guard : Option (Nat × Bool)} {v : Value} {x : Operand} (h : ρ x = v) : (execOp ρ { dst, op := .assign x, type := ty, pos, after, guard }).run P W = .ok (.value v) W := by
  subst h; rfl
theorem frame_lit (a : Act) (n : Nat) (h : a.tmps.size = n) (hd : a.defers = []) : a = { tmps := ((List.range n).map fun k => a.tmps.getD k undef).toArray, defers := [] } := by
  obtain ⟨t, d⟩ := a
  simp only at h hd
  subst hd
  congr 1
  apply Array.ext
  · simp [h]
  · intro i h1 h2
    simp [Array.getD, h1]
end Go.Own.Fr
namespace Go.Own.Fr
open Go Go.RowKit Go.Own
theorem wp_region_fine_drop {P : Program} {id : Nat} {Q : Exit → Act → World → Prop} {a0 : Act} {w0 : World} {L : List Oper} (n : Nat) (T : Nat → Value → World → Prop) (hm : P.follows .mixedOrders = true) (hp : plainG (L.take n) a0.tmps.size = true)
    (hb0 : (L.zipIdx.all fun (o, i) => o.after.all fun e => !Region.binds .any e || decide (e.on < i)) = true) (ht : tailB (L.take n) (L.drop n) = true)
    (hlast : ∀ i v W W', T i v W → Below W.heap.size W W' → T i v W')
    (hguard : ∀ (i : Nat) (o : Oper) j b, (L.take n)[i]? = some o → o.guard = some (j, b) → ∀ v W, T j v W → v = .bool b)
    (hstep : ∀ i o, (L.take n)[i]? = some o → ∀ (a : Act) (W : World), Below w0.heap.size w0 W → (∀ j oj s, (L.take n)[j]? = some oj → oj.dst = some s → waits o j = true → T j (a.tmps.getD s undef) W) → (∀ s, keepsB (L.take n) i s = true → a.tmps.getD s undef = a0.tmps.getD s undef) → Lays P T i o a W)
    (hend : ∀ (a : Act) (W : World), Below w0.heap.size w0 W → a.defers = a0.defers → a.tmps.size = a0.tmps.size → (∀ s, ((L.take n).all fun o => decide (o.dst ≠ some s)) = true → a.tmps.getD s undef = a0.tmps.getD s undef) → (∀ i o s, (L.take n)[i]? = some o → o.dst = some s → T i (a.tmps.getD s undef) W) → wpList P L.toArray Q (L.drop n) a W) :
    (Code.region id L.toArray true).wp P Q a0 w0 :=
  wp_region_fine_tail (L.take n) (L.drop n) (List.take_append_drop n L).symm T hm hp (by rw [List.take_append_drop]; exact hb0) ht hlast hguard hstep (by rw [List.take_append_drop]; exact hend)
theorem any_fine_drop {P : Program} {Q : Exit → Act → World → Prop} {a0 : Act} {w0 : World} {L : List Oper} (n : Nat) (T : Nat → Value → World → Prop) (hp : plainG (L.take n) a0.tmps.size = true)
    (hb0 : (L.zipIdx.all fun (o, i) => o.after.all fun e => !Region.binds .any e || decide (e.on < i)) = true) (ht : tailB (L.take n) (L.drop n) = true)
    (hlast : ∀ i v W W', T i v W → Below W.heap.size W W' → T i v W')
    (hguard : ∀ (i : Nat) (o : Oper) j b, (L.take n)[i]? = some o → o.guard = some (j, b) → ∀ v W, T j v W → v = .bool b)
    (hstep : ∀ i o, (L.take n)[i]? = some o → ∀ (a : Act) (W : World), Below w0.heap.size w0 W → (∀ j oj s, (L.take n)[j]? = some oj → oj.dst = some s → waits o j = true → T j (a.tmps.getD s undef) W) → (∀ s, keepsB (L.take n) i s = true → a.tmps.getD s undef = a0.tmps.getD s undef) → Lays P T i o a W)
    (hend : ∀ (a : Act) (W : World), Below w0.heap.size w0 W → a.defers = a0.defers → a.tmps.size = a0.tmps.size → (∀ s, ((L.take n).all fun o => decide (o.dst ≠ some s)) = true → a.tmps.getD s undef = a0.tmps.getD s undef) → (∀ i o s, (L.take n)[i]? = some o → o.dst = some s → T i (a.tmps.getD s undef) W) → wpList P L.toArray Q (L.drop n) a W) :
    wpAny P .any L.toArray Q L.toArray.size (Array.replicate L.toArray.size false) a0 { w0 with drawn := w0.drawn + 1 } :=
  any_fine_tail (L.take n) (L.drop n) (List.take_append_drop n L).symm T hp (by rw [List.take_append_drop]; exact hb0) ht hlast hguard hstep (by rw [List.take_append_drop]; exact hend)
end Go.Own.Fr

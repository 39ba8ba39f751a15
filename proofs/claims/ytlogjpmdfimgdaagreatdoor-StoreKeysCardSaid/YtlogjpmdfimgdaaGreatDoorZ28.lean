/- A region that draws its order: its first operations by properties that last, and by what holds of two of them; its last ones one by one. No condition. -/
import Derived.Test.YtlogjpmdfimgdaaGreatDoorZ16
namespace Go.Own.Jf
open Go Go.RowKit
/-- What holds of the values of any two operations that are done. -/
def Prs (U : Nat → Nat → Value → Value → Prop) (hd : List Oper) (done : Array Bool) (a : Act) : Prop :=
  ∀ i j oi oj si sj, i ≠ j → hd[i]? = some oi → hd[j]? = some oj → done.getD i false = true → done.getD j false = true → oi.dst = some si → oj.dst = some sj → U i j (a.tmps.getD si undef) (a.tmps.getD sj undef)
theorem any_fine_pairs {P : Program} {Q : Exit → Act → World → Prop} {a0 : Act} {w0 : World} (hd tl : List Oper) {L : List Oper} (hL : L = hd ++ tl) (T D : Nat → Value → World → Prop) (U : Nat → Nat → Value → Value → Prop) (hU : ∀ i j v x W, D i v W → T j x W → U i j v x ∧ U j i x v) (hp : plainG hd a0.tmps.size = true)
    (hb0 : ((hd ++ tl).zipIdx.all fun (o, i) => o.after.all fun e => !Region.binds .any e || decide (e.on < i)) = true) (ht : tailB hd tl = true)
    (hlast : ∀ i v W W', T i v W → Below W.heap.size W W' → T i v W')
    (hguard : ∀ (i : Nat) (o : Oper) j b, hd[i]? = some o → o.guard = some (j, b) → ∀ v W, T j v W → v = .bool b)
    (hstep : ∀ i o, hd[i]? = some o → ∀ (a : Act) (W : World), Below w0.heap.size w0 W → (∀ j oj s, hd[j]? = some oj → oj.dst = some s → waits o j = true → T j (a.tmps.getD s undef) W) → (∀ s, keepsB hd i s = true → a.tmps.getD s undef = a0.tmps.getD s undef) → Lays P (fun k v W' => T k v W' ∧ D k v W) i o a W)
    (hend : ∀ (a : Act) (W : World), Below w0.heap.size w0 W → a.defers = a0.defers → a.tmps.size = a0.tmps.size → (∀ s, (hd.all fun o => decide (o.dst ≠ some s)) = true → a.tmps.getD s undef = a0.tmps.getD s undef) → (∀ i o s, hd[i]? = some o → o.dst = some s → T i (a.tmps.getD s undef) W) → (∀ i j oi oj si sj, i ≠ j → hd[i]? = some oi → hd[j]? = some oj → oi.dst = some si → oj.dst = some sj → U i j (a.tmps.getD si undef) (a.tmps.getD sj undef)) → wpList P (hd ++ tl).toArray Q tl a W) :
    wpAny P .any L.toArray Q L.toArray.size (Array.replicate L.toArray.size false) a0 { w0 with drawn := w0.drawn + 1 } := by
  subst hL
  simp only [plainG, Bool.and_eq_true, decide_eq_true_eq] at hp
  obtain ⟨⟨hb, hg⟩, hn⟩ := hp
  have hg2 : ∀ (i : Nat) (o : Oper), hd[i]? = some o → (∃ s, o.dst = some s ∧ s < a0.tmps.size) ∧ ∀ j b, o.guard = some (j, b) → waits o j = true := fun i o ho => by
    have h1 := List.all_eq_true.1 hg o (List.mem_of_getElem? ho)
    simp only [Bool.and_eq_true, Option.any_eq_true, decide_eq_true_eq] at h1
    refine ⟨h1.1, fun j b hjb => ?_⟩
    have h2 := h1.2
    rw [hjb] at h2
    exact h2
  have hnd : ∀ (i j : Nat) (oi oj : Oper), hd[i]? = some oi → hd[j]? = some oj → oi.dst = oj.dst → i = j := fun i j oi oj h1 h2 e => by
    have hi := (List.getElem?_eq_some_iff.1 h1).1
    have hj := (List.getElem?_eq_some_iff.1 h2).1
    refine (List.getElem_inj (xs := hd.map fun o => o.dst) (h₀ := by simpa using hi) (h₁ := by simpa using hj) hn).1 ?_
    simp only [List.getElem_map]
    rw [(List.getElem?_eq_some_iff.1 h1).2, (List.getElem?_eq_some_iff.1 h2).2, e]
  have hhd : ∀ {i : Nat}, i < hd.length → (hd ++ tl)[i]? = hd[i]? := fun h => List.getElem?_append_left h
  have htl : ∀ {k : Nat} {o : Oper}, (hd ++ tl)[hd.length + k]? = some o → ∀ j, j < hd.length + k → waitsN (hd ++ tl) 5 o j = true := fun {k o} ho j hj => by
    rw [List.getElem?_append_right (by omega), Nat.add_sub_cancel_left] at ho
    have h1 := List.all_eq_true.1 ht (o, k) (by rw [List.mem_zipIdx_iff_getElem?]; simpa using ho)
    exact List.all_eq_true.1 h1 j (List.mem_range.2 hj)
  refine wpAny_of_inv2 (fun done a W => done.size = (hd ++ tl).length ∧ (∀ i o, (hd ++ tl)[i]? = some o → done.getD i false = true → ∀ e ∈ o.after, Region.binds .any e = true → done.getD e.on false = true) ∧
      (((∀ i, hd.length ≤ i → done.getD i false = false) ∧ FInv hd T a0 w0 done a W ∧ Prs U hd done a) ∨
       ∃ m, (∀ i, i < hd.length + m → done.getD i false = true) ∧ (∀ i, hd.length + m ≤ i → done.getD i false = false) ∧ wpList P (hd ++ tl).toArray Q (tl.drop m) a W)) (by simpa using hb0) ?_ ?_ _ _ _ _ (by simp) ?_ ?_
  · rintro done a W i ⟨hds, hcl, hI⟩ hnd1 hdep hlt
    have hil : i < (hd ++ tl).length := by simpa using hlt
    have ho : (hd ++ tl)[i]? = some (hd ++ tl)[i] := List.getElem?_eq_getElem hil
    generalize hoi : (hd ++ tl)[i] = o at ho
    have hnf : done.getD i false = false := by
      cases h : done.getD i false with
      | false => rfl
      | true => rw [getD_both hnd1] at h; cases h
    have hdo := hdep o (by simpa using ho)
    have hcl' : ∀ j oj, (hd ++ tl)[j]? = some oj → (done.setIfInBounds i true).getD j false = true → ∀ e ∈ oj.after, Region.binds .any e = true → (done.setIfInBounds i true).getD e.on false = true := fun j oj hj hdj e he hbi => by
      rcases done_set hdj with h1 | h1
      · subst h1
        have : oj = o := Option.some.inj (hj.symm.trans ho)
        subst this
        have h2 := hdo e he hbi
        by_cases e2 : i = e.on
        · rw [← e2] at h2; rw [hnf] at h2; cases h2
        · rw [getD_set_ne false e2]; exact h2
      · have h2 := hcl j oj hj h1 e he hbi
        by_cases e2 : i = e.on
        · rw [← e2] at h2; rw [hnf] at h2; cases h2
        · rw [getD_set_ne false e2]; exact h2
    -- what the tail's operation waits for is done
    have hw2 : ∀ k, i = hd.length + k → ∀ j, j < i → done.getD j false = true := fun k hk j hj => by
      exact waitsN_done hcl 5 o j hdo (htl (k := k) (o := o) (by rw [← hk]; exact ho) j (by omega))
    have hseq : ∀ m, i = hd.length + m → (∀ j, j < i → done.getD j false = true) → (∀ j, i ≤ j → done.getD j false = false) → wpList P (hd ++ tl).toArray Q (tl.drop m) a W →
        wpOp P (hd ++ tl).toArray Q i (fun a' W' => (done.setIfInBounds i true).size = (hd ++ tl).length ∧ (∀ i_1 o, (hd ++ tl)[i_1]? = some o → (done.setIfInBounds i true).getD i_1 false = true → ∀ e ∈ o.after, Region.binds .any e = true → (done.setIfInBounds i true).getD e.on false = true) ∧
          (((∀ j, hd.length ≤ j → (done.setIfInBounds i true).getD j false = false) ∧ FInv hd T a0 w0 (done.setIfInBounds i true) a' W' ∧ Prs U hd (done.setIfInBounds i true) a') ∨
           ∃ m, (∀ j, j < hd.length + m → (done.setIfInBounds i true).getD j false = true) ∧ (∀ j, hd.length + m ≤ j → (done.setIfInBounds i true).getD j false = false) ∧ wpList P (hd ++ tl).toArray Q (tl.drop m) a' W')) a W := fun m hm1 hlow hhigh hl => by
      have hom : tl[m]? = some o := by
        have := ho
        rw [hm1, List.getElem?_append_right (by omega), Nat.add_sub_cancel_left] at this
        exact this
      have hml := (List.getElem?_eq_some_iff.1 hom).1
      rw [List.drop_eq_getElem_cons hml, (List.getElem?_eq_some_iff.1 hom).2] at hl
      have hK : ∀ a' W', wpList P (hd ++ tl).toArray Q (tl.drop (m + 1)) a' W' → ((done.setIfInBounds i true).size = (hd ++ tl).length ∧ (∀ i_1 o, (hd ++ tl)[i_1]? = some o → (done.setIfInBounds i true).getD i_1 false = true → ∀ e ∈ o.after, Region.binds .any e = true → (done.setIfInBounds i true).getD e.on false = true) ∧
          (((∀ j, hd.length ≤ j → (done.setIfInBounds i true).getD j false = false) ∧ FInv hd T a0 w0 (done.setIfInBounds i true) a' W' ∧ Prs U hd (done.setIfInBounds i true) a') ∨
           ∃ m, (∀ j, j < hd.length + m → (done.setIfInBounds i true).getD j false = true) ∧ (∀ j, hd.length + m ≤ j → (done.setIfInBounds i true).getD j false = false) ∧ wpList P (hd ++ tl).toArray Q (tl.drop m) a' W')) := fun a' W' h => by
        refine ⟨by simp [hds], hcl', .inr ⟨m + 1, fun j hj => ?_, fun j hj => ?_, h⟩⟩
        · by_cases e : i = j
          · subst e; simp [hds ▸ hil]
          · rw [getD_set_ne false e]; exact hlow j (by omega)
        · rw [getD_set_ne false (by omega)]; exact hhigh j (by omega)
      unfold wpOp
      have ho' : (hd ++ tl).toArray[i]? = some o := by simpa using ho
      rw [ho']
      simp only [wpList] at hl
      split at hl
      · rename_i hw
        simp only [hw, if_true]
        exact hl.imp (Oper.wp_mono hK) fun h => h
      · rename_i hw
        simp only [hw]
        exact hK _ _ hl
    rcases hI with ⟨hT0, hI, hPr⟩ | ⟨m, hlow, hhigh, hl⟩
    · by_cases hih : i < hd.length
      · rw [hhd hih] at ho
        obtain ⟨⟨s, hs, hsz⟩, hgw⟩ := hg2 i o ho
        have hvals : ∀ j oj s, hd[j]? = some oj → oj.dst = some s → waits o j = true → T j (a.tmps.getD s undef) W := fun j oj sj hj hsj hw => by
          obtain ⟨e, he, hbi, hon⟩ := waits_spec hw
          exact hI.vals j oj sj hj (hon ▸ hdo e he hbi) hsj
        refine wpOp_want o (by simpa [hhd hih] using ho) ?_ (Oper.wp_mono ?_ (hstep i o ho a W hI.below hvals (fun s' hk => hI.fixed s' fun j oj hj hdj hds2 => by
          have h1 := List.all_eq_true.1 hk (oj, j) (by rw [List.mem_zipIdx_iff_getElem?]; simpa using hj)
          simp only [Bool.or_eq_true, decide_eq_true_eq] at h1
          rcases h1 with (h1 | h1) | h1
          · exact h1 hds2
          · subst h1; rw [hnf] at hdj; cases hdj
          · obtain ⟨e, he, hbi, hon⟩ := waits_spec h1
            have h2 := hI.closed j oj hj hdj e he hbi
            rw [hon, hnf] at h2; cases h2) _))
        · cases hgd : o.guard with
          | none => simp [Region.wanted, hgd]
          | some p =>
            obtain ⟨j, b⟩ := p
            have hw := hgw j b hgd
            obtain ⟨e, he, hbi, hon⟩ := waits_spec hw
            have hdj : done.getD j false = true := hon ▸ hdo e he hbi
            have hjl : j < hd.length := by
              rcases Nat.lt_or_ge j hd.length with h | h
              · exact h
              · rw [hT0 j h] at hdj; cases hdj
            have hoj : hd[j]? = some hd[j] := List.getElem?_eq_getElem hjl
            obtain ⟨⟨sj, hsj, hsjz⟩, _⟩ := hg2 j _ hoj
            have hT := hvals j _ sj hoj hsj hw
            have hv := hguard i o j b ho hgd _ _ hT
            have ht2 : a.tmps[sj]? = some (.bool b) := by
              have h3 : sj < a.tmps.size := by rw [hI.size]; exact hsjz
              rw [← hv]
              simp [Array.getD, h3]
            have hoj2 : (hd ++ tl)[j]? = some hd[j] := by rw [hhd hjl]; exact hoj
            simp [Region.wanted, hgd, yielded, hoj2, hsj, ht2]
        · rintro a' W' ⟨v, rfl, hB, hTi, hDi⟩
          have hput := fun k => put_at (a := a) (s := s) (v := v) (by rw [hI.size]; exact hsz) k
          rw [hs]
          refine ⟨by simp [hds], hcl', .inl ⟨fun j hj => by rw [getD_set_ne false (by omega)]; exact hT0 j hj, ?_, ?_⟩⟩
          rotate_left
          · intro i1 j1 oi oj si sj hne h1 h2 d1 d2 e1 e2
            rw [hput si, hput sj]
            have hdi : ∀ k ok sk, hd[k]? = some ok → ok.dst = some sk → k ≠ i → sk ≠ s := fun k ok sk hk hsk hki e => hki (hnd k i ok o hk ho (by rw [hsk, hs, e]))
            have hdo2 : ∀ k, k ≠ i → (done.setIfInBounds i true).getD k false = true → done.getD k false = true := fun k hk h3 => by
              rw [getD_set_ne false fun e => hk e.symm] at h3; exact h3
            by_cases ei : i1 = i
            · subst ei
              have : oi = o := Option.some.inj (h1.symm.trans ho)
              subst this
              have hj1 : j1 ≠ i1 := fun e => hne e.symm
              rw [if_pos (Option.some.inj (e1.symm.trans hs)), if_neg (hdi j1 oj sj h2 e2 hj1)]
              exact (hU _ _ _ _ W hDi (hI.vals j1 oj sj h2 (hdo2 j1 hj1 d2) e2)).1
            · rw [if_neg (hdi i1 oi si h1 e1 ei)]
              by_cases ej : j1 = i
              · subst ej
                have : oj = o := Option.some.inj (h2.symm.trans ho)
                subst this
                rw [if_pos (Option.some.inj (e2.symm.trans hs))]
                exact (hU _ _ _ _ W hDi (hI.vals i1 oi si h1 (hdo2 i1 ei d1) e1)).2
              · rw [if_neg (hdi j1 oj sj h2 e2 ej)]
                exact hPr i1 j1 oi oj si sj hne h1 h2 (hdo2 i1 ei d1) (hdo2 j1 ej d2) e1 e2
          refine ⟨hI.below.trans (hB.mono hI.below.size), hI.defers, ?_, fun k hk => ?_, fun j oj sj hj hdj hsj => ?_, fun j oj hj hdj e he hbi => ?_⟩
          · simp [Act.put, hI.size]
          · rw [hput k]
            have hne : k ≠ s := fun e => hk i o ho (by
              have hds : i < done.size := by omega
              simp [hds]) (by rw [e]; exact hs)
            rw [if_neg hne]
            exact hI.fixed k fun j oj hj hdj => hk j oj hj (by
              by_cases e : i = j
              · subst e; rw [hnf] at hdj; cases hdj
              · rw [getD_set_ne false e]; exact hdj)
          · rw [hput sj]
            rcases done_set hdj with h1 | h1
            · subst h1
              have : oj = o := Option.some.inj (hj.symm.trans ho)
              subst this
              rw [if_pos (Option.some.inj (hsj.symm.trans hs))]
              exact hTi
            · have hne : sj ≠ s := fun e => by
                have := hnd j i oj o hj ho (by rw [hsj, hs, e])
                subst this
                rw [hnf] at h1; cases h1
              rw [if_neg hne]
              exact hlast _ _ _ _ (hI.vals j oj sj hj h1 hsj) hB
          · exact hcl' j oj (by rw [hhd (List.getElem?_eq_some_iff.1 hj).1]; exact hj) hdj e he hbi
      · obtain ⟨k, hk⟩ : ∃ k, i = hd.length + k := ⟨i - hd.length, by omega⟩
        have hlow := hw2 k hk
        have hk0 : k = 0 := by
          rcases Nat.eq_zero_or_pos k with h | h
          · exact h
          · have h1 := hlow hd.length (by omega)
            rw [hT0 _ (Nat.le_refl _)] at h1; cases h1
        subst hk0
        refine hseq 0 hk hlow (fun j hj => hT0 j (by omega)) ?_
        rw [List.drop_zero]
        exact hend a W hI.below hI.defers hI.size (fun s hs => hI.fixed s fun j o ho _ => by
          have := List.all_eq_true.1 hs o (List.mem_of_getElem? ho)
          simpa using this) (fun j o s ho hs => hI.vals j o s ho (hlow j (by have := (List.getElem?_eq_some_iff.1 ho).1; omega)) hs) (fun i1 j1 oi oj si sj hne h1 h2 e1 e2 => hPr i1 j1 oi oj si sj hne h1 h2 (hlow i1 (by have := (List.getElem?_eq_some_iff.1 h1).1; omega)) (hlow j1 (by have := (List.getElem?_eq_some_iff.1 h2).1; omega)) e1 e2)
    · have him : i = hd.length + m := by
        rcases Nat.lt_trichotomy i (hd.length + m) with h | h | h
        · rw [hlow i h] at hnf; cases hnf
        · exact h
        · obtain ⟨k, hk⟩ : ∃ k, i = hd.length + k := ⟨i - hd.length, by omega⟩
          have h1 := hw2 k hk (hd.length + m) h
          rw [hhigh _ (Nat.le_refl _)] at h1; cases h1
      exact hseq m him (fun j hj => hlow j (by omega)) (fun j hj => hhigh j (by omega)) hl
  · rintro done a W ⟨hds, hcl, hI⟩ hall
    have hall' : ∀ i, i < (hd ++ tl).length → done.getD i false = true := fun i hi => hall i (by simpa using hi)
    rcases hI with ⟨hT0, hI, hPr⟩ | ⟨m, hlow, hhigh, hl⟩
    · have h0 : tl = [] := by
        cases tl with
        | nil => rfl
        | cons o r =>
          have h1 := hall' hd.length (by simp)
          rw [hT0 _ (Nat.le_refl _)] at h1; cases h1
      subst h0
      exact hend a W hI.below hI.defers hI.size (fun s hs => hI.fixed s fun j o ho _ => by
          have := List.all_eq_true.1 hs o (List.mem_of_getElem? ho)
          simpa using this) (fun j o s ho hs => hI.vals j o s ho (hall' j (by have := (List.getElem?_eq_some_iff.1 ho).1; simp; omega)) hs) (fun i1 j1 oi oj si sj hne h1 h2 e1 e2 => hPr i1 j1 oi oj si sj hne h1 h2 (hall' i1 (by have := (List.getElem?_eq_some_iff.1 h1).1; simp; omega)) (hall' j1 (by have := (List.getElem?_eq_some_iff.1 h2).1; simp; omega)) e1 e2)
    · have hml : tl.length ≤ m := by
        rcases Nat.lt_or_ge m tl.length with h | h
        · have h1 := hall' (hd.length + m) (by simp; omega)
          rw [hhigh _ (Nat.le_refl _)] at h1; cases h1
        · exact h
      rw [List.drop_of_length_le hml] at hl
      exact hl
  · have hc : ∀ (n m : Nat), ((List.range m).countP fun i => !(Array.replicate n false).getD i true) ≤ m := fun n m => by
      have := List.countP_le_length (l := List.range m) (p := fun i => !(Array.replicate n false).getD i true)
      simpa using this
    exact hc _ _
  · have hz : ∀ n j, (Array.replicate n false).getD j false ≠ true := fun n j h => by rw [getD_replicate_false] at h; cases h
    exact ⟨by simp, fun i o _ h => absurd h (hz _ _), .inl ⟨fun i _ => getD_replicate_false _ _, ⟨⟨rfl, rfl, rfl, Nat.le_refl _, fun _ _ => rfl⟩, rfl, rfl, fun _ _ => rfl, fun i o s _ h => absurd h (hz _ _), fun i o _ h => absurd h (hz _ _)⟩, fun i j oi oj si sj _ _ _ h => absurd h (hz _ _)⟩⟩
theorem wp_region_fine_pairs {P : Program} {id : Nat} {Q : Exit → Act → World → Prop} {a0 : Act} {w0 : World} {L : List Oper} (n : Nat) (T D : Nat → Value → World → Prop) (U : Nat → Nat → Value → Value → Prop) (hU : ∀ i j v x W, D i v W → T j x W → U i j v x ∧ U j i x v) (hm : P.follows .mixedOrders = true) (hp : plainG (L.take n) a0.tmps.size = true)
    (hb0 : (L.zipIdx.all fun (o, i) => o.after.all fun e => !Region.binds .any e || decide (e.on < i)) = true) (ht : tailB (L.take n) (L.drop n) = true)
    (hlast : ∀ i v W W', T i v W → Below W.heap.size W W' → T i v W')
    (hguard : ∀ (i : Nat) (o : Oper) j b, (L.take n)[i]? = some o → o.guard = some (j, b) → ∀ v W, T j v W → v = .bool b)
    (hstep : ∀ i o, (L.take n)[i]? = some o → ∀ (a : Act) (W : World), Below w0.heap.size w0 W → (∀ j oj s, (L.take n)[j]? = some oj → oj.dst = some s → waits o j = true → T j (a.tmps.getD s undef) W) → (∀ s, keepsB (L.take n) i s = true → a.tmps.getD s undef = a0.tmps.getD s undef) → Lays P (fun k v W' => T k v W' ∧ D k v W) i o a W)
    (hend : ∀ (a : Act) (W : World), Below w0.heap.size w0 W → a.defers = a0.defers → a.tmps.size = a0.tmps.size → (∀ s, ((L.take n).all fun o => decide (o.dst ≠ some s)) = true → a.tmps.getD s undef = a0.tmps.getD s undef) → (∀ i o s, (L.take n)[i]? = some o → o.dst = some s → T i (a.tmps.getD s undef) W) → (∀ i j oi oj si sj, i ≠ j → (L.take n)[i]? = some oi → (L.take n)[j]? = some oj → oi.dst = some si → oj.dst = some sj → U i j (a.tmps.getD si undef) (a.tmps.getD sj undef)) → wpList P L.toArray Q (L.drop n) a W) :
    (Code.region id L.toArray true).wp P Q a0 w0 :=
  wp_region_any hm (any_fine_pairs (L.take n) (L.drop n) (List.take_append_drop n L).symm T D U hU hp (by rw [List.take_append_drop]; exact hb0) ht hlast hguard hstep (by rw [List.take_append_drop]; exact hend))
/-- An operation whose value is nothing new. -/
theorem lays_old {P : Program} {T : Nat → Value → World → Prop} {D : Nat → Value → World → Prop} {i : Nat} {o : Oper} {a : Act} {W : World} (h : Lays P T i o a W) (hD : ∀ v, D i v W) : Lays P (fun k v W' => T k v W' ∧ D k v W) i o a W := fun Q =>
  Oper.wp_mono (fun _ _ ⟨v, e, hB, hT⟩ => ⟨v, e, hB, hT, hD v⟩) (h Q)
end Go.Own.Jf

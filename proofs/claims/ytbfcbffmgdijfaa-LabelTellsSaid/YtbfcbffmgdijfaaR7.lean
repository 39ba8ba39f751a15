/- Texts of contexts, plainly: what begins one, what is none. No condition. -/
import Derived.Test.YtbfcbffmgdijfaaR6
namespace Go.Proofs.Ytbfcbffmgdijfaa
open Go.RowKit Go.Own
/-- A counted piece at place t, and where it ends. -/
def Take (s : ByteArray) (t : Nat) (k : ByteArray) (u : Nat) : Prop :=
  t < s.size ∧ gi (bys s) t = k.size ∧ u = t + 1 + k.size ∧ u ≤ s.size ∧ (bys s).take u = (bys s).take t ++ k.size :: bys k
theorem gi_get {l : List Nat} {i : Nat} (h : i < l.length) : gi l i = l[i] := by
  unfold gi; simp [h]
theorem take_mk {s : ByteArray} {t c : Nat} (h : t < s.size) (hc : gi (bys s) t = c) (hu : t + 1 + c ≤ s.size) : Take s t (s.extract (t + 1) (t + 1 + c)) (t + 1 + c) := by
  have hsz : (s.extract (t + 1) (t + 1 + c)).size = c := by simp; omega
  refine ⟨h, by rw [hsz, hc], by rw [hsz], hu, ?_⟩
  rw [hsz, bys_extract, Nat.add_sub_cancel_left, show t + 1 + c = t + (1 + c) by omega, List.take_add]
  congr 1
  have hl : t < (bys s).length := by rw [bys_length]; exact h
  rw [List.drop_eq_getElem_cons hl, ← gi_get hl, hc, Nat.add_comm 1 c, List.take_succ_cons]
theorem encs_cons (x : P2) (M : List P2) : encs (x :: M) = x.1.size :: (bys x.1 ++ (x.2.size :: (bys x.2 ++ encs M))) := by simp [encs, encP]
theorem encs_prefix : ∀ (M R : List P2) (z : List Nat), encs M ++ z = encs R → ∃ R', R = M ++ R' ∧ z = encs R'
  | [], R, z, h => ⟨R, rfl, by simpa [encs] using h⟩
  | x :: M, [], z, h => by rw [encs_cons] at h; simp [encs] at h
  | x :: M, y :: R, z, h => by
    rw [encs_cons, encs_cons] at h
    simp only [List.cons_append, List.append_assoc, List.cons.injEq] at h
    obtain ⟨h1, h2⟩ := h
    obtain ⟨h3, h4⟩ := List.append_inj h2 (by rw [bys_length, bys_length, h1])
    simp only [List.cons.injEq] at h4
    obtain ⟨h5, h6⟩ := h4
    obtain ⟨h7, h8⟩ := List.append_inj h6 (by rw [bys_length, bys_length, h5])
    obtain ⟨R', rfl, hz⟩ := encs_prefix M R z h8
    have : x = y := Prod.ext (bys_inj h3) (bys_inj h7)
    exact ⟨R', by rw [this]; rfl, hz⟩
theorem encs_ge {M : List P2} : M.length ≤ (encs M).length ∧ ∀ x ∈ M, x.1.size + x.2.size ≤ (encs M).length := by
  induction M with
  | nil => simp
  | cons y M ih =>
    rw [encs_cons]
    simp only [List.length_cons, List.length_append, bys_length]
    refine ⟨by omega, fun x hx => ?_⟩
    rcases List.mem_cons.1 hx with rfl | hx
    · omega
    · have := ih.2 x hx; omega
/-- Strictly rising keys. -/
def Rises (M : List P2) : Prop := M.Pairwise (fun a b => kl a < kl b)
theorem Rises.sorted {M : List P2} (h : Rises M) : M.Pairwise (fun a b => leP a b = true) :=
  h.imp fun h => by simp only [leP, decide_eq_true_eq]; exact List.le_of_lt h
theorem Rises.nodup {M : List P2} (h : Rises M) : (M.map kl).Nodup := by
  rw [List.nodup_iff_pairwise_ne, List.pairwise_map]
  exact h.imp fun h e => by rw [e] at h; exact List.lt_irrefl _ h
theorem Rises.sort {M : List P2} (h : Rises M) : sortP M = M := (sortP_eq h.nodup (List.Perm.refl M) h.sorted).symm
theorem rises_sort {M : List P2} (h : (M.map kl).Nodup) : Rises (sortP M) := by
  have h1 := sortP_sorted M
  have h2 : ((sortP M).map kl).Nodup := (((sortP_perm M).map kl).nodup_iff).2 h
  rw [List.nodup_iff_pairwise_ne, List.pairwise_map] at h2
  refine (h1.and h2).imp fun {a b} ⟨h3, h4⟩ => ?_
  simp only [leP, decide_eq_true_eq] at h3
  by_cases h5 : kl a < kl b
  · exact h5
  · exact absurd (List.le_antisymm h3 (List.not_lt.1 h5)) h4
theorem ok_of {s : ByteArray} (h : OkS s) : ∃ R, rightP R = true ∧ Rises R ∧ bys s = encs R := by
  obtain ⟨h1, h2⟩ := h
  refine ⟨sortP (Own.rd 8 s), by rw [rightP_perm (sortP_perm _)]; exact h1, rises_sort ((rightP_iff _).1 h1).2.2, ?_⟩
  rw [← bys_text h1, h2]
theorem ok_mk {s : ByteArray} {R : List P2} (h1 : rightP R = true) (h2 : Rises R) (h3 : bys s = encs R) : OkS s ∧ Own.rd 8 s = R := by
  have e := rd_encs R 8 s ((rightP_iff R).1 h1).1 h3
  refine ⟨⟨by rw [e]; exact h1, ?_⟩, e⟩
  rw [e, textP, h2.sort, ← h3, mkS_bys]
/-- What a text that begins so is. -/
theorem ok_from {s : ByteArray} {t : Nat} {M : List P2} (hM : encs M = (bys s).take t) (h : OkS s) : ∃ R', rightP (M ++ R') = true ∧ Rises (M ++ R') ∧ (bys s).drop t = encs R' := by
  obtain ⟨R, h1, h2, h3⟩ := ok_of h
  obtain ⟨R', rfl, hz⟩ := encs_prefix M R ((bys s).drop t) (by rw [hM, List.take_append_drop]; exact h3)
  exact ⟨R', h1, h2, hz⟩
/-- A text that goes on holds two more pieces. -/
theorem two_more {s : ByteArray} {t : Nat} {M : List P2} (hM : encs M = (bys s).take t) (ht : t < s.size) (h : OkS s) : t + 1 + gi (bys s) t + 1 + gi (bys s) (t + 1 + gi (bys s) t) ≤ s.size := by
  obtain ⟨R', _, _, h3⟩ := ok_from hM h
  have hl : t < (bys s).length := by rw [bys_length]; exact ht
  cases R' with
  | nil =>
    have := congrArg List.length h3
    simp [encs, bys_length] at this; omega
  | cons z R' =>
    rw [encs_cons] at h3
    have hlen := congrArg List.length h3
    simp only [List.length_drop, List.length_cons, List.length_append, bys_length] at hlen
    have h4 : gi (bys s) t = z.1.size := by
      rw [gi_get hl]
      have := congrArg (fun l => l[0]?) h3
      simpa [List.getElem?_drop, hl] using this
    have hl2 : t + (1 + z.1.size) < (bys s).length := by rw [bys_length]; omega
    have h5 : gi (bys s) (t + 1 + z.1.size) = z.2.size := by
      rw [show t + 1 + z.1.size = t + (1 + z.1.size) by omega, gi_get hl2]
      have := congrArg (fun l => l[1 + z.1.size]?) h3
      simp only [List.getElem?_drop] at this
      have e : (z.1.size :: (bys z.1 ++ (z.2.size :: (bys z.2 ++ encs R'))))[1 + z.1.size]? = some z.2.size := by
        rw [Nat.add_comm 1, List.getElem?_cons_succ, List.getElem?_append_right (by rw [bys_length]; exact Nat.le_refl _)]
        simp [bys_length]
      rw [e, List.getElem?_eq_getElem hl2] at this
      exact Option.some.inj this
    rw [h4, h5]; omega
theorem bad_one {s : ByteArray} {t : Nat} {M : List P2} (hM : encs M = (bys s).take t) (ht : t < s.size) (h : ¬ t + 1 + gi (bys s) t ≤ s.size) : ¬ OkS s := fun ho => by
  have := two_more hM ht ho; omega
theorem bad_two {s : ByteArray} {t u : Nat} {k : ByteArray} {M : List P2} (hM : encs M = (bys s).take t) (hk : Take s t k u) (h : s.size ≤ u ∨ ¬ u + 1 + gi (bys s) u ≤ s.size) : ¬ OkS s := fun ho => by
  obtain ⟨h1, h2, h3, h4, _⟩ := hk
  have := two_more hM h1 ho
  rw [h2, ← h3] at this; omega
theorem took_two {s : ByteArray} {t u v : Nat} {k l : ByteArray} {M : List P2} (hM : encs M = (bys s).take t) (hk : Take s t k u) (hl : Take s u l v) : encs (M ++ [(k, l)]) = (bys s).take v := by
  rw [encs_append, hl.2.2.2.2, hk.2.2.2.2, hM]; simp [encs, encP]
theorem bad_order {s : ByteArray} {t : Nat} {M : List P2} {x y : P2} (hM : encs (M ++ [y]) = (bys s).take t) (hx : x ∈ M) (h : ¬ kl x < kl y) : ¬ OkS s := fun ho => by
  obtain ⟨R', _, h2, _⟩ := ok_from hM ho
  have h3 := (List.pairwise_append.1 h2).1
  exact h ((List.pairwise_append.1 h3).2.2 x hx y (by simp))
theorem rises_more {M : List P2} {y : P2} (h : Rises M) (hl : M = [] ∨ ∃ x, M[M.length - 1]? = some x ∧ kl x < kl y) : Rises (M ++ [y]) := by
  refine List.pairwise_append.2 ⟨h, List.pairwise_singleton _ _, fun a ha b hb => ?_⟩
  obtain rfl := List.mem_singleton.1 hb
  rcases hl with rfl | ⟨x, hx, hlt⟩
  · simp at ha
  · obtain ⟨j, hj, rfl⟩ := List.getElem_of_mem ha
    have hm : M.length - 1 < M.length := by omega
    have hxv : M[M.length - 1] = x := (List.getElem?_eq_some_iff.1 hx).2
    by_cases e : j = M.length - 1
    · subst e; rw [hxv]; exact hlt
    · have := List.pairwise_iff_getElem.1 h j (M.length - 1) hj hm (by omega)
      rw [hxv] at this
      exact List.lt_trans this hlt
theorem bad_end {s : ByteArray} {M : List P2} (hM : encs M = bys s) (h : rightP M = false) : ¬ OkS s := fun ho => by
  obtain ⟨R', h1, _, h3⟩ := ok_from (t := s.size) (by rw [hM, List.take_of_length_le (by rw [bys_length]; exact Nat.le_refl _)]) ho
  rw [List.drop_eq_nil_of_le (by rw [bys_length]; exact Nat.le_refl _)] at h3
  cases R' with
  | nil => rw [List.append_nil, h] at h1; cases h1
  | cons z R' => rw [encs_cons] at h3; cases h3
end Go.Proofs.Ytbfcbffmgdijfaa

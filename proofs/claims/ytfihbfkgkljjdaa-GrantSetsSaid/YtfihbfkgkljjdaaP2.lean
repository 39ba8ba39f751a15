/- Contexts, plainly: what is read of a text; in whatever order; equal ones. No program. -/
import Derived.Test.YtfihbfkgkljjdaaC6
namespace Go.Own
open Go
theorem perm_of_subset {α : Type} : ∀ {A B : List α}, A.Nodup → (∀ x ∈ A, x ∈ B) → A.length = B.length → A.Perm B
  | [], B, _, _, hl => by
    have : B = [] := List.eq_nil_of_length_eq_zero hl.symm
    rw [this]
  | x :: A, B, hn, hs, hl => by
    obtain ⟨B1, B2, rfl⟩ := List.append_of_mem (hs x (by simp))
    rw [List.nodup_cons] at hn
    have ih := perm_of_subset (A := A) (B := B1 ++ B2) hn.2 (fun y hy => by
      have h1 := hs y (by simp [hy])
      rcases List.mem_append.1 h1 with h2 | h2
      · exact List.mem_append.2 (Or.inl h2)
      · rcases List.mem_cons.1 h2 with h3 | h3
        · exact absurd (h3 ▸ hy) hn.1
        · exact List.mem_append.2 (Or.inr h3)) (by simp at hl ⊢; omega)
    exact (List.Perm.cons x ih).trans List.perm_middle.symm
theorem nodup_of_keys {A : List P2} (h : (A.map kl).Nodup) : A.Nodup := by
  induction A with
  | nil => exact List.nodup_nil
  | cons x A ih =>
    rw [List.map_cons, List.nodup_cons] at h
    exact List.nodup_cons.2 ⟨fun h2 => h.1 (List.mem_map_of_mem h2), ih h.2⟩
theorem rightP_perm {A B : List P2} (h : A.Perm B) : rightP A = rightP B := by
  rw [Bool.eq_iff_iff, rightP_iff, rightP_iff, h.length_eq, (h.map kl).nodup_iff]
  exact ⟨fun ⟨a, b, c⟩ => ⟨a, fun x hx => b x (h.mem_iff.2 hx), c⟩, fun ⟨a, b, c⟩ => ⟨a, fun x hx => b x (h.mem_iff.1 hx), c⟩⟩
theorem sortP_of_perm {A B : List P2} (h : A.Perm B) (hn : (A.map kl).Nodup) : sortP A = sortP B :=
  (sortP_eq (L := B) (((h.map kl).nodup_iff).1 hn) ((sortP_perm A).trans h) (sortP_sorted A))
theorem sortP_idem {A : List P2} (hn : (A.map kl).Nodup) : sortP (sortP A) = sortP A :=
  sortP_of_perm (sortP_perm A) ((((sortP_perm A).map kl).nodup_iff).2 hn)
/-- A counted piece ahead of others. -/
theorem piece_enc {k s : ByteArray} {rest : List Nat} (hs : bys s = k.size :: (bys k ++ rest)) : s.size ≠ 0 ∧ pieceE s = k ∧ bys (restE s) = rest := by
  have hl : s.size = 1 + k.size + rest.length := by
    rw [← bys_length, hs]; simp only [List.length_cons, List.length_append, bys_length]; omega
  have hg : gi (bys s) 0 = k.size := by rw [hs]; rfl
  have hc : cutAt s = 1 + k.size := by unfold cutAt; rw [hg]; omega
  have h0 : s.size ≠ 0 := by omega
  refine ⟨h0, ?_, ?_⟩
  · unfold pieceE
    rw [if_neg h0, hc]
    refine bys_inj ?_
    rw [bys_extract, hs, List.drop_succ_cons, List.drop_zero, Nat.add_sub_cancel_left, List.take_append_of_le_length (by rw [bys_length]; exact Nat.le_refl _), List.take_of_length_le (by rw [bys_length]; exact Nat.le_refl _)]
  · unfold restE
    rw [if_neg h0, hc, bys_extract, hs, Nat.add_comm 1, List.drop_succ_cons, List.drop_append_of_le_length (by rw [bys_length]; exact Nat.le_refl _), List.drop_of_length_le (by rw [bys_length]; exact Nat.le_refl _), List.nil_append, List.take_of_length_le (by omega)]
theorem rd_encs : ∀ (M : List P2) (f : Nat) (s : ByteArray), M.length ≤ f → bys s = encs M → Own.rd f s = M
  | [], f, s, _, h => rd_end f (by rw [← bys_length, h]; rfl)
  | x :: M, f, s, hf, h => by
    obtain ⟨g, rfl⟩ : ∃ g, f = g + 1 := ⟨f - 1, by simp at hf; omega⟩
    have e : encs (x :: M) = x.1.size :: (bys x.1 ++ (x.2.size :: (bys x.2 ++ encs M))) := by simp [encs, encP]
    rw [e] at h
    obtain ⟨h0, h1, h2⟩ := piece_enc h
    obtain ⟨h3, h4, h5⟩ := piece_enc h2
    rw [rd_more g h0, h1, h4, rd_encs M g _ (by simp at hf; omega) h5]
theorem encs_lt {M : List P2} (h : ∀ x ∈ M, fitP x = true) : ∀ n ∈ encs M, n < 256 := fun n hn => by
  obtain ⟨x, hx, hn⟩ := List.mem_flatMap.1 hn
  have hf := h x hx
  simp only [fitP, Bool.and_eq_true, decide_eq_true_eq] at hf
  simp only [encP, List.mem_cons, List.mem_append] at hn
  rcases hn with h1 | h1 | h1 | h1
  · omega
  · exact bys_lt _ n h1
  · omega
  · exact bys_lt _ n h1
theorem bys_text {A : List P2} (h : rightP A = true) : bys (mkS (textP A)) = encs (sortP A) :=
  bys_mkS _ (encs_lt fun x hx => ((rightP_iff A).1 h).2.1 x ((sortP_perm A).mem_iff.1 hx))
/-- A context's text is read to its pairs by rising keys. -/
theorem rd_text {A : List P2} (h : rightP A = true) : Own.rd 8 (mkS (textP A)) = sortP A :=
  rd_encs (sortP A) 8 _ (by rw [sortP_length]; exact ((rightP_iff A).1 h).1) (bys_text h)
theorem ok_text {A : List P2} (h : rightP A = true) : OkS (mkS (textP A)) := by
  unfold OkS
  rw [rd_text h]
  refine ⟨by rw [rightP_perm (sortP_perm A)]; exact h, ?_⟩
  unfold textP
  rw [sortP_idem ((rightP_iff A).1 h).2.2]
/-- Of contexts with the same text. -/
theorem same_text {A B : List P2} (ha : rightP A = true) (hb : rightP B = true) : mkS (textP A) = mkS (textP B) ↔ A.Perm B := by
  constructor
  · intro h
    have h2 : sortP A = sortP B := by rw [← rd_text ha, ← rd_text hb, h]
    exact (sortP_perm A).symm.trans (h2 ▸ sortP_perm B)
  · intro h
    rw [textP, textP, sortP_of_perm h ((rightP_iff A).1 ha).2.2]
end Go.Own
namespace Go.Proofs.Ytfihbfkgkljjdaa
open Go.Own
theorem eqB_iff (A B : List P2) : eqB A B = true ↔ rightP A = true ∧ rightP B = true ∧ A.Perm B := by
  constructor
  · intro h
    simp only [eqB, subB, inB, Bool.and_eq_true, decide_eq_true_eq] at h
    obtain ⟨hl, ⟨ha, hb⟩, hs⟩ := h
    exact ⟨ha, hb, perm_of_subset (nodup_of_keys ((rightP_iff A).1 ha).2.2) hs hl⟩
  · rintro ⟨ha, hb, hp⟩
    unfold eqB subB
    rw [ha, hb, inB_yes (fun x hx => hp.mem_iff.1 hx), decide_eq_true hp.length_eq]; rfl
theorem subB_iff (A B : List P2) : subB A B = true ↔ rightP A = true ∧ rightP B = true ∧ ∀ x ∈ A, x ∈ B := by
  simp only [subB, inB, Bool.and_eq_true, decide_eq_true_eq, and_assoc]
theorem textR_perm {A B : List P2} (h : A.Perm B) : textR A = textR B := by
  unfold textR
  rw [rightP_perm h]
  split
  · rename_i hb
    have ha : rightP A = true := by rw [rightP_perm h]; exact hb
    rw [textP, textP, sortP_of_perm h ((rightP_iff A).1 ha).2.2]
  · rfl
end Go.Proofs.Ytfihbfkgkljjdaa

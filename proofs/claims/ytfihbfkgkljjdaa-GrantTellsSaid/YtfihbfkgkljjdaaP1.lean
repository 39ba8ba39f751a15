/- Contexts, plainly: pairs, which rows of them are contexts, their texts. No program. -/
import Derived.Test.YtfihbfkgkljjdaaB0
import Derived.Maps.OwnSet
import Derived.Maps.Views
import Derived.Sort.KeysCollected
namespace Go.Own
open Go Go.Maps

/-- A key and a value. -/
abbrev P2 := ByteArray × ByteArray
def kl (x : P2) : List UInt8 := x.1.data.toList
def fitP (x : P2) : Bool := decide (1 ≤ x.1.size) && decide (x.1.size ≤ 32) && decide (x.2.size ≤ 64)
/-- Is a row of pairs a context? -/
def rightP (L : List P2) : Bool := decide (L.length ≤ 8) && L.all fitP && decide ((L.map kl).Nodup)
def cellsP (L : List P2) : List Value := L.flatMap fun x => [.string x.1, .string x.2]
theorem cellsP_length (L : List P2) : (cellsP L).length = L.length * 2 := by
  unfold cellsP
  induction L with
  | nil => rfl
  | cons x L ih => simp only [List.flatMap_cons, List.length_append, List.length_cons, List.length_nil, ih]; omega
theorem cellsP_append (L M : List P2) : cellsP (L ++ M) = cellsP L ++ cellsP M := by simp [cellsP]
theorem cellsP_at (L : List P2) (j : Nat) (x : P2) (h : L[j]? = some x) : (cellsP L)[j * 2]? = some (.string x.1) ∧ (cellsP L)[j * 2 + 1]? = some (.string x.2) := by
  induction L generalizing j with
  | nil => simp at h
  | cons y L ih =>
    cases j with
    | zero => simp at h; subst h; simp [cellsP]
    | succ j =>
      have := ih j (by simpa using h)
      have e : cellsP (y :: L) = .string y.1 :: .string y.2 :: cellsP L := by simp [cellsP]
      rw [e, show (j + 1) * 2 = j * 2 + 1 + 1 by omega]
      exact this
theorem cellsP_one (L : List P2) : ∀ u ∈ cellsP L, u.oneCell' = true := fun u hu => by
  simp only [cellsP, List.mem_flatMap] at hu
  obtain ⟨x, _, hx⟩ := hu
  simp at hx
  rcases hx with rfl | rfl <;> rfl
theorem cellsP_take (L : List P2) (k : Nat) : (cellsP L).take (k * 2) = cellsP (L.take k) := by
  induction L generalizing k with
  | nil => simp [cellsP]
  | cons y L ih =>
    cases k with
    | zero => simp [cellsP]
    | succ k =>
      have e : ∀ M, cellsP (y :: M) = .string y.1 :: .string y.2 :: cellsP M := fun M => by simp [cellsP]
      rw [List.take_succ_cons, e, e, show (k + 1) * 2 = k * 2 + 1 + 1 by omega, List.take_succ_cons, List.take_succ_cons, ih]
theorem cellsP_drop (L : List P2) (k : Nat) : (cellsP L).drop (k * 2) = cellsP (L.drop k) := by
  induction L generalizing k with
  | nil => simp [cellsP]
  | cons y L ih =>
    cases k with
    | zero => simp
    | succ k =>
      have e : cellsP (y :: L) = .string y.1 :: .string y.2 :: cellsP L := by simp [cellsP]
      rw [e, show (k + 1) * 2 = k * 2 + 1 + 1 by omega, List.drop_succ_cons, List.drop_succ_cons, List.drop_succ_cons, ih]
theorem kl_inj {x y : P2} (h : kl x = kl y) : x.1 = y.1 := by
  unfold kl at h
  have := congrArg List.toArray h
  simp only [Array.toArray_toList] at this
  exact ByteArray.ext this

/-! ### the first pairs -/
theorem rightP_iff (L : List P2) : rightP L = true ↔ L.length ≤ 8 ∧ (∀ x ∈ L, fitP x = true) ∧ (L.map kl).Nodup := by
  simp only [rightP, Bool.and_eq_true, decide_eq_true_eq, List.all_eq_true, and_assoc]
/-- The first k pairs' keys and values have right lengths, and no key stands twice. -/
def OkTo (L : List P2) (k : Nat) : Prop := (∀ x ∈ L.take k, fitP x = true) ∧ ((L.take k).map kl).Nodup
theorem OkTo.zero (L : List P2) : OkTo L 0 := by simp [OkTo]
theorem take_succ_at (L : List P2) (k : Nat) (x : P2) (h : L[k]? = some x) : L.take (k + 1) = L.take k ++ [x] := by
  rw [List.take_add_one, h]; rfl
theorem OkTo.succ {L : List P2} {k : Nat} (h : OkTo L k) {x : P2} (hx : L[k]? = some x) (hf : fitP x = true) (hn : kl x ∉ (L.take k).map kl) : OkTo L (k + 1) := by
  unfold OkTo
  rw [take_succ_at L k x hx]
  refine ⟨fun y hy => ?_, ?_⟩
  · rcases List.mem_append.1 hy with h1 | h1
    · exact h.1 y h1
    · rw [List.mem_singleton.1 h1]; exact hf
  · rw [List.map_append, List.nodup_append]
    refine ⟨h.2, by simp, ?_⟩
    intro a ha b hb
    simp at hb
    subst hb
    exact fun e => hn (e ▸ ha)
theorem OkTo.all {L : List P2} (h : OkTo L L.length) (hl : L.length ≤ 8) : rightP L = true := by
  unfold OkTo at h
  rw [List.take_length] at h
  exact (rightP_iff L).2 ⟨hl, h⟩
theorem not_right_fit {L : List P2} {k : Nat} {x : P2} (hx : L[k]? = some x) (hf : fitP x = false) : rightP L = false := by
  cases h : rightP L with
  | false => rfl
  | true => rw [((rightP_iff L).1 h).2.1 x (List.mem_of_getElem? hx)] at hf; cases hf
theorem not_right_twice {L : List P2} {k : Nat} {x : P2} (hx : L[k]? = some x) (hn : kl x ∈ (L.take k).map kl) : rightP L = false := by
  cases h : rightP L with
  | false => rfl
  | true =>
    have hnd := ((rightP_iff L).1 h).2.2
    have e : L = L.take (k + 1) ++ L.drop (k + 1) := (List.take_append_drop _ _).symm
    rw [e, take_succ_at L k x hx, List.map_append, List.map_append] at hnd
    have h2 := (List.nodup_append.1 (List.nodup_append.1 hnd).1).2.2
    exact absurd rfl (h2 (kl x) hn (kl x) (by simp))
theorem not_right_long {L : List P2} (h : 8 < L.length) : rightP L = false := by
  cases h2 : rightP L with
  | false => rfl
  | true => have := ((rightP_iff L).1 h2).1; omega

/-! ### the map from keys to places -/
def mpD (L : List P2) : Nat → DataW Unit
  | 0 => .map []
  | k + 1 => match L[k]? with
    | some x => (mpD L k).put (.string (kl x)) (.lit (.int .i64 k))
    | none => mpD L k
theorem mpD_succ {L : List P2} {k : Nat} {x : P2} (h : L[k]? = some x) : mpD L (k + 1) = (mpD L k).put (.string (kl x)) (.lit (.int .i64 k)) := by simp [mpD, h]
theorem isKey_str (l : List UInt8) : WideAt.IsKeyLit (.string l) := by trivial
theorem mpD_tidy (L : List P2) : ∀ k, Tidy (mpD L k)
  | 0 => tidy_empty
  | k + 1 => by
    unfold mpD
    cases L[k]? with
    | none => exact mpD_tidy L k
    | some x => exact (mpD_tidy L k).put (isKey_str _) _
theorem mpD_has (L : List P2) (s : List UInt8) : ∀ k, k ≤ L.length → Maps.has (mpD L k) (.string s) = decide (s ∈ (L.take k).map kl)
  | 0, _ => by simp [mpD, Maps.has]
  | k + 1, hk => by
    have hx : L[k]? = some L[k] := List.getElem?_eq_getElem (by omega)
    rw [mpD_succ hx, take_succ_at L k _ hx]
    simp only [List.map_append, List.map_cons, List.map_nil, List.mem_append, List.mem_singleton]
    by_cases e : s = kl L[k]
    · rw [e, has_put_same (mpD_tidy L k).isMap (isKey_str _)]
      exact (decide_eq_true (Or.inr rfl)).symm
    · rw [has_put_other (by simpa using e), mpD_has L s k (by omega)]
      exact decide_eq_decide.2 ⟨Or.inl, fun h => h.resolve_right e⟩
theorem mpD_at (L : List P2) (z : DataW Unit) (i : Nat) (x : P2) (hx : L[i]? = some x) : ∀ k, i < k → k ≤ L.length → ((L.take k).map kl).Nodup → (mpD L k).atKey (.string (kl x)) z = .lit (.int .i64 i)
  | 0, h, _, _ => by omega
  | k + 1, h, hk, hn => by
    have hy : L[k]? = some L[k] := List.getElem?_eq_getElem (by omega)
    rw [mpD_succ hy]
    by_cases e : i = k
    · subst e
      rw [hx] at hy
      rw [← Option.some.inj hy]
      exact atKey_put_same (mpD_tidy L i).isMap (isKey_str _) _ _
    · have hn' := hn
      rw [take_succ_at L k _ hy, List.map_append] at hn'
      have hne : kl x ≠ kl L[k] := by
        have h2 := (List.nodup_append.1 hn').2.2
        refine h2 (kl x) ?_ (kl L[k]) (by simp)
        exact List.mem_map_of_mem (List.mem_of_getElem? (i := i) (by rw [List.getElem?_take_of_lt (by omega)]; exact hx))
      rw [atKey_put_other (by simpa using hne)]
      exact mpD_at L z i x hx k (by omega) (by omega) (List.nodup_append.1 hn').1
theorem mpD_size (L : List P2) : ∀ k, k ≤ L.length → Maps.size (mpD L k) ≤ k
  | 0, _ => by simp [mpD, Maps.size]
  | k + 1, hk => by
    have hx : L[k]? = some L[k] := List.getElem?_eq_getElem (by omega)
    rw [mpD_succ hx, size_put (mpD_tidy L k)]
    have := mpD_size L k (by omega)
    split <;> omega
theorem mem_ins {x p : Lit × DataW Unit} : ∀ {l : List (Lit × DataW Unit)}, p ∈ DataW.insert x l → p = x ∨ p ∈ l
  | [], h => by simpa [DataW.insert] using h
  | y :: r, h => by
    unfold DataW.insert at h
    split at h
    · simpa using h
    · rcases List.mem_cons.1 h with h1 | h1
      · exact Or.inr (by rw [h1]; simp)
      · rcases mem_ins h1 with h2 | h2
        · exact Or.inl h2
        · exact Or.inr (List.mem_cons_of_mem _ h2)
theorem mpD_strs (L : List P2) : ∀ k, ∃ es, mpD L k = .map es ∧ ∀ p ∈ es, ∃ x, p.1 = .string x
  | 0 => ⟨[], rfl, fun p hp => by simp at hp⟩
  | k + 1 => by
    obtain ⟨es, h1, h2⟩ := mpD_strs L k
    unfold mpD
    cases hx : L[k]? with
    | none => exact ⟨es, h1, h2⟩
    | some x =>
      simp only [h1]
      refine ⟨_, rfl, fun p hp => ?_⟩
      rcases mem_ins hp with h3 | h3
      · exact ⟨kl x, by rw [h3]⟩
      · exact h2 p (List.mem_filter.1 h3).1
theorem mpD_keys (L : List P2) (hn : (L.map kl).Nodup) : (L.map kl).Perm (strKeys (mpD L L.length)) := by
  obtain ⟨es, h1, h2⟩ := mpD_strs L L.length
  obtain ⟨es', h3, h4⟩ := mpD_tidy L L.length
  rw [h1] at h3
  obtain rfl : es = es' := by simpa using h3
  have hh := fun s => mpD_has L s L.length (Nat.le_refl _)
  rw [h1] at hh ⊢
  refine perm_strKeys h4 h2 hn fun x => ?_
  rw [hh x, List.take_length, decide_eq_true_eq]

theorem nodup_inj {L : List P2} (h : (L.map kl).Nodup) {a b : P2} (ha : a ∈ L) (hb : b ∈ L) (e : kl a = kl b) : a = b := by
  induction L with
  | nil => cases ha
  | cons x L ih =>
    rw [List.map_cons, List.nodup_cons] at h
    rcases List.mem_cons.1 ha with rfl | ha'
    · rcases List.mem_cons.1 hb with rfl | hb'
      · rfl
      · exact absurd (e ▸ List.mem_map_of_mem hb') h.1
    · rcases List.mem_cons.1 hb with rfl | hb'
      · exact absurd (e ▸ List.mem_map_of_mem ha') h.1
      · exact ih h.2 ha' hb'

/-! ### the text -/
def leP (a b : P2) : Bool := decide (kl a ≤ kl b)
def sortP (L : List P2) : List P2 := L.mergeSort leP
def encP (x : P2) : List Nat := x.1.size :: (bys x.1 ++ x.2.size :: bys x.2)
def encs (L : List P2) : List Nat := L.flatMap encP
/-- A context's text. -/
def textP (L : List P2) : List Nat := encs (sortP L)
theorem leP_trans (a b c : P2) (h1 : leP a b = true) (h2 : leP b c = true) : leP a c = true := by
  simp only [leP, decide_eq_true_eq] at *; exact List.le_trans h1 h2
theorem leP_total (a b : P2) : (leP a b || leP b a) = true := by
  simp only [leP, Bool.or_eq_true, decide_eq_true_eq]; exact List.le_total _ _
theorem sortP_perm (L : List P2) : (sortP L).Perm L := List.mergeSort_perm L leP
theorem sortP_sorted (L : List P2) : (sortP L).Pairwise (fun a b => leP a b = true) := List.pairwise_mergeSort leP_trans leP_total L
theorem sortP_length (L : List P2) : (sortP L).length = L.length := (sortP_perm L).length_eq
/-- A sorted row that holds the same pairs is this one, if no key stands twice. -/
theorem sortP_eq {L M : List P2} (hn : (L.map kl).Nodup) (hp : M.Perm L) (hs : M.Pairwise (fun a b => leP a b = true)) : M = sortP L := by
  refine List.Perm.eq_of_pairwise (le := fun a b => leP a b = true) (fun a b ha hb h1 h2 => ?_) hs (sortP_sorted L) (hp.trans (sortP_perm L).symm)
  simp only [leP, decide_eq_true_eq] at h1 h2
  have hk : kl a = kl b := List.le_antisymm h1 h2
  exact nodup_inj hn (hp.mem_iff.1 ha) ((sortP_perm L).mem_iff.1 hb) hk
theorem sortP_keys (L : List P2) {ss : List (List UInt8)} (hp : ss.Perm (L.map kl)) : ss.mergeSort (fun x y => decide (x ≤ y)) = (sortP L).map kl := by
  have h1 : ((sortP L).map kl).Pairwise (fun x y => leB x y = true) := by
    rw [List.pairwise_map]
    exact (sortP_sorted L).imp fun {a b} h => h
  have tr : ∀ a b c : List UInt8, leB a b = true → leB b c = true → leB a c = true := fun a b c h1 h2 => by simp only [leB, decide_eq_true_eq] at *; exact List.le_trans h1 h2
  have to : ∀ a b : List UInt8, (leB a b || leB b a) = true := fun a b => by simp only [leB, Bool.or_eq_true, decide_eq_true_eq]; exact List.le_total a b
  refine List.Perm.eq_of_pairwise (le := fun a b => leB a b = true) (fun a b _ _ h1 h2 => ?_) (List.pairwise_mergeSort tr to ss) h1 (((List.mergeSort_perm ss leB).trans hp).trans ((sortP_perm L).map kl).symm)
  simp only [leB, decide_eq_true_eq] at h1 h2
  exact List.le_antisymm h1 h2
end Go.Own

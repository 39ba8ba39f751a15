/- Contexts, plainly: pairs, which rows of them are contexts, their texts. No program. | Contexts: where each key's pair stands, by contract. No condition but the row's sizes. | Contexts: a counted piece behind others, by contract; a row of bytes of the call's own as a string. No condition but the sizes. | A context's text, by contract. No condition but the row's sizes. -/
import Derived.Test.YtfamoakicgmfgaaGreatLB0
import Derived.Maps.OwnSet
import Derived.Maps.Views
import Derived.Sort.KeysCollected
import Derived.Test.YtfamoakicgmfgaaGreatProg
import Derived.WalkKit
import Derived.WalkSpells
import Derived.Carry
import Derived.Lib.Hide
import Derived.Outline
import Derived.Maps.OwnOps
import Derived.Lib.AppendStr
import Derived.Laws.BytesArg
import Derived.Laws.Cells
import Derived.Test.YtfamoakicgmfgaaGreatLIt
namespace Go.Own.Lb
open Go Go.Maps

/-- A key and a value. -/
abbrev P2 := ByteArray × ByteArray
def kl (x : P2) : List UInt8 := x.1.data.toList
def fitP (x : P2) : Bool := decide (1 ≤ x.1.size) && decide (x.1.size ≤ 32) && decide (x.2.size ≤ 64)
/-- Is a row of pairs a context? -/
def rightP (L : List P2) : Bool := decide (L.length ≤ 8) && L.all fitP && decide ((L.map kl).Nodup)
def cellsP (L : List P2) : List Value := L.flatMap fun x => [.string x.1, .string x.2]
theorem cellsP_length (L : List P2) : (cellsP L).length = L.length * 2 := by
  unfold cellsP
  induction L with
  | nil => rfl
  | cons x L ih => simp only [List.flatMap_cons, List.length_append, List.length_cons, List.length_nil, ih]; omega
theorem cellsP_append (L M : List P2) : cellsP (L ++ M) = cellsP L ++ cellsP M := by simp [cellsP]
theorem cellsP_at (L : List P2) (j : Nat) (x : P2) (h : L[j]? = some x) : (cellsP L)[j * 2]? = some (.string x.1) ∧ (cellsP L)[j * 2 + 1]? = some (.string x.2) := by
  induction L generalizing j with
  | nil => simp at h
  | cons y L ih =>
    cases j with
    | zero => simp at h; subst h; simp [cellsP]
    | succ j =>
      have := ih j (by simpa using h)
      have e : cellsP (y :: L) = .string y.1 :: .string y.2 :: cellsP L := by simp [cellsP]
      rw [e, show (j + 1) * 2 = j * 2 + 1 + 1 by omega]
      exact this
theorem cellsP_one (L : List P2) : ∀ u ∈ cellsP L, u.oneCell' = true := fun u hu => by
  simp only [cellsP, List.mem_flatMap] at hu
  obtain ⟨x, _, hx⟩ := hu
  simp at hx
  rcases hx with rfl | rfl <;> rfl
theorem cellsP_take (L : List P2) (k : Nat) : (cellsP L).take (k * 2) = cellsP (L.take k) := by
  induction L generalizing k with
  | nil => simp [cellsP]
  | cons y L ih =>
    cases k with
    | zero => simp [cellsP]
    | succ k =>
      have e : ∀ M, cellsP (y :: M) = .string y.1 :: .string y.2 :: cellsP M := fun M => by simp [cellsP]
      rw [List.take_succ_cons, e, e, show (k + 1) * 2 = k * 2 + 1 + 1 by omega, List.take_succ_cons, List.take_succ_cons, ih]
theorem cellsP_drop (L : List P2) (k : Nat) : (cellsP L).drop (k * 2) = cellsP (L.drop k) := by
  induction L generalizing k with
  | nil => simp [cellsP]
  | cons y L ih =>
    cases k with
    | zero => simp
    | succ k =>
      have e : cellsP (y :: L) = .string y.1 :: .string y.2 :: cellsP L := by simp [cellsP]
      rw [e, show (k + 1) * 2 = k * 2 + 1 + 1 by omega, List.drop_succ_cons, List.drop_succ_cons, List.drop_succ_cons, ih]
theorem kl_inj {x y : P2} (h : kl x = kl y) : x.1 = y.1 := by
  unfold kl at h
  have := congrArg List.toArray h
  simp only [Array.toArray_toList] at this
  exact ByteArray.ext this

/-! ### the first pairs -/
theorem rightP_iff (L : List P2) : rightP L = true ↔ L.length ≤ 8 ∧ (∀ x ∈ L, fitP x = true) ∧ (L.map kl).Nodup := by
  simp only [rightP, Bool.and_eq_true, decide_eq_true_eq, List.all_eq_true, and_assoc]
/-- The first k pairs' keys and values have right lengths, and no key stands twice. -/
def OkTo (L : List P2) (k : Nat) : Prop := (∀ x ∈ L.take k, fitP x = true) ∧ ((L.take k).map kl).Nodup
theorem OkTo.zero (L : List P2) : OkTo L 0 := by simp [OkTo]
theorem take_succ_at (L : List P2) (k : Nat) (x : P2) (h : L[k]? = some x) : L.take (k + 1) = L.take k ++ [x] := by
  rw [List.take_add_one, h]; rfl
theorem OkTo.succ {L : List P2} {k : Nat} (h : OkTo L k) {x : P2} (hx : L[k]? = some x) (hf : fitP x = true) (hn : kl x ∉ (L.take k).map kl) : OkTo L (k + 1) := by
  unfold OkTo
  rw [take_succ_at L k x hx]
  refine ⟨fun y hy => ?_, ?_⟩
  · rcases List.mem_append.1 hy with h1 | h1
    · exact h.1 y h1
    · rw [List.mem_singleton.1 h1]; exact hf
  · rw [List.map_append, List.nodup_append]
    refine ⟨h.2, by simp, ?_⟩
    intro a ha b hb
    simp at hb
    subst hb
    exact fun e => hn (e ▸ ha)
theorem OkTo.all {L : List P2} (h : OkTo L L.length) (hl : L.length ≤ 8) : rightP L = true := by
  unfold OkTo at h
  rw [List.take_length] at h
  exact (rightP_iff L).2 ⟨hl, h⟩
theorem not_right_fit {L : List P2} {k : Nat} {x : P2} (hx : L[k]? = some x) (hf : fitP x = false) : rightP L = false := by
  cases h : rightP L with
  | false => rfl
  | true => rw [((rightP_iff L).1 h).2.1 x (List.mem_of_getElem? hx)] at hf; cases hf
theorem not_right_twice {L : List P2} {k : Nat} {x : P2} (hx : L[k]? = some x) (hn : kl x ∈ (L.take k).map kl) : rightP L = false := by
  cases h : rightP L with
  | false => rfl
  | true =>
    have hnd := ((rightP_iff L).1 h).2.2
    have e : L = L.take (k + 1) ++ L.drop (k + 1) := (List.take_append_drop _ _).symm
    rw [e, take_succ_at L k x hx, List.map_append, List.map_append] at hnd
    have h2 := (List.nodup_append.1 (List.nodup_append.1 hnd).1).2.2
    exact absurd rfl (h2 (kl x) hn (kl x) (by simp))
theorem not_right_long {L : List P2} (h : 8 < L.length) : rightP L = false := by
  cases h2 : rightP L with
  | false => rfl
  | true => have := ((rightP_iff L).1 h2).1; omega

/-! ### the map from keys to places -/
def mpD (L : List P2) : Nat → DataW Unit
  | 0 => .map []
  | k + 1 => match L[k]? with
    | some x => (mpD L k).put (.string (kl x)) (.lit (.int .i64 k))
    | none => mpD L k
theorem mpD_succ {L : List P2} {k : Nat} {x : P2} (h : L[k]? = some x) : mpD L (k + 1) = (mpD L k).put (.string (kl x)) (.lit (.int .i64 k)) := by simp [mpD, h]
theorem isKey_str (l : List UInt8) : WideAt.IsKeyLit (.string l) := by trivial
theorem mpD_tidy (L : List P2) : ∀ k, Tidy (mpD L k)
  | 0 => tidy_empty
  | k + 1 => by
    unfold mpD
    cases L[k]? with
    | none => exact mpD_tidy L k
    | some x => exact (mpD_tidy L k).put (isKey_str _) _
theorem mpD_has (L : List P2) (s : List UInt8) : ∀ k, k ≤ L.length → Maps.has (mpD L k) (.string s) = decide (s ∈ (L.take k).map kl)
  | 0, _ => by simp [mpD, Maps.has]
  | k + 1, hk => by
    have hx : L[k]? = some L[k] := List.getElem?_eq_getElem (by omega)
    rw [mpD_succ hx, take_succ_at L k _ hx]
    simp only [List.map_append, List.map_cons, List.map_nil, List.mem_append, List.mem_singleton]
    by_cases e : s = kl L[k]
    · rw [e, has_put_same (mpD_tidy L k).isMap (isKey_str _)]
      exact (decide_eq_true (Or.inr rfl)).symm
    · rw [has_put_other (by simpa using e), mpD_has L s k (by omega)]
      exact decide_eq_decide.2 ⟨Or.inl, fun h => h.resolve_right e⟩
theorem mpD_at (L : List P2) (z : DataW Unit) (i : Nat) (x : P2) (hx : L[i]? = some x) : ∀ k, i < k → k ≤ L.length → ((L.take k).map kl).Nodup → (mpD L k).atKey (.string (kl x)) z = .lit (.int .i64 i)
  | 0, h, _, _ => by omega
  | k + 1, h, hk, hn => by
    have hy : L[k]? = some L[k] := List.getElem?_eq_getElem (by omega)
    rw [mpD_succ hy]
    by_cases e : i = k
    · subst e
      rw [hx] at hy
      rw [← Option.some.inj hy]
      exact atKey_put_same (mpD_tidy L i).isMap (isKey_str _) _ _
    · have hn' := hn
      rw [take_succ_at L k _ hy, List.map_append] at hn'
      have hne : kl x ≠ kl L[k] := by
        have h2 := (List.nodup_append.1 hn').2.2
        refine h2 (kl x) ?_ (kl L[k]) (by simp)
        exact List.mem_map_of_mem (List.mem_of_getElem? (i := i) (by rw [List.getElem?_take_of_lt (by omega)]; exact hx))
      rw [atKey_put_other (by simpa using hne)]
      exact mpD_at L z i x hx k (by omega) (by omega) (List.nodup_append.1 hn').1
theorem mpD_size (L : List P2) : ∀ k, k ≤ L.length → Maps.size (mpD L k) ≤ k
  | 0, _ => by simp [mpD, Maps.size]
  | k + 1, hk => by
    have hx : L[k]? = some L[k] := List.getElem?_eq_getElem (by omega)
    rw [mpD_succ hx, size_put (mpD_tidy L k)]
    have := mpD_size L k (by omega)
    split <;> omega
theorem mem_ins {x p : Lit × DataW Unit} : ∀ {l : List (Lit × DataW Unit)}, p ∈ DataW.insert x l → p = x ∨ p ∈ l
  | [], h => by simpa [DataW.insert] using h
  | y :: r, h => by
    unfold DataW.insert at h
    split at h
    · simpa using h
    · rcases List.mem_cons.1 h with h1 | h1
      · exact Or.inr (by rw [h1]; simp)
      · rcases mem_ins h1 with h2 | h2
        · exact Or.inl h2
        · exact Or.inr (List.mem_cons_of_mem _ h2)
theorem mpD_strs (L : List P2) : ∀ k, ∃ es, mpD L k = .map es ∧ ∀ p ∈ es, ∃ x, p.1 = .string x
  | 0 => ⟨[], rfl, fun p hp => by simp at hp⟩
  | k + 1 => by
    obtain ⟨es, h1, h2⟩ := mpD_strs L k
    unfold mpD
    cases hx : L[k]? with
    | none => exact ⟨es, h1, h2⟩
    | some x =>
      simp only [h1]
      refine ⟨_, rfl, fun p hp => ?_⟩
      rcases mem_ins hp with h3 | h3
      · exact ⟨kl x, by rw [h3]⟩
      · exact h2 p (List.mem_filter.1 h3).1
theorem mpD_keys (L : List P2) (hn : (L.map kl).Nodup) : (L.map kl).Perm (strKeys (mpD L L.length)) := by
  obtain ⟨es, h1, h2⟩ := mpD_strs L L.length
  obtain ⟨es', h3, h4⟩ := mpD_tidy L L.length
  rw [h1] at h3
  obtain rfl : es = es' := by simpa using h3
  have hh := fun s => mpD_has L s L.length (Nat.le_refl _)
  rw [h1] at hh ⊢
  refine perm_strKeys h4 h2 hn fun x => ?_
  rw [hh x, List.take_length, decide_eq_true_eq]

theorem nodup_inj {L : List P2} (h : (L.map kl).Nodup) {a b : P2} (ha : a ∈ L) (hb : b ∈ L) (e : kl a = kl b) : a = b := by
  induction L with
  | nil => cases ha
  | cons x L ih =>
    rw [List.map_cons, List.nodup_cons] at h
    rcases List.mem_cons.1 ha with rfl | ha'
    · rcases List.mem_cons.1 hb with rfl | hb'
      · rfl
      · exact absurd (e ▸ List.mem_map_of_mem hb') h.1
    · rcases List.mem_cons.1 hb with rfl | hb'
      · exact absurd (e ▸ List.mem_map_of_mem ha') h.1
      · exact ih h.2 ha' hb'

/-! ### the text -/
def leP (a b : P2) : Bool := decide (kl a ≤ kl b)
def sortP (L : List P2) : List P2 := L.mergeSort leP
def encP (x : P2) : List Nat := x.1.size :: (bys x.1 ++ x.2.size :: bys x.2)
def encs (L : List P2) : List Nat := L.flatMap encP
/-- A context's text. -/
def textP (L : List P2) : List Nat := encs (sortP L)
theorem leP_trans (a b c : P2) (h1 : leP a b = true) (h2 : leP b c = true) : leP a c = true := by
  simp only [leP, decide_eq_true_eq] at *; exact List.le_trans h1 h2
theorem leP_total (a b : P2) : (leP a b || leP b a) = true := by
  simp only [leP, Bool.or_eq_true, decide_eq_true_eq]; exact List.le_total _ _
theorem sortP_perm (L : List P2) : (sortP L).Perm L := List.mergeSort_perm L leP
theorem sortP_sorted (L : List P2) : (sortP L).Pairwise (fun a b => leP a b = true) := List.pairwise_mergeSort leP_trans leP_total L
theorem sortP_length (L : List P2) : (sortP L).length = L.length := (sortP_perm L).length_eq
/-- A sorted row that holds the same pairs is this one, if no key stands twice. -/
theorem sortP_eq {L M : List P2} (hn : (L.map kl).Nodup) (hp : M.Perm L) (hs : M.Pairwise (fun a b => leP a b = true)) : M = sortP L := by
  refine List.Perm.eq_of_pairwise (le := fun a b => leP a b = true) (fun a b ha hb h1 h2 => ?_) hs (sortP_sorted L) (hp.trans (sortP_perm L).symm)
  simp only [leP, decide_eq_true_eq] at h1 h2
  have hk : kl a = kl b := List.le_antisymm h1 h2
  exact nodup_inj hn (hp.mem_iff.1 ha) ((sortP_perm L).mem_iff.1 hb) hk
theorem sortP_keys (L : List P2) {ss : List (List UInt8)} (hp : ss.Perm (L.map kl)) : ss.mergeSort (fun x y => decide (x ≤ y)) = (sortP L).map kl := by
  have h1 : ((sortP L).map kl).Pairwise (fun x y => leB x y = true) := by
    rw [List.pairwise_map]
    exact (sortP_sorted L).imp fun {a b} h => h
  have tr : ∀ a b c : List UInt8, leB a b = true → leB b c = true → leB a c = true := fun a b c h1 h2 => by simp only [leB, decide_eq_true_eq] at *; exact List.le_trans h1 h2
  have to : ∀ a b : List UInt8, (leB a b || leB b a) = true := fun a b => by simp only [leB, Bool.or_eq_true, decide_eq_true_eq]; exact List.le_total a b
  refine List.Perm.eq_of_pairwise (le := fun a b => leB a b = true) (fun a b _ _ h1 h2 => ?_) (List.pairwise_mergeSort tr to ss) h1 (((List.mergeSort_perm ss leB).trans hp).trans ((sortP_perm L).map kl).symm)
  simp only [leB, decide_eq_true_eq] at h1 h2
  exact List.le_antisymm h1 h2
end Go.Own.Lb
namespace Go.Proofs.YtfamoakicgmfgaaGreat.Lb
open Go.RowKit Go.Own.Lb Go.Maps Go.WideMaps
set_option maxRecDepth 100000 in
theorem fits_any (x : P2) (h1 : x.1.size ≤ 9223372036854775807) (h2 : x.2.size ≤ 9223372036854775807) (w : World) :
    Calls Tryz.prog 44 #[.agg #[.string x.1, .string x.2]] w fun e w' => e = .returned (.bool (fitP x)) ∧ Below w.heap.size w w' := by
  obtain ⟨k, v⟩ := x
  simp only at h1 h2 ⊢
  have hc : k.size < 1 ∨ (1 ≤ k.size ∧ 32 < k.size) ∨ (1 ≤ k.size ∧ k.size ≤ 32 ∧ v.size ≤ 64) ∨ (1 ≤ k.size ∧ k.size ≤ 32 ∧ 64 < v.size) := by omega
  rcases hc with h | ⟨h, h'⟩ | ⟨h, h', h''⟩ | ⟨h, h', h''⟩
  all_goals
    try have H : Hid (fitP (k, v) = true) := Lib.hid (by simp only [fitP, Bool.and_eq_true, decide_eq_true_eq]; omega)
    try have H : Hid (fitP (k, v) = false) := Lib.hid (by simp only [fitP, Bool.and_eq_false_iff, decide_eq_false_iff_not]; omega)
    try have d1 : decide (1 ≤ (k.size : Int)) = true := by simp; omega
    try have d1 : decide (1 ≤ (k.size : Int)) = false := by simp; omega
    try have d2 : decide ((k.size : Int) ≤ 32) = true := by simp; omega
    try have d2 : decide ((k.size : Int) ≤ 32) = false := by simp; omega
    try have d3 : decide ((v.size : Int) ≤ 64) = true := by simp; omega
    try have d3 : decide ((v.size : Int) ≤ 64) = false := by simp; omega
    go_enter Tryz.func44, Tryz.ntmps44
    go_wp2
    go_ret
    exact ⟨by rw [H.out]; rfl, (Below.refl _ w).alloc (Nat.le_refl _) _⟩
theorem mem_place {L : List P2} {x : P2} (h : x ∈ L) : ∃ i : Nat, L[i]? = some x := by
  obtain ⟨i, hi, e⟩ := List.getElem_of_mem h
  exact ⟨i, by rw [List.getElem?_eq_getElem hi, e]⟩
/-- The slice v holds the pairs L. -/
def PsC (w : World) (v : Value) (L : List P2) : Prop :=
  ∃ p cap, v = .slice p L.length cap ∧ L.length ≤ cap ∧ ∀ (j : Nat) u, (cellsP L)[j]? = some u → ∃ b o, p = some ⟨b, o, none⟩ ∧ w.cell? ⟨b, o + j, none⟩ = some u
theorem PsC.at {w : World} {p : Option Addr} {n cap : Nat} {L : List P2} (h : PsC w (.slice p n cap) L) {k : Nat} {x : P2} (hx : L[k]? = some x) :
    ∃ b o, p = some ⟨b, o, none⟩ ∧ w.cell? ⟨b, o + k * 2, none⟩ = some (.string x.1) ∧ w.cell? ⟨b, o + k * 2 + 1, none⟩ = some (.string x.2) := by
  obtain ⟨p', cap', e, _, hc⟩ := h
  simp only [Value.slice.injEq] at e
  obtain ⟨rfl, _, _⟩ := e
  obtain ⟨h0, h1⟩ := cellsP_at L k x hx
  obtain ⟨b, o, rfl, c0⟩ := hc _ _ h0
  obtain ⟨b', o', e', c1⟩ := hc _ _ h1
  simp only [Option.some.injEq, Addr.mk.injEq] at e'
  obtain ⟨rfl, rfl, _⟩ := e'
  exact ⟨b, o, rfl, c0, c1⟩
theorem PsC.first {w : World} {p : Option Addr} {n cap : Nat} {L : List P2} (h : PsC w (.slice p n cap) L) (k : Nat) (hk : k ≤ L.length) : PsC w (.slice p k cap) (L.take k) := by
  obtain ⟨p', cap', e, hle, hc⟩ := h
  simp only [Value.slice.injEq] at e
  obtain ⟨rfl, _, rfl⟩ := e
  refine ⟨p, cap, by rw [List.length_take, Nat.min_eq_left hk], by rw [List.length_take]; omega, fun j u hu => ?_⟩
  rw [← cellsP_take] at hu
  rw [List.getElem?_take] at hu
  split at hu
  · exact hc j u hu
  · cases hu
theorem PsC.cap_le {w : World} {p : Option Addr} {n cap : Nat} {L : List P2} (h : PsC w (.slice p n cap) L) : n = L.length ∧ L.length ≤ cap := by
  obtain ⟨p', cap', e, hle, hc⟩ := h
  simp only [Value.slice.injEq] at e
  obtain ⟨rfl, h2, rfl⟩ := e
  exact ⟨h2, hle⟩
theorem PsC.below {w w' : World} {v : Value} {L : List P2} (h : PsC w v L) (hb : Below w.heap.size w w') : PsC w' v L := by
  obtain ⟨p, cap, e, hle, hc⟩ := h
  refine ⟨p, cap, e, hle, fun j u hu => ?_⟩
  obtain ⟨b, o, h1, h2⟩ := hc j u hu
  exact ⟨b, o, h1, by rw [hb.cell (p := ⟨b, o + j, none⟩) (World.block_lt_of_cell? w _ h2)]; exact h2⟩
theorem ld_pair {P : Program} {T : TypeId} (W : World) {b o : Nat} {k v : Value} (ha : (isAgg T).run P W = .ok true W) (hz : (sizeOf T).run P W = .ok 2 W) (h0 : W.cell? ⟨b, o, none⟩ = some k) (h1 : W.cell? ⟨b, o + 1, none⟩ = some v) :
    (Instr.loadAt T (.pointer (some ⟨b, o, none⟩))).run P W = .ok (.agg #[k, v]) W := by
  have hl := run_loadCells_list (P := P) W ⟨b, o, none⟩ [k, v] (fun j u hu => by
    have hadd : (⟨b, o, none⟩ : Addr).add j = ⟨b, o + j, none⟩ := by unfold Addr.add; split <;> simp_all
    rw [hadd]
    match j, hu with
    | 0, hu => simpa using hu ▸ h0
    | 1, hu => simpa using hu ▸ h1
    | j + 2, hu => simp at hu)
  simp only [List.length_cons, List.length_nil, Nat.zero_add, Nat.reduceAdd] at hl
  simp [Instr.loadAt, Instr.sureAddr, loadVar, ha, hz, hl]
theorem own_below {H : Type} {P : Program} {k : TypeId} {R : Value → Option (DataW H × List MemPlace)} {w w' : World} {b n B : Nat} {D : DataW H} (h : w.ownsMap P k R b n D) (hb : Below B w w') (hB : b < B) : w'.ownsMap P k R b n D := by
  obtain ⟨es, clock, h1, F, hs, hD⟩ := h
  exact ⟨es, clock, (hb.block b hB).trans h1, F, hs, hD⟩
theorem cell_new (w : World) (c : Array Value) (t : TypeId) (j : Nat) : (w.alloc (.cells c t)).cell? ⟨w.heap.size, j, none⟩ = c[j]? := by
  have h := heap_alloc_new w (.cells c t)
  simp only [World.cell?, h, Option.isSome_none, Bool.false_eq_true, if_false]
theorem law9 : Keyed Tryz.prog 9 := string_keyed Tryz.underlying9
theorem zero3 (w : World) : (zeroValue 3).run Tryz.prog w = .ok (.int .i64 0) w := by kernel_rfl
set_option maxRecDepth 100000 in
set_option maxHeartbeats 1000000 in
theorem places_any (L : List P2) (p : Option Addr) (cap : Nat) (hL : L.length ≤ 1000000) (hs : ∀ x ∈ L, x.1.size ≤ 1000000 ∧ x.2.size ≤ 1000000) (w : World) (hP : PsC w (.slice p L.length cap) L) :
    Calls Tryz.prog 24 #[.slice p L.length cap] w fun e w' => Below w.heap.size w w' ∧ ((rightP L = false ∧ e = .returned (.tuple #[.map none, .bool false])) ∨ (rightP L = true ∧ ∃ B, w.heap.size ≤ B ∧ e = .returned (.tuple #[.map (some B), .bool true]) ∧ w'.ownsMap Tryz.prog 9 (plainElem (H := Unit) Tryz.prog 3) B L.length (mpD L L.length))) := by
  have hmm : ∀ (z : Int) (W : World), (Instr.makeMap 53 (some (.int .i64 z))).run Tryz.prog W = .ok (.map (some W.heap.size)) (W.alloc (.map #[] 0)) := fun _ _ => by kernel_rfl
  obtain ⟨n, hn⟩ : ∃ n, L.length = n := ⟨_, rfl⟩
  rw [hn] at hL ⊢
  have HN := Lib.hid hn
  by_cases h8 : n ≤ 8
  · have h8' : ¬ (8 : Int) < (n : Int) := by omega
    have HP := Lib.hid hP
    clear hn hP
    go_enter Tryz.func24, Tryz.ntmps24
    go_wp2
    go_loopw [17] (fun i wr => ∃ k : Nat, k ≤ n ∧ i = .int .i64 (k : Int) ∧ wr.ownsMap Tryz.prog 9 (plainElem (H := Unit) Tryz.prog 3) w.heap.size k (mpD L k) ∧ Below w.heap.size w wr ∧ Hid (OkTo L k)) (fun i _ => n - (intOf i).toNat)
    case atStart => exact ⟨0, Nat.zero_le _, rfl, World.ownsMap_made _ _ _ _, (Below.refl _ _).alloc (Nat.le_refl _) _, Lib.hid (OkTo.zero L)⟩
    case round =>
      obtain ⟨k, hk, rfl, hown, hnx, HO⟩ := hrel
      by_cases hlt : k < n
      · obtain ⟨x, hx⟩ : ∃ x, L[k]? = some x := ⟨_, List.getElem?_eq_getElem (by rw [HN.out]; exact hlt)⟩
        obtain ⟨b, o, rfl, c0, c1⟩ := (HP.out.below hnx).at hx
        have hsx := hs x (List.mem_of_getElem? hx)
        have hb0 : b < wr.heap.size := World.block_lt_of_cell? wr _ c0
        have hbw := hnx.size
        have hkey : keyOf Tryz.prog 9 (.string x.1) = some (.string x.1.data.toList) := keyOf_string_mk Tryz.underlying9 (by unfold maxLen; omega)
        have hhas := mpD_has L (kl x) k (by rw [HN.out]; exact hk)
        by_cases htw : kl x ∈ (L.take k).map kl
        · have HZ : Hid (rightP L = false) := Lib.hid (not_right_twice hx htw)
          rw [decide_eq_true htw] at hhas
          unfold kl at hhas
          have hs1 : x.1.size ≤ 1000000 := hsx.1
          clear hx htw hs hsx
          go_wp2_with (at_lookup; refine wpList_lookup_own_ok_int _ rfl _ _ 53 rfl 9 3 .i64 law9 Tryz.underlying53 Tryz.underlying3 (zero3 _) w.heap.size k _ rfl (hown.alloc _) _ _ rfl hkey ?_; intro c hat hwc; clear hat hwc)
          go_ret2
          exact ⟨(hnx.alloc hbw _), Or.inl ⟨HZ.out, rfl⟩⟩
        · rw [decide_eq_false htw] at hhas
          unfold kl at hhas
          cases hft : fitP x with
          | false =>
            have HZ : Hid (rightP L = false) := Lib.hid (not_right_fit hx hft)
            have hfit := fits_any x (by omega) (by omega)
            rw [hft] at hfit
            have HF := Lib.hid hfit
            clear hx htw hs hft hfit
            go_wp2_with (first
              | (at_lookup; refine wpList_lookup_own_ok_int _ rfl _ _ 53 rfl 9 3 .i64 law9 Tryz.underlying53 Tryz.underlying3 (zero3 _) w.heap.size k _ rfl (hown.alloc _) _ _ rfl hkey ?_; intro c hat hwc; clear hat hwc)
              | (go_at_call 44; refine (HF.out _).mono ?_; rintro e w1 ⟨rfl, hb1⟩; replace hb1 := Lib.hid hb1))
            go_ret2
            exact ⟨(hnx.alloc hbw _).trans (hb1.out.mono (by simp; omega)), Or.inl ⟨HZ.out, rfl⟩⟩
          | true =>
            have HN2 := Lib.hid (HO.out.succ hx hft htw)
            have hfit := fits_any x (by omega) (by omega)
            rw [hft] at hfit
            have HF := Lib.hid hfit
            have HM := Lib.hid (mpD_succ hx)
            clear hx htw hs hft hfit
            go_wp2_with (first
              | (at_lookup; refine wpList_lookup_own_ok_int _ rfl _ _ 53 rfl 9 3 .i64 law9 Tryz.underlying53 Tryz.underlying3 (zero3 _) w.heap.size k _ rfl (hown.alloc _) _ _ rfl hkey ?_; intro c hat hwc; clear hat hwc)
              | (go_at_call 44; fail))
            refine (HF.out _).mono ?_
            rintro e w1 ⟨rfl, hb1⟩
            have d0 : w1.cell? ⟨wr.heap.size, 0, none⟩ = some (.string x.1) := by
              rw [hb1.cell (p := ⟨wr.heap.size, 0, none⟩) (by simp)]
              exact cell_new _ _ _ _
            have HOWN := Lib.hid (own_below (hown.alloc (.cells #[.string x.1, .string x.2] 42)) hb1 (by simp; omega))
            replace hb1 := Lib.hid hb1
            go_wp2_with (at_mapUpdate; refine wpList_mapUpdate_own _ rfl _ _ _ 53 rfl 9 3 law9 Tryz.underlying53 _ w.heap.size k _ rfl HOWN.out (by unfold maxLen; omega) _ _ _ rfl rfl hkey _ [] (plainElem_int Tryz.underlying3 (WalkArith.wf_i64 (by omega))) ?_; intro w2 hown2 hgrow2)
            have R1 : w2.ownsMap Tryz.prog 9 (plainElem (H := Unit) Tryz.prog 3) w.heap.size (k + 1) (mpD L (k + 1)) := by rw [HM.out]; exact hown2
            have R2 : Below w.heap.size w w1 := (hnx.alloc hbw _).trans (hb1.out.mono (by simp; omega))
            have R3 : Below w.heap.size w w2 := R2.grown hgrow2 R2.size (fun j hj => by cases hj; exact Nat.le_refl _)
            clear hown2 hgrow2 hown hnx R2
            go_wp2
            go_roundw
            case rel => exact ⟨k + 1, by omega, by go_num, R1, R3, HN2⟩
            case measure => simp [intOf]; omega
      · obtain rfl : k = n := by omega
        have hle : ¬ (k : Int) < (k : Int) := by omega
        have HR : Hid (rightP L = true) := Lib.hid ((show OkTo L L.length by rw [HN.out]; exact HO.out).all (by rw [HN.out]; exact h8))
        go_wp2
        go_ret2
        exact ⟨hnx, Or.inr ⟨HR.out, _, Nat.le_refl _, rfl, hown⟩⟩
  · have h8' : (8 : Int) < (n : Int) := by omega
    have HZ : Hid (rightP L = false) := Lib.hid (not_right_long (by omega))
    clear hn hP
    go_enter Tryz.func24, Tryz.ntmps24
    go_wp2
    go_ret2
    exact ⟨Below.refl _ _, Or.inl ⟨HZ.out, rfl⟩⟩
end Go.Proofs.YtfamoakicgmfgaaGreat.Lb
namespace Go.Proofs.YtfamoakicgmfgaaGreat.Lb
open Go.RowKit Go.Own.Lb Go.Maps Go.WideMaps
/-- Bytes as cells. -/
def nb (l : List Nat) : List Value := l.map fun (n : Nat) => Value.int .u8 (n : Int)
theorem nb_append (a b : List Nat) : nb (a ++ b) = nb a ++ nb b := by simp [nb]
theorem nb_str (s : ByteArray) : Lib.strCells s = nb (bys s) := by
  simp [Lib.strCells, nb, bys]
/-- The slice v holds these bytes, in a row of the call's own. -/
def OwnB (w : World) (B : Nat) (v : Value) (l : List Nat) : Prop := w.ownsRow B 5 1 v l.length (nb l)
theorem info5 : (Tryz.prog.info? 5).map (fun i => (i.zero, i.size, i.bytes)) = some (some (.int .u8 0), 1, 1) := by kernel_rfl
theorem OwnB.nil (w : World) (B : Nat) : OwnB w B (.slice none 0 0) [] := World.ownsRow_nil w B 5 1
theorem conv_nil (w : World) : (convert 52 9 (.slice none 0 0)).run Tryz.prog w = .ok (.string (mkS [])) w := by kernel_rfl
theorem OwnB.shape {w : World} {B : Nat} {v : Value} {l : List Nat} (h : OwnB w B v l) : ∃ p c, v = .slice p l.length c := by
  rcases h.2 with ⟨rfl, h2⟩ | ⟨g, cap, cur, rfl, _⟩
  · rw [h2]; exact ⟨_, _, rfl⟩
  · exact ⟨_, _, rfl⟩
theorem OwnB.str {w : World} {B : Nat} {v : Value} {l : List Nat} (h : OwnB w B v l) : (convert 52 9 v).run Tryz.prog w = .ok (.string (mkS l)) w := by
  rcases h.2 with ⟨rfl, h2⟩ | ⟨g, cap, cur, rfl, hb, hg, hc, hm, hs, ht⟩
  · have : l = [] := List.eq_nil_of_length_eq_zero h2
    subst this
    exact conv_nil w
  · have hl := run_loadCells_list (P := Tryz.prog) w ⟨g, 0, none⟩ (nb l) (fun j u hu => h.cells (g := g) rfl j u hu)
    have hl' : (loadCells ⟨g, 0, none⟩ l.length).run Tryz.prog w = .ok ((l.map fun (n : Nat) => (n : Int)).map (Value.int .u8)).toArray w := by
      have e : (nb l).length = l.length := by simp [nb]
      rw [e] at hl
      rw [hl]
      simp [nb, Function.comp_def]
    rw [run_convert_bytes_string w 52 9 5 _ _ _ Tryz.underlying52 Tryz.underlying5 Tryz.underlying9, run_bytesToString w _ _ _ _ hl', foldl_push_bytes]
    simp [mkS, Function.comp_def]
theorem below_of_grown {w w' : World} {B : Nat} {v : Value} {l : List Nat} (h : OwnB w B v l) (hg : w.grownBy w' v.ownBlock) (hB : B ≤ w.heap.size) : Below B w w' :=
  (Below.refl B w).grown hg hB (fun j hj => (h.lt j hj).1)
set_option maxRecDepth 100000 in
set_option maxHeartbeats 1000000 in
theorem counted_any (s : ByteArray) (hs : s.size ≤ 255) (l : List Nat) (hl : l.length ≤ 1000000) (v : Value) (B : Nat) (w : World) (hB : B ≤ w.heap.size) (hown : OwnB w B v l) :
    Calls Tryz.prog 27 #[v, .string s] w fun e w' => ∃ v', e = .returned v' ∧ OwnB w' B v' (l ++ s.size :: bys s) ∧ Below B w w' := by
  obtain ⟨i0, hi, hz0, hz1, hz2⟩ := info_parts info5
  obtain ⟨p, c, rfl⟩ := hown.shape
  obtain ⟨n, hn⟩ : ∃ n, l.length = n := ⟨_, rfl⟩
  have hown1 : w.ownsRow B 5 1 (.slice p n c) n (nb l) := by rw [← hn]; exact hown
  have HB0 := Lib.hid (fun w' (hg : w.grownBy w' (Value.slice p n c).ownBlock) => below_of_grown hown (by rw [hn]; exact hg) hB)
  rw [hn] at hl ⊢
  have HN := Lib.hid hn
  clear hn hown
  have hw8 : IntKind.u8.wrap (s.size : Int) = (s.size : Int) := by simp [IntKind.wrap, IntKind.bits, IntKind.signed]; omega
  go_enter Tryz.func27, Tryz.ntmps27
  go_wp2_with (at_builtin; refine wpList_append_own _ rfl (.tmp 5) (.tmp 9) 52 rfl B 5 i0 (.int .u8 0) 1 1 Tryz.underlying52 hi hz0 hz1 hz2 rfl (by decide) _ _ _ rfl (hown1.alloc _) ⟨w.heap.size, 0, none⟩ 1 1 [.int .u8 (s.size : Int)] rfl rfl (cell_one_new _ _ _) (ints_oneCell .u8 [(s.size : Int)]) (by unfold maxLen; omega) (by omega) (by simp; omega) ?_)
  intro v1 w1 hown2 hgrow1 _
  have HG1 := Lib.hid (HB0.out w1 ((World.grownBy_alloc _ _ _).trans hgrow1))
  clear hgrow1
  have hB1 : B ≤ w1.heap.size := Nat.le_trans hB HG1.out.size
  go_wp2_with (at_builtin; (refine Lib.wpList_append_own_string _ rfl (.tmp 10) (.tmp 11) 52 9 rfl B 5 i0 Tryz.underlying52 Tryz.underlying9 hi hz0 hz1 hz2 _ _ _ rfl hown2 s rfl (by unfold maxLen; omega) (by omega) hB1 ?_))
  intro v2 w2 hown3 hgrow2 _
  have HG2 : Hid (Below B w w2) := Lib.hid (HG1.out.grown hgrow2 hB1 (fun j hj => (hown2.lt j hj).1))
  clear hgrow2 hown2
  go_wp2
  go_ret
  refine ⟨v2, rfl, ?_, HG2.out⟩
  have e : n + 1 + s.size = (l ++ s.size :: bys s).length := by simp [bys_length, HN.out]; omega
  rw [e, nb_str, ← show nb (l ++ s.size :: bys s) = nb l ++ Value.int .u8 (s.size : Int) :: nb (bys s) by simp [nb]] at hown3
  exact hown3
end Go.Proofs.YtfamoakicgmfgaaGreat.Lb
namespace Go.Proofs.YtfamoakicgmfgaaGreat.Lb
open Go.RowKit Go.Own.Lb Go.Maps Go.WideMaps
theorem encs_append (a b : List P2) : encs (a ++ b) = encs a ++ encs b := by simp [encs]
theorem fit_sizes {x : P2} (h : fitP x = true) : 1 ≤ x.1.size ∧ x.1.size ≤ 32 ∧ x.2.size ≤ 64 := by
  simp only [fitP, Bool.and_eq_true, decide_eq_true_eq] at h; omega
theorem encs_le (M : List P2) (h : ∀ x ∈ M, fitP x = true) : (encs M).length ≤ M.length * 98 := by
  induction M with
  | nil => simp [encs]
  | cons x M ih =>
    have h1 := fit_sizes (h x (by simp))
    have h2 := ih (fun y hy => h y (by simp [hy]))
    have e : encs (x :: M) = encP x ++ encs M := by simp [encs]
    rw [e]
    simp only [encP, List.length_append, List.length_cons, bys_length]; omega
theorem encStr_kl (x : P2) : encStr (kl x) = .string x.1 := by simp [encStr, kl]
theorem keys_row {w : World} {B n : Nat} {v : Value} {ks : List (List UInt8)} (h : w.ownsRow B 9 1 v n (ks.map encStr)) : ∃ p c, v = .slice p n c ∧ ∀ (j : Nat) κ, ks[j]? = some κ → ∃ g, p = some ⟨g, 0, none⟩ ∧ g < w.heap.size ∧ w.cell? ⟨g, j, none⟩ = some (encStr κ) := by
  rcases h.2 with ⟨rfl, h2⟩ | ⟨g, cap, cur, rfl, hb, hg, _⟩
  · refine ⟨none, 0, by rw [h2], fun j κ hj => ?_⟩
    have hl := h.1
    rw [List.length_map] at hl
    have := (List.getElem?_eq_some_iff.1 hj).1
    omega
  · refine ⟨_, _, rfl, fun j κ hj => ⟨g, rfl, (Array.getElem?_eq_some_iff.1 hg).1, ?_⟩⟩
    have := h.cells (g := g) rfl j (encStr κ) (by rw [List.getElem?_map, hj]; rfl)
    have hadd : (⟨g, 0, none⟩ : Addr).add j = ⟨g, j, none⟩ := by unfold Addr.add; split <;> simp_all
    rwa [hadd] at this
def textR (L : List P2) : Value := if rightP L = true then .tuple #[.string (mkS (textP L)), .int .i64 0] else .tuple #[.string { data := #[] }, .int .i64 2]
set_option maxRecDepth 100000 in
set_option maxHeartbeats 2000000 in
theorem text_any (L : List P2) (p : Option Addr) (cap : Nat) (hL : L.length ≤ 1000000) (hs : ∀ x ∈ L, x.1.size ≤ 1000000 ∧ x.2.size ≤ 1000000) (w : World) (hP : PsC w (.slice p L.length cap) L) :
    Calls Tryz.prog 13 #[.slice p L.length cap] w fun e w' => e = .returned (textR L) ∧ Below w.heap.size w w' := by
  have HPL := Lib.hid (places_any L p cap hL hs w hP)
  obtain ⟨n, hn⟩ : ∃ n, L.length = n := ⟨_, rfl⟩
  rw [hn] at hL HPL ⊢
  have HP := Lib.hid hP
  have HN := Lib.hid hn
  clear hP hn hs
  cases hr : rightP L with
  | false =>
    have HE : Hid (textR L = .tuple #[.string { data := #[] }, .int .i64 2]) := Lib.hid (by simp [textR, hr])
    have HR := Lib.hid hr
    clear hr
    go_enter Tryz.func13, Tryz.ntmps13
    go_wp2_with fail
    refine HPL.out.mono ?_
    rintro e w1 ⟨hb, ⟨_, rfl⟩ | ⟨h2, _⟩⟩
    · replace hb := Lib.hid hb
      go_wp2
      go_ret2
      exact ⟨by rw [HE.out]; rfl, hb.out⟩
    · rw [HR.out] at h2; cases h2
  | true =>
    have HE : Hid (textR L = .tuple #[.string (mkS (textP L)), .int .i64 0]) := Lib.hid (by simp [textR, hr])
    have HR := Lib.hid hr
    have HRR := Lib.hid ((rightP_iff L).1 hr)
    clear hr
    go_enter Tryz.func13, Tryz.ntmps13
    go_wp2_with fail
    refine HPL.out.mono ?_
    rintro e w1 ⟨hb, ⟨h2, _⟩ | ⟨_, B, hB, rfl, hown⟩⟩
    · rw [HR.out] at h2; cases h2
    replace hb := Lib.hid hb
    have hms := mpD_size L L.length (Nat.le_refl _)
    rw [HN.out] at hms
    have hBl := hown.lt
    have HSO := Lib.hid (callsIn_wide.1 (sorted_any B n (mpD L n) (plainElem (H := Unit) Tryz.prog 3) w1 hown (by unfold maxLen; omega) (by omega)))
    clear hms
    go_wp2_with (go_at_call 26; refine (callsIn_wide.1 (keys_any (some B) w1)).mono ?_; rintro e w' ⟨rfl, rfl⟩)
    refine HSO.out.mono ?_
    rintro e w2 ⟨kv, ss, rfl, hS, hrow, _, hb2⟩
    have hS2 : ss.Perm (L.map kl) := hS.trans (by rw [← HN.out]; exact (mpD_keys L HRR.out.2.2).symm)
    have hsl : ss.length = n := by rw [hS2.length_eq, List.length_map, HN.out]
    rw [sortP_keys L hS2, hsl] at hrow
    obtain ⟨kp, kc, rfl, hkeys⟩ := keys_row hrow
    clear hrow hS hS2 hsl
    have hown2 := own_below (hown.alloc (.cells #[.map (some B)] 53)) hb2 (by simp; omega)
    have HB2 : Hid (Below w.heap.size w w2) := Lib.hid ((hb.out.alloc hb.out.size _).trans (hb2.mono (by simp; exact Nat.le_trans hb.out.size (Nat.le_succ _))))
    have HP2 := Lib.hid (HP.out.below HB2.out)
    have hBs : B < w2.heap.size := hown2.lt
    have HK := Lib.hid hkeys
    clear hown hBl hb2 hkeys
    go_wp2
    go_loopw [6, 20] (fun o i wr => ∃ (j : Nat), j ≤ n ∧ i = .int .i64 (j : Int) ∧ Hid (OwnB wr w2.heap.size o (encs ((sortP L).take j))) ∧ Hid (Below w2.heap.size w2 wr)) (fun _ i _ => n - (intOf i).toNat)
    case atStart => exact ⟨0, Nat.zero_le _, rfl, Lib.hid (by simpa [encs] using OwnB.nil w2 w2.heap.size), Lib.hid (Below.refl _ _)⟩
    case round =>
      obtain ⟨j, hj, rfl, HO, HB⟩ := hrel
      by_cases hlt : j < n
      · obtain ⟨x, hx⟩ : ∃ x, (sortP L)[j]? = some x := ⟨_, List.getElem?_eq_getElem (by rw [sortP_length, HN.out]; exact hlt)⟩
        have hmem : x ∈ L := (sortP_perm L).mem_iff.1 (List.mem_of_getElem? hx)
        obtain ⟨i, hi⟩ := mem_place hmem
        have hin : i < n := by rw [← HN.out]; exact (List.getElem?_eq_some_iff.1 hi).1
        obtain ⟨g, rfl, hg, hkc⟩ := HK.out j (kl x) (by rw [List.getElem?_map, hx]; rfl)
        rw [encStr_kl] at hkc
        have hkc' : ∀ W, Below w2.heap.size w2 W → W.cell? ⟨g, j, none⟩ = some (.string x.1) := fun W h => by rw [h.cell (p := ⟨g, j, none⟩) hg]; exact hkc
        obtain ⟨b, oo, rfl, c0, c1⟩ := HP2.out.at hi
        have hc1' : ∀ W, Below w2.heap.size w2 W → W.cell? ⟨b, oo + i * 2 + 1, none⟩ = some (.string x.2) := fun W h => by rw [h.cell (p := ⟨b, oo + i * 2 + 1, none⟩) (World.block_lt_of_cell? w2 _ c1)]; exact c1
        have hfit := fit_sizes (HRR.out.2.1 x hmem)
        have hle := encs_le ((sortP L).take j) (fun y hy => HRR.out.2.1 y ((sortP_perm L).mem_iff.1 (List.mem_of_mem_take hy)))
        have hn8 := HRR.out.1
        rw [HN.out] at hn8
        rw [List.length_take] at hle
        have hle' : (encs ((sortP L).take j)).length ≤ 1000 := by omega
        have hsn : encs ((sortP L).take (j + 1)) = (encs ((sortP L).take j) ++ x.1.size :: bys x.1) ++ x.2.size :: bys x.2 := by
          rw [take_succ_at _ _ _ hx, encs_append]; simp [encs, encP]
        have hat : (mpD L n).atKey (.string (kl x)) (.lit (.int .i64 0)) = .lit (.int .i64 i) := mpD_at L _ i x hi n hin (by rw [HN.out]; exact Nat.le_refl _) (by rw [← HN.out, List.take_length]; exact HRR.out.2.2)
        have hkey : keyOf Tryz.prog 9 (.string x.1) = some (.string (kl x)) := keyOf_string_mk Tryz.underlying9 (by unfold maxLen; omega)
        have HSN := Lib.hid hsn
        have HC1 := Lib.hid hc1'
        have HKC := Lib.hid hkc'
        have HAT := Lib.hid hat
        have HC := Lib.hid (fun l (hl : l.length ≤ 1000000) v W hW (h : OwnB W w2.heap.size v l) => counted_any x.1 (by omega) l hl v w2.heap.size W hW h)
        have HCV := Lib.hid (fun l (hl : l.length ≤ 1000000) v W hW (h : OwnB W w2.heap.size v l) => counted_any x.2 (by omega) l hl v w2.heap.size W hW h)
        have hx1 : x.1.size ≤ 32 := hfit.2.1
        clear hx hmem hi hkc hkc' c0 c1 hc1' hsn hat hfit hle
        have hkw := HKC.out wr HB.out
        have hji : (j : Int) < n := by omega
        go_wp2_with fail
        refine (HC.out _ (by omega) _ _ HB.out.size HO.out).mono ?_
        rintro e w3 ⟨v3, rfl, ho3, hb3⟩
        obtain ⟨l3, hl3⟩ : ∃ l3, encs ((sortP L).take j) ++ x.1.size :: bys x.1 = l3 := ⟨_, rfl⟩
        rw [hl3] at ho3
        have hl3l : l3.length ≤ 2000 := by rw [← hl3]; simp only [List.length_append, List.length_cons, bys_length]; omega
        have HO3 := Lib.hid ho3
        have HL3 := Lib.hid hl3
        have HB3 := Lib.hid (HB.out.trans hb3)
        have hown3 := own_below hown2 HB3.out hBs
        have hc13 := HC1.out w3 HB3.out
        clear ho3 hb3 hkw hl3
        go_wp2_with (at_lookup; refine wpList_lookup_own_int _ rfl _ _ 53 rfl 9 3 .i64 law9 Tryz.underlying53 Tryz.underlying3 (zero3 _) B n _ rfl hown3 _ _ rfl hkey ?_)
        intro c hat _
        obtain rfl : c = (i : Int) := by
          have := HAT.out.symm.trans hat
          simpa using this.symm
        clear hat
        have hii : (i : Int) < n := by omega
        go_wp2_with (go_at_call 27; fail)
        refine (HCV.out l3 (by omega) _ _ HB3.out.size HO3.out).mono ?_
        rintro e w4 ⟨v4, rfl, ho4, hb4⟩
        have HB4 := Lib.hid (HB3.out.trans hb4)
        have HO4 : Hid (OwnB w4 w2.heap.size v4 (encs ((sortP L).take (j + 1)))) := Lib.hid (by rw [HSN.out, HL3.out]; exact ho4)
        clear ho4 hb4 hc13 hown3
        go_wp2
        go_roundw
        case rel => exact ⟨j + 1, by omega, by go_num, HO4, HB4⟩
        case measure => simp [intOf]; omega
      · obtain rfl : j = n := by omega
        have HT : Hid (encs ((sortP L).take j) = textP L) := Lib.hid (by rw [List.take_of_length_le (by rw [sortP_length, HN.out]; exact Nat.le_refl _)]; rfl)
        rw [HT.out] at HO
        have hcv := HO.out.str
        go_wp2
        go_ret2
        exact ⟨by rw [HE.out]; rfl, HB2.out.trans (HB.out.mono HB2.out.size)⟩
end Go.Proofs.YtfamoakicgmfgaaGreat.Lb

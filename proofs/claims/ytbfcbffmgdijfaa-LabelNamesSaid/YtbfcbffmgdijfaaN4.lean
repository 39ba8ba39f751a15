/- Names, plainly: one behind the other; each rune alone; how long they are. No program. -/
import Derived.Test.YtbfcbffmgdijfaaN1
namespace Go.Own
open Go
theorem ok1_mono {c : Nat} (h : ok1 c true = true) : ok1 c false = true := by
  simp only [ok1, Bool.or_eq_true, Bool.and_eq_true, decide_eq_true_eq] at h ⊢
  rcases h with (h | h) | h
  · exact Or.inl (Or.inl h)
  · exact Or.inl (Or.inr h)
  · exact absurd h.2 (by simp)
theorem nm_mono : ∀ {l : List Nat} {n : Nat}, nm true l = some n → nm false l = some n
  | [], n, h => h
  | [c], n, h => by
    simp only [nm] at h ⊢
    split at h
    · rename_i h1; rw [if_pos (ok1_mono h1)]; exact h
    · cases h
  | c :: d :: r, n, h => by
    by_cases h1 : ok1 c true = true
    · rw [nm_one h1] at h; rw [nm_one (ok1_mono h1)]; exact h
    · have h1' : ok1 c true = false := by simpa using h1
      by_cases h2 : ok2 c d = true
      · rw [nm_two h1' h2] at h
        have h3 : ok1 c false = false := by
          simp only [ok2, ok1, Bool.or_eq_true, Bool.and_eq_true, decide_eq_true_eq, Bool.or_eq_false_iff, Bool.and_eq_false_iff, decide_eq_false_iff_not] at h2 ⊢
          refine ⟨⟨by omega, by omega⟩, Or.inl (by omega)⟩
        rw [nm_two h3 h2]; exact h
      · rw [nm_bad h1' (fun e he => by simp at he; subst he; simpa using h2)] at h; cases h
theorem nm_append : ∀ (f : Bool) (x y : List Nat) (k : Nat), x ≠ [] → nm f x = some k → nm f (x ++ y) = (nm false y).map (· + k)
  | f, [], y, k, h, _ => absurd rfl h
  | f, [c], y, k, _, h => by
    simp only [nm] at h
    split at h
    · rename_i h1
      rw [List.singleton_append, nm_one h1, ← Option.some.inj h]
    · cases h
  | f, c :: d :: r, y, k, _, h => by
    by_cases h1 : ok1 c f = true
    · rw [nm_one h1] at h
      cases hn : nm false (d :: r) with
      | none => rw [hn] at h; cases h
      | some m =>
        rw [hn] at h
        rw [List.cons_append, nm_one h1, nm_append false (d :: r) y m (by simp) hn, Option.map_map, ← Option.some.inj h]
        congr 1
    · have h1' : ok1 c f = false := by simpa using h1
      by_cases h2 : ok2 c d = true
      · rw [nm_two h1' h2] at h
        rw [List.cons_append, List.cons_append, nm_two h1' h2]
        cases r with
        | nil => rw [← Option.some.inj h]; rfl
        | cons e r =>
          cases hn : nm false (e :: r) with
          | none => rw [hn] at h; cases h
          | some m =>
            rw [hn] at h
            rw [nm_append false (e :: r) y m (by simp) hn, Option.map_map, ← Option.some.inj h]
            congr 1
      · rw [nm_bad h1' (fun e he => by simp at he; subst he; simpa using h2)] at h; cases h
theorem runesN_some {s : ByteArray} (h : 0 < runesN s) : nm true (bys s) = some (runesN s) ∧ runesN s ≤ 32 := by
  unfold runesN at h ⊢
  cases hn : nm true (bys s) with
  | none => rw [hn] at h; simp [runesOf] at h
  | some n =>
    rw [hn] at h
    simp only [runesOf] at h ⊢
    split at h
    · rename_i h2; rw [if_pos h2]; exact ⟨rfl, h2⟩
    · omega
theorem bys_ne {s : ByteArray} {n : Nat} (h : nm true (bys s) = some n) (hn : 0 < n) : bys s ≠ [] := fun e => by
  rw [e] at h; simp [nm] at h; omega
/-- A name behind a name. -/
theorem runes_cat {a b : ByteArray} (ha : 0 < runesN a) (hb : 0 < runesN b) : runesN (a ++ b) = if runesN a + runesN b ≤ 32 then runesN a + runesN b else 0 := by
  obtain ⟨h1, _⟩ := runesN_some ha
  obtain ⟨h2, _⟩ := runesN_some hb
  have h3 := nm_append true (bys a) (bys b) _ (bys_ne h1 ha) h1
  rw [nm_mono h2] at h3
  generalize runesN a = n at *
  generalize runesN b = m at *
  show runesOf (nm true (bys (a ++ b))) = _
  rw [bys_append, h3, Nat.add_comm n m]
  rfl
/-- One rune of a name alone. -/
theorem bys_encode1 {r : Nat} (h : r < 128) : bys (Utf8.encode (r : Int)) = [r] := by
  unfold Utf8.encode
  have hv : Utf8.valid (r : Int) = true := by simp [Utf8.valid]; omega
  simp only [hv, if_true, Int.toNat_natCast]
  rw [if_pos h]
  simp [bys]; omega
theorem bys_encode2 {r : Nat} (h : 128 ≤ r) (h2 : r < 2048) : bys (Utf8.encode (r : Int)) = [192 + r / 64, 128 + r % 64] := by
  unfold Utf8.encode
  have hv : Utf8.valid (r : Int) = true := by simp [Utf8.valid]; omega
  simp only [hv, if_true, Int.toNat_natCast]
  rw [if_neg (by omega), if_pos h2]
  simp [bys]; omega
theorem runes_one {r : Nat} (h : inName r = true) (h2 : r ≠ 45) : runesN (Utf8.encode (r : Int)) = 1 := by
  simp only [inName, Bool.or_eq_true, Bool.and_eq_true, decide_eq_true_eq] at h
  unfold runesN
  by_cases h3 : r < 128
  · rw [bys_encode1 h3]
    have : ok1 r true = true := by simp only [ok1, Bool.or_eq_true, Bool.and_eq_true, decide_eq_true_eq]; left; omega
    simp [nm, this, runesOf]
  · rw [bys_encode2 (by omega) (by omega)]
    have h4 : ok1 (192 + r / 64) true = false := by
      simp only [ok1, Bool.or_eq_false_iff, Bool.and_eq_false_iff, decide_eq_false_iff_not]
      refine ⟨⟨by omega, by omega⟩, Or.inl (by omega)⟩
    have h5 : ok2 (192 + r / 64) (128 + r % 64) = true := by
      simp only [ok2, Bool.or_eq_true, Bool.and_eq_true, decide_eq_true_eq]; omega
    simp [nm, h4, h5, runesOf]
theorem nm_length : ∀ {f : Bool} {l : List Nat} {n : Nat}, nm f l = some n → l.length ≤ 2 * n
  | _, [], _, _ => Nat.zero_le _
  | f, [c], n, h => by
    simp only [nm] at h
    split at h
    · rw [← Option.some.inj h]; simp
    · cases h
  | f, c :: d :: r, n, h => by
    by_cases h1 : ok1 c f = true
    · rw [nm_one h1] at h
      cases hn : nm false (d :: r) with
      | none => rw [hn] at h; cases h
      | some m =>
        have := nm_length hn
        rw [hn] at h
        have e : m + 1 = n := Option.some.inj h
        simp only [List.length_cons] at this ⊢; omega
    · have h1' : ok1 c f = false := by simpa using h1
      by_cases h2 : ok2 c d = true
      · rw [nm_two h1' h2] at h
        cases hn : nm false r with
        | none => rw [hn] at h; cases h
        | some m =>
          have := nm_length hn
          rw [hn] at h
          have e : m + 1 = n := Option.some.inj h
          simp only [List.length_cons]; omega
      · rw [nm_bad h1' (fun e he => by simp at he; subst he; simpa using h2)] at h; cases h
theorem nm_first {c : Nat} {r : List Nat} {n : Nat} (h : nm true (c :: r) = some n) : c ≠ 45 := by
  rintro rfl
  rw [nm_bad (by decide) (fun d _ => by simp [ok2])] at h
  cases h
theorem name_facts {s : ByteArray} (h : 0 < runesN s) : runesN s ≤ 32 ∧ s.size ≤ 2 * runesN s ∧ 0 < s.size ∧ gi (bys s) 0 ≠ 45 := by
  obtain ⟨h1, h2⟩ := runesN_some h
  have h3 := nm_length h1
  rw [bys_length] at h3
  have h4 : 0 < s.size := by
    rcases Nat.eq_zero_or_pos s.size with e | e
    · exact absurd (List.eq_nil_of_length_eq_zero (by rw [bys_length]; exact e)) (bys_ne h1 h)
    · exact e
  refine ⟨h2, h3, h4, ?_⟩
  have h5 := bys_drop_cons s 0 h4
  rw [List.drop_zero] at h5
  rw [h5] at h1
  exact nm_first h1
/-- Going through a name. -/
def Thru (s : ByteArray) (i : Nat) : Prop := i ≤ s.size ∧ (nm (decide (i = 0)) ((bys s).drop i)).isSome = true
theorem Thru.start {s : ByteArray} (h : 0 < runesN s) : Thru s 0 := ⟨Nat.zero_le _, by rw [List.drop_zero]; simp [(runesN_some h).1]⟩
theorem Thru.step {s : ByteArray} {i : Nat} (h : Thru s i) (hi : i < s.size) : inName (Utf8.decode s i).1 = true ∧ Thru s (i + (Utf8.decode s i).2) ∧ 1 ≤ (Utf8.decode s i).2 := by
  have h1 := h.2
  rcases nm_step s i (decide (i = 0)) hi with ⟨a, _, b, c, d, _⟩ | ⟨_, b⟩ | ⟨_, _, _, b⟩
  · refine ⟨a, ⟨c, ?_⟩, d⟩
    rw [b] at h1
    rw [show decide (i + (Utf8.decode s i).2 = 0) = false from decide_eq_false (by omega)]
    simpa using h1
  · rw [b] at h1; cases h1
  · rw [b] at h1; cases h1
end Go.Own

/- Names, plainly: how many runes bytes are, one by one; what the decoder of runes says of them. No program. -/
import Derived.Test.YtfihbfkgkljjdaaB0
import Derived.Laws.RangeString
import Derived.Laws.RangeAny
namespace Go.Own
open Go

/-- A byte that is a rune of a name (the first one, or a later one). -/
def ok1 (c : Nat) (first : Bool) : Bool := (decide (97 ≤ c) && decide (c ≤ 122)) || (decide (48 ≤ c) && decide (c ≤ 57)) || (decide (c = 45) && !first)
/-- Two bytes that are. -/
def ok2 (c d : Nat) : Bool := (decide (c = 206) && decide (177 ≤ d) && decide (d ≤ 191)) || (decide (c = 207) && decide (128 ≤ d) && decide (d ≤ 137))
def nm : Bool → List Nat → Option Nat
  | _, [] => some 0
  | f, [c] => if ok1 c f then some 1 else none
  | f, c :: d :: r => if ok1 c f then (nm false (d :: r)).map (· + 1) else if ok2 c d then (nm false r).map (· + 1) else none
def runesOf (o : Option Nat) : Nat := match o with | some n => if n ≤ 32 then n else 0 | none => 0
/-- The name's runes. -/
def runesN (s : ByteArray) : Nat := runesOf (nm true (bys s))
theorem nm_one {f : Bool} {c : Nat} {r : List Nat} (h : ok1 c f = true) : nm f (c :: r) = (nm false r).map (· + 1) := by
  cases r with
  | nil => simp [nm, h]
  | cons d r => simp [nm, h]
theorem nm_two {f : Bool} {c d : Nat} {r : List Nat} (h : ok1 c f = false) (h2 : ok2 c d = true) : nm f (c :: d :: r) = (nm false r).map (· + 1) := by
  simp [nm, h, h2]
theorem nm_bad {f : Bool} {c : Nat} {r : List Nat} (h : ok1 c f = false) (h2 : ∀ d, r[0]? = some d → ok2 c d = false) : nm f (c :: r) = none := by
  cases r with
  | nil => simp [nm, h]
  | cons d r => simp [nm, h, h2 d rfl]
theorem gi_at (s : ByteArray) (i : Nat) (h : i < s.size) : gi (bys s) i = s[i].toNat := by
  have h3 : i < s.data.size := h
  simp only [gi, bys, List.getD_eq_getElem?_getD, List.getElem?_map]
  rw [List.getElem?_eq_getElem (by simpa using h3)]
  rfl
theorem bys_drop_cons (s : ByteArray) (i : Nat) (h : i < s.size) : (bys s).drop i = gi (bys s) i :: (bys s).drop (i + 1) := by
  have hl : i < (bys s).length := by rw [bys_length]; exact h
  rw [List.drop_eq_getElem_cons hl]
  congr 1
  simp [gi, List.getD, hl]
theorem bys_drop_end (s : ByteArray) (i : Nat) (h : s.size ≤ i) : (bys s).drop i = [] := List.drop_of_length_le (by rw [bys_length]; exact h)
theorem get_bys (s : ByteArray) (i : Nat) (h : i < s.size) : (s.get! i).toNat = gi (bys s) i := by
  rw [gi_at s i h]
  have : s.get! i = s[i] := by
    have h3 : i < s.data.size := h
    exact getElem!_pos s.data i h3
  rw [this]
/-- The rune's range in Greek. -/
theorem dec_greek (s : ByteArray) (i : Nat) (h : i + 1 < s.size) (h2 : ok2 (gi (bys s) i) (gi (bys s) (i + 1)) = true) :
    Utf8.decode s i = (gi (bys s) i % 32 * 64 + gi (bys s) (i + 1) % 64, 2) := by
  have e0 := get_bys s i (by omega)
  have e1 := get_bys s (i + 1) h
  generalize gi (bys s) i = c at *
  generalize gi (bys s) (i + 1) = d at *
  simp only [ok2, Bool.or_eq_true, Bool.and_eq_true, decide_eq_true_eq] at h2
  unfold Utf8.decode
  simp only [Nat.add_zero, e0, e1]
  rw [if_neg (by omega), if_pos (by simp [h]; omega), if_pos (by omega)]
theorem dec_other (s : ByteArray) (i : Nat) (h : i < s.size) (hc : 128 ≤ gi (bys s) i) (h2 : ∀ d, (bys s)[i + 1]? = some d → ok2 (gi (bys s) i) d = false) :
    ¬ (945 ≤ (Utf8.decode s i).1 ∧ (Utf8.decode s i).1 ≤ 969) := by
  have e0 := get_bys s i h
  have hd : ∀ d, i + 1 < s.size → (s.get! (i + 1)).toNat = d → ok2 (gi (bys s) i) d = false := fun d hl he => by
    refine h2 d ?_
    rw [get_bys s (i + 1) hl] at he
    have hl' : i + 1 < (bys s).length := by rw [bys_length]; exact hl
    rw [← he]
    simp [gi, List.getD, hl']
  clear h2
  generalize gi (bys s) i = c at *
  generalize hd1 : (s.get! (i + 1)).toNat = d at hd
  have hd2 : i + 1 < s.size → ok2 c d = false := fun hl => hd d hl rfl
  clear hd
  have hb : c < 256 := by rw [← e0]; exact UInt8.toNat_lt _
  unfold Utf8.decode
  simp only [Nat.add_zero, e0, hd1]
  generalize (s.get! (i + 2)).toNat = d2
  generalize (s.get! (i + 3)).toNat = d3
  rw [if_neg (by omega)]
  split
  · rename_i h1
    simp only [Bool.and_eq_true, beq_iff_eq, decide_eq_true_eq] at h1
    have h3 := hd2 h1.2.1
    simp only [ok2, Bool.or_eq_false_iff, Bool.and_eq_false_iff, decide_eq_false_iff_not] at h3
    split
    · simp only; omega
    · simp only [Utf8.runeError]; omega
  · split
    · split
      · rename_i h4
        simp only [Bool.and_eq_true, decide_eq_true_eq] at h4
        simp only; omega
      · simp only [Utf8.runeError]; omega
    · split
      · split
        · rename_i h4
          simp only [Bool.and_eq_true, decide_eq_true_eq] at h4
          simp only; omega
        · simp only [Utf8.runeError]; omega
      · simp only [Utf8.runeError]; omega
/-- What one step does, by the decoder's rune: three cases. -/
def inName (r : Nat) : Bool := (decide (97 ≤ r) && decide (r ≤ 122)) || (decide (48 ≤ r) && decide (r ≤ 57)) || decide (r = 45) || (decide (945 ≤ r) && decide (r ≤ 969))
theorem nm_step (s : ByteArray) (i : Nat) (f : Bool) (h : i < s.size) :
    (inName (Utf8.decode s i).1 = true ∧ ¬ (f = true ∧ (Utf8.decode s i).1 = 45) ∧ nm f ((bys s).drop i) = (nm false ((bys s).drop (i + (Utf8.decode s i).2))).map (· + 1) ∧ i + (Utf8.decode s i).2 ≤ s.size ∧ 1 ≤ (Utf8.decode s i).2 ∧ (Utf8.decode s i).2 ≤ 2) ∨
    (inName (Utf8.decode s i).1 = false ∧ nm f ((bys s).drop i) = none) ∨ (inName (Utf8.decode s i).1 = true ∧ f = true ∧ (Utf8.decode s i).1 = 45 ∧ nm f ((bys s).drop i) = none) := by
  by_cases ha : gi (bys s) i < 128
  · have hd : Utf8.decode s i = (gi (bys s) i, 1) := by rw [gi_at s i h] at ha ⊢; exact decode_ascii s i h ha
    rw [hd, bys_drop_cons s i h]
    by_cases h1 : ok1 (gi (bys s) i) f = true
    · left
      rw [nm_one h1]
      refine ⟨?_, ?_, rfl, h, Nat.le_refl _, by omega⟩
      · simp only [ok1, inName, Bool.or_eq_true, Bool.and_eq_true, decide_eq_true_eq] at h1 ⊢; omega
      · rintro ⟨rfl, h2⟩
        replace h2 : gi (bys s) i = 45 := h2
        rw [h2] at h1
        revert h1; decide
    · have h1' : ok1 (gi (bys s) i) f = false := by simpa using h1
      have hb : nm f (gi (bys s) i :: (bys s).drop (i + 1)) = none := nm_bad h1' fun d _ => by
        simp only [ok2, Bool.or_eq_false_iff, Bool.and_eq_false_iff, decide_eq_false_iff_not]; omega
      right
      rw [hb]
      by_cases h2 : inName (gi (bys s) i) = true
      · right
        simp only [ok1, inName, Bool.or_eq_true, Bool.and_eq_true, decide_eq_true_eq, Bool.or_eq_false_iff, Bool.and_eq_false_iff, decide_eq_false_iff_not] at h1' h2 ⊢
        have h45 : gi (bys s) i = 45 := by omega
        refine ⟨by omega, ?_, h45, trivial⟩
        rcases h1'.2 with h3 | h3
        · exact absurd h45 h3
        · simpa using h3
      · left
        exact ⟨by simpa using h2, rfl⟩
  · have h1 : ok1 (gi (bys s) i) f = false := by
      simp only [ok1, Bool.or_eq_false_iff, Bool.and_eq_false_iff, decide_eq_false_iff_not]
      refine ⟨⟨by omega, by omega⟩, Or.inl (by omega)⟩
    have hh := decode_high s i h (by rw [← gi_at s i h]; omega)
    by_cases h2 : i + 1 < s.size ∧ ok2 (gi (bys s) i) (gi (bys s) (i + 1)) = true
    · obtain ⟨hl, h2⟩ := h2
      left
      have hd := dec_greek s i hl h2
      rw [hd, bys_drop_cons s i h, bys_drop_cons s (i + 1) hl, nm_two h1 h2]
      simp only [ok2, inName, Bool.or_eq_true, Bool.and_eq_true, decide_eq_true_eq] at h2 ⊢
      refine ⟨by omega, by omega, ?_, by omega, by omega, by omega⟩
      first | rfl | trivial
    · right; left
      have hno : ∀ d, (bys s)[i + 1]? = some d → ok2 (gi (bys s) i) d = false := fun d hd => by
        have hl : i + 1 < s.size := by rw [← bys_length]; exact (List.getElem?_eq_some_iff.1 hd).1
        have hg : gi (bys s) (i + 1) = d := by simp [gi, List.getD, hd]
        rw [hg] at h2
        simpa [hl] using h2
      have ho := dec_other s i h (by omega) hno
      refine ⟨?_, ?_⟩
      · simp only [inName, Bool.or_eq_false_iff, Bool.and_eq_false_iff, decide_eq_false_iff_not]
        refine ⟨⟨⟨by omega, by omega⟩, by omega⟩, by omega⟩
      · rw [bys_drop_cons s i h]
        refine nm_bad h1 fun d hd => hno d ?_
        rw [List.getElem?_drop] at hd
        simpa using hd
/-- The same, byte by byte. -/
theorem nm_byte1 (s : ByteArray) (i : Nat) (f : Bool) (h : i < s.size) (h1 : ok1 (gi (bys s) i) f = true) : nm f ((bys s).drop i) = (nm false ((bys s).drop (i + 1))).map (· + 1) := by
  rw [bys_drop_cons s i h, nm_one h1]
theorem nm_byte2 (s : ByteArray) (i : Nat) (f : Bool) (h : i + 1 < s.size) (h1 : ok1 (gi (bys s) i) f = false) (h2 : ok2 (gi (bys s) i) (gi (bys s) (i + 1)) = true) : nm f ((bys s).drop i) = (nm false ((bys s).drop (i + 2))).map (· + 1) := by
  rw [bys_drop_cons s i (by omega), bys_drop_cons s (i + 1) h, nm_two h1 h2]
theorem nm_none1 (s : ByteArray) (i : Nat) (f : Bool) (h : i + 1 = s.size) (h1 : ok1 (gi (bys s) i) f = false) : nm f ((bys s).drop i) = none := by
  rw [bys_drop_cons s i (by omega), bys_drop_end s (i + 1) (by omega)]
  exact nm_bad h1 fun d hd => by simp at hd
theorem nm_none2 (s : ByteArray) (i : Nat) (f : Bool) (h : i + 1 < s.size) (h1 : ok1 (gi (bys s) i) f = false) (h2 : ok2 (gi (bys s) i) (gi (bys s) (i + 1)) = false) : nm f ((bys s).drop i) = none := by
  rw [bys_drop_cons s i (by omega), bys_drop_cons s (i + 1) h]
  exact nm_bad h1 fun d hd => by
    simp at hd; rw [← hd]; exact h2
/-- What has been gone through: k runes up to place i. -/
def Gone (s : ByteArray) (i k : Nat) : Prop := nm true (bys s) = (nm (decide (i = 0)) ((bys s).drop i)).map (· + k) ∧ i ≤ s.size ∧ (i = 0 ↔ k = 0) ∧ k ≤ i
theorem Gone.start (s : ByteArray) : Gone s 0 0 := ⟨by simp, Nat.zero_le _, by simp, Nat.le_refl _⟩
theorem Gone.next {s : ByteArray} {i k j : Nat} (h : Gone s i k) (hj : 1 ≤ j) (hl : i + j ≤ s.size) (e : nm (decide (i = 0)) ((bys s).drop i) = (nm false ((bys s).drop (i + j))).map (· + 1)) : Gone s (i + j) (k + 1) := by
  refine ⟨?_, hl, by omega, by have := h.2.2.2; omega⟩
  rw [h.1, e, show decide (i + j = 0) = false from decide_eq_false (by omega), Option.map_map]
  congr 1
  funext n
  simp only [Function.comp_apply]; omega
theorem Gone.bad {s : ByteArray} {i k : Nat} (h : Gone s i k) (e : nm (decide (i = 0)) ((bys s).drop i) = none) : runesN s = 0 := by
  unfold runesN; rw [h.1, e]; rfl
theorem Gone.many {s : ByteArray} {i k j : Nat} (h : Gone s i k) (hk : 32 ≤ k) (e : nm (decide (i = 0)) ((bys s).drop i) = (nm false ((bys s).drop (i + j))).map (· + 1)) : runesN s = 0 := by
  unfold runesN; rw [h.1, e]
  cases nm false ((bys s).drop (i + j)) with
  | none => rfl
  | some n => simp only [Option.map_some, runesOf]; rw [if_neg (by omega)]
theorem Gone.done {s : ByteArray} {i k : Nat} (h : Gone s i k) (hi : s.size ≤ i) : nm true (bys s) = some k := by
  rw [h.1, bys_drop_end s i hi]; simp [nm]
theorem Gone.end {s : ByteArray} {i k : Nat} (h : Gone s i k) (hi : s.size ≤ i) (hk : k ≤ 32) : runesN s = k := by
  unfold runesN; rw [h.done hi]; simp [runesOf, hk]
theorem Gone.over {s : ByteArray} {i k : Nat} (h : Gone s i k) (hi : s.size ≤ i) (hk : 32 < k) : runesN s = 0 := by
  unfold runesN; rw [h.done hi]; simp only [runesOf]; rw [if_neg (by omega)]
end Go.Own

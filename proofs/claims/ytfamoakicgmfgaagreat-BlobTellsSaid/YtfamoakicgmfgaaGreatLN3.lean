/- Names, plainly: how many runes bytes are, one by one; what the decoder of runes says of them. No program. | Names: the program's and the document's count of runes, by contract. No condition but the string's size. | Names: the document's count of runes, by contract. No condition but the string's size. -/
import Derived.Test.YtfamoakicgmfgaaGreatLB0
import Derived.Laws.RangeString
import Derived.Laws.RangeAny
import Derived.Test.YtfamoakicgmfgaaGreatProg
import Derived.WalkLawsBesides
import Derived.WalkSpells
import Derived.Lib.OthersKept
import Derived.BigQuiet
import Derived.Deep.QuietTactic
namespace Go.Own.Lb
open Go

/-- A byte that is a rune of a name (the first one, or a later one). -/
def ok1 (c : Nat) (first : Bool) : Bool := (decide (97 ≤ c) && decide (c ≤ 122)) || (decide (48 ≤ c) && decide (c ≤ 57)) || (decide (c = 45) && !first)
/-- Two bytes that are. -/
def ok2 (c d : Nat) : Bool := (decide (c = 206) && decide (177 ≤ d) && decide (d ≤ 191)) || (decide (c = 207) && decide (128 ≤ d) && decide (d ≤ 137))
def nm : Bool → List Nat → Option Nat
  | _, [] => some 0
  | f, [c] => if ok1 c f then some 1 else none
  | f, c :: d :: r => if ok1 c f then (nm false (d :: r)).map (· + 1) else if ok2 c d then (nm false r).map (· + 1) else none
def runesOf (o : Option Nat) : Nat := match o with | some n => if n ≤ 32 then n else 0 | none => 0
/-- The name's runes. -/
def runesN (s : ByteArray) : Nat := runesOf (nm true (bys s))
theorem nm_one {f : Bool} {c : Nat} {r : List Nat} (h : ok1 c f = true) : nm f (c :: r) = (nm false r).map (· + 1) := by
  cases r with
  | nil => simp [nm, h]
  | cons d r => simp [nm, h]
theorem nm_two {f : Bool} {c d : Nat} {r : List Nat} (h : ok1 c f = false) (h2 : ok2 c d = true) : nm f (c :: d :: r) = (nm false r).map (· + 1) := by
  simp [nm, h, h2]
theorem nm_bad {f : Bool} {c : Nat} {r : List Nat} (h : ok1 c f = false) (h2 : ∀ d, r[0]? = some d → ok2 c d = false) : nm f (c :: r) = none := by
  cases r with
  | nil => simp [nm, h]
  | cons d r => simp [nm, h, h2 d rfl]
theorem gi_at (s : ByteArray) (i : Nat) (h : i < s.size) : gi (bys s) i = s[i].toNat := by
  have h3 : i < s.data.size := h
  simp only [gi, bys, List.getD_eq_getElem?_getD, List.getElem?_map]
  rw [List.getElem?_eq_getElem (by simpa using h3)]
  rfl
theorem bys_drop_cons (s : ByteArray) (i : Nat) (h : i < s.size) : (bys s).drop i = gi (bys s) i :: (bys s).drop (i + 1) := by
  have hl : i < (bys s).length := by rw [bys_length]; exact h
  rw [List.drop_eq_getElem_cons hl]
  congr 1
  simp [gi, List.getD, hl]
theorem bys_drop_end (s : ByteArray) (i : Nat) (h : s.size ≤ i) : (bys s).drop i = [] := List.drop_of_length_le (by rw [bys_length]; exact h)
theorem get_bys (s : ByteArray) (i : Nat) (h : i < s.size) : (s.get! i).toNat = gi (bys s) i := by
  rw [gi_at s i h]
  have : s.get! i = s[i] := by
    have h3 : i < s.data.size := h
    exact getElem!_pos s.data i h3
  rw [this]
/-- The rune's range in Greek. -/
theorem dec_greek (s : ByteArray) (i : Nat) (h : i + 1 < s.size) (h2 : ok2 (gi (bys s) i) (gi (bys s) (i + 1)) = true) :
    Utf8.decode s i = (gi (bys s) i % 32 * 64 + gi (bys s) (i + 1) % 64, 2) := by
  have e0 := get_bys s i (by omega)
  have e1 := get_bys s (i + 1) h
  generalize gi (bys s) i = c at *
  generalize gi (bys s) (i + 1) = d at *
  simp only [ok2, Bool.or_eq_true, Bool.and_eq_true, decide_eq_true_eq] at h2
  unfold Utf8.decode
  simp only [Nat.add_zero, e0, e1]
  rw [if_neg (by omega), if_pos (by simp [h]; omega), if_pos (by omega)]
theorem dec_other (s : ByteArray) (i : Nat) (h : i < s.size) (hc : 128 ≤ gi (bys s) i) (h2 : ∀ d, (bys s)[i + 1]? = some d → ok2 (gi (bys s) i) d = false) :
    ¬ (945 ≤ (Utf8.decode s i).1 ∧ (Utf8.decode s i).1 ≤ 969) := by
  have e0 := get_bys s i h
  have hd : ∀ d, i + 1 < s.size → (s.get! (i + 1)).toNat = d → ok2 (gi (bys s) i) d = false := fun d hl he => by
    refine h2 d ?_
    rw [get_bys s (i + 1) hl] at he
    have hl' : i + 1 < (bys s).length := by rw [bys_length]; exact hl
    rw [← he]
    simp [gi, List.getD, hl']
  clear h2
  generalize gi (bys s) i = c at *
  generalize hd1 : (s.get! (i + 1)).toNat = d at hd
  have hd2 : i + 1 < s.size → ok2 c d = false := fun hl => hd d hl rfl
  clear hd
  have hb : c < 256 := by rw [← e0]; exact UInt8.toNat_lt _
  unfold Utf8.decode
  simp only [Nat.add_zero, e0, hd1]
  generalize (s.get! (i + 2)).toNat = d2
  generalize (s.get! (i + 3)).toNat = d3
  rw [if_neg (by omega)]
  split
  · rename_i h1
    simp only [Bool.and_eq_true, beq_iff_eq, decide_eq_true_eq] at h1
    have h3 := hd2 h1.2.1
    simp only [ok2, Bool.or_eq_false_iff, Bool.and_eq_false_iff, decide_eq_false_iff_not] at h3
    split
    · simp only; omega
    · simp only [Utf8.runeError]; omega
  · split
    · split
      · rename_i h4
        simp only [Bool.and_eq_true, decide_eq_true_eq] at h4
        simp only; omega
      · simp only [Utf8.runeError]; omega
    · split
      · split
        · rename_i h4
          simp only [Bool.and_eq_true, decide_eq_true_eq] at h4
          simp only; omega
        · simp only [Utf8.runeError]; omega
      · simp only [Utf8.runeError]; omega
/-- What one step does, by the decoder's rune: three cases. -/
def inName (r : Nat) : Bool := (decide (97 ≤ r) && decide (r ≤ 122)) || (decide (48 ≤ r) && decide (r ≤ 57)) || decide (r = 45) || (decide (945 ≤ r) && decide (r ≤ 969))
theorem nm_step (s : ByteArray) (i : Nat) (f : Bool) (h : i < s.size) :
    (inName (Utf8.decode s i).1 = true ∧ ¬ (f = true ∧ (Utf8.decode s i).1 = 45) ∧ nm f ((bys s).drop i) = (nm false ((bys s).drop (i + (Utf8.decode s i).2))).map (· + 1) ∧ i + (Utf8.decode s i).2 ≤ s.size ∧ 1 ≤ (Utf8.decode s i).2 ∧ (Utf8.decode s i).2 ≤ 2) ∨
    (inName (Utf8.decode s i).1 = false ∧ nm f ((bys s).drop i) = none) ∨ (inName (Utf8.decode s i).1 = true ∧ f = true ∧ (Utf8.decode s i).1 = 45 ∧ nm f ((bys s).drop i) = none) := by
  by_cases ha : gi (bys s) i < 128
  · have hd : Utf8.decode s i = (gi (bys s) i, 1) := by rw [gi_at s i h] at ha ⊢; exact decode_ascii s i h ha
    rw [hd, bys_drop_cons s i h]
    by_cases h1 : ok1 (gi (bys s) i) f = true
    · left
      rw [nm_one h1]
      refine ⟨?_, ?_, rfl, h, Nat.le_refl _, by omega⟩
      · simp only [ok1, inName, Bool.or_eq_true, Bool.and_eq_true, decide_eq_true_eq] at h1 ⊢; omega
      · rintro ⟨rfl, h2⟩
        replace h2 : gi (bys s) i = 45 := h2
        rw [h2] at h1
        revert h1; decide
    · have h1' : ok1 (gi (bys s) i) f = false := by simpa using h1
      have hb : nm f (gi (bys s) i :: (bys s).drop (i + 1)) = none := nm_bad h1' fun d _ => by
        simp only [ok2, Bool.or_eq_false_iff, Bool.and_eq_false_iff, decide_eq_false_iff_not]; omega
      right
      rw [hb]
      by_cases h2 : inName (gi (bys s) i) = true
      · right
        simp only [ok1, inName, Bool.or_eq_true, Bool.and_eq_true, decide_eq_true_eq, Bool.or_eq_false_iff, Bool.and_eq_false_iff, decide_eq_false_iff_not] at h1' h2 ⊢
        have h45 : gi (bys s) i = 45 := by omega
        refine ⟨by omega, ?_, h45, trivial⟩
        rcases h1'.2 with h3 | h3
        · exact absurd h45 h3
        · simpa using h3
      · left
        exact ⟨by simpa using h2, rfl⟩
  · have h1 : ok1 (gi (bys s) i) f = false := by
      simp only [ok1, Bool.or_eq_false_iff, Bool.and_eq_false_iff, decide_eq_false_iff_not]
      refine ⟨⟨by omega, by omega⟩, Or.inl (by omega)⟩
    have hh := decode_high s i h (by rw [← gi_at s i h]; omega)
    by_cases h2 : i + 1 < s.size ∧ ok2 (gi (bys s) i) (gi (bys s) (i + 1)) = true
    · obtain ⟨hl, h2⟩ := h2
      left
      have hd := dec_greek s i hl h2
      rw [hd, bys_drop_cons s i h, bys_drop_cons s (i + 1) hl, nm_two h1 h2]
      simp only [ok2, inName, Bool.or_eq_true, Bool.and_eq_true, decide_eq_true_eq] at h2 ⊢
      refine ⟨by omega, by omega, ?_, by omega, by omega, by omega⟩
      first | rfl | trivial
    · right; left
      have hno : ∀ d, (bys s)[i + 1]? = some d → ok2 (gi (bys s) i) d = false := fun d hd => by
        have hl : i + 1 < s.size := by rw [← bys_length]; exact (List.getElem?_eq_some_iff.1 hd).1
        have hg : gi (bys s) (i + 1) = d := by simp [gi, List.getD, hd]
        rw [hg] at h2
        simpa [hl] using h2
      have ho := dec_other s i h (by omega) hno
      refine ⟨?_, ?_⟩
      · simp only [inName, Bool.or_eq_false_iff, Bool.and_eq_false_iff, decide_eq_false_iff_not]
        refine ⟨⟨⟨by omega, by omega⟩, by omega⟩, by omega⟩
      · rw [bys_drop_cons s i h]
        refine nm_bad h1 fun d hd => hno d ?_
        rw [List.getElem?_drop] at hd
        simpa using hd
/-- The same, byte by byte. -/
theorem nm_byte1 (s : ByteArray) (i : Nat) (f : Bool) (h : i < s.size) (h1 : ok1 (gi (bys s) i) f = true) : nm f ((bys s).drop i) = (nm false ((bys s).drop (i + 1))).map (· + 1) := by
  rw [bys_drop_cons s i h, nm_one h1]
theorem nm_byte2 (s : ByteArray) (i : Nat) (f : Bool) (h : i + 1 < s.size) (h1 : ok1 (gi (bys s) i) f = false) (h2 : ok2 (gi (bys s) i) (gi (bys s) (i + 1)) = true) : nm f ((bys s).drop i) = (nm false ((bys s).drop (i + 2))).map (· + 1) := by
  rw [bys_drop_cons s i (by omega), bys_drop_cons s (i + 1) h, nm_two h1 h2]
theorem nm_none1 (s : ByteArray) (i : Nat) (f : Bool) (h : i + 1 = s.size) (h1 : ok1 (gi (bys s) i) f = false) : nm f ((bys s).drop i) = none := by
  rw [bys_drop_cons s i (by omega), bys_drop_end s (i + 1) (by omega)]
  exact nm_bad h1 fun d hd => by simp at hd
theorem nm_none2 (s : ByteArray) (i : Nat) (f : Bool) (h : i + 1 < s.size) (h1 : ok1 (gi (bys s) i) f = false) (h2 : ok2 (gi (bys s) i) (gi (bys s) (i + 1)) = false) : nm f ((bys s).drop i) = none := by
  rw [bys_drop_cons s i (by omega), bys_drop_cons s (i + 1) h]
  exact nm_bad h1 fun d hd => by
    simp at hd; rw [← hd]; exact h2
/-- What has been gone through: k runes up to place i. -/
def Gone (s : ByteArray) (i k : Nat) : Prop := nm true (bys s) = (nm (decide (i = 0)) ((bys s).drop i)).map (· + k) ∧ i ≤ s.size ∧ (i = 0 ↔ k = 0) ∧ k ≤ i
theorem Gone.start (s : ByteArray) : Gone s 0 0 := ⟨by simp, Nat.zero_le _, by simp, Nat.le_refl _⟩
theorem Gone.next {s : ByteArray} {i k j : Nat} (h : Gone s i k) (hj : 1 ≤ j) (hl : i + j ≤ s.size) (e : nm (decide (i = 0)) ((bys s).drop i) = (nm false ((bys s).drop (i + j))).map (· + 1)) : Gone s (i + j) (k + 1) := by
  refine ⟨?_, hl, by omega, by have := h.2.2.2; omega⟩
  rw [h.1, e, show decide (i + j = 0) = false from decide_eq_false (by omega), Option.map_map]
  congr 1
  funext n
  simp only [Function.comp_apply]; omega
theorem Gone.bad {s : ByteArray} {i k : Nat} (h : Gone s i k) (e : nm (decide (i = 0)) ((bys s).drop i) = none) : runesN s = 0 := by
  unfold runesN; rw [h.1, e]; rfl
theorem Gone.many {s : ByteArray} {i k j : Nat} (h : Gone s i k) (hk : 32 ≤ k) (e : nm (decide (i = 0)) ((bys s).drop i) = (nm false ((bys s).drop (i + j))).map (· + 1)) : runesN s = 0 := by
  unfold runesN; rw [h.1, e]
  cases nm false ((bys s).drop (i + j)) with
  | none => rfl
  | some n => simp only [Option.map_some, runesOf]; rw [if_neg (by omega)]
theorem Gone.done {s : ByteArray} {i k : Nat} (h : Gone s i k) (hi : s.size ≤ i) : nm true (bys s) = some k := by
  rw [h.1, bys_drop_end s i hi]; simp [nm]
theorem Gone.end {s : ByteArray} {i k : Nat} (h : Gone s i k) (hi : s.size ≤ i) (hk : k ≤ 32) : runesN s = k := by
  unfold runesN; rw [h.done hi]; simp [runesOf, hk]
theorem Gone.over {s : ByteArray} {i k : Nat} (h : Gone s i k) (hi : s.size ≤ i) (hk : 32 < k) : runesN s = 0 := by
  unfold runesN; rw [h.done hi]; simp only [runesOf]; rw [if_neg (by omega)]
end Go.Own.Lb
namespace Go.Proofs.YtfamoakicgmfgaaGreat.Lb
open Go.RowKit Go.Own.Lb
set_option maxRecDepth 100000 in
theorem ofn_any (r : Nat) (hr : r ≤ 2147483647) (w : World) : Calls Tryz.prog 73 #[.int .i32 (r : Int)] w fun e w' => e = .returned (.bool (inName r)) ∧ w = w' := by
  have hc : r < 45 ∨ r = 45 ∨ (45 < r ∧ r < 48) ∨ (48 ≤ r ∧ r ≤ 57) ∨ (57 < r ∧ r < 97) ∨ (97 ≤ r ∧ r ≤ 122) ∨ (122 < r ∧ r < 945) ∨ (945 ≤ r ∧ r ≤ 969) ∨ 969 < r := by omega
  rcases hc with h | h | h | h | h | h | h | h | h
  all_goals
    try have d57 : decide ((r : Int) ≤ 57) = false := by simp; omega
    try have d122 : decide ((r : Int) ≤ 122) = false := by simp; omega
    try have d969 : decide ((r : Int) ≤ 969) = false := by simp; omega
    try have d57 : decide ((r : Int) ≤ 57) = true := by simp; omega
    try have d122 : decide ((r : Int) ≤ 122) = true := by simp; omega
    try have d969 : decide ((r : Int) ≤ 969) = true := by simp; omega
    try have h45 : ((r : Int) == 45) = false := by simp; omega
    try have h45 : ((r : Int) == 45) = true := by simp; omega
    try have H : Hid (inName r = true) := Lib.hid (by simp only [inName, Bool.or_eq_true, Bool.and_eq_true, decide_eq_true_eq]; omega)
    try have H : Hid (inName r = false) := Lib.hid (by simp only [inName, Bool.or_eq_false_iff, Bool.and_eq_false_iff, decide_eq_false_iff_not]; omega)
    go_enter Tryz.func73, Tryz.ntmps73
    go_wp2
    go_ret
    exact ⟨by rw [H.out]; rfl, rfl⟩
theorem ofn_bool (r : Nat) (b : Bool) (hr : r ≤ 2147483647) (h : inName r = b) (w : World) : Calls Tryz.prog 73 #[.int .i32 (r : Int)] w fun e w' => e = .returned (.bool b) ∧ w = w' := by
  have := ofn_any r hr w
  rwa [h] at this
theorem below_iter (w : World) (s : ByteArray) (pos : Nat) : Below w.heap.size w (w.iter s pos) := (Below.refl w.heap.size w).alloc (Nat.le_refl _) _
set_option maxRecDepth 1000000 in
set_option maxHeartbeats 1000000 in
theorem runes_any (s : ByteArray) (w : World) : Calls Tryz.prog 48 #[.string s] w fun e w' => e = .returned (.int .i64 ((runesN s : Nat) : Int)) ∧ Below w.heap.size w w' := by
  go_enter Tryz.func48, Tryz.ntmps48
  go_wp2
  go_loopw [3] (fun n wr => ∃ pos k : Nat, wr = w.iter s pos ∧ n = .int .i64 (k : Int) ∧ Hid (Gone s pos k) ∧ k ≤ 32) (fun _ wr => s.size - wr.iterPos w.heap.size)
  case atStart => exact ⟨0, 0, rfl, rfl, Lib.hid (Gone.start s), by omega⟩
  case round =>
    obtain ⟨pos, k, rfl, rfl, HG, hk⟩ := hrel
    by_cases hp : pos < s.size
    · have hnx : ∀ ty, (Instr.next (.pointer (some ⟨w.heap.size, 0, none⟩)) true ty).run Tryz.prog (w.iter s pos) = _ := fun ty => run_next_any w s pos ty hp
      have hle := decode_le s pos
      have hst := nm_step s pos (decide (pos = 0)) hp
      obtain ⟨r, hr⟩ : ∃ r, (Utf8.decode s pos).1 = r := ⟨_, rfl⟩
      obtain ⟨j, hj⟩ : ∃ j, (Utf8.decode s pos).2 = j := ⟨_, rfl⟩
      rw [hr] at hle hst
      rw [hj] at hst
      simp only [hr, hj] at hnx
      clear hr hj
      rcases hst with ⟨hI, hno, he, hj1, hj2, hj3⟩ | ⟨hI, he⟩ | ⟨hI, hz, h45, he⟩
      · have HE := Lib.hid he
        have HO := Lib.hid (ofn_bool r true hle hI)
        have h0 : ((pos : Int) == 0) = false ∨ (((pos : Int) == 0) = true ∧ ((r : Int) == 45) = false) := by
          by_cases e : pos = 0
          · right; refine ⟨by simp [e], ?_⟩
            have : r ≠ 45 := fun e2 => hno ⟨by simp [e], e2⟩
            simp; omega
          · left; simp; omega
        clear hI hno he
        by_cases h32 : k = 32
        · have HZ : Hid (runesN s = 0) := Lib.hid (HG.out.many (by omega) HE.out)
          have hk32 : ((k : Int) == 32) = true := by simp; omega
          rcases h0 with h0 | ⟨h0, h1⟩
          all_goals
            go_wp2_with (go_at_call 73; refine (HO.out _).mono ?_; rintro e w' ⟨rfl, rfl⟩)
            go_ret
            exact ⟨by rw [HZ.out]; rfl, below_iter _ _ _⟩
        · have HN := Lib.hid (HG.out.next hj2 hj1 HE.out)
          have hk32 : ((k : Int) == 32) = false := by simp; omega
          rcases h0 with h0 | ⟨h0, h1⟩
          all_goals
            go_wp2_with (go_at_call 73; refine (HO.out _).mono ?_; rintro e w' ⟨rfl, rfl⟩)
            go_roundw
            case rel => exact ⟨_, k + 1, rfl, by go_num, HN, by omega⟩
            case measure => simp; omega
      · have HO := Lib.hid (ofn_bool r false hle hI)
        have HZ : Hid (runesN s = 0) := Lib.hid (HG.out.bad he)
        clear hI he
        go_wp2_with (go_at_call 73; refine (HO.out _).mono ?_; rintro e w' ⟨rfl, rfl⟩)
        go_ret
        exact ⟨by rw [HZ.out]; rfl, below_iter _ _ _⟩
      · have HO := Lib.hid (ofn_bool r true hle hI)
        have HZ : Hid (runesN s = 0) := Lib.hid (HG.out.bad he)
        have h0 : ((pos : Int) == 0) = true := by simpa using hz
        have h1 : ((r : Int) == 45) = true := by simp; omega
        clear hI he hz h45
        go_wp2_with (go_at_call 73; refine (HO.out _).mono ?_; rintro e w' ⟨rfl, rfl⟩)
        go_ret
        exact ⟨by rw [HZ.out]; rfl, below_iter _ _ _⟩
    · have hnx : ∀ ty, (Instr.next (.pointer (some ⟨w.heap.size, 0, none⟩)) true ty).run Tryz.prog (w.iter s pos) = _ := fun ty => run_next_end w s pos ty hp
      have HZ : Hid (runesN s = k) := Lib.hid (HG.out.end (by omega) hk)
      go_wp2
      go_ret
      exact ⟨by rw [HZ.out]; rfl, below_iter _ _ _⟩
set_option maxRecDepth 100000 in
theorem right_any (s : ByteArray) (w : World) : Calls Tryz.prog 28 #[.string s] w fun e w' => e = .returned (.bool (decide (0 < runesN s))) ∧ Below w.heap.size w w' := by
  have HR := Lib.hid (runes_any s w)
  obtain ⟨n, hn⟩ : ∃ n, runesN s = n := ⟨_, rfl⟩
  rw [hn] at HR ⊢
  clear hn
  by_cases h : 0 < n
  · have HD : Hid (decide (0 < n) = true) := Lib.hid (decide_eq_true h)
    go_enter Tryz.func28, Tryz.ntmps28
    go_wp2_with fail
    refine HR.out.mono ?_
    rintro e w' ⟨rfl, hb⟩
    replace hb := Lib.hid hb
    go_wp2
    go_ret
    exact ⟨by rw [HD.out]; rfl, hb.out⟩
  · have HD : Hid (decide (0 < n) = false) := Lib.hid (decide_eq_false h)
    go_enter Tryz.func28, Tryz.ntmps28
    go_wp2_with fail
    refine HR.out.mono ?_
    rintro e w' ⟨rfl, hb⟩
    replace hb := Lib.hid hb
    have hn : decide (0 < (n : Int)) = false := by simp; omega
    go_wp2
    go_ret
    exact ⟨by rw [HD.out]; rfl, hb.out⟩
end Go.Proofs.YtfamoakicgmfgaaGreat.Lb
namespace Go.Proofs.YtfamoakicgmfgaaGreat.Lb
open Go.RowKit Go.Own.Lb
theorem ixS (t : ByteArray) (k : IntKind) (i : Nat) (W : World) (h1 : i < t.size) :
    (Instr.index 9 (.string t) (.int k (i : Int))).run Tryz.prog W = .ok (.int .u8 ((gi (bys t) i : Nat) : Int)) W := by
  rw [gi_at t i h1]
  rw [run_index_string W 9 t k i Tryz.underlying9, dif_pos ⟨by omega, by omega⟩]
  simp
set_option maxRecDepth 1000000 in
set_option maxHeartbeats 2000000 in
theorem refRunes_any (s : ByteArray) (hs : s.size ≤ 1099511627776) (w : World) : Calls Tryz.prog 37 #[.string s] w fun e w' => e = .returned (.int .i64 ((runesN s : Nat) : Int)) ∧ w = w' := by
  go_enter Tryz.func37, Tryz.ntmps37
  go_wp2
  go_loop [3, 4] (fun n i => ∃ pos k : Nat, i = .int .i64 (pos : Int) ∧ n = .int .i64 (k : Int) ∧ Hid (Gone s pos k)) (fun _ i => s.size - (intOf i).toNat)
  case atStart => exact ⟨0, 0, rfl, rfl, Lib.hid (Gone.start s)⟩
  case round =>
    obtain ⟨pos, k, rfl, rfl, HG⟩ := hrel
    have hkp := HG.out.2.2.2
    have hps := HG.out.2.1
    by_cases hp : pos < s.size
    · obtain ⟨c, hc⟩ : ∃ c, gi (bys s) pos = c := ⟨_, rfl⟩
      have hcb : c < 256 := by rw [← hc]; exact gi_bys_lt s pos
      have hxc : ∀ (kk : IntKind) W, (Instr.index 9 (.string s) (.int kk (pos : Int))).run Tryz.prog W = .ok (.int .u8 (c : Int)) W := fun kk W => by rw [ixS s kk pos W hp, hc]
      have HC := Lib.hid hc
      clear hc
      by_cases h1 : ok1 c (decide (pos = 0)) = true
      · have HN := Lib.hid (HG.out.next (j := 1) (by omega) (by omega) (nm_byte1 s pos _ hp (by rw [HC.out]; exact h1)))
        have h2 : (97 ≤ c ∧ c ≤ 122) ∨ (48 ≤ c ∧ c ≤ 57) ∨ (c = 45 ∧ 0 < pos) := by
          simp only [ok1, Bool.or_eq_true, Bool.and_eq_true, decide_eq_true_eq, Bool.not_eq_true', decide_eq_false_iff_not] at h1; omega
        clear h1
        rcases h2 with h2 | h2 | h2
        all_goals
          try have d97 : decide ((97 : Int) ≤ (c : Int)) = false := by simp; omega
          try have d97 : decide ((97 : Int) ≤ (c : Int)) = true := by simp; omega
          try have d122 : decide ((c : Int) ≤ 122) = true := by simp; omega
          try have d48 : decide ((48 : Int) ≤ (c : Int)) = true := by simp; omega
          try have d48 : decide ((48 : Int) ≤ (c : Int)) = false := by simp; omega
          try have d57 : decide ((c : Int) ≤ 57) = true := by simp; omega
          try have h45 : ((c : Int) == 45) = true := by simp; omega
          go_wp2
          go_round
          case rel => exact ⟨pos + 1, k + 1, by go_num, by go_num, HN⟩
          case measure => simp [intOf]; omega
      · have h1' : ok1 c (decide (pos = 0)) = false := by simpa using h1
        have h2 : (c < 45 ∨ (c = 45 ∧ pos = 0) ∨ (45 < c ∧ c < 48)) ∨ (57 < c ∧ c < 97) ∨ 122 < c := by
          simp only [ok1, Bool.or_eq_false_iff, Bool.and_eq_false_iff, decide_eq_false_iff_not, Bool.not_eq_false', decide_eq_true_eq] at h1'; omega
        by_cases hp1 : pos + 1 < s.size
        · obtain ⟨d, hd⟩ : ∃ d, gi (bys s) (pos + 1) = d := ⟨_, rfl⟩
          have hdb : d < 256 := by rw [← hd]; exact gi_bys_lt s (pos + 1)
          have hxd : ∀ (kk : IntKind) W, (Instr.index 9 (.string s) (.int kk ((pos : Int) + 1))).run Tryz.prog W = .ok (.int .u8 (d : Int)) W := fun kk W => by
            have := ixS s kk (pos + 1) W hp1
            rw [hd] at this
            exact this
          have HD := Lib.hid hd
          clear hd
          by_cases h3 : ok2 c d = true
          · have HN := Lib.hid (HG.out.next (j := 2) (by omega) (by omega) (nm_byte2 s pos _ hp1 (by rw [HC.out]; exact h1') (by rw [HC.out, HD.out]; exact h3)))
            have h4 : (c = 206 ∧ 177 ≤ d ∧ d ≤ 191) ∨ (c = 207 ∧ 128 ≤ d ∧ d ≤ 137) := by
              simp only [ok2, Bool.or_eq_true, Bool.and_eq_true, decide_eq_true_eq] at h3; omega
            clear h1 h1' h2 h3
            rcases h4 with ⟨h4, h5, h6⟩ | ⟨h4, h5, h6⟩
            all_goals
              have d97 : decide ((97 : Int) ≤ (c : Int)) = true := by simp; omega
              have d122 : decide ((c : Int) ≤ 122) = false := by simp; omega
              have d48 : decide ((48 : Int) ≤ (c : Int)) = true := by simp; omega
              have d57 : decide ((c : Int) ≤ 57) = false := by simp; omega
              have h45 : ((c : Int) == 45) = false := by simp; omega
              try have e206 : ((c : Int) == 206) = true := by simp; omega
              try have e206 : ((c : Int) == 206) = false := by simp; omega
              try have e207 : ((c : Int) == 207) = true := by simp; omega
              try have q1 : decide ((177 : Int) ≤ (d : Int)) = true := by simp; omega
              try have q2 : decide ((d : Int) ≤ 191) = true := by simp; omega
              try have q3 : decide ((128 : Int) ≤ (d : Int)) = true := by simp; omega
              try have q4 : decide ((d : Int) ≤ 137) = true := by simp; omega
              clear h4
              go_wp2
              go_round
              case rel => exact ⟨pos + 2, k + 1, by go_num, by go_num, HN⟩
              case measure => simp [intOf]; omega
          · have HZ : Hid (runesN s = 0) := Lib.hid (HG.out.bad (nm_none2 s pos _ hp1 (by rw [HC.out]; exact h1') (by rw [HC.out, HD.out]; simpa using h3)))
            have h5 : (c = 206 ∧ d < 177) ∨ (c = 206 ∧ 177 ≤ d ∧ 191 < d) ∨ (c = 207 ∧ d < 128) ∨ (c = 207 ∧ 128 ≤ d ∧ 137 < d) ∨ (c ≠ 206 ∧ c ≠ 207 ∧ c < 45) ∨ (c = 45 ∧ pos = 0) ∨ (45 < c ∧ c < 48) ∨ (57 < c ∧ c < 97) ∨ (c ≠ 206 ∧ c ≠ 207 ∧ 122 < c) := by
              simp only [ok2, Bool.or_eq_true, Bool.and_eq_true, decide_eq_true_eq] at h3; omega
            clear h1 h1' h2 h3
            rcases h5 with h5 | h5 | h5 | h5 | h5 | h5 | h5 | h5 | h5
            all_goals
              try have d97 : decide ((97 : Int) ≤ (c : Int)) = false := by simp; omega
              try have d97 : decide ((97 : Int) ≤ (c : Int)) = true := by simp; omega
              try have d122 : decide ((c : Int) ≤ 122) = false := by simp; omega
              try have d122 : decide ((c : Int) ≤ 122) = true := by simp; omega
              try have d48 : decide ((48 : Int) ≤ (c : Int)) = true := by simp; omega
              try have d48 : decide ((48 : Int) ≤ (c : Int)) = false := by simp; omega
              try have d57 : decide ((c : Int) ≤ 57) = true := by simp; omega
              try have d57 : decide ((c : Int) ≤ 57) = false := by simp; omega
              try have h45 : ((c : Int) == 45) = true := by simp; omega
              try have h45 : ((c : Int) == 45) = false := by simp; omega
              try have hp0 : ¬ 0 < pos := by omega
              try have e206 : ((c : Int) == 206) = true := by simp; omega
              try have e206 : ((c : Int) == 206) = false := by simp; omega
              try have e207 : ((c : Int) == 207) = true := by simp; omega
              try have e207 : ((c : Int) == 207) = false := by simp; omega
              try have q1 : decide ((177 : Int) ≤ (d : Int)) = true := by simp; omega
              try have q1 : decide ((177 : Int) ≤ (d : Int)) = false := by simp; omega
              try have q2 : decide ((d : Int) ≤ 191) = true := by simp; omega
              try have q2 : decide ((d : Int) ≤ 191) = false := by simp; omega
              try have q3 : decide ((128 : Int) ≤ (d : Int)) = true := by simp; omega
              try have q3 : decide ((128 : Int) ≤ (d : Int)) = false := by simp; omega
              try have q4 : decide ((d : Int) ≤ 137) = true := by simp; omega
              try have q4 : decide ((d : Int) ≤ 137) = false := by simp; omega
              clear h5
              go_wp2
              first | (go_ret; exact ⟨by rw [HZ.out]; rfl, rfl⟩) | go_ways
        · have HZ : Hid (runesN s = 0) := Lib.hid (HG.out.bad (nm_none1 s pos _ (by omega) (by rw [HC.out]; exact h1')))
          have h5 : c < 45 ∨ (c = 45 ∧ pos = 0) ∨ (45 < c ∧ c < 48) ∨ (57 < c ∧ c < 97) ∨ 122 < c := by omega
          have hend : (s.size : Int) ≤ (pos : Int) + 1 := by omega
          clear h1 h1' h2
          rcases h5 with h5 | h5 | h5 | h5 | h5
          all_goals
            try have d97 : decide ((97 : Int) ≤ (c : Int)) = false := by simp; omega
            try have d97 : decide ((97 : Int) ≤ (c : Int)) = true := by simp; omega
            try have d122 : decide ((c : Int) ≤ 122) = false := by simp; omega
            try have d122 : decide ((c : Int) ≤ 122) = true := by simp; omega
            try have d48 : decide ((48 : Int) ≤ (c : Int)) = true := by simp; omega
            try have d48 : decide ((48 : Int) ≤ (c : Int)) = false := by simp; omega
            try have d57 : decide ((c : Int) ≤ 57) = true := by simp; omega
            try have d57 : decide ((c : Int) ≤ 57) = false := by simp; omega
            try have h45 : ((c : Int) == 45) = true := by simp; omega
            try have h45 : ((c : Int) == 45) = false := by simp; omega
            try have hp0 : ¬ 0 < pos := by omega
            clear h5
            go_wp2
            go_ret
            exact ⟨by rw [HZ.out]; rfl, rfl⟩
    · have hpe : ¬ (pos : Int) < (s.size : Int) := by omega
      by_cases hk : k ≤ 32
      · have HZ : Hid (runesN s = k) := Lib.hid (HG.out.end (by omega) hk)
        go_wp2
        go_ret
        exact ⟨by rw [HZ.out]; rfl, rfl⟩
      · have HZ : Hid (runesN s = 0) := Lib.hid (HG.out.over (by omega) (by omega))
        go_wp2
        go_ret
        exact ⟨by rw [HZ.out]; rfl, rfl⟩
end Go.Proofs.YtfamoakicgmfgaaGreat.Lb

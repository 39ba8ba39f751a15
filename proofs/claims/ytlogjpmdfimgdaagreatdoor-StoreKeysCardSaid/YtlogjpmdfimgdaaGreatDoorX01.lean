/- Strings as rows of bytes, by name. No program. | Values as trees, their bytes, and what is read of bytes. No program. | What was printed is read; what is read was printed; how long it is at most; going through places. No program. | Values in memory: what is told by its type, and the document's own. No condition. -/
import Derived.WalkKit
import Derived.Lib.Hide
import Derived.Test.YtlogjpmdfimgdaaGreatDoorProg
import Derived.WalkSpells
import Derived.Carry
import Derived.Outline
namespace Go.Own
open Go.RowKit
/-- The number at place i (0 behind the end): by name, so that no simp opens it. -/
def gi (s : List Nat) (i : Nat) : Nat := s.getD i 0
/-- A string's bytes; a string of bytes. -/
def bys (s : ByteArray) : List Nat := s.data.toList.map UInt8.toNat
def mkS (l : List Nat) : ByteArray := ⟨(l.map UInt8.ofNat).toArray⟩
theorem bys_length (s : ByteArray) : (bys s).length = s.size := by simp only [bys, List.length_map, Array.length_toList]; rfl
theorem mkS_bys (s : ByteArray) : mkS (bys s) = s := by
  cases s with | mk d => simp [mkS, bys, Function.comp_def]
theorem mkS_size (l : List Nat) : (mkS l).size = l.length := by simp [mkS, ByteArray.size]
theorem bys_lt (s : ByteArray) : ∀ n ∈ bys s, n < 256 := by
  intro n hn
  simp only [bys, List.mem_map] at hn
  obtain ⟨b, _, rfl⟩ := hn
  exact b.toNat_lt
theorem gi_bys_lt (s : ByteArray) (i : Nat) : gi (bys s) i < 256 := by
  unfold gi
  rw [List.getD_eq_getElem?_getD]
  cases h : (bys s)[i]? with
  | none => decide
  | some n => exact bys_lt s n (List.mem_of_getElem? h)
theorem bys_mkS (l : List Nat) (h : ∀ n ∈ l, n < 256) : bys (mkS l) = l := by
  simp only [bys, mkS, List.map_map]
  conv => rhs; rw [← List.map_id l]
  apply List.map_congr_left
  intro n hn
  have := h n hn
  simp; omega
theorem bys_inj {s t : ByteArray} (h : bys s = bys t) : s = t := by rw [← mkS_bys s, h, mkS_bys]
theorem bys_extract (s : ByteArray) (a b : Nat) : bys (s.extract a b) = ((bys s).drop a).take (b - a) := by
  simp [bys, List.extract_eq_take_drop, List.map_take, List.map_drop]
theorem bys_append (s t : ByteArray) : bys (s ++ t) = bys s ++ bys t := by
  simp [bys]
theorem mkS_append (a b : List Nat) : mkS (a ++ b) = mkS a ++ mkS b := by
  apply ByteArray.ext; simp [mkS]
end Go.Own
namespace Go.Own
/-- A value that is told by its type ('none': no value at all; 'odd': of a type that is none of these). -/
inductive A where
  | num (n : Int)
  | str (s : ByteArray)
  | bool (b : Bool)
  | list (l : List A)
  | none
  | odd
/-- The document's own form. -/
inductive V where
  | mk (k n : Int) (s : ByteArray) (b : Bool) (l : List V)
/-- A number's k lowest bytes, the highest first. -/
def be : Nat → Nat → List Nat
  | 0, _ => []
  | k + 1, n => n / 256 ^ k % 256 :: be k n
/-- The number that bytes are, the highest first. -/
def val (l : List Nat) : Nat := l.foldl (fun a c => a * 256 + c) 0
def two63 : Nat := 9223372036854775808
def two64 : Nat := 18446744073709551616
def u64 (n : Int) : Nat := (n % (two64 : Int)).toNat
def s64 (n : Nat) : Int := if n < two63 then (n : Int) else (n : Int) - (two64 : Int)
def In64 (n : Int) : Prop := -(two63 : Int) ≤ n ∧ n < (two63 : Int)
mutual
/-- A value's error, within so many lists. -/
def er : A → Nat → Int
  | .num _, _ => 0
  | .str s, _ => if 65535 < s.size then 3 else 0
  | .bool _, _ => 0
  | .list l, d => if 255 < l.length ∨ 8 ≤ d then 3 else ers l (d + 1)
  | .none, _ => 9
  | .odd, _ => 9
def ers : List A → Nat → Int
  | [], _ => 0
  | x :: r, d => if er x d = 0 then ers r d else er x d
end
mutual
/-- A value's bytes. -/
def pr : A → List Nat
  | .num n => 105 :: be 8 (u64 n)
  | .str s => 115 :: (be 2 s.size ++ bys s)
  | .bool b => [if b then 121 else 110]
  | .list l => 108 :: (be 1 l.length ++ prs l)
  | .none => []
  | .odd => []
def prs : List A → List Nat
  | [] => []
  | x :: r => pr x ++ prs r
end
mutual
/-- How many bytes at most are written for it. -/
def sz : A → Nat → Nat
  | .num _, _ => 9
  | .str s, _ => if 65535 < s.size then 0 else 3 + s.size
  | .bool _, _ => 1
  | .list l, d => if 255 < l.length ∨ 8 ≤ d then 0 else 2 + szs l (d + 1)
  | .none, _ => 0
  | .odd, _ => 0
def szs : List A → Nat → Nat
  | [], _ => 0
  | x :: r, d => sz x d + szs r d
end
mutual
/-- Its numbers are of 64 bits. -/
def okA : A → Prop
  | .num n => In64 n
  | .list l => okAs l
  | _ => True
def okAs : List A → Prop
  | [] => True
  | x :: r => okA x ∧ okAs r
end
mutual
def ofV : V → A
  | .mk k n s b l => if k = 1 then .num n else if k = 2 then .str s else if k = 3 then .bool b else if k = 4 then .list (ofVs l) else .none
def ofVs : List V → List A
  | [] => []
  | x :: r => ofV x :: ofVs r
end
mutual
def toV : A → V
  | .num n => .mk 1 n { data := #[] } false []
  | .str s => .mk 2 0 s false []
  | .bool b => .mk 3 0 { data := #[] } b []
  | .list l => .mk 4 0 { data := #[] } false (toVs l)
  | .none => .mk 0 0 { data := #[] } false []
  | .odd => .mk 0 0 { data := #[] } false []
def toVs : List A → List V
  | [] => []
  | x :: r => toV x :: toVs r
end
mutual
/-- Is it small enough? -/
def fewV : V → Nat → Bool
  | .mk _ _ s _ l, d => !(decide (10 < d) || decide (70000 < s.size) || decide (300 < l.length) || (decide (1 < d) && decide (5 < l.length))) && fewVs l (d + 1)
def fewVs : List V → Nat → Bool
  | [], _ => true
  | x :: r, d => fewV x d && fewVs r d
end
/-- So many values, one behind the other. -/
def rdL (f : List Nat → Option (A × List Nat)) : Nat → List Nat → Option (List A × List Nat)
  | 0, t => some ([], t)
  | c + 1, t => match f t with
    | none => none
    | some (x, t') => match rdL f c t' with
      | none => none
      | some (r, t'') => some (x :: r, t'')
def listR (g : Option (List Nat → Option (A × List Nat))) (t : List Nat) : Option (A × List Nat) :=
  match g with
  | none => none
  | some f => match t with
    | [] => none
    | n :: t' => match rdL f n t' with
      | none => none
      | some (l, t'') => some (.list l, t'')
def body (g : Option (List Nat → Option (A × List Nat))) : List Nat → Option (A × List Nat)
  | [] => none
  | c :: t =>
    if c = 105 then (if t.length < 8 then none else some (.num (s64 (val (t.take 8))), t.drop 8))
    else if c = 115 then (if t.length < 2 then none else if t.length - 2 < val (t.take 2) then none else some (.str (mkS ((t.drop 2).take (val (t.take 2)))), (t.drop 2).drop (val (t.take 2))))
    else if c = 121 then some (.bool true, t)
    else if c = 110 then some (.bool false, t)
    else if c = 108 then listR g t
    else none
/-- A value at a text's head, in which so many lists may stand within one another, and what is behind it. -/
def rd : Nat → List Nat → Option (A × List Nat)
  | 0 => body none
  | m + 1 => body (some (rd m))
/-- Going through places. -/
def cm : A → List Int → Int × A
  | a, [] => (0, a)
  | .list l, i :: r => if i < 0 ∨ (l.length : Int) ≤ i then (4, .none) else cm (l.getD i.toNat .none) r
  | _, _ :: _ => (9, .none)
def zeroV : V := .mk 0 0 { data := #[] } false []
def wi : V → List Int → Int × V
  | a, [] => (0, a)
  | .mk k _ _ _ l, i :: r => if k ≠ 4 then (9, zeroV) else if i < 0 ∨ (l.length : Int) ≤ i then (4, zeroV) else wi (l.getD i.toNat zeroV) r

theorem be_length : ∀ k n, (be k n).length = k
  | 0, _ => rfl
  | k + 1, n => by simp [be, be_length k n]
theorem be_lt : ∀ k n, ∀ c ∈ be k n, c < 256
  | 0, _, c, h => by simp [be] at h
  | k + 1, n, c, h => by
    simp only [be, List.mem_cons] at h
    rcases h with rfl | h
    · omega
    · exact be_lt k n c h
theorem val_app (a b : List Nat) : val (a ++ b) = val a * 256 ^ b.length + val b := by
  unfold val
  rw [List.foldl_append]
  generalize List.foldl (fun a c => a * 256 + c) 0 a = z
  have : ∀ (b : List Nat) (z : Nat), List.foldl (fun a c => a * 256 + c) z b = z * 256 ^ b.length + List.foldl (fun a c => a * 256 + c) 0 b := by
    intro b
    induction b with
    | nil => intro z; simp
    | cons c b ih =>
      intro z
      simp only [List.foldl_cons, List.length_cons]
      rw [ih, ih (0 * 256 + c)]
      rw [Nat.pow_succ, Nat.add_mul, Nat.zero_mul, Nat.zero_add, Nat.mul_assoc, Nat.mul_comm 256, Nat.add_assoc]
  exact this b z
theorem val_cons (c : Nat) (b : List Nat) : val (c :: b) = c * 256 ^ b.length + val b := by
  have := val_app [c] b
  simp [val] at this
  simp [val, this]
theorem val_snoc (a : List Nat) (c : Nat) : val (a ++ [c]) = val a * 256 + c := by
  simp [val]
theorem val_lt : ∀ l : List Nat, (∀ c ∈ l, c < 256) → val l < 256 ^ l.length
  | [], _ => by simp [val]
  | c :: b, h => by
    have h1 := val_lt b (fun x hx => h x (by simp [hx]))
    have h2 := h c (by simp)
    rw [val_cons, List.length_cons, Nat.pow_succ]
    have : c * 256 ^ b.length ≤ 255 * 256 ^ b.length := Nat.mul_le_mul_right _ (by omega)
    omega
theorem val_be : ∀ k n, val (be k n) = n % 256 ^ k
  | 0, n => by simp [be, val, Nat.mod_one]
  | k + 1, n => by
    rw [be, val_cons, be_length, val_be k n, Nat.pow_succ, Nat.mod_mul, Nat.mul_comm, Nat.add_comm]
theorem be_val : ∀ (l : List Nat), (∀ c ∈ l, c < 256) → be l.length (val l) = l
  | [], _ => rfl
  | c :: b, h => by
    have h1 := be_val b (fun x hx => h x (by simp [hx]))
    have hl := val_lt b (fun x hx => h x (by simp [hx]))
    have h2 := h c (by simp)
    have hp : 0 < 256 ^ b.length := Nat.pow_pos (by omega)
    rw [List.length_cons, be, val_cons]
    have e1 : (c * 256 ^ b.length + val b) / 256 ^ b.length = c := by
      rw [Nat.mul_comm, Nat.mul_add_div hp, Nat.div_eq_of_lt hl, Nat.add_zero]
    rw [e1, Nat.mod_eq_of_lt h2]
    have e2 : ∀ (k m x : Nat), k ≤ m → be k (x * 256 ^ m + val b) = be k (val b) := by
      intro k
      induction k with
      | zero => intro m x _; rfl
      | succ k ih =>
        intro m x hk
        simp only [be]
        rw [ih m x (by omega)]
        congr 1
        obtain ⟨q, rfl⟩ : ∃ q, m = k + 1 + q := ⟨m - (k + 1), by omega⟩
        have e : x * 256 ^ (k + 1 + q) = 256 ^ k * (256 * (x * 256 ^ q)) := by
          rw [Nat.pow_add, Nat.pow_succ]; ac_rfl
        rw [e, Nat.mul_add_div (Nat.pow_pos (by omega))]
        omega
    rw [e2 _ _ _ (Nat.le_refl _), h1]
theorem u64_lt (n : Int) : u64 n < two64 := by
  have : 0 < (two64 : Int) := by unfold two64; omega
  have h1 := Int.emod_nonneg n (by omega : (two64 : Int) ≠ 0)
  have h2 := Int.emod_lt_of_pos n this
  unfold u64
  omega
theorem s64_u64 {n : Int} (h : In64 n) : s64 (u64 n) = n := by
  unfold In64 at h
  unfold s64 u64 two63 two64 at *
  split <;> omega
theorem u64_s64 {n : Nat} (h : n < two64) : u64 (s64 n) = n := by
  unfold s64 u64 two63 two64 at *
  split <;> omega
theorem s64_in {n : Nat} (h : n < two64) : In64 (s64 n) := by
  unfold In64 s64 two63 two64 at *
  split <;> omega
theorem p8 : 256 ^ 8 = two64 := by decide +kernel
end Go.Own
namespace Go.Own
theorem A.ind {p : A → Prop} (h1 : ∀ n, p (.num n)) (h2 : ∀ s, p (.str s)) (h3 : ∀ b, p (.bool b)) (h4 : ∀ l, (∀ x ∈ l, p x) → p (.list l)) (h5 : p .none) (h6 : p .odd) : ∀ a, p a :=
  fun a => A.rec (motive_1 := p) (motive_2 := fun l => ∀ x ∈ l, p x) h1 h2 h3 h4 h5 h6 (fun _ h => by cases h) (fun _ _ hx hr y hy => by
    rcases List.mem_cons.1 hy with rfl | hy
    · exact hx
    · exact hr y hy) a
theorem V.ind {p : V → Prop} (h : ∀ k n s b l, (∀ x ∈ l, p x) → p (.mk k n s b l)) : ∀ a, p a :=
  fun a => V.rec (motive_1 := p) (motive_2 := fun l => ∀ x ∈ l, p x) h (fun _ h => by cases h) (fun _ _ hx hr y hy => by
    rcases List.mem_cons.1 hy with rfl | hy
    · exact hx
    · exact hr y hy) a
theorem ofVs_map : ∀ l, ofVs l = l.map ofV
  | [] => rfl
  | x :: r => by rw [ofVs, ofVs_map r]; rfl
theorem toVs_map : ∀ l, toVs l = l.map toV
  | [] => rfl
  | x :: r => by rw [toVs, toVs_map r]; rfl
theorem prs_map : ∀ l, prs l = l.flatMap pr
  | [] => rfl
  | x :: r => by rw [prs, prs_map r]; rfl
theorem szs_map : ∀ l d, szs l d = (l.map (sz · d)).sum
  | [], _ => rfl
  | x :: r, d => by rw [szs, szs_map r]; rfl
theorem okAs_all : ∀ l, okAs l ↔ ∀ x ∈ l, okA x
  | [] => by simp [okAs]
  | x :: r => by rw [okAs, okAs_all r]; simp
theorem fewVs_all : ∀ l d, fewVs l d = l.all (fewV · d)
  | [], _ => rfl
  | x :: r, d => by rw [fewVs, fewVs_all r]; rfl
theorem ers_zero : ∀ l d, ers l d = 0 ↔ ∀ x ∈ l, er x d = 0
  | [], _ => by simp [ers]
  | x :: r, d => by
    rw [ers]
    have := ers_zero r d
    split
    · rename_i h; simp [h, this]
    · rename_i h; simp [h]
theorem ers_app_ok {l : List A} {d : Nat} (h : ers l d = 0) (r : List A) : ers (l ++ r) d = ers r d := by
  induction l with
  | nil => rfl
  | cons x l ih =>
    rw [ers] at h
    rw [List.cons_append, ers]
    split at h
    · rename_i hx; rw [if_pos hx]; exact ih h
    · rename_i hx; exact absurd h hx
theorem prs_app (l r : List A) : prs (l ++ r) = prs l ++ prs r := by simp [prs_map]
theorem szs_app (l r : List A) (d : Nat) : szs (l ++ r) d = szs l d + szs r d := by simp [szs_map]
theorem er_cases (a : A) (d : Nat) : er a d = 0 ∨ er a d = 3 ∨ er a d = 9 := by
  induction a using A.ind generalizing d with
  | h1 n => exact Or.inl rfl
  | h2 s => rw [er]; split <;> simp
  | h3 b => exact Or.inl rfl
  | h4 l ih =>
    rw [er]
    split
    · simp
    · have : ∀ r : List A, (∀ x ∈ r, x ∈ l) → ers r (d + 1) = 0 ∨ ers r (d + 1) = 3 ∨ ers r (d + 1) = 9 := by
        intro r
        induction r with
        | nil => intro _; exact Or.inl rfl
        | cons x r ihr =>
          intro hr
          rw [ers]
          split
          · exact ihr (fun y hy => hr y (by simp [hy]))
          · exact ih x (hr x (by simp)) (d + 1)
      exact this l (fun x hx => hx)
  | h5 => simp [er]
  | h6 => simp [er]
theorem pr_sz (a : A) (d : Nat) (h : er a d = 0) : (pr a).length = sz a d := by
  induction a using A.ind generalizing d with
  | h1 n => simp [pr, sz, be_length]
  | h2 s =>
    rw [er] at h
    split at h
    · cases h
    · rename_i hs; rw [sz, if_neg hs]; simp [pr, be_length, bys_length]; omega
  | h3 b => simp [pr, sz]
  | h4 l ih =>
    rw [er] at h
    split at h
    · cases h
    · rename_i hc
      rw [sz, if_neg hc, pr, List.length_cons, List.length_append, be_length, prs_map, szs_map, List.length_flatMap]
      have e : l.map (fun x => (pr x).length) = l.map (sz · (d + 1)) := List.map_congr_left fun x hx => ih x hx _ ((ers_zero l _).1 h x hx)
      rw [e]; omega
  | h5 => simp [er] at h
  | h6 => simp [er] at h
theorem er_mono (a : A) (d e : Nat) (hd : e ≤ d) (h : er a d = 0) : er a e = 0 := by
  induction a using A.ind generalizing d e with
  | h1 n => rfl
  | h2 s => exact h
  | h3 b => rfl
  | h4 l ih =>
    rw [er] at h ⊢
    split at h
    · cases h
    · rename_i hc
      rw [if_neg (by omega), ers_zero]
      exact fun x hx => ih x hx (d + 1) (e + 1) (by omega) ((ers_zero l _).1 h x hx)
  | h5 => exact h
  | h6 => exact h
theorem pr_lt (a : A) : ∀ c ∈ pr a, c < 256 := by
  induction a using A.ind with
  | h1 n => intro c hc; rw [pr, List.mem_cons] at hc; rcases hc with rfl | hc; omega; exact be_lt _ _ c hc
  | h2 s =>
    intro c hc
    rw [pr, List.mem_cons, List.mem_append] at hc
    rcases hc with rfl | hc | hc
    · omega
    · exact be_lt _ _ c hc
    · exact bys_lt s c hc
  | h3 b => intro c hc; rw [pr] at hc; cases b <;> simp at hc <;> omega
  | h4 l ih =>
    intro c hc
    rw [pr, List.mem_cons, List.mem_append] at hc
    rcases hc with rfl | hc | hc
    · omega
    · exact be_lt _ _ c hc
    · rw [prs_map, List.mem_flatMap] at hc
      obtain ⟨x, hx, hc⟩ := hc
      exact ih x hx c hc
  | h5 => intro c hc; simp [pr] at hc
  | h6 => intro c hc; simp [pr] at hc
theorem take_be (k n : Nat) (t : List Nat) : (be k n ++ t).take k = be k n := by
  rw [List.take_append_of_le_length (by rw [be_length]; omega), List.take_of_length_le (by rw [be_length]; omega)]
theorem drop_be (k n : Nat) (t : List Nat) : (be k n ++ t).drop k = t := by
  rw [List.drop_append_of_le_length (by rw [be_length]; omega), List.drop_of_length_le (by rw [be_length]; omega), List.nil_append]
theorem rd_pr (a : A) (d : Nat) (hd : d ≤ 8) (h : er a d = 0) (ho : okA a) (t : List Nat) : rd (8 - d) (pr a ++ t) = some (a, t) := by
  have hb : ∃ g, rd (8 - d) = body g := by
    cases 8 - d with
    | zero => exact ⟨_, rfl⟩
    | succ m => exact ⟨_, rfl⟩
  induction a using A.ind generalizing d t with
  | h1 n =>
    obtain ⟨g, hg⟩ := hb
    rw [hg, pr, List.cons_append, body, if_pos rfl, if_neg (by simp [be_length]), take_be, drop_be, val_be, p8, Nat.mod_eq_of_lt (u64_lt n), s64_u64 ho]
  | h2 s =>
    obtain ⟨g, hg⟩ := hb
    rw [er] at h
    split at h
    · cases h
    · rename_i hs
      have hm : s.size % 65536 = s.size := Nat.mod_eq_of_lt (by omega)
      have hl : (bys s).length = s.size := bys_length s
      rw [hg, pr, List.cons_append, List.append_assoc, body, if_neg (by decide), if_pos rfl, if_neg (by simp [be_length]), take_be, drop_be, val_be, show 256 ^ 2 = 65536 from rfl, hm, if_neg (by simp [be_length, hl]),
        List.take_append_of_le_length (by omega), List.take_of_length_le (by omega), mkS_bys, List.drop_append_of_le_length (by omega), List.drop_of_length_le (by omega), List.nil_append]
  | h3 b =>
    obtain ⟨g, hg⟩ := hb
    rw [hg, pr]
    cases b <;> simp [body]
  | h4 l ih =>
    rw [er] at h
    split at h
    · cases h
    · rename_i hc
      obtain ⟨m, hm⟩ : ∃ m, 8 - d = m + 1 := ⟨8 - d - 1, by omega⟩
      have hme : 8 - (d + 1) = m := by omega
      have key : ∀ (r : List A) (t : List Nat), (∀ x ∈ r, x ∈ l) → rdL (rd m) r.length (prs r ++ t) = some (r, t) := by
        intro r
        induction r with
        | nil => intro t _; rfl
        | cons x r ihr =>
          intro t hr
          have hx := hr x (by simp)
          have h1 := ih x hx (d + 1) (by omega) ((ers_zero l _).1 h x hx) ((okAs_all l).1 ho x hx) (prs r ++ t) (by
            rw [hme]; cases m with
            | zero => exact ⟨_, rfl⟩
            | succ m => exact ⟨_, rfl⟩)
          rw [hme] at h1
          rw [List.length_cons, rdL, prs, List.append_assoc, h1]
          simp only
          rw [ihr t (fun y hy => hr y (by simp [hy]))]
      have hk := key l t (fun x hx => hx)
      have e1 : be 1 l.length = [l.length] := by simp [be]; omega
      rw [hm, rd, pr, e1, List.cons_append, body, if_neg (by decide), if_neg (by decide), if_neg (by decide), if_neg (by decide), if_pos rfl]
      show listR (some (rd m)) (l.length :: (prs l ++ t)) = _
      simp only [listR]
      rw [hk]
  | h5 => simp [er] at h
  | h6 => simp [er] at h
theorem rd_body (m : Nat) : ∃ g, rd m = body g ∧ (g = none ∧ m = 0 ∨ ∃ k, m = k + 1 ∧ g = some (rd k)) := by
  cases m with
  | zero => exact ⟨_, rfl, Or.inl ⟨rfl, rfl⟩⟩
  | succ k => exact ⟨_, rfl, Or.inr ⟨k, rfl, rfl⟩⟩
/-- What is read was printed. -/
structure Was (m : Nat) (t : List Nat) (a : A) (t' : List Nat) : Prop where
  text : t = pr a ++ t'
  fine : er a (8 - m) = 0
  ok : okA a
theorem pr_rd : ∀ (m : Nat) (_ : m ≤ 8) (t : List Nat) (_ : ∀ c ∈ t, c < 256) (a : A) (t' : List Nat), rd m t = some (a, t') → Was m t a t' := by
  intro m
  induction m with
  | zero =>
    intro hm t hb a t' h
    exact go hm none (Or.inl rfl) t hb a t' h
  | succ k ih =>
    intro hm t hb a t' h
    exact go hm (some (rd k)) (Or.inr ⟨k, rfl, rfl, fun t hb a t' h => ih (by omega) t hb a t' h⟩) t hb a t' h
where
  go {m : Nat} (hm : m ≤ 8) (g : Option (List Nat → Option (A × List Nat))) (hg : g = none ∨ ∃ k, m = k + 1 ∧ g = some (rd k) ∧ ∀ (t : List Nat), (∀ c ∈ t, c < 256) → ∀ (a : A) (t' : List Nat), rd k t = some (a, t') → Was k t a t')
      (t : List Nat) (hb : ∀ c ∈ t, c < 256) (a : A) (t' : List Nat) (h : body g t = some (a, t')) : Was m t a t' := by
    cases t with
    | nil => cases h
    | cons c t =>
      have hbt : ∀ c ∈ t, c < 256 := fun x hx => hb x (by simp [hx])
      rw [body] at h
      split at h
      · rename_i hc
        subst hc
        split at h
        · cases h
        · rename_i hl
          simp only [Option.some.injEq, Prod.mk.injEq] at h
          obtain ⟨rfl, rfl⟩ := h
          have htl : (t.take 8).length = 8 := by simp; omega
          have hv := val_lt (t.take 8) (fun x hx => hbt x (List.mem_of_mem_take hx))
          rw [htl, p8] at hv
          have hbv := be_val (t.take 8) (fun x hx => hbt x (List.mem_of_mem_take hx))
          rw [htl] at hbv
          refine ⟨?_, rfl, s64_in hv⟩
          rw [pr, u64_s64 hv, hbv]
          simp
      · split at h
        · rename_i hc
          subst hc
          split at h
          · cases h
          · rename_i hl
            split at h
            · cases h
            · rename_i hl2
              simp only [Option.some.injEq, Prod.mk.injEq] at h
              obtain ⟨rfl, rfl⟩ := h
              have htl : (t.take 2).length = 2 := by simp; omega
              have hv := val_lt (t.take 2) (fun x hx => hbt x (List.mem_of_mem_take hx))
              rw [htl, show 256 ^ 2 = 65536 from rfl] at hv
              have hbv := be_val (t.take 2) (fun x hx => hbt x (List.mem_of_mem_take hx))
              rw [htl] at hbv
              generalize hn : val (t.take 2) = n at *
              have hpl : ((t.drop 2).take n).length = n := by simp; omega
              have hsz : (mkS ((t.drop 2).take n)).size = n := by rw [mkS_size, hpl]
              refine ⟨?_, ?_, trivial⟩
              · rw [pr, hsz, hbv, bys_mkS _ (fun x hx => hbt x (List.mem_of_mem_drop (List.mem_of_mem_take hx))), List.cons_append, List.append_assoc, List.take_append_drop, List.take_append_drop]
              · rw [er, hsz, if_neg (by omega)]
        · split at h
          · rename_i hc
            subst hc
            simp only [Option.some.injEq, Prod.mk.injEq] at h
            obtain ⟨rfl, rfl⟩ := h
            exact ⟨by simp [pr], rfl, trivial⟩
          · split at h
            · rename_i hc
              subst hc
              simp only [Option.some.injEq, Prod.mk.injEq] at h
              obtain ⟨rfl, rfl⟩ := h
              exact ⟨by simp [pr], rfl, trivial⟩
            · split at h
              · rename_i hc
                subst hc
                rcases hg with rfl | ⟨k, hk, rfl, ihk⟩
                · cases h
                · cases t with
                  | nil => cases h
                  | cons n t1 =>
                    have key : ∀ (n : Nat) (t : List Nat), (∀ c ∈ t, c < 256) → ∀ (l : List A) (t' : List Nat), rdL (rd k) n t = some (l, t') → t = prs l ++ t' ∧ l.length = n ∧ (∀ x ∈ l, er x (8 - k) = 0 ∧ okA x) := by
                      intro n
                      induction n with
                      | zero =>
                        intro t _ l t' h
                        simp only [rdL, Option.some.injEq, Prod.mk.injEq] at h
                        obtain ⟨rfl, rfl⟩ := h
                        exact ⟨rfl, rfl, fun x hx => by cases hx⟩
                      | succ n ihn =>
                        intro t hb l t' h
                        rw [rdL] at h
                        split at h
                        · cases h
                        · rename_i x t1 hx
                          split at h
                          · cases h
                          · rename_i r t2 hr
                            simp only [Option.some.injEq, Prod.mk.injEq] at h
                            obtain ⟨rfl, rfl⟩ := h
                            have w := ihk t hb x t1 hx
                            have hb1 : ∀ c ∈ t1, c < 256 := fun c hc => hb c (by rw [w.text]; simp [hc])
                            obtain ⟨e1, e2, e3⟩ := ihn t1 hb1 r t2 hr
                            refine ⟨by rw [w.text, e1]; simp [prs], by simp [e2], fun y hy => ?_⟩
                            rcases List.mem_cons.1 hy with rfl | hy
                            · exact ⟨w.fine, w.ok⟩
                            · exact e3 y hy
                    simp only [listR] at h
                    split at h
                    · cases h
                    · rename_i l t2 hl
                      simp only [Option.some.injEq, Prod.mk.injEq] at h
                      obtain ⟨rfl, rfl⟩ := h
                      obtain ⟨e1, e2, e3⟩ := key n t1 (fun c hc => hbt c (by simp [hc])) l t2 hl
                      have hn : n < 256 := hbt n (by simp)
                      refine ⟨?_, ?_, (okAs_all l).2 fun x hx => (e3 x hx).2⟩
                      · rw [pr, e2, e1]
                        simp [be, Nat.mod_eq_of_lt hn]
                      · rw [er, if_neg (by omega), ers_zero]
                        intro x hx
                        have := (e3 x hx).1
                        rwa [show 8 - (m) + 1 = 8 - k by omega]
              · cases h
/-- How long it is at most. -/
def bnd : Nat → Nat → Nat
  | 0, _ => 65538
  | f + 1, d => 65538 + (if d ≤ 1 then 255 else 5) * bnd f (d + 1)
theorem bnd_le : bnd 8 0 ≤ 100000000000000 := by decide +kernel
theorem sz_bnd (v : V) : ∀ (f d : Nat), f + d = 8 → fewV v d = true → sz (ofV v) d ≤ bnd f d := by
  induction v using V.ind with
  | h k n s b l ih =>
    intro f d hf hv
    have hb : 65538 ≤ bnd f d := by cases f <;> simp [bnd]
    rw [ofV]
    split
    · rw [sz]; omega
    · split
      · rw [sz]; split <;> omega
      · split
        · rw [sz]; omega
        · split
          · rw [sz]
            split
            · omega
            · rename_i hc
              rw [ofVs_map, List.length_map] at hc
              rw [fewV, Bool.and_eq_true, fewVs_all, List.all_eq_true] at hv
              obtain ⟨h1, h2⟩ := hv
              simp at h1
              obtain ⟨f', rfl⟩ : ∃ f', f = f' + 1 := ⟨f - 1, by omega⟩
              have hs : ∀ r : List V, (∀ x ∈ r, x ∈ l) → szs (ofVs r) (d + 1) ≤ r.length * bnd f' (d + 1) := by
                intro r
                induction r with
                | nil => intro _; simp [ofVs, szs]
                | cons x r ihr =>
                  intro hr
                  rw [ofVs, szs, List.length_cons, Nat.succ_mul]
                  have := ih x (hr x (by simp)) f' (d + 1) (by omega) (h2 x (hr x (by simp)))
                  have := ihr (fun y hy => hr y (by simp [hy]))
                  omega
              have h3 := hs l (fun x hx => hx)
              have h4 : l.length * bnd f' (d + 1) ≤ (if d ≤ 1 then 255 else 5) * bnd f' (d + 1) := Nat.mul_le_mul_right _ (by split <;> omega)
              rw [bnd]
              omega
          · rw [sz]; omega
theorem bnd_mono : ∀ (f d : Nat), bnd f (d + 1) ≤ bnd (f + 1) d
  | 0, d => by simp [bnd]
  | f + 1, d => by
    rw [bnd, bnd]
    have := bnd_mono f (d + 1)
    split <;> split <;> omega
end Go.Own
namespace Go.Proofs.YtlogjpmdfimgdaaGreatDoor
open Go.RowKit Go.Own
theorem hadd (b o j : Nat) : (⟨b, o, none⟩ : Addr).add j = ⟨b, o + j, none⟩ := by unfold Addr.add; split <;> simp_all
/-- The value v is a; its lists lie in blocks of S. -/
inductive AAt (w : World) (S : Nat → Prop) : Value → A → Prop
  | num (n : Int) (h : In64 n) : AAt w S (.iface 3 (.int .i64 n)) (.num n)
  | str (s : ByteArray) (h : s.size ≤ 9223372036854775807) : AAt w S (.iface 9 (.string s)) (.str s)
  | bool (b : Bool) : AAt w S (.iface 4 (.bool b)) (.bool b)
  | none : AAt w S .nilIface .none
  | odd (u : Value) : AAt w S (.iface 68 u) .odd
  | nil : AAt w S (.iface 67 (.slice none 0 0)) (.list [])
  | list (b o n cap : Nat) (l : List A) (U : Nat → Value) (hn : l.length = n) (hS : S b) (hb : b < w.heap.size) (hle : n ≤ cap) (hm : cap ≤ 9223372036854775807)
      (hc : ∀ j x, l[j]? = some x → w.cell? ⟨b, o + j, none⟩ = some (U j)) (ha : ∀ j x, l[j]? = some x → AAt w S (U j) x) : AAt w S (.iface 67 (.slice (some ⟨b, o, none⟩) n cap)) (.list l)
theorem AAt.keep {w w' : World} {S T : Nat → Prop} {v : Value} {a : A} (h : AAt w S v a) (hT : ∀ b, S b → b < w.heap.size → T b) (hz : w.heap.size ≤ w'.heap.size) (hk : ∀ b, S b → b < w.heap.size → w'.heap[b]? = w.heap[b]?) : AAt w' T v a := by
  induction h with
  | num n h => exact .num n h
  | str s h => exact .str s h
  | bool b => exact .bool b
  | none => exact .none
  | odd u => exact .odd u
  | nil => exact .nil
  | list b o n cap l U hn hS hb hle hm hc ha ih =>
    refine .list b o n cap l U hn (hT b hS hb) (Nat.lt_of_lt_of_le hb hz) hle hm (fun j x hx => ?_) ih
    rw [World.cell?_of_block (w := w) (hk b hS hb)]
    exact hc j x hx
/-- The value v is a, wherever its lists lie. -/
def Has (w : World) (v : Value) (a : A) : Prop := AAt w (fun _ => True) v a
theorem AAt.has {w : World} {S : Nat → Prop} {v : Value} {a : A} (h : AAt w S v a) : Has w v a := h.keep (fun _ _ _ => trivial) (Nat.le_refl _) (fun _ _ _ => rfl)
theorem Has.below {w w' : World} {v : Value} {a : A} (h : Has w v a) (hb : Below w.heap.size w w') : Has w' v a :=
  AAt.keep h (fun _ _ _ => trivial) hb.size fun b _ hlt => hb.block b hlt
/-- Its lists lie below B. -/
def HasB (w : World) (B : Nat) (v : Value) (a : A) : Prop := AAt w (fun b => b < B) v a
theorem Has.low {w : World} {v : Value} {a : A} (h : Has w v a) : HasB w w.heap.size v a := AAt.keep h (fun _ _ h => h) (Nat.le_refl _) (fun _ _ _ => rfl)
theorem HasB.below {w w' : World} {B : Nat} {v : Value} {a : A} (h : HasB w B v a) (hb : Below B w w') : HasB w' B v a :=
  AAt.keep h (fun _ h _ => h) hb.size fun b h _ => hb.block b h
theorem HasB.has {w : World} {B : Nat} {v : Value} {a : A} (h : HasB w B v a) : Has w v a := AAt.has h
/-- The document's value v is x. -/
inductive VAt (w : World) (S : Nat → Prop) : Value → V → Prop
  | nil (k n : Int) (s : ByteArray) (b : Bool) (hk : In64 k) (hn : In64 n) (hs : s.size ≤ 9223372036854775807) : VAt w S (.agg #[.int .i64 k, .int .i64 n, .string s, .bool b, .slice none 0 0]) (.mk k n s b [])
  | empty (k n : Int) (s : ByteArray) (b : Bool) (hk : In64 k) (hn : In64 n) (hs : s.size ≤ 9223372036854775807) (a : Addr) (cap : Nat) (hcap : cap ≤ 9223372036854775807) : VAt w S (.agg #[.int .i64 k, .int .i64 n, .string s, .bool b, .slice (some a) 0 cap]) (.mk k n s b [])
  | list (k n : Int) (s : ByteArray) (b : Bool) (hk : In64 k) (hn : In64 n) (hs : s.size ≤ 9223372036854775807) (g o m cap : Nat) (l : List V) (U : Nat → Array Value) (hm : l.length = m) (hS : S g) (hb : g < w.heap.size) (hle : m ≤ cap) (hcap : cap ≤ 9223372036854775807)
      (hc : ∀ j x, l[j]? = some x → ∀ i u, (U j)[i]? = some u → w.cell? ⟨g, o + j * 5 + i, none⟩ = some u) (ha : ∀ j x, l[j]? = some x → VAt w S (.agg (U j)) x) :
      VAt w S (.agg #[.int .i64 k, .int .i64 n, .string s, .bool b, .slice (some ⟨g, o, none⟩) m cap]) (.mk k n s b l)
theorem VAt.keep {w w' : World} {S T : Nat → Prop} {v : Value} {a : V} (h : VAt w S v a) (hT : ∀ b, S b → b < w.heap.size → T b) (hz : w.heap.size ≤ w'.heap.size) (hk : ∀ b, S b → b < w.heap.size → w'.heap[b]? = w.heap[b]?) : VAt w' T v a := by
  induction h with
  | nil k n s b h1 h2 h3 => exact .nil k n s b h1 h2 h3
  | empty k n s b h1 h2 h3 a cap h4 => exact .empty k n s b h1 h2 h3 a cap h4
  | list k n s b h1 h2 h3 g o m cap l U hm hS hb hle hcap hc ha ih =>
    refine .list k n s b h1 h2 h3 g o m cap l U hm (hT g hS hb) (Nat.lt_of_lt_of_le hb hz) hle hcap (fun j x hx i u hu => ?_) ih
    rw [World.cell?_of_block (w := w) (hk g hS hb)]
    exact hc j x hx i u hu
def Holds (w : World) (v : Value) (x : V) : Prop := VAt w (fun _ => True) v x
theorem VAt.holds {w : World} {S : Nat → Prop} {v : Value} {a : V} (h : VAt w S v a) : Holds w v a := h.keep (fun _ _ _ => trivial) (Nat.le_refl _) (fun _ _ _ => rfl)
theorem Holds.below {w w' : World} {v : Value} {a : V} (h : Holds w v a) (hb : Below w.heap.size w w') : Holds w' v a :=
  VAt.keep h (fun _ _ _ => trivial) hb.size fun b _ hlt => hb.block b hlt
/-- Its parts, by name. -/
structure Parts (w : World) (S : Nat → Prop) (v : Value) (k n : Int) (s : ByteArray) (b : Bool) (l : List V) (p : Option Addr) (cap : Nat) : Prop where
  eq : v = .agg #[.int .i64 k, .int .i64 n, .string s, .bool b, .slice p l.length cap]
  hk : In64 k
  hn : In64 n
  hs : s.size ≤ 9223372036854775807
  hle : l.length ≤ cap
  hcap : cap ≤ 9223372036854775807
  sub : ∀ j x, l[j]? = some x → ∃ g o c0 c1 c2 c3 c4, p = some ⟨g, o, none⟩ ∧ S g ∧ g < w.heap.size ∧ VAt w S (.agg #[c0, c1, c2, c3, c4]) x ∧ w.cell? ⟨g, o + j * 5, none⟩ = some c0 ∧ w.cell? ⟨g, o + j * 5 + 1, none⟩ = some c1 ∧ w.cell? ⟨g, o + j * 5 + 2, none⟩ = some c2 ∧ w.cell? ⟨g, o + j * 5 + 3, none⟩ = some c3 ∧ w.cell? ⟨g, o + j * 5 + 4, none⟩ = some c4
theorem VAt.parts {w : World} {S : Nat → Prop} {v : Value} {k n : Int} {s : ByteArray} {b : Bool} {l : List V} (h : VAt w S v (.mk k n s b l)) : ∃ p cap, Parts w S v k n s b l p cap := by
  cases h with
  | nil _ _ _ _ h1 h2 h3 => exact ⟨none, 0, rfl, h1, h2, h3, Nat.le_refl _, by omega, fun j x hx => by simp at hx⟩
  | empty _ _ _ _ h1 h2 h3 a cap h4 => exact ⟨some a, cap, rfl, h1, h2, h3, Nat.zero_le _, h4, fun j x hx => by simp at hx⟩
  | list _ _ _ _ h1 h2 h3 g o m cap _ U hm hS hb hle hcap hc ha =>
    subst hm
    refine ⟨some ⟨g, o, none⟩, cap, rfl, h1, h2, h3, hle, hcap, fun j x hx => ?_⟩
    have h := ha j x hx
    have c := hc j x hx
    generalize U j = u at h c
    have hsh : ∃ c0 c1 c2 c3 c4, u = #[c0, c1, c2, c3, c4] := by cases h <;> exact ⟨_, _, _, _, _, rfl⟩
    obtain ⟨c0, c1, c2, c3, c4, rfl⟩ := hsh
    exact ⟨g, o, c0, c1, c2, c3, c4, rfl, hS, hb, h, by simpa using c 0 c0 rfl, by simpa using c 1 c1 rfl, by simpa using c 2 c2 rfl, by simpa using c 3 c3 rfl, by simpa using c 4 c4 rfl⟩
theorem cell_new (w : World) (c : Array Value) (t : TypeId) (j : Nat) : (w.alloc (.cells c t)).cell? ⟨w.heap.size, j, none⟩ = c[j]? := by
  have h := heap_alloc_new w (.cells c t)
  simp only [World.cell?, h, Option.isSome_none, Bool.false_eq_true, if_false]
theorem ld_five (W : World) {b o : Nat} {c0 c1 c2 c3 c4 : Value} (h0 : W.cell? ⟨b, o, none⟩ = some c0) (h1 : W.cell? ⟨b, o + 1, none⟩ = some c1) (h2 : W.cell? ⟨b, o + 2, none⟩ = some c2) (h3 : W.cell? ⟨b, o + 3, none⟩ = some c3) (h4 : W.cell? ⟨b, o + 4, none⟩ = some c4) :
    (Instr.loadAt 59 (.pointer (some ⟨b, o, none⟩))).run Tryz.prog W = .ok (.agg #[c0, c1, c2, c3, c4]) W := by
  have hl := run_loadCells_list (P := Tryz.prog) W ⟨b, o, none⟩ [c0, c1, c2, c3, c4] (fun j u hu => by
    rw [hadd]
    match j, hu with
    | 0, hu => simpa using hu ▸ h0
    | 1, hu => simpa using hu ▸ h1
    | 2, hu => simpa using hu ▸ h2
    | 3, hu => simpa using hu ▸ h3
    | 4, hu => simpa using hu ▸ h4
    | j + 5, hu => simp at hu)
  simp only [List.length_cons, List.length_nil, Nat.zero_add, Nat.reduceAdd] at hl
  have ha : (isAgg 59).run Tryz.prog W = .ok true W := by kernel_rfl
  simp [Instr.loadAt, Instr.sureAddr, loadVar, ha, hl]
end Go.Proofs.YtlogjpmdfimgdaaGreatDoor

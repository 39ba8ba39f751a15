/- Values as trees, their bytes, and what is read of bytes. No program. -/
import Derived.Test.YtncbgonanoihfaaB0
namespace Go.Own
/-- A value that is told by its type ('none': no value at all; 'odd': of a type that is none of these). -/
inductive A where
  | num (n : Int)
  | str (s : ByteArray)
  | bool (b : Bool)
  | list (l : List A)
  | none
  | odd
/-- The document's own form. -/
inductive V where
  | mk (k n : Int) (s : ByteArray) (b : Bool) (l : List V)
/-- A number's k lowest bytes, the highest first. -/
def be : Nat → Nat → List Nat
  | 0, _ => []
  | k + 1, n => n / 256 ^ k % 256 :: be k n
/-- The number that bytes are, the highest first. -/
def val (l : List Nat) : Nat := l.foldl (fun a c => a * 256 + c) 0
def two63 : Nat := 9223372036854775808
def two64 : Nat := 18446744073709551616
def u64 (n : Int) : Nat := (n % (two64 : Int)).toNat
def s64 (n : Nat) : Int := if n < two63 then (n : Int) else (n : Int) - (two64 : Int)
def In64 (n : Int) : Prop := -(two63 : Int) ≤ n ∧ n < (two63 : Int)
mutual
/-- A value's error, within so many lists. -/
def er : A → Nat → Int
  | .num _, _ => 0
  | .str s, _ => if 65535 < s.size then 3 else 0
  | .bool _, _ => 0
  | .list l, d => if 255 < l.length ∨ 8 ≤ d then 3 else ers l (d + 1)
  | .none, _ => 9
  | .odd, _ => 9
def ers : List A → Nat → Int
  | [], _ => 0
  | x :: r, d => if er x d = 0 then ers r d else er x d
end
mutual
/-- A value's bytes. -/
def pr : A → List Nat
  | .num n => 105 :: be 8 (u64 n)
  | .str s => 115 :: (be 2 s.size ++ bys s)
  | .bool b => [if b then 121 else 110]
  | .list l => 108 :: (be 1 l.length ++ prs l)
  | .none => []
  | .odd => []
def prs : List A → List Nat
  | [] => []
  | x :: r => pr x ++ prs r
end
mutual
/-- How many bytes at most are written for it. -/
def sz : A → Nat → Nat
  | .num _, _ => 9
  | .str s, _ => if 65535 < s.size then 0 else 3 + s.size
  | .bool _, _ => 1
  | .list l, d => if 255 < l.length ∨ 8 ≤ d then 0 else 2 + szs l (d + 1)
  | .none, _ => 0
  | .odd, _ => 0
def szs : List A → Nat → Nat
  | [], _ => 0
  | x :: r, d => sz x d + szs r d
end
mutual
/-- Its numbers are of 64 bits. -/
def okA : A → Prop
  | .num n => In64 n
  | .list l => okAs l
  | _ => True
def okAs : List A → Prop
  | [] => True
  | x :: r => okA x ∧ okAs r
end
mutual
def ofV : V → A
  | .mk k n s b l => if k = 1 then .num n else if k = 2 then .str s else if k = 3 then .bool b else if k = 4 then .list (ofVs l) else .none
def ofVs : List V → List A
  | [] => []
  | x :: r => ofV x :: ofVs r
end
mutual
def toV : A → V
  | .num n => .mk 1 n { data := #[] } false []
  | .str s => .mk 2 0 s false []
  | .bool b => .mk 3 0 { data := #[] } b []
  | .list l => .mk 4 0 { data := #[] } false (toVs l)
  | .none => .mk 0 0 { data := #[] } false []
  | .odd => .mk 0 0 { data := #[] } false []
def toVs : List A → List V
  | [] => []
  | x :: r => toV x :: toVs r
end
mutual
/-- Is it small enough? -/
def fewV : V → Nat → Bool
  | .mk _ _ s _ l, d => !(decide (10 < d) || decide (70000 < s.size) || decide (300 < l.length) || (decide (1 < d) && decide (5 < l.length))) && fewVs l (d + 1)
def fewVs : List V → Nat → Bool
  | [], _ => true
  | x :: r, d => fewV x d && fewVs r d
end
/-- So many values, one behind the other. -/
def rdL (f : List Nat → Option (A × List Nat)) : Nat → List Nat → Option (List A × List Nat)
  | 0, t => some ([], t)
  | c + 1, t => match f t with
    | none => none
    | some (x, t') => match rdL f c t' with
      | none => none
      | some (r, t'') => some (x :: r, t'')
def listR (g : Option (List Nat → Option (A × List Nat))) (t : List Nat) : Option (A × List Nat) :=
  match g with
  | none => none
  | some f => match t with
    | [] => none
    | n :: t' => match rdL f n t' with
      | none => none
      | some (l, t'') => some (.list l, t'')
def body (g : Option (List Nat → Option (A × List Nat))) : List Nat → Option (A × List Nat)
  | [] => none
  | c :: t =>
    if c = 105 then (if t.length < 8 then none else some (.num (s64 (val (t.take 8))), t.drop 8))
    else if c = 115 then (if t.length < 2 then none else if t.length - 2 < val (t.take 2) then none else some (.str (mkS ((t.drop 2).take (val (t.take 2)))), (t.drop 2).drop (val (t.take 2))))
    else if c = 121 then some (.bool true, t)
    else if c = 110 then some (.bool false, t)
    else if c = 108 then listR g t
    else none
/-- A value at a text's head, in which so many lists may stand within one another, and what is behind it. -/
def rd : Nat → List Nat → Option (A × List Nat)
  | 0 => body none
  | m + 1 => body (some (rd m))
/-- Going through places. -/
def cm : A → List Int → Int × A
  | a, [] => (0, a)
  | .list l, i :: r => if i < 0 ∨ (l.length : Int) ≤ i then (4, .none) else cm (l.getD i.toNat .none) r
  | _, _ :: _ => (9, .none)
def zeroV : V := .mk 0 0 { data := #[] } false []
def wi : V → List Int → Int × V
  | a, [] => (0, a)
  | .mk k _ _ _ l, i :: r => if k ≠ 4 then (9, zeroV) else if i < 0 ∨ (l.length : Int) ≤ i then (4, zeroV) else wi (l.getD i.toNat zeroV) r

theorem be_length : ∀ k n, (be k n).length = k
  | 0, _ => rfl
  | k + 1, n => by simp [be, be_length k n]
theorem be_lt : ∀ k n, ∀ c ∈ be k n, c < 256
  | 0, _, c, h => by simp [be] at h
  | k + 1, n, c, h => by
    simp only [be, List.mem_cons] at h
    rcases h with rfl | h
    · omega
    · exact be_lt k n c h
theorem val_app (a b : List Nat) : val (a ++ b) = val a * 256 ^ b.length + val b := by
  unfold val
  rw [List.foldl_append]
  generalize List.foldl (fun a c => a * 256 + c) 0 a = z
  have : ∀ (b : List Nat) (z : Nat), List.foldl (fun a c => a * 256 + c) z b = z * 256 ^ b.length + List.foldl (fun a c => a * 256 + c) 0 b := by
    intro b
    induction b with
    | nil => intro z; simp
    | cons c b ih =>
      intro z
      simp only [List.foldl_cons, List.length_cons]
      rw [ih, ih (0 * 256 + c)]
      rw [Nat.pow_succ, Nat.add_mul, Nat.zero_mul, Nat.zero_add, Nat.mul_assoc, Nat.mul_comm 256, Nat.add_assoc]
  exact this b z
theorem val_cons (c : Nat) (b : List Nat) : val (c :: b) = c * 256 ^ b.length + val b := by
  have := val_app [c] b
  simp [val] at this
  simp [val, this]
theorem val_snoc (a : List Nat) (c : Nat) : val (a ++ [c]) = val a * 256 + c := by
  simp [val]
theorem val_lt : ∀ l : List Nat, (∀ c ∈ l, c < 256) → val l < 256 ^ l.length
  | [], _ => by simp [val]
  | c :: b, h => by
    have h1 := val_lt b (fun x hx => h x (by simp [hx]))
    have h2 := h c (by simp)
    rw [val_cons, List.length_cons, Nat.pow_succ]
    have : c * 256 ^ b.length ≤ 255 * 256 ^ b.length := Nat.mul_le_mul_right _ (by omega)
    omega
theorem val_be : ∀ k n, val (be k n) = n % 256 ^ k
  | 0, n => by simp [be, val, Nat.mod_one]
  | k + 1, n => by
    rw [be, val_cons, be_length, val_be k n, Nat.pow_succ, Nat.mod_mul, Nat.mul_comm, Nat.add_comm]
theorem be_val : ∀ (l : List Nat), (∀ c ∈ l, c < 256) → be l.length (val l) = l
  | [], _ => rfl
  | c :: b, h => by
    have h1 := be_val b (fun x hx => h x (by simp [hx]))
    have hl := val_lt b (fun x hx => h x (by simp [hx]))
    have h2 := h c (by simp)
    have hp : 0 < 256 ^ b.length := Nat.pow_pos (by omega)
    rw [List.length_cons, be, val_cons]
    have e1 : (c * 256 ^ b.length + val b) / 256 ^ b.length = c := by
      rw [Nat.mul_comm, Nat.mul_add_div hp, Nat.div_eq_of_lt hl, Nat.add_zero]
    rw [e1, Nat.mod_eq_of_lt h2]
    have e2 : ∀ (k m x : Nat), k ≤ m → be k (x * 256 ^ m + val b) = be k (val b) := by
      intro k
      induction k with
      | zero => intro m x _; rfl
      | succ k ih =>
        intro m x hk
        simp only [be]
        rw [ih m x (by omega)]
        congr 1
        obtain ⟨q, rfl⟩ : ∃ q, m = k + 1 + q := ⟨m - (k + 1), by omega⟩
        have e : x * 256 ^ (k + 1 + q) = 256 ^ k * (256 * (x * 256 ^ q)) := by
          rw [Nat.pow_add, Nat.pow_succ]; ac_rfl
        rw [e, Nat.mul_add_div (Nat.pow_pos (by omega))]
        omega
    rw [e2 _ _ _ (Nat.le_refl _), h1]
theorem u64_lt (n : Int) : u64 n < two64 := by
  have : 0 < (two64 : Int) := by unfold two64; omega
  have h1 := Int.emod_nonneg n (by omega : (two64 : Int) ≠ 0)
  have h2 := Int.emod_lt_of_pos n this
  unfold u64
  omega
theorem s64_u64 {n : Int} (h : In64 n) : s64 (u64 n) = n := by
  unfold In64 at h
  unfold s64 u64 two63 two64 at *
  split <;> omega
theorem u64_s64 {n : Nat} (h : n < two64) : u64 (s64 n) = n := by
  unfold s64 u64 two63 two64 at *
  split <;> omega
theorem s64_in {n : Nat} (h : n < two64) : In64 (s64 n) := by
  unfold In64 s64 two63 two64 at *
  split <;> omega
theorem p8 : 256 ^ 8 = two64 := by decide +kernel
end Go.Own

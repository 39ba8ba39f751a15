/- LifeUndone's walk. No condition. -/
import Derived.Test.YtbaheeofdelbhaaLG
namespace Go.Proofs.Ytbaheeofdelbhaa
open Go Go.RowKit Go.Own Go.Own.Fr
/-- What a life is behind k events of row i. -/
def sS : Nat → Nat → Int
  | 0, 1 => 2
  | 1, 1 => 3
  | 1, 2 => 2
  | _, _ => 1
def sD (n now : Int) : Nat → Nat → Int
  | 1, 1 => now + n
  | _, _ => 0
def sE (n : Int) : Nat → Nat → Int
  | 2, 1 => n
  | 2, 2 => n
  | _, _ => 0
/-- The rows' events. -/
def kK : Nat → Nat → Int
  | 0, 0 => 2
  | 0, 1 => 1
  | 0, 2 => 7
  | 1, 0 => 3
  | 1, 1 => 4
  | 1, 2 => 1
  | 2, 0 => 6
  | 2, 1 => 7
  | _, _ => 6
def kN (n : Int) : Nat → Nat → Int
  | 1, 0 => n
  | 2, 0 => n
  | _, _ => 0
def rowsC (n : Int) : Array Value := #[.int .i64 2, .int .i64 0, .int .i64 1, .int .i64 0, .int .i64 7, .int .i64 0, .int .i64 3, .int .i64 n, .int .i64 4, .int .i64 0, .int .i64 1, .int .i64 0, .int .i64 6, .int .i64 n, .int .i64 7, .int .i64 0, .int .i64 6, .int .i64 0]
theorem rows_at (n : Int) (i k : Nat) (hi : i < 3) (hk : k < 3) : (rowsC n)[i * 6 + k * 2]? = some (.int .i64 (kK i k)) ∧ (rowsC n)[i * 6 + k * 2 + 1]? = some (.int .i64 (kN n i k)) := by
  have h1 : i = 0 ∨ i = 1 ∨ i = 2 := by omega
  have h2 : k = 0 ∨ k = 1 ∨ k = 2 := by omega
  rcases h1 with rfl | rfl | rfl <;> rcases h2 with rfl | rfl | rfl <;> exact ⟨rfl, rfl⟩
theorem start_at (n now : Int) (i : Nat) (hi : i < 3) : sS i 0 = 1 ∧ sD n now i 0 = 0 ∧ sE n i 0 = 0 ∧ sS i 3 = 1 ∧ sD n now i 3 = 0 ∧ sE n i 3 = 0 := by
  have h1 : i = 0 ∨ i = 1 ∨ i = 2 := by omega
  rcases h1 with rfl | rfl | rfl <;> exact ⟨rfl, rfl, rfl, rfl, rfl, rfl⟩
theorem time_in {t : Int} (h : 0 ≤ t) (h2 : t ≤ 1099511627776) : timeB t = true := time_ok h h2
theorem step_all (v n now : Int) (hv : 1 ≤ v) (hv8 : v ≤ 8) (h1 : 1 ≤ n) (h2 : n ≤ 1000) (h3 : 0 ≤ now) (h4 : now ≤ 549755813888) (i k : Nat) (hi : i < 3) (hk : k < 3) (w : World) :
    Calls Try.prog 6 #[lv (sS i k) (sD n now i k) (sE n i k) v, ev (kK i k) (kN n i k), .int .i64 (now + (k : Int))] w (Ret (.tuple #[lv (sS i (k + 1)) (sD n now i (k + 1)) (sE n i (k + 1)) v, .int .i64 0]) w) := by
  have hr : ∀ s d e : Int, 1 ≤ s → s ≤ 4 → 0 ≤ d → d ≤ 1099511627776 → (s = 3 ∨ d = 0) → 0 ≤ e → e ≤ 1099511627776 → rightB s d e v = true := fun s d e a b c dd f g hh => by
    unfold rightB
    rw [time_ok c dd, time_ok g hh]
    simp [a, b, hv, hv8]
    exact f
  have ht : ∀ j : Int, 0 ≤ j → j ≤ 2 → timeB (now + j) = true := fun j a b => time_ok (by omega) (by omega)
  have g1 : i = 0 ∨ i = 1 ∨ i = 2 := by omega
  have g2 : k = 0 ∨ k = 1 ∨ k = 2 := by omega
  rcases g1 with rfl | rfl | rfl <;> rcases g2 with rfl | rfl | rfl
  · exact st_21 0 (now + 0) 0 0 v (hr _ _ _ (by omega) (by omega) (by omega) (by omega) (by omega) (by omega) (by omega)) (ht 0 (by omega) (by omega)) w
  · exact st_12 0 (now + 1) 0 0 v (hr _ _ _ (by omega) (by omega) (by omega) (by omega) (by omega) (by omega) (by omega)) (ht 1 (by omega) (by omega)) w
  · exact st_71 0 (now + 2) 0 0 v (hr _ _ _ (by omega) (by omega) (by omega) (by omega) (by omega) (by omega) (by omega)) (ht 2 (by omega) (by omega)) w
  · have e : now + ((0 : Nat) : Int) = now := by omega
    rw [e]
    exact st_31 n now 0 0 v (hr _ _ _ (by omega) (by omega) (by omega) (by omega) (by omega) (by omega) (by omega)) (time_ok (by omega) (by omega)) h1 h2 h3 (by omega) w
  · exact st_43 0 (now + 1) (now + n) 0 v (hr _ _ _ (by omega) (by omega) (by omega) (by omega) (by omega) (by omega) (by omega)) (ht 1 (by omega) (by omega)) w
  · exact st_12 0 (now + 2) 0 0 v (hr _ _ _ (by omega) (by omega) (by omega) (by omega) (by omega) (by omega) (by omega)) (ht 2 (by omega) (by omega)) w
  · exact st_61 n (now + 0) 0 0 v (hr _ _ _ (by omega) (by omega) (by omega) (by omega) (by omega) (by omega) (by omega)) (ht 0 (by omega) (by omega)) (by omega) (by omega) w
  · exact st_71 0 (now + 1) 0 n v (hr _ _ _ (by omega) (by omega) (by omega) (by omega) (by omega) (by omega) (by omega)) (ht 1 (by omega) (by omega)) w
  · exact st_61 0 (now + 2) 0 n v (hr _ _ _ (by omega) (by omega) (by omega) (by omega) (by omega) (by omega) (by omega)) (ht 2 (by omega) (by omega)) (by omega) (by omega) w
section
variable {ρ : Operand → Value} {W : World} {dst : Option Tmp} {ty : TypeId} {pos : String} {after : Array Edge} {guard : Option (Nat × Bool)} {v r : Value} {x y : Operand}
theorem exec_load {T : TypeId} (h1 : ρ x = v) (hr : (Instr.loadAt T v).run Try.prog W = .ok r W) : (execOp ρ { dst, op := .load T x, type := ty, pos, after, guard }).run Try.prog W = .ok (.value r) W := by
  simp [execOp, h1, hr, Result.andThen]
theorem exec_ix29 {b i : Nat} (h1 : ρ x = .pointer (some ⟨b, 0, none⟩)) (h2 : ρ y = .int .i64 (i : Int)) (hi : i < 3) : (execOp ρ { dst, op := .indexAddr 29 x y, type := ty, pos, after, guard }).run Try.prog W = .ok (.value (.pointer (some ⟨b, i * 6, none⟩))) W := by
  have a : (i : Int) < 3 := by omega
  have c : (0 : Int) ≤ (i : Int) := by omega
  simp [execOp, h1, h2, go_sem, a, c]
theorem exec_ix28 {b o k : Nat} (h1 : ρ x = .pointer (some ⟨b, o, none⟩)) (h2 : ρ y = .int .i64 (k : Int)) (hk : k < 3) : (execOp ρ { dst, op := .indexAddr 28 x y, type := ty, pos, after, guard }).run Try.prog W = .ok (.value (.pointer (some ⟨b, o + k * 2, none⟩))) W := by
  have a : (k : Int) < 3 := by omega
  have c : (0 : Int) ≤ (k : Int) := by omega
  simp [execOp, h1, h2, go_sem, a, c]
theorem ld27 {b o : Nat} {c0 c1 : Value} (h0 : W.cell? ⟨b, o, none⟩ = some c0) (h1 : W.cell? ⟨b, o + 1, none⟩ = some c1) : (Instr.loadAt 27 (.pointer (some ⟨b, o, none⟩))).run Try.prog W = .ok (.agg #[c0, c1]) W := by
  simp [Instr.loadAt, go_sem, h0, h1]
theorem exec_add {a b : Int} (h1 : ρ x = .int .i64 a) (h2 : ρ y = .int .i64 b) (hw : IntKind.i64.wrap (a + b) = a + b) : (execOp ρ { dst, op := .binOp .add 3 x y 3, type := ty, pos, after, guard }).run Try.prog W = .ok (.value (.int .i64 (a + b))) W := by
  simp [execOp, h1, h2, go_sem, hw]
theorem exec_ext {a b : Value} (i : Nat) (h1 : ρ x = .tuple #[a, b]) (hi : (#[a, b] : Array Value)[i]? = some r) : (execOp ρ { dst, op := .extract x i, type := ty, pos, after, guard }).run Try.prog W = .ok (.value r) W := by
  simp [execOp, h1, go_sem, hi]
theorem exec_new23 : (execOp ρ { dst, op := .alloc 23, type := ty, pos, after, guard }).run Try.prog W = .ok (.value (.pointer (some ⟨W.heap.size, 0, none⟩))) (W.alloc (.cells #[.int .i64 0, .int .i64 0, .int .i64 0, .int .i64 0] 23)) := by
  simp [execOp, go_sem]
end
theorem z23 : (#[.int .i64 0, .int .i64 0, .int .i64 0, .int .i64 0] : Array Value).size = 4 := rfl
def TV (xs : List Value) (i : Nat) (v : Value) : Prop := ∀ x, xs[i]? = some x → v = x
end Go.Proofs.Ytbaheeofdelbhaa

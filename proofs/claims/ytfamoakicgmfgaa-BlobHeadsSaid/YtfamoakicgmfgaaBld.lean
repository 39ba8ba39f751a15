/- Composite values built in place: one part of an aggregate. No condition. -/
import Derived.Test.YtfamoakicgmfgaaStrs
import Derived.Laws.CopyRow
namespace Go.Own
open Go.RowKit

def buN (T : TypeId) (parts : Array (Nat × Value)) : Sem Value := Instr.build T parts
@[go_sem ↓] theorem execOp_build (ρ : Operand → Value) (dst : Option Tmp) (T : TypeId) (parts : Array (Nat × Operand)) (ty : TypeId) (pos : String) (after : Array Edge) (guard : Option (Nat × Bool)) :
    execOp ρ { dst, op := .build T parts, type := ty, pos, after, guard } = (buN T (parts.map fun (i, x) => (i, ρ x)) >>= fun v => pure (.value v)) := rfl

theorem foldl_set (off : Nat) : ∀ (xs : List Value) (j : Nat) (cs : Array Value), off + j + xs.length ≤ cs.size →
    ((xs.zipIdx j).foldl (fun cs (c, j) => cs.setIfInBounds (off + j) c) cs) = (cs.toList.take (off + j) ++ xs ++ cs.toList.drop (off + j + xs.length)).toArray
  | [], j, cs, _ => by simp
  | v :: rest, j, cs, h => by
    have ih := foldl_set off rest (j + 1) (cs.setIfInBounds (off + j) v) (by simp at h ⊢; omega)
    have e := list_seg_step cs.toList (off + j) v rest (by simp at h ⊢; omega)
    simp only [List.zipIdx_cons, List.foldl_cons]
    rw [ih]
    congr 1
    simpa [Array.toList_setIfInBounds, Nat.add_assoc] using e
theorem fill_one {place : Nat → Option (Nat × Nat)} {k : IntKind} {z x : List Nat} {off : Nat} (hp : place 0 = some (off, x.length)) (h : off + x.length ≤ z.length) :
    Instr.fill place (cv k z) [(0, .agg (cv k x))] = some (cv k (spl z off x)) := by
  have hf := foldl_set off (cv k x).toList 0 (cv k z) (by simp [cv]; omega)
  rw [Nat.add_zero, spl_cv] at hf
  have hz : (cv k x).zipIdx.foldl (fun cs (c, j) => cs.setIfInBounds (off + j) c) (cv k z) = cv k (spl z off x) := by
    rw [← hf, ← Array.foldl_toList, Array.toList_zipIdx]
  unfold Instr.fill
  simp only [hp]
  rw [if_neg (by simp [Value.cells]; omega)]
  exact congrArg some hz
theorem build_one {P : Program} {T : TypeId} {k : IntKind} {z x : List Nat} {fields : Array Field} {places : Array (Nat × Nat)} {W : World} {off : Nat}
    (hz : zeroOf P T = .agg (cv k z)) (hu : P.underlying T = some (.struct fields))
    (hm : (fields.mapM fun f => do pure (f.offset, ← sizeOf f.type) : Sem (Array (Nat × Nat))).run P W = .ok places W)
    (hp : places[0]? = some (off, x.length)) (h : off + x.length ≤ z.length) :
    (buN T #[(0, .agg (cv k x))]).run P W = .ok (.agg (cv k (spl z off x))) W := by
  have hf := fill_one (place := (places[·]?)) (k := k) (z := z) (x := x) (off := off) hp h
  unfold buN Instr.build
  simp only [Sem.run_bind, run_zeroOf hz, Result.andThen_ok, Value.cells, run_underlying hu, hm]
  simp only [hf]
  rfl

/-! ### a block behind others whose number is not known -/
@[go_sem] theorem at_mid {α : Type} (g r : List α) (a : α) : (g ++ a :: r)[g.length]? = some a := by simp
@[go_sem] theorem set_mid {α : Type} (g r : List α) (a b : α) : (g ++ a :: r).set g.length b = g ++ b :: r := by
  rw [List.set_append_right _ _ (Nat.le_refl _)]; simp

/-! ### bytes -/
def B8 (s : List Nat) : Prop := ∀ n ∈ s, n < 256
theorem B8.gi {s : List Nat} (h : B8 s) (i : Nat) : Own.gi s i < 256 := by
  unfold Own.gi
  rw [List.getD_eq_getElem?_getD]
  cases hi : s[i]? with
  | none => decide
  | some n => exact h n (List.mem_of_getElem? hi)
theorem B8.take {s : List Nat} (h : B8 s) (n : Nat) : B8 (s.take n) := fun x hx => h x (List.mem_of_mem_take hx)
theorem B8.drop {s : List Nat} (h : B8 s) (n : Nat) : B8 (s.drop n) := fun x hx => h x (List.mem_of_mem_drop hx)
theorem B8.append {s t : List Nat} (h : B8 s) (k : B8 t) : B8 (s ++ t) := fun x hx => (List.mem_append.1 hx).elim (h x) (k x)
theorem B8.spl {s x : List Nat} (h : B8 s) (k : B8 x) (o : Nat) : B8 (Own.spl s o x) := ((h.take _).append k).append (h.drop _)
theorem B8.rep (n : Nat) : B8 (Own.rep n) := fun x hx => by
  have := (List.mem_replicate.1 hx).2; omega
theorem B8.bys (s : ByteArray) : B8 (Own.bys s) := bys_lt s
theorem B8.map {α : Type} {f : α → Nat} (h : ∀ a, f a < 256) (l : List α) : B8 (l.map f) := fun x hx => by
  obtain ⟨a, _, rfl⟩ := List.mem_map.1 hx
  exact h a
theorem B8.flat {α : Type} {f : α → List Nat} {l : List α} (h : ∀ a ∈ l, B8 (f a)) : B8 (l.flatMap f) := fun x hx => by
  obtain ⟨a, ha, hx⟩ := List.mem_flatMap.1 hx
  exact h a ha x hx
theorem B8.four {a b c d : Nat} (ha : a < 256) (hb : b < 256) (hc : c < 256) (hd : d < 256) : B8 [a, b, c, d] := fun x hx => by
  simp at hx; omega
theorem B8.pc {s : List Nat} (h : B8 s) (i : Nat) : B8 (Own.pc s i) := ((h.drop _).append (B8.rep 4)).take _
theorem B8.fin {c : Nat} {f : Nat → List Nat} {k : Nat} {s : List Nat} (hf : ∀ i, B8 (f i)) (h : B8 s) : B8 (Own.fin c f k s) :=
  (B8.flat fun i _ => hf i).append (h.drop _)
end Go.Own

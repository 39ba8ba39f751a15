/- Values in memory: what is told by its type, and the document's own. No condition. -/
import Derived.Test.YtncbgonanoihfaaProg
import Derived.Test.YtncbgonanoihfaaM2
import Derived.WalkKit
import Derived.WalkSpells
import Derived.Carry
import Derived.Lib.Hide
import Derived.Outline
namespace Go.Proofs.Ytncbgonanoihfaa
open Go.RowKit Go.Own
theorem hadd (b o j : Nat) : (⟨b, o, none⟩ : Addr).add j = ⟨b, o + j, none⟩ := by unfold Addr.add; split <;> simp_all
/-- The value v is a; its lists lie in blocks of S. -/
inductive AAt (w : World) (S : Nat → Prop) : Value → A → Prop
  | num (n : Int) (h : In64 n) : AAt w S (.iface 3 (.int .i64 n)) (.num n)
  | str (s : ByteArray) (h : s.size ≤ 9223372036854775807) : AAt w S (.iface 9 (.string s)) (.str s)
  | bool (b : Bool) : AAt w S (.iface 4 (.bool b)) (.bool b)
  | none : AAt w S .nilIface .none
  | odd (u : Value) : AAt w S (.iface 54 u) .odd
  | nil : AAt w S (.iface 48 (.slice none 0 0)) (.list [])
  | list (b o n cap : Nat) (l : List A) (U : Nat → Value) (hn : l.length = n) (hS : S b) (hb : b < w.heap.size) (hle : n ≤ cap) (hm : cap ≤ 9223372036854775807)
      (hc : ∀ j x, l[j]? = some x → w.cell? ⟨b, o + j, none⟩ = some (U j)) (ha : ∀ j x, l[j]? = some x → AAt w S (U j) x) : AAt w S (.iface 48 (.slice (some ⟨b, o, none⟩) n cap)) (.list l)
theorem AAt.keep {w w' : World} {S T : Nat → Prop} {v : Value} {a : A} (h : AAt w S v a) (hT : ∀ b, S b → b < w.heap.size → T b) (hz : w.heap.size ≤ w'.heap.size) (hk : ∀ b, S b → b < w.heap.size → w'.heap[b]? = w.heap[b]?) : AAt w' T v a := by
  induction h with
  | num n h => exact .num n h
  | str s h => exact .str s h
  | bool b => exact .bool b
  | none => exact .none
  | odd u => exact .odd u
  | nil => exact .nil
  | list b o n cap l U hn hS hb hle hm hc ha ih =>
    refine .list b o n cap l U hn (hT b hS hb) (Nat.lt_of_lt_of_le hb hz) hle hm (fun j x hx => ?_) ih
    rw [World.cell?_of_block (w := w) (hk b hS hb)]
    exact hc j x hx
/-- The value v is a, wherever its lists lie. -/
def Has (w : World) (v : Value) (a : A) : Prop := AAt w (fun _ => True) v a
theorem AAt.has {w : World} {S : Nat → Prop} {v : Value} {a : A} (h : AAt w S v a) : Has w v a := h.keep (fun _ _ _ => trivial) (Nat.le_refl _) (fun _ _ _ => rfl)
theorem Has.below {w w' : World} {v : Value} {a : A} (h : Has w v a) (hb : Below w.heap.size w w') : Has w' v a :=
  AAt.keep h (fun _ _ _ => trivial) hb.size fun b _ hlt => hb.block b hlt
/-- Its lists lie below B. -/
def HasB (w : World) (B : Nat) (v : Value) (a : A) : Prop := AAt w (fun b => b < B) v a
theorem Has.low {w : World} {v : Value} {a : A} (h : Has w v a) : HasB w w.heap.size v a := AAt.keep h (fun _ _ h => h) (Nat.le_refl _) (fun _ _ _ => rfl)
theorem HasB.below {w w' : World} {B : Nat} {v : Value} {a : A} (h : HasB w B v a) (hb : Below B w w') : HasB w' B v a :=
  AAt.keep h (fun _ h _ => h) hb.size fun b h _ => hb.block b h
theorem HasB.has {w : World} {B : Nat} {v : Value} {a : A} (h : HasB w B v a) : Has w v a := AAt.has h
/-- The document's value v is x. -/
inductive VAt (w : World) (S : Nat → Prop) : Value → V → Prop
  | nil (k n : Int) (s : ByteArray) (b : Bool) (hk : In64 k) (hn : In64 n) (hs : s.size ≤ 9223372036854775807) : VAt w S (.agg #[.int .i64 k, .int .i64 n, .string s, .bool b, .slice none 0 0]) (.mk k n s b [])
  | empty (k n : Int) (s : ByteArray) (b : Bool) (hk : In64 k) (hn : In64 n) (hs : s.size ≤ 9223372036854775807) (a : Addr) (cap : Nat) (hcap : cap ≤ 9223372036854775807) : VAt w S (.agg #[.int .i64 k, .int .i64 n, .string s, .bool b, .slice (some a) 0 cap]) (.mk k n s b [])
  | list (k n : Int) (s : ByteArray) (b : Bool) (hk : In64 k) (hn : In64 n) (hs : s.size ≤ 9223372036854775807) (g o m cap : Nat) (l : List V) (U : Nat → Array Value) (hm : l.length = m) (hS : S g) (hb : g < w.heap.size) (hle : m ≤ cap) (hcap : cap ≤ 9223372036854775807)
      (hc : ∀ j x, l[j]? = some x → ∀ i u, (U j)[i]? = some u → w.cell? ⟨g, o + j * 5 + i, none⟩ = some u) (ha : ∀ j x, l[j]? = some x → VAt w S (.agg (U j)) x) :
      VAt w S (.agg #[.int .i64 k, .int .i64 n, .string s, .bool b, .slice (some ⟨g, o, none⟩) m cap]) (.mk k n s b l)
theorem VAt.keep {w w' : World} {S T : Nat → Prop} {v : Value} {a : V} (h : VAt w S v a) (hT : ∀ b, S b → b < w.heap.size → T b) (hz : w.heap.size ≤ w'.heap.size) (hk : ∀ b, S b → b < w.heap.size → w'.heap[b]? = w.heap[b]?) : VAt w' T v a := by
  induction h with
  | nil k n s b h1 h2 h3 => exact .nil k n s b h1 h2 h3
  | empty k n s b h1 h2 h3 a cap h4 => exact .empty k n s b h1 h2 h3 a cap h4
  | list k n s b h1 h2 h3 g o m cap l U hm hS hb hle hcap hc ha ih =>
    refine .list k n s b h1 h2 h3 g o m cap l U hm (hT g hS hb) (Nat.lt_of_lt_of_le hb hz) hle hcap (fun j x hx i u hu => ?_) ih
    rw [World.cell?_of_block (w := w) (hk g hS hb)]
    exact hc j x hx i u hu
def Holds (w : World) (v : Value) (x : V) : Prop := VAt w (fun _ => True) v x
theorem VAt.holds {w : World} {S : Nat → Prop} {v : Value} {a : V} (h : VAt w S v a) : Holds w v a := h.keep (fun _ _ _ => trivial) (Nat.le_refl _) (fun _ _ _ => rfl)
theorem Holds.below {w w' : World} {v : Value} {a : V} (h : Holds w v a) (hb : Below w.heap.size w w') : Holds w' v a :=
  VAt.keep h (fun _ _ _ => trivial) hb.size fun b _ hlt => hb.block b hlt
/-- Its parts, by name. -/
structure Parts (w : World) (S : Nat → Prop) (v : Value) (k n : Int) (s : ByteArray) (b : Bool) (l : List V) (p : Option Addr) (cap : Nat) : Prop where
  eq : v = .agg #[.int .i64 k, .int .i64 n, .string s, .bool b, .slice p l.length cap]
  hk : In64 k
  hn : In64 n
  hs : s.size ≤ 9223372036854775807
  hle : l.length ≤ cap
  hcap : cap ≤ 9223372036854775807
  sub : ∀ j x, l[j]? = some x → ∃ g o c0 c1 c2 c3 c4, p = some ⟨g, o, none⟩ ∧ S g ∧ g < w.heap.size ∧ VAt w S (.agg #[c0, c1, c2, c3, c4]) x ∧ w.cell? ⟨g, o + j * 5, none⟩ = some c0 ∧ w.cell? ⟨g, o + j * 5 + 1, none⟩ = some c1 ∧ w.cell? ⟨g, o + j * 5 + 2, none⟩ = some c2 ∧ w.cell? ⟨g, o + j * 5 + 3, none⟩ = some c3 ∧ w.cell? ⟨g, o + j * 5 + 4, none⟩ = some c4
theorem VAt.parts {w : World} {S : Nat → Prop} {v : Value} {k n : Int} {s : ByteArray} {b : Bool} {l : List V} (h : VAt w S v (.mk k n s b l)) : ∃ p cap, Parts w S v k n s b l p cap := by
  cases h with
  | nil _ _ _ _ h1 h2 h3 => exact ⟨none, 0, rfl, h1, h2, h3, Nat.le_refl _, by omega, fun j x hx => by simp at hx⟩
  | empty _ _ _ _ h1 h2 h3 a cap h4 => exact ⟨some a, cap, rfl, h1, h2, h3, Nat.zero_le _, h4, fun j x hx => by simp at hx⟩
  | list _ _ _ _ h1 h2 h3 g o m cap _ U hm hS hb hle hcap hc ha =>
    subst hm
    refine ⟨some ⟨g, o, none⟩, cap, rfl, h1, h2, h3, hle, hcap, fun j x hx => ?_⟩
    have h := ha j x hx
    have c := hc j x hx
    generalize U j = u at h c
    have hsh : ∃ c0 c1 c2 c3 c4, u = #[c0, c1, c2, c3, c4] := by cases h <;> exact ⟨_, _, _, _, _, rfl⟩
    obtain ⟨c0, c1, c2, c3, c4, rfl⟩ := hsh
    exact ⟨g, o, c0, c1, c2, c3, c4, rfl, hS, hb, h, by simpa using c 0 c0 rfl, by simpa using c 1 c1 rfl, by simpa using c 2 c2 rfl, by simpa using c 3 c3 rfl, by simpa using c 4 c4 rfl⟩
theorem cell_new (w : World) (c : Array Value) (t : TypeId) (j : Nat) : (w.alloc (.cells c t)).cell? ⟨w.heap.size, j, none⟩ = c[j]? := by
  have h := heap_alloc_new w (.cells c t)
  simp only [World.cell?, h, Option.isSome_none, Bool.false_eq_true, if_false]
theorem ld_five (W : World) {b o : Nat} {c0 c1 c2 c3 c4 : Value} (h0 : W.cell? ⟨b, o, none⟩ = some c0) (h1 : W.cell? ⟨b, o + 1, none⟩ = some c1) (h2 : W.cell? ⟨b, o + 2, none⟩ = some c2) (h3 : W.cell? ⟨b, o + 3, none⟩ = some c3) (h4 : W.cell? ⟨b, o + 4, none⟩ = some c4) :
    (Instr.loadAt 24 (.pointer (some ⟨b, o, none⟩))).run Try.prog W = .ok (.agg #[c0, c1, c2, c3, c4]) W := by
  have hl := run_loadCells_list (P := Try.prog) W ⟨b, o, none⟩ [c0, c1, c2, c3, c4] (fun j u hu => by
    rw [hadd]
    match j, hu with
    | 0, hu => simpa using hu ▸ h0
    | 1, hu => simpa using hu ▸ h1
    | 2, hu => simpa using hu ▸ h2
    | 3, hu => simpa using hu ▸ h3
    | 4, hu => simpa using hu ▸ h4
    | j + 5, hu => simp at hu)
  simp only [List.length_cons, List.length_nil, Nat.zero_add, Nat.reduceAdd] at hl
  have ha : (isAgg 24).run Try.prog W = .ok true W := by kernel_rfl
  simp [Instr.loadAt, Instr.sureAddr, loadVar, ha, hl]
end Go.Proofs.Ytncbgonanoihfaa

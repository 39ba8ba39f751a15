/- A region that draws its order and whose operations read, or call what leaves what was there: one walk in the text's order. No condition. -/
import Derived.WalkKit
import Derived.BigQuiet
import Derived.Deep.Quiet
import Derived.Deep.QuietTactic
import Derived.Below
namespace Go.Own
open Go Go.RowKit
/-- All that was there is as it was. -/
def Grew (w W : World) : Prop := Below w.heap.size w W
/-- Such a world. -/
def Gw (w : World) : Type := { W : World // Below w.heap.size w W }
instance gwNonempty (w : World) : Nonempty (Gw w) := ⟨⟨w, Below.refl _ _⟩⟩
@[go_sem ↓] theorem all_grew {w : World} {p : World → Prop} : (∀ W, Grew w W → p W) ↔ ∀ g : Gw w, p g.1 :=
  ⟨fun h g => h g.1 g.2, fun h W hW => h ⟨W, hW⟩⟩
theorem wp_region_grew {P : Program} {id : Nat} {Q : Exit → Act → World → Prop} {a : Act} {w : World} {l : List Oper} (hm : P.follows .mixedOrders = true) (hB : Region.lexB .any l.toArray = true)
    (h : wpQuiet P l.toArray (Grew w) (fun a' => ∀ g : Gw w, Q .normal a' g.1) l a) : (Code.region id l.toArray true).wp P Q a w := by
  refine wp_region_quiet (C := Grew w) hm hB ⟨rfl, rfl, rfl, Nat.le_refl _, fun _ _ => rfl⟩ ?_
  have e : (fun a' => ∀ w', Grew w w' → Q .normal a' w') = fun a' => ∀ g : Gw w, Q .normal a' g.1 := by
    funext a'
    exact propext all_grew
  rw [e]
  exact h
theorem grew_call {P : Program} {f : FuncId} {args : Array Value} {v : Value} {w : World} {g : Gw w} (h : Calls P f args g.1 fun x w' => x = .returned v ∧ Below g.1.heap.size g.1 w') :
    Calls P f args g.1 fun x w' => x = .returned v ∧ Grew w w' :=
  h.mono fun _ _ ⟨hx, hk⟩ => ⟨hx, g.2.trans (hk.mono g.2.size)⟩
theorem grew_same {P : Program} {f : FuncId} {args : Array Value} {v : Value} {w : World} {g : Gw w} (h : Calls P f args g.1 fun x w' => x = .returned v ∧ g.1 = w') :
    Calls P f args g.1 fun x w' => x = .returned v ∧ Grew w w' :=
  h.mono fun _ _ ⟨hx, hk⟩ => ⟨hx, hk ▸ g.2⟩
end Go.Own

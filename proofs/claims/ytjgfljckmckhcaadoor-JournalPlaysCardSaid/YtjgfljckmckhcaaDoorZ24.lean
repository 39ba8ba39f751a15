/- Operations run by themselves, out of their operands' values, at this program. No condition. | What a range over a function wants: what holds of a region outside of a round holds inside; marks. No condition. | The sectors of a text, from the last one to the first, as the iterator hands them out: its contract. No condition but the size. -/
import Derived.Test.YtjgfljckmckhcaaDoorZ23
import Derived.RangeFuncNested
import Derived.RangeFuncBound
import Derived.RangeFuncCalls
import Derived.RangeFuncLeaves
import Derived.RangeFuncFrom
import Derived.Shelf.Abstract
import Derived.Shelf.RegionOpen
import Derived.OrdersIn
import Derived.TacticsIn
import Derived.OwnWalkIn
import Derived.TacticsInMore
import Derived.LoopNIn
import Derived.LoopIn
import Derived.Test.YtjgfljckmckhcaaDoorZ20
namespace Go.Proofs.YtjgfljckmckhcaaDoor
open Go Go.RowKit Go.Own
attribute [-go_sem] Sm.execOp_bs run_string_add_if
attribute [local go_sem] agj88 szj88 csj88 agj38 isaj38 agj9 isaj9 csj9 szj9 agj32 isaj32 csj32 szj32 agj78 isaj78 csj78 szj78 agj61 csj61 szj61 agj25 isaj25 csj25 szj25
section
variable {ρ : Operand → Value} {W : World} {dst : Option Tmp} {ty : TypeId} {pos : String} {after : Array Edge} {guard : Option (Nat × Bool)} {x y z : Operand}
theorem exec_add {a b c : Int} (h1 : ρ x = .int .i64 a) (h2 : ρ y = .int .i64 b) (hc : a + b = c) (h : -9223372036854775808 ≤ c ∧ c ≤ 9223372036854775807) : (execOp ρ { dst, op := .binOp .add 3 x y 3, type := ty, pos, after, guard }).run Tryd.prog W = .ok (.value (.int .i64 c)) W := by
  subst hc
  have hw := IntWalk.i64_in (a + b) h
  simp [execOp, h1, h2, go_sem, hw]
theorem exec_cut {s : ByteArray} {a b : Nat} (h1 : ρ x = .string s) (h2 : ρ y = .int .i64 (a : Int)) (h3 : ρ z = .int .i64 (b : Int)) (hab : a ≤ b) (hb : b ≤ s.size) : (execOp ρ { dst, op := .slice 9 x (some y) (some z) none, type := ty, pos, after, guard }).run Tryd.prog W = .ok (.value (.string (s.extract a b))) W := by
  have e1 : (a : Int) ≤ (b : Int) := by omega
  have e2 : (b : Int) ≤ (s.size : Int) := by omega
  simp [execOp, h1, h2, h3, go_sem, hab, hb]
theorem exec_head {s : ByteArray} {b : Nat} (h1 : ρ x = .string s) (h3 : ρ z = .int .i64 (b : Int)) (hb : b ≤ s.size) : (execOp ρ { dst, op := .slice 9 x none (some z) none, type := ty, pos, after, guard }).run Tryd.prog W = .ok (.value (.string (s.extract 0 b))) W := by
  have e2 : (b : Int) ≤ (s.size : Int) := by omega
  simp [execOp, h1, h3, go_sem, hb]
theorem exec_not {b : Bool} (h1 : ρ x = .bool b) : (execOp ρ { dst, op := .unOp .not 4 x, type := ty, pos, after, guard }).run Tryd.prog W = .ok (.value (.bool (!b))) W := by
  simp [execOp, h1, go_sem]
theorem exec_len {s : ByteArray} {t : TypeId} (h1 : ρ x = .string s) : (execOp ρ { dst, op := .call { callee := .builtin .len, args := #[x], argTypes := #[9] }, type := t, pos, after, guard }).run Tryd.prog W = .ok (.value (.int .i64 (s.size : Int))) W := by
  simp [h1, go_sem]
theorem exec_field {T k off : Nat} {b o : Nat} (h1 : ρ x = .pointer (some ⟨b, o, none⟩)) (hr : (Instr.fieldAt T (.pointer (some ⟨b, o, none⟩)) k).run Tryd.prog W = .ok (.pointer (some ⟨b, o + off, none⟩)) W) : (execOp ρ { dst, op := .fieldAddr T x k, type := ty, pos, after, guard }).run Tryd.prog W = .ok (.value (.pointer (some ⟨b, o + off, none⟩))) W := by
  simp [execOp, h1, hr, Result.andThen]
theorem exec_load {T : TypeId} {v r : Value} (h1 : ρ x = v) (hr : (Instr.loadAt T v).run Tryd.prog W = .ok r W) : (execOp ρ { dst, op := .load T x, type := ty, pos, after, guard }).run Tryd.prog W = .ok (.value r) W := by
  have e : execOp ρ { dst, op := .load T x, type := ty, pos, after, guard } = (Instr.loadAt T (ρ x) >>= fun v => pure (.value v)) := rfl
  rw [e, h1]
  simp [hr, Result.andThen]
set_option maxRecDepth 100000 in
/-- A literal row of one value: its block is the last one. -/
theorem lays_bs {i : Nat} {ps : List (Value → World → Prop)} {a : Act} {T E : TypeId} {v : Value} (hb : ∀ (w : World) (l : List Obj) (d : Nat), (bsN T 1 #[(0, v)]).run Tryd.prog (Wd w l d) = .ok (.slice (some ⟨w.heap.size + l.length, 0, none⟩) 1 1) (Wd w (l ++ [.cells #[v] E (0, 0)]) d))
    (h1 : a.eval x = v) (hT : ∀ u W, lit1 v E u W → TL ps i u W) : Lays Tryd.prog (TL ps) i { dst, op := .buildSlice T 1 #[(0, x)], type := ty, pos, after, guard } a W := by
  have hr := hb W [] W.drawn
  rw [Wd_nil, List.nil_append, List.length_nil, Nat.add_zero] at hr
  unfold bsN at hr
  have hB := below_alloc W (.cells #[v] E (0, 0)) W.drawn
  have hL : lit1 v E (.slice (some ⟨W.heap.size, 0, none⟩) 1 1) (Wd W [.cells #[v] E (0, 0)] W.drawn) := ⟨W.heap.size, rfl, by rw [blk_at0]; rfl⟩
  have he : (execOp a.eval { dst, op := .buildSlice T 1 #[(0, x)], type := ty, pos, after, guard }).run Tryd.prog W = .ok (.value (.slice (some ⟨W.heap.size, 0, none⟩) 1 1)) (Wd W [.cells #[v] E (0, 0)] W.drawn) := by
    unfold execOp
    simp only [List.map_toArray, List.map_cons, List.map_nil, h1, Sem.run_bind, hr, Result.andThen_ok]
    rfl
  exact lays_value he hB (hT _ _ hL)
end
theorem eval_tmp (a : Act) (s : Nat) : a.eval (.tmp s) = a.tmps.getD s undef := rfl
end Go.Proofs.YtjgfljckmckhcaaDoor
namespace Go.Proofs.YtjgfljckmckhcaaDoor
open Go Go.RowKit Go.Own
/-- A literal row of one value, not below a place. -/
def litB (B : Nat) (x : Value) (t : TypeId) : Value → World → Prop := fun v W => ∃ b, B ≤ b ∧ v = .slice (some ⟨b, 0, none⟩) 1 1 ∧ blk W b = some (.cells #[x] t (0, 0))
theorem litB_last (B : Nat) (x : Value) (t : TypeId) : Lasts (litB B x t) := fun _ _ _ ⟨b, h0, h1, h2⟩ hB => ⟨b, h0, h1, blk_below hB h2⟩
set_option maxRecDepth 100000 in
theorem lays_bsB {dst : Option Tmp} {ty : TypeId} {pos : String} {after : Array Edge} {guard : Option (Nat × Bool)} {x : Operand} {W : World} {i : Nat} {ps : List (Value → World → Prop)} {a : Act} {T E : TypeId} {v : Value} {B : Nat} (hB : B ≤ W.heap.size) (hb : ∀ (w : World) (l : List Obj) (d : Nat), (bsN T 1 #[(0, v)]).run Tryd.prog (Wd w l d) = .ok (.slice (some ⟨w.heap.size + l.length, 0, none⟩) 1 1) (Wd w (l ++ [.cells #[v] E (0, 0)]) d))
    (h1 : a.eval x = v) (hT : ∀ u W, litB B v E u W → TL ps i u W) : Lays Tryd.prog (TL ps) i { dst, op := .buildSlice T 1 #[(0, x)], type := ty, pos, after, guard } a W := by
  have hr := hb W [] W.drawn
  rw [Wd_nil, List.nil_append, List.length_nil, Nat.add_zero] at hr
  unfold bsN at hr
  have hB2 := below_alloc W (.cells #[v] E (0, 0)) W.drawn
  have hL : litB B v E (.slice (some ⟨W.heap.size, 0, none⟩) 1 1) (Wd W [.cells #[v] E (0, 0)] W.drawn) := ⟨W.heap.size, hB, rfl, by rw [blk_at0]; rfl⟩
  have he : (execOp a.eval { dst, op := .buildSlice T 1 #[(0, x)], type := ty, pos, after, guard }).run Tryd.prog W = .ok (.value (.slice (some ⟨W.heap.size, 0, none⟩) 1 1)) (Wd W [.cells #[v] E (0, 0)] W.drawn) := by
    unfold execOp
    simp only [List.map_toArray, List.map_cons, List.map_nil, h1, Sem.run_bind, hr, Result.andThen_ok]
    rfl
  exact lays_value he hB2 (hT _ _ hL)
/-- A slice lies not behind the blocks that it was made among. -/
theorem _root_.Go.Own.RowV.beyond {A : Nat → Prop} {w : World} {l : List Obj} {sz n : Nat} {v : Value} {C : List Value} (h : RowV A w l sz n v C) {p : Nat} (hp : l.length ≤ p) : NotAt w v p := by
  rcases h with ⟨rfl, _⟩ | ⟨i, c, X, t, _, rfl, hi, _⟩
  · intro n c e; simp at e
  · intro n' c' e
    simp at e
    have := (List.getElem?_eq_some_iff.1 hi).1
    omega
end Go.Proofs.YtjgfljckmckhcaaDoor
namespace Go.Own
open Go Go.RowKit
/-! ### Inside of a round -/
/-- The wide fence, in the round of the loop l. -/
def rnd (l : Nat) : Fence := Fence.wide.inRound l
section
variable {P : Program} {ops : Array Oper} {Q : Exit → Act → World → Prop} {l n : Nat}
theorem calls_rnd {f : FuncId} {args : Array Value} {w : World} {R : Ending → World → Prop} (h : Calls P f args w R) : CallsIn (rnd l) n P f args w R :=
  CallsIn.inRound l (callsIn_wide.2 h)
theorem rows_rnd {row : String} {args : Array Value} {w : World} {R : Value → World → Prop} (h : Rows P row args w R) : RowsIn (rnd l) n P row args w R :=
  fun c cs _ => let ⟨v, w', r, s⟩ := h c cs; ⟨v, w', r, stepsIn_wide.2 s⟩
theorem operIn_rnd {o : Oper} {a : Act} {w : World} {K K' : Act → World → Prop} (hd : ∀ c, o.op ≠ .defer c) (hK : ∀ a w, K a w → K' a w) (h : o.wp P a w K Q) : o.wpIn (rnd l) n P a w K' Q := by
  refine ⟨fun _ _ => trivial, ?_⟩
  rw [Oper.semAt_eq _ _ _ hd]
  unfold Oper.wp at h
  generalize (execOp a.eval o).run P w = r at h
  cases r with
  | ok x w' =>
    cases x with
    | value v => exact hK _ _ h
    | skip => exact hK _ _ h
    | defer d => exact hK _ _ h
    | enter f args =>
      refine ⟨fun h0 => (by cases h0), calls_rnd (Calls.mono h ?_)⟩
      intro e w2 he
      cases e with
      | returned v => exact hK _ _ he
      | panicked c => exact he
      | outgrown => exact he
    | row r args =>
      refine ⟨fun h0 => (by cases h0), rows_rnd (Rows.mono h ?_)⟩
      intro v w2 he
      exact hK _ _ he
    | _ => exact h.elim
  | halt h' w' => cases h' <;> first | exact h | exact h.elim
theorem wpOpIn_rnd {i : Nat} {a : Act} {w : World} {K K' : Act → World → Prop} (hL : ¬ LetsOut Q) (hd : ∀ o : Oper, ops[i]? = some o → ∀ c, o.op ≠ .defer c) (hK : ∀ a w, K a w → K' a w) (h : wpOp P ops Q i K a w) :
    wpOpIn (rnd l) n P ops Q i K' a w := by
  unfold wpOp at h
  unfold wpOpIn
  cases ho : ops[i]? with
  | none => rw [ho] at h; exact hK _ _ h
  | some o =>
    rw [ho] at h
    simp only at h ⊢
    split
    · rename_i hw
      rw [if_pos hw] at h
      rcases h with h | h
      · exact operIn_rnd (hd o ho) hK h
      · exact absurd h.2 hL
    · rename_i hw
      rw [if_neg hw] at h
      exact ⟨fun _ _ => trivial, hK _ _ h⟩
theorem wpAnyIn_rnd (hL : ¬ LetsOut Q) (hd : ∀ (i : Nat) (o : Oper), ops[i]? = some o → ∀ c, o.op ≠ .defer c) {md : Region.Mode} : ∀ (fuel : Nat) (done : Array Bool) (a : Act) (w : World), wpAny P md ops Q fuel done a w → wpAnyIn (rnd l) n P md ops Q fuel done a w
  | 0, _, _, _, h => h
  | fuel + 1, _, _, _, h => ⟨h.1, fun i hi => wpOpIn_rnd hL (hd i) (fun _ _ h => wpAnyIn_rnd hL hd fuel _ _ _ h) (h.2 i hi)⟩
theorem wpListIn_rnd (hL : ¬ LetsOut Q) : ∀ (L : List Oper) (a : Act) (w : World), (∀ o ∈ L, ∀ c, o.op ≠ .defer c) → wpList P ops Q L a w → wpListIn (rnd l) n P ops Q L a w
  | [], _, _, _, h => h
  | o :: rest, a, w, hd, h => by
    unfold wpList at h
    unfold wpListIn
    split
    · rename_i hw
      rw [if_pos hw] at h
      rcases h with h | h
      · exact operIn_rnd (hd o List.mem_cons_self) (fun _ _ h => wpListIn_rnd hL rest _ _ (fun o ho => hd o (List.mem_cons_of_mem _ ho)) h) h
      · exact absurd h.2 hL
    · rename_i hw
      rw [if_neg hw] at h
      exact ⟨fun _ _ => trivial, wpListIn_rnd hL rest _ _ (fun o ho => hd o (List.mem_cons_of_mem _ ho)) h⟩
/-- No deferred call among them. -/
def noDefer (ops : Array Oper) : Bool := ops.all fun o => match o.op with | .defer _ => false | _ => true
theorem noDefer_at (h : noDefer ops = true) : ∀ (i : Nat) (o : Oper), ops[i]? = some o → ∀ c, o.op ≠ .defer c := by
  intro i o ho c hc
  unfold noDefer at h
  have := Array.all_eq_true_iff_forall_mem.1 h o (Array.mem_of_getElem? ho)
  rw [hc] at this
  cases this
/-- A region that draws, inside of a round. -/
theorem region_rnd {id : Nat} {a : Act} {w : World} (hm : P.follows .mixedOrders = true) (hn : noDefer ops = true) (hL : ¬ LetsOut Q)
    (h : wpAny P .any ops Q ops.size (Array.replicate ops.size false) a { w with drawn := w.drawn + 1 }) : (Code.region id ops true).wpIn (rnd l) n P Q a w :=
  wpIn_region_any hm (wpAnyIn_rnd hL (noDefer_at hn) _ _ _ _ h)
theorem region_rnd_lit {id : Nat} {L : List Oper} {a : Act} {w : World} (hn : noDefer L.toArray = true) (hL : ¬ LetsOut Q)
    (h : wpList P L.toArray Q L a w) : (Code.region id L.toArray false).wpIn (rnd l) n P Q a w :=
  wpIn_region_lit (wpListIn_rnd hL _ _ _ (fun o ho => by
    obtain ⟨i, hi⟩ := List.mem_iff_getElem?.1 ho
    exact noDefer_at hn i o (by simpa using hi)) h)
end
theorem keeps_set {w : World} {l g : List Obj} {d e i : Nat} {X : Obj} (h : ∀ o, l[i]? = some o → o.isCells = true) : KeepsOthers (Wd w l d) (Wd w (l.set i X ++ g) e) := by
  refine ⟨by simp [Wd], fun k o hk ho => ?_⟩
  simp only [Wd, Array.getElem?_append, List.getElem?_toArray] at hk ⊢
  by_cases h1 : k < w.heap.size
  · rw [if_pos h1] at hk ⊢; exact hk
  · rw [if_neg h1] at hk ⊢
    have h2 := (List.getElem?_eq_some_iff.1 hk).1
    have h3 : i ≠ k - w.heap.size := fun e => by
      rw [← e] at hk
      rw [h o hk] at ho
      cases ho
    rw [List.getElem?_append_left (by rw [List.length_set]; exact h2), List.getElem?_set_ne h3, hk]

/-! ### The marks that the loops leave -/
def marks (w : World) (js : List Nat) : List Deferred := js.map fun j => { target := .collected (w.heap.size + j), args := #[] }
theorem Wd_putObj (w : World) (l : List Obj) (d j : Nat) (o : Obj) : (Wd w l d).putObj (w.heap.size + j) o = Wd w (l.set j o) d := by
  unfold World.putObj Wd
  simp only [World.mk.injEq, and_true]
  apply Array.ext'
  simp only [Array.toList_setIfInBounds, Array.toList_append]
  rw [List.set_append_right _ _ (by simp)]
  simp
theorem leaves_marks {F : Fence} {n : Nat} {P : Program} {fn : Func} {tmps : Array Value} {R : Ending → World → Prop} (w : World) (d : Nat) : ∀ (js : List Nat) (l : List Obj), (∀ j ∈ js, l[j]? = some (.deferred (some []))) → js.Nodup →
    (∀ l', (∀ i, i ∉ js → l'[i]? = l[i]?) → ∃ v, (results fn tmps).run P (Wd w l' d) = .ok v (Wd w l' d) ∧ R (.returned v) (Wd w l' d)) → LeavesInM F n P fn tmps R (marks w js) .returning (Wd w l d)
  | [], l, _, _, h => h l fun _ _ => rfl
  | j :: js, l, hj, hn, h => by
    have hb : (Wd w l d).heap[w.heap.size + j]? = some (.deferred (some [])) := by rw [Wd_at]; exact hj j List.mem_cons_self
    refine ⟨by simp, .inl ⟨_, _, rfl, run_takeDeferred hb, ?_⟩⟩
    rw [Wd_putObj]
    have hn' := List.nodup_cons.1 hn
    refine leaves_marks w d js _ (fun i hi => ?_) hn'.2 (fun l' hl' => h l' fun i hi => ?_)
    · have : j ≠ i := fun e => hn'.1 (e ▸ hi)
      rw [List.getElem?_set_ne this]; exact hj i (List.mem_cons_of_mem _ hi)
    · rw [hl' i (fun e => hi (List.mem_cons_of_mem _ e)), List.getElem?_set_ne (fun e : j = i => hi (by rw [← e]; exact List.mem_cons_self))]


/-- The block b lies as it lay. -/
def KeepsB (b : Nat) (A B : World) : Prop := ∀ o, blk A b = some o → blk B b = some o
/-- What has grown is w with other blocks behind it. -/
theorem grown_wd {w W' : World} {L : List Obj} {d : Nat} {row : Option Nat} (hg : (Wd w L d).grownBy W' row) (hr : ∀ r, row = some r → w.heap.size ≤ r) :
    ∃ L' d', W' = Wd w L' d' ∧ L.length ≤ L'.length ∧ ∀ p, p < L.length → row ≠ some (w.heap.size + p) → L'[p]? = L[p]? := by
  have hB : Below (w.heap.size + ([] : List Obj).length) (Wd w ([] ++ L) d) W' := by
    refine ⟨hg.os, hg.tape, hg.output, hg.size, fun k hk => hg.block k (by simp [Wd] at hk ⊢; omega) (fun e => ?_)⟩
    have := hr k e.symm; simp at hk; omega
  obtain ⟨L', d', rfl⟩ := Go.Proofs.YtjgfljckmckhcaaDoor.below_wd hB
  refine ⟨L', d', rfl, ?_, fun p hp hne => ?_⟩
  · have := hg.size; simp [Wd] at this; omega
  · have h1 := hg.block (w.heap.size + p) (by simp [Wd]; omega) (fun e => hne e.symm)
    rw [Wd_at, Wd_at] at h1
    exact h1
end Go.Own
namespace Go.Proofs.YtjgfljckmckhcaaDoor
open Go Go.RowKit Go.Own Go.Shelf
/-- A sector's place and what lies on it. -/
abbrev Ck := { x : Nat × ByteArray // x.1 ≤ 100000 ∧ x.2.size ≤ 64 }
/-- The sector of number n - 1 - k. -/
def ckB (y : ByteArray) (n k : Nat) : Ck := ⟨(min (n - 1 - k) 100000, y.extract ((n - 1 - k) * 64) (min ((n - 1 - k) * 64 + 64) y.size)), by omega, by rw [ByteArray.size_extract]; omega⟩
def cksB (y : ByteArray) (n k : Nat) : List Ck := (List.range k).map (ckB y n)
theorem cksB_succ (y : ByteArray) (n k : Nat) : cksB y n (k + 1) = cksB y n k ++ [ckB y n k] := by simp [cksB, List.range_succ]
theorem cksB_length (y : ByteArray) (n k : Nat) : (cksB y n k).length = k := by simp [cksB]
def encC (x : Ck) : Array Value := #[.int .i64 ((x.1.1 : Nat) : Int), .string x.1.2]
attribute [-go_sem] Sm.execOp_bs run_string_add_if
attribute [local go_sem] Oper.semAt_some
attribute [local go_sem] isaj9 agj9
set_option maxRecDepth 100000 in
set_option maxHeartbeats 1000000 in
theorem chunks_stops (y : ByteArray) (hy : y.size ≤ 1000000) (h1 : 1 ≤ y.size) (b n : Nat) (w : World) (hb : blk w b = some (.cells #[.string y] 9 (0, 0))) :
    SeqStopsK Fence.wide n Tryd.prog 60 #[.pointer (some ⟨b, 0, none⟩)] encC (KeepsB b) (fun xs => xs = cksB y ((y.size + 63) / 64) ((y.size + 63) / 64)) (fun _ => True) ((y.size + 63) / 64) w := by
  intro l J Jx W hW hJ hJx hY h0
  have hbW : blk W b = some (.cells #[.string y] 9 (0, 0)) := by
    have hbl : b < w.heap.size := by
      unfold blk at hb
      rcases Nat.lt_or_ge b w.heap.size with h' | h'
      · exact h'
      · simp [Array.getElem?_eq_none h'] at hb
    unfold blk at hb ⊢
    rw [hW.block b hbl]; exact hb
  have HBW := Lib.hid hbW
  obtain ⟨N, hN⟩ : ∃ N, (y.size + 63) / 64 = N := ⟨_, rfl⟩
  rw [hN] at hY ⊢
  have HY := Lib.hid hY
  have H0 := Lib.hid h0
  have HN : Hid (64 * N < y.size + 64 ∧ y.size ≤ 64 * N) := Lib.hid (by omega)
  have hN0 : ((y.size : Int) - 1) / 64 = (N : Int) - 1 := by omega
  have hNb : N ≤ 20000 := by omega
  have hN1 : 1 ≤ N := by omega
  have hyb : (1 : Int) ≤ (y.size : Int) := by omega
  have HN0 := Lib.hid hN0
  clear hY h0 hbW hb hW hJ hJx hN hN0
  refine callsIn_of_wp Tryd.func60 rfl trivial ?_ rfl
  simp only [Tryd.ntmps60, List.size_toArray, List.length_cons, List.length_nil, Nat.reduceAdd, Nat.reduceSub, Array.replicate_succ, Array.replicate_zero, List.push_toArray, List.append_toArray, List.nil_append, List.cons_append]
  have hb0 := HBW.out
  gi_wp2
  gi_loopw [3, 4] (fun e i wr => ∃ k : Nat, k ≤ N ∧ e = .int .i64 ((min ((N - k) * 64) y.size : Nat) : Int) ∧ i = .int .i64 ((N : Int) - 1 - (k : Int)) ∧ Hid (blk wr b = some (.cells #[.string y] 9 (0, 0))) ∧ Hid (J (cksB y N k) wr)) (fun _ i _ => (intOf i + 1).toNat)
  case atStart => exact ⟨0, by omega, by have := HN.out; congr 1; omega, by have := HN0.out; congr 1; omega, HBW, H0⟩
  case round =>
    obtain ⟨k, hk, rfl, rfl, hB, hJ⟩ := hrel
    have hb' := hB.out
    clear hb0
    by_cases hlt : k < N
    · obtain ⟨c, hc⟩ : ∃ c, N - 1 - k = c := ⟨_, rfl⟩
      have hci : (N : Int) - 1 - (k : Int) = (c : Int) := by omega
      obtain ⟨p, hp⟩ : ∃ p, c * 64 = p := ⟨_, rfl⟩
      have hpi : (c : Int) * 64 = (p : Int) := by omega
      obtain ⟨e, he⟩ : ∃ e, min ((N - k) * 64) y.size = e := ⟨_, rfl⟩
      rw [he, hci]
      have hpe : p ≤ e := by have := HN.out; omega
      have hpei : (p : Int) ≤ (e : Int) := by omega
      have hey : e ≤ y.size := by omega
      have heyi : (e : Int) ≤ (y.size : Int) := by omega
      have hcb : c ≤ 20000 := by omega
      have hpb : p ≤ 2000000 := by omega
      have heb : e ≤ 1000000 := by omega
      have hc0 : (0 : Int) ≤ (c : Int) := by omega
      obtain ⟨fn, tmps, assign, body, hy, hR⟩ := HY.out (cksB y N k) (ckB y N k) wr hJ.out (by rw [cksB_length]; exact hlt)
      have e1 : (ckB y N k).1.1 = c := by show min (N - 1 - k) 100000 = c; omega
      have e2 : (ckB y N k).1.2 = y.extract p e := by
        show y.extract ((N - 1 - k) * 64) (min ((N - 1 - k) * 64 + 64) y.size) = _
        congr 1
        · rw [hc]; exact hp
        · omega
      have HE := Lib.hid he
      have HC := Lib.hid hc
      have HP := Lib.hid hp
      unfold encC at hy
      rw [e1, e2] at hy
      clear e1 e2 he hc hp hJ
      gi_wp2
      refine ⟨fun h0 => (by cases h0), hR.mono ?_⟩
      rintro e' W' (⟨rfl, hJ', hk'⟩ | ⟨rfl, hJx'⟩)
      · rw [← cksB_succ] at hJ'
        have HJ' := Lib.hid hJ'
        have HB' := Lib.hid (hk' _ hb')
        clear hJ' hk'
        gi_wp2
        go_roundw
        case rel => exact ⟨k + 1, hlt, by have := HC.out; have := HP.out; congr 1; omega, by have := HC.out; congr 1; omega, HB', HJ'⟩
        case measure => simp [intOf]
      · gi_wp2
        refine bodyPost_ret (results_none rfl _ _ _) rfl ?_
        exact ⟨⟨_, rfl⟩, .inr ⟨_, trivial, hJx'⟩⟩
    · obtain rfl : k = N := by omega
      have hneg : (k : Int) - 1 - (k : Int) = -1 := by omega
      rw [hneg]
      gi_wp2
      go_end0
      exact ⟨⟨_, rfl⟩, .inl ⟨_, rfl, hJ.out⟩⟩
end Go.Proofs.YtjgfljckmckhcaaDoor

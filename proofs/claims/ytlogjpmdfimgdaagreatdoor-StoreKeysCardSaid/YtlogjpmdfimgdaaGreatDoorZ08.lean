/- The same region law with the frame behind a variable (the guide's own steps of 'go_quiet'): for great frames. No condition. | A region that draws its order and whose first operation is awaited by its last sum alone (a move): taken first by the guide's law 'wpAny_take'; then as in Reg. | Words of 64 bits as natural numbers: the operations, by name, as the walk meets them. No condition. | A disk's own block, and a write's: the laws to read and write them. No condition. -/
import Derived.Test.YtlogjpmdfimgdaaGreatDoorZ05
import Derived.BigQuiet
import Derived.Test.YtlogjpmdfimgdaaGreatDoorZ02
import Derived.Test.YtlogjpmdfimgdaaGreatDoorZ04
import Derived.Test.YtlogjpmdfimgdaaGreatDoorRows
import Derived.Deep.QuietTactic
import Derived.StillTailTactics
namespace Go.Own.Jf
open Go Go.RowKit

/-- w, its own blocks l, and more. -/
def More (w : World) (l : List Obj) (W : World) : Prop := ∃ g e, W = Wd w (l ++ g) e
@[go_sem ↓] theorem all_more {w : World} {l : List Obj} {p : World → Prop} : (∀ W, More w l W → p W) ↔ ∀ (g : List Obj) (e : Nat), p (Wd w (l ++ g) e) :=
  ⟨fun h g e => h _ ⟨g, e, rfl⟩, fun h _ ⟨g, e, hW⟩ => hW ▸ h g e⟩
theorem wp_region_big {P : Program} {id : Nat} {Q : Exit → Act → World → Prop} {a : Act} {w : World} {l0 : List Obj} {d : Nat} {l : List Oper} (n : Nat) (hm : P.follows .mixedOrders = true) (hB : Region.lexTailB .any l.toArray n = true)
    (h : wpQuiet P l.toArray (More w l0) (fun a' => ∀ g e, wpList P l.toArray Q (l.drop n) a' (Wd w (l0 ++ g) e)) (l.take n) a) : (Code.region id l.toArray true).wp P Q a (Wd w l0 d) := by
  refine wp_region_class_tail (C := More w l0) n hm hB ⟨[], d + 1, by rw [List.append_nil]; rfl⟩ ?_
  have e : (fun a' => ∀ w', More w l0 w' → wpList P l.toArray Q (l.drop n) a' w') = fun a' => ∀ g e, wpList P l.toArray Q (l.drop n) a' (Wd w (l0 ++ g) e) := by
    funext a'
    exact propext all_more
  rw [e]
  exact h
theorem big_call {P : Program} {f : FuncId} {args : Array Value} {v : Value} {w : World} {l0 : List Obj} {L : List Obj → List Obj} {g : List Obj} {e : Nat} (hL : ∀ g m, L g ++ m = L (g ++ m)) (h0 : ∀ g, L g = l0 ++ g)
    (h : Calls P f args (Wd w (L g) e) fun x w' => x = .returned v ∧ Grows (Wd w (L g) e) w') :
    Calls P f args (Wd w (L g) e) fun x w' => x = .returned v ∧ More w l0 w' :=
  h.mono fun _ _ ⟨hx, m, k, hk⟩ => ⟨hx, g ++ m, k, by rw [hk, Wd_wd, hL, h0]⟩
/-- w and its own blocks l, whatever was drawn. -/
def Drew (w : World) (l : List Obj) (W : World) : Prop := ∃ e, W = Wd w l e
@[go_sem ↓] theorem all_drew {w : World} {l : List Obj} {p : World → Prop} : (∀ W, Drew w l W → p W) ↔ ∀ e : Nat, p (Wd w l e) :=
  ⟨fun h e => h _ ⟨e, rfl⟩, fun h _ ⟨e, hW⟩ => hW ▸ h e⟩
theorem wp_region_drew {P : Program} {id : Nat} {Q : Exit → Act → World → Prop} {a : Act} {w : World} {l0 : List Obj} {d : Nat} {l : List Oper} (n : Nat) (hm : P.follows .mixedOrders = true) (hB : Region.lexTailB .any l.toArray n = true)
    (h : wpQuiet P l.toArray (Drew w l0) (fun a' => ∀ e, wpList P l.toArray Q (l.drop n) a' (Wd w l0 e)) (l.take n) a) : (Code.region id l.toArray true).wp P Q a (Wd w l0 d) := by
  refine wp_region_class_tail (C := Drew w l0) n hm hB ⟨d + 1, rfl⟩ ?_
  have e : (fun a' => ∀ w', Drew w l0 w' → wpList P l.toArray Q (l.drop n) a' w') = fun a' => ∀ e, wpList P l.toArray Q (l.drop n) a' (Wd w l0 e) := by
    funext a'
    exact propext all_drew
  rw [e]
  exact h
theorem wp_region_drew_all {P : Program} {id : Nat} {Q : Exit → Act → World → Prop} {a : Act} {w : World} {l0 : List Obj} {d : Nat} {l : List Oper} (hm : P.follows .mixedOrders = true) (hB : Region.lexB .any l.toArray = true)
    (h : wpQuiet P l.toArray (Drew w l0) (fun a' => ∀ e, Q .normal a' (Wd w l0 e)) l a) : (Code.region id l.toArray true).wp P Q a (Wd w l0 d) := by
  refine wp_region_quiet (C := Drew w l0) hm hB ⟨d + 1, rfl⟩ ?_
  have e : (fun a' => ∀ w', Drew w l0 w' → Q .normal a' w') = fun a' => ∀ e, Q .normal a' (Wd w l0 e) := by
    funext a'
    exact propext all_drew
  rw [e]
  exact h
theorem drew_same {P : Program} {f : FuncId} {args : Array Value} {v : Value} {w : World} {l : List Obj} {e : Nat} (h : Calls P f args (Wd w l e) fun x w' => x = .returned v ∧ w' = Wd w l e) :
    Calls P f args (Wd w l e) fun x w' => x = .returned v ∧ Drew w l w' :=
  h.mono fun _ _ ⟨hx, hk⟩ => ⟨hx, e, hk⟩
end Go.Own.Jf
namespace Go.Own.Jf
open Go Go.RowKit

section
variable {P : Program} {ops : Array Oper} {md : Region.Mode} {C : World → Prop}

/-- As the guide's 'sinkB', but for operation 0. -/
def sink0 (md : Region.Mode) (ops : Array Oper) (n : Nat) : Bool :=
  (List.range n).all fun i => i == 0 || (List.range (n + 1)).any fun j => decide (i < j) && Region.waitsFor md ops j i

theorem waits0 {n : Nat} {done : Array Bool} (hs : sink0 md ops n = true) (hc : Region.chainB md ops n = true) (hn : n < ops.size) (inv : HeadInv md ops n done) (h0 : done.getD 0 true = true) :
    ∀ (d i : Nat), n - i = d → i < n → done.getD i true = false → ∀ t, n ≤ t → t ∉ Region.ready md ops done := by
  intro d
  induction d using Nat.strongRecOn with
  | _ d ih =>
    intro i hd hi hun t ht hr
    obtain ⟨_, ot, hot, hall⟩ := mem_ready.1 hr
    have htlt : t < ops.size := (Array.getElem?_eq_some_iff.1 hot).1
    by_cases htn : t = n
    · subst htn
      have h1 := List.all_eq_true.1 hs i (List.mem_range.2 hi)
      simp only [Bool.or_eq_true, beq_iff_eq] at h1
      rcases h1 with h1 | h1
      · subst h1; rw [h0] at hun; cases hun
      obtain ⟨j, hj, hj2⟩ := List.any_eq_true.1 h1
      simp only [Bool.and_eq_true, decide_eq_true_eq] at hj2
      obtain ⟨oj, hoj, e, he, hb, hon⟩ := Region.waitsFor_spec hj2.2
      have hjle : j ≤ t := by have := List.mem_range.1 hj; omega
      by_cases hjt : j = t
      · subst hjt
        have : oj = ot := Option.some.inj (hoj.symm.trans hot)
        subst this
        have h2 := hall e he hb
        rw [hon, getD_both hun] at h2
        cases h2
      · cases hl : done.getD j false with
        | true =>
          have h2 := inv.closed j oj hoj hl e he hb
          rw [hon, getD_both hun] at h2
          cases h2
        | false =>
          have hjs : j < done.size := by rw [inv.size]; omega
          exact ih (t - j) (by omega) j rfl (by omega) (getD_in hjs hl) t (Nat.le_refl _) hr
    · have h1 := List.all_eq_true.1 hc t (List.mem_range.2 htlt)
      simp only [Bool.or_eq_true, decide_eq_true_eq] at h1
      rcases h1 with h1 | h1
      · omega
      · obtain ⟨o', ho', e, he, hb, hon⟩ := Region.waitsFor_spec h1
        have : o' = ot := Option.some.inj (ho'.symm.trans hot)
        subst this
        have h2 := hall e he hb
        rw [hon, getD_both (inv.tail (t - 1) (by omega) (by omega))] at h2
        cases h2

theorem getD_true_set {i j : Nat} {done : Array Bool} (h : done.getD j true = true) : (done.setIfInBounds i true).getD j true = true := by
  by_cases hij : i = j
  · subst hij
    rcases Nat.lt_or_ge i done.size with h' | h'
    · simp [h']
    · simp
  · rw [getD_set_ne true hij]; exact h

theorem HeadQ.first0 {n i : Nat} {oi : Oper} {v : Value} {L : Array Bool → Act → Prop} (hi : ops[i]? = some oi) (hsel : ∀ (j : Nat) (o : Oper) cs b, ops[j]? = some o → o.op ≠ .select cs b)
    (hs : sink0 md ops n = true) (hc : Region.chainB md ops n = true) (hn : n < ops.size) (hin : i < n)
    (hdone : ∀ done a, L done a → ∀ j ∈ Region.ready md ops done, n ≤ j) :
    ∀ (f : Nat) (done : Array Bool) (a : Act), HeadInv md ops n done → done.getD 0 true = true →
      (∀ j oj, ops[j]? = some oj → j ≠ i → done.getD j true = false → (∀ e ∈ oj.after, Region.binds md e = true → e.on ≠ i) → oi.apart ops oj = true) →
      i ∈ Region.ready md ops done → YieldsIn P ops C oi v a →
      HeadQ P md ops C n L f (done.setIfInBounds i true) (a.put oi.dst v) → HeadQ P md ops C n L (f + 1) done a := by
  intro f
  induction f with
  | zero =>
    intro done a inv h0 _ hr hy H
    refine ⟨List.ne_nil_of_mem hr, fun j hj => ?_⟩
    have hjn : j < n := Nat.lt_of_not_le fun h => waits0 hs hc hn inv h0 _ i rfl hin (mem_ready.1 hr).1 j h hj
    by_cases hji : j = i
    · subst hji; exact ⟨hjn, hy.qOp hi H⟩
    · exact absurd (hdone _ _ H j (ready_mono hj hji)) (by omega)
  | succ f ih =>
    intro done a inv h0 hfree hr hy H
    have hun := (mem_ready.1 hr).1
    refine ⟨List.ne_nil_of_mem hr, fun j hj => ?_⟩
    have hjn : j < n := Nat.lt_of_not_le fun h => waits0 hs hc hn inv h0 _ i rfl hin hun j h hj
    by_cases hji : j = i
    · subst hji; exact ⟨hjn, hy.qOp hi H⟩
    refine ⟨hjn, ?_⟩
    obtain ⟨hjun, oj, hoj, hall⟩ := mem_ready.1 hj
    have hnot : ∀ e ∈ oj.after, Region.binds md e = true → e.on ≠ i := by
      intro e he hb heq
      have h1 := hall e he hb
      rw [heq, getD_both hun] at h1
      cases h1
    have h2 := qOp_put hoj (hfree j oj hoj hji hjun hnot) (fun cs b => hsel i oi cs b hi) (fun cs b => hsel j oj cs b hoj) hy (H.2 j (ready_mono hj hji)).2
    refine qOp_mono (fun a' h3 => ih (done.setIfInBounds j true) a' (inv.set hj hjn) (getD_true_set h0) ?_ (ready_mono hr (Ne.symm hji)) h3.1 ?_) h2
    · intro k ok hk hki hkun hno
      refine hfree k ok hk hki ?_ hno
      by_cases hjk : j = k
      · rw [← hjk]; exact hjun
      · rwa [getD_set_ne true hjk] at hkun
    · rw [Array.setIfInBounds_comm _ _ hji]
      exact h3.2

theorem HeadQ.lex0 {n g : Nat} {R : Act → Prop} (hsel : Region.noSelect ops = true) (hs : sink0 md ops n = true) (hc : Region.chainB md ops n = true) (hn : n < ops.size) :
    ∀ (l : List Oper) (k : Nat) (done : Array Bool) (a : Act), (∀ j, j < l.length → l[j]? = ops[k + j]?) → k + l.length = n → HeadInv md ops n done → done.getD 0 true = true →
    Region.lexHead md ops g l.length k done = true → wpQuiet P ops C R l a →
    HeadQ P md ops C n (fun done' a' => Region.seqB md ops g n done' = true ∧ R a') l.length done a := by
  intro l
  induction l with
  | nil =>
    intro k done a _ hk _ _ hB h
    obtain rfl : k = n := hk
    exact ⟨hB, h⟩
  | cons o l ih =>
    intro k done a hl hk inv hz hB h
    rw [List.length_cons] at hk
    have h0 : ops[k]? = some o := (hl 0 (by simp)).symm
    simp only [List.length_cons, Region.lexHead, Bool.and_eq_true] at hB
    obtain ⟨⟨hr, hf⟩, hB'⟩ := hB
    have hr' : k ∈ Region.ready md ops done := by simpa using hr
    have hst : qOp P ops C k (wpQuiet P ops C R l) a := by unfold qOp; rw [h0]; exact h
    obtain ⟨v, hy, hK⟩ := yieldsIn_of_qOp h0 hst
    refine HeadQ.first0 h0 (Region.noSelect_spec hsel) hs hc hn (by omega) (fun _ _ hL => seqB_ready hL.1) l.length done a inv hz (Region.free_spec h0 hf) hr' hy ?_
    refine ih (k + 1) _ _ (fun j hj => ?_) (by omega) (inv.set hr' (by omega)) (getD_true_set hz) hB' hK
    have := hl (j + 1) (by rw [List.length_cons]; omega)
    rwa [List.getElem?_cons_succ, ← Nat.add_assoc, Nat.add_right_comm] at this

/-- The orders' condition, operation 0 done first. -/
def lexTail0 (md : Region.Mode) (ops : Array Oper) (n : Nat) : Bool :=
  Region.noSelect ops && decide (0 < n) && decide (n < ops.size) && sink0 md ops n && Region.chainB md ops n && (Region.ready md ops (Array.replicate ops.size false)).contains 0 && Region.free md ops (Array.replicate ops.size false) 0 &&
    Region.lexHead md ops (ops.size - n) (n - 1) 1 ((Array.replicate ops.size false).setIfInBounds 0 true)

/-- The law: operation o first, whatever the world (hy); then the head in a class of worlds, then the tail. -/
theorem wp_region_first_tail {id : Nat} {Q : Exit → Act → World → Prop} {a : Act} {w : World} {o : Oper} {v : Value} {l : List Oper} (n : Nat) (hops : (o :: l).toArray = ops) (hm : P.follows .mixedOrders = true) (hB : lexTail0 .any ops n = true)
    (hC : C { w with drawn := w.drawn + 1 }) (hQ : ∀ c a w, Q (.panic c) (a.put o.dst v) w → Q (.panic c) a w) (hy : Yields P ops o v a)
    (h : wpQuiet P ops C (fun a' => ∀ w', C w' → wpList P ops Q ((o :: l).drop n) a' w') (l.take (n - 1)) (a.put o.dst v)) : (Code.region id ops true).wp P Q a w := by
  simp only [lexTail0, Bool.and_eq_true, decide_eq_true_eq] at hB
  obtain ⟨⟨⟨⟨⟨⟨⟨hsel, hn0⟩, hn⟩, hs⟩, hc⟩, hr⟩, hf⟩, hlex⟩ := hB
  have hsz : ops.size = l.length + 1 := by rw [← hops]; simp
  have hget : ∀ j : Nat, ops[j]? = (o :: l)[j]? := fun j => by rw [← hops]; simp
  clear hops
  have hr' : 0 ∈ Region.ready .any ops (Array.replicate ops.size false) := by simpa using hr
  have inv0 : HeadInv .any ops n (Array.replicate ops.size false) :=
    { size := by simp
      closed := fun j oj _ hl => by rw [getD_replicate_false] at hl; cases hl
      tail := fun t _ ht => getD_in (by simpa using ht) (getD_replicate_false _ _) }
  have inv1 := inv0.set hr' hn0
  have htl : (l.take (n - 1)).length = n - 1 := List.length_take_of_le (by omega)
  have hdl : ((o :: l).drop n).length = ops.size - n := by rw [hsz]; simp
  have h00 : ((Array.replicate ops.size false).setIfInBounds 0 true).getD 0 true = true := by
    have : 0 < ops.size := by omega
    simp [this]
  have H := HeadQ.lex0 (md := .any) (g := ops.size - n) hsel hs hc hn (l.take (n - 1)) 1 _ (a.put o.dst v)
    (fun j hj => by rw [htl] at hj; rw [hget, Nat.add_comm 1 j, List.getElem?_cons_succ, List.getElem?_take_of_lt hj]) (by omega) inv1 h00 (by rw [htl]; exact hlex) h
  have K := HeadQ.any (Q := Q) (g := ops.size - n) (fun done a' w' hw' hL => by
    have := wpAny_of_seq (P := P) (md := .any) (Q' := Q) ((o :: l).drop n) n done a' w' (fun j => by rw [List.getElem?_drop, hget]) (by rw [hdl]; exact hL.1) (hL.2 w' hw')
    rwa [hdl] at this) _ _ _ _ hC H
  rw [htl] at K
  have hfu : ops.size = (n - 1 + (ops.size - n)) + 1 := by omega
  refine wp_region_any hm ?_
  have T := wpAny_take (md := .any) (i := 0) (fuel := n - 1 + (ops.size - n)) (by rw [hget]; rfl) hsel hf hr hQ hy K
  rwa [← hfu] at T
end
theorem wp_region_drew0 {P : Program} {id : Nat} {Q : Exit → Act → World → Prop} {a : Act} {w : World} {l0 : List Obj} {d : Nat} {o : Oper} {v : Value} {l : List Oper} (n : Nat) (hm : P.follows .mixedOrders = true) (hB : lexTail0 .any (o :: l).toArray n = true)
    (hQ : ∀ c a w, Q (.panic c) (a.put o.dst v) w → Q (.panic c) a w) (hy : Yields P (o :: l).toArray o v a)
    (h : wpQuiet P (o :: l).toArray (Drew w l0) (fun a' => ∀ e, wpList P (o :: l).toArray Q ((o :: l).drop n) a' (Wd w l0 e)) (l.take (n - 1)) (a.put o.dst v)) : (Code.region id (o :: l).toArray true).wp P Q a (Wd w l0 d) := by
  refine wp_region_first_tail (C := Drew w l0) n rfl hm hB ⟨d + 1, rfl⟩ hQ hy ?_
  have e : (fun a' => ∀ w', Drew w l0 w' → wpList P (o :: l).toArray Q ((o :: l).drop n) a' w') = fun a' => ∀ e, wpList P (o :: l).toArray Q ((o :: l).drop n) a' (Wd w l0 e) := by
    funext a'
    exact propext all_drew
  rw [e]
  exact h
end Go.Own.Jf
namespace Go.Own.Jf
open Go.RowKit

theorem ofInt64 (a : Nat) : (BitVec.ofInt 64 (a : Int)) = BitVec.ofNat 64 a := by
  apply BitVec.eq_of_toNat_eq; simp
theorem wrap64n (n : Nat) : IntKind.u64.wrap (n : Int) = ((n % 18446744073709551616 : Nat) : Int) := by simp [IntKind.wrap, IntKind.bits, IntKind.signed]
def xor64 (a b : Nat) : Nat := (a ^^^ b) % 18446744073709551616
def and64 (a b : Nat) : Nat := (a &&& b) % 18446744073709551616
def or64 (a b : Nat) : Nat := (a ||| b) % 18446744073709551616
def not64 (a : Nat) : Nat := (18446744073709551615 ^^^ a) % 18446744073709551616
def add64 (a b : Nat) : Nat := (a + b) % 18446744073709551616
def shl64 (a n : Nat) : Nat := a * 2 ^ n % 18446744073709551616
def shr64 (a n : Nat) : Nat := a / 2 ^ n
theorem xor_mod64 (a b : Nat) : (a % 18446744073709551616) ^^^ (b % 18446744073709551616) = (a ^^^ b) % 18446744073709551616 := (Nat.xor_mod_two_pow (n := 64)).symm
theorem and_mod64 (a b : Nat) : (a % 18446744073709551616) &&& (b % 18446744073709551616) = (a &&& b) % 18446744073709551616 := (Nat.and_mod_two_pow (n := 64)).symm
theorem or_mod64 (a b : Nat) : (a % 18446744073709551616) ||| (b % 18446744073709551616) = (a ||| b) % 18446744073709551616 := (Nat.or_mod_two_pow (n := 64)).symm
theorem bx64 (a b : Nat) : bits .xor .u64 (a : Int) (b : Int) = ((xor64 a b : Nat) : Int) := by
  simp only [bits, IntKind.bits, ofInt64]
  rw [wrap64n]
  show (((a % 18446744073709551616 ^^^ b % 18446744073709551616) % 18446744073709551616 : Nat) : Int) = _
  rw [xor_mod64, Nat.mod_mod]; rfl
theorem bn64 (a : Nat) : bits .xor .u64 18446744073709551615 (a : Int) = ((not64 a : Nat) : Int) := bx64 18446744073709551615 a
theorem bm64 (a : Nat) : bits .xor .u64 IntKind.u64.max (a : Int) = ((not64 a : Nat) : Int) := bx64 18446744073709551615 a
theorem ba64 (a b : Nat) : bits .and .u64 (a : Int) (b : Int) = ((and64 a b : Nat) : Int) := by
  simp only [bits, IntKind.bits, ofInt64]
  rw [wrap64n]
  show ((((a % 18446744073709551616) &&& (b % 18446744073709551616)) % 18446744073709551616 : Nat) : Int) = _
  rw [and_mod64, Nat.mod_mod]; rfl
theorem bo64 (a b : Nat) : bits .or .u64 (a : Int) (b : Int) = ((or64 a b : Nat) : Int) := by
  simp only [bits, IntKind.bits, ofInt64]
  rw [wrap64n]
  show ((((a % 18446744073709551616) ||| (b % 18446744073709551616)) % 18446744073709551616 : Nat) : Int) = _
  rw [or_mod64, Nat.mod_mod]; rfl
theorem add64_op (a b : Nat) : IntKind.u64.wrap ((a : Int) + (b : Int)) = ((add64 a b : Nat) : Int) := by
  rw [show (a : Int) + (b : Int) = ((a + b : Nat) : Int) by simp, wrap64n]; rfl
theorem shl64_op (a n : Nat) (yk : IntKind) : Op.shift .shl .u64 (a : Int) yk (n : Int) = pure (.int .u64 ((shl64 a n : Nat) : Int)) := by
  have h : ¬ (n : Int) < 0 := by omega
  have e : (a : Int) * 2 ^ min n 64 = ((a * 2 ^ min n 64 : Nat) : Int) := by simp
  have e2 : a * 2 ^ min n 64 % 18446744073709551616 = a * 2 ^ n % 18446744073709551616 := by
    rcases Nat.le_total n 64 with h | h
    · rw [Nat.min_eq_left h]
    · rw [Nat.min_eq_right h]
      obtain ⟨m, rfl⟩ := Nat.exists_eq_add_of_le h
      have e1 : a * 2 ^ (64 + m) = 18446744073709551616 * (a * 2 ^ m) := by rw [Nat.pow_add, Nat.mul_left_comm]
      rw [e1, Nat.mul_mod_right]
      show a * 18446744073709551616 % 18446744073709551616 = 0
      exact Nat.mul_mod_left _ _
  simp only [Op.shift, IntKind.bits, h, if_false, Int.toNat_natCast, e, wrap64n, shl64, e2]
theorem shl64_opl (a n : Nat) (yk : IntKind) : Op.shift .shl .u64 (a : Int) yk (no_index (OfNat.ofNat n)) = pure (.int .u64 ((shl64 a n : Nat) : Int)) := shl64_op a n yk
theorem shr64_op (a n : Nat) (yk : IntKind) (h8 : n ≤ 64) : Op.shift .shr .u64 (a : Int) yk (n : Int) = pure (.int .u64 ((shr64 a n : Nat) : Int)) := by
  rw [shift_shr _ _ _ _ (by omega) (by simp [IntKind.bits]; omega)]
  simp [shr64]
theorem shr64_opl (a n : Nat) (yk : IntKind) (h8 : n ≤ 64) : Op.shift .shr .u64 (a : Int) yk (no_index (OfNat.ofNat n)) = pure (.int .u64 ((shr64 a n : Nat) : Int)) := shr64_op a n yk h8
attribute [go_sem] bx64 ba64 bo64 bn64 bm64 add64_op
attribute [go_sem ↓] shl64_op shl64_opl shr64_op shr64_opl
theorem xor64_lt (a b : Nat) : xor64 a b < 18446744073709551616 := Nat.mod_lt _ (by decide)
theorem and64_lt (a b : Nat) : and64 a b < 18446744073709551616 := Nat.mod_lt _ (by decide)
theorem or64_lt (a b : Nat) : or64 a b < 18446744073709551616 := Nat.mod_lt _ (by decide)
theorem add64_lt (a b : Nat) : add64 a b < 18446744073709551616 := Nat.mod_lt _ (by decide)
theorem or64_comm (a b : Nat) : or64 a b = or64 b a := by unfold or64; rw [Nat.or_comm]
def neg64 (a : Nat) : Nat := (18446744073709551616 - a) % 18446744073709551616
theorem neg64_op (a : Nat) (h : a ≤ 18446744073709551616) : IntKind.u64.wrap (-(a : Int)) = ((neg64 a : Nat) : Int) := by
  have e : -(a : Int) = ((18446744073709551616 - a : Nat) : Int) - 18446744073709551616 := by omega
  have e2 : IntKind.u64.wrap (-(a : Int)) = IntKind.u64.wrap ((18446744073709551616 - a : Nat) : Int) := by
    rw [e]; simp only [IntKind.wrap, IntKind.bits, IntKind.signed, Bool.false_and, Bool.false_eq_true, if_false]; omega
  rw [e2, wrap64n]; rfl
theorem mul64_op (a b : Nat) : IntKind.u64.wrap ((a : Int) * (b : Int)) = ((a * b % 18446744073709551616 : Nat) : Int) := by
  rw [show (a : Int) * (b : Int) = ((a * b : Nat) : Int) by simp, wrap64n]
end Go.Own.Jf
namespace Go.Own.Jf
open Go.RowKit

/-- A disk's cells. -/
def dc (vs vl vw : Value) (n : Nat) (a : Int) (k : Nat) (t : Int) (o : Bool) : Array Value := #[vs, vl, vw, .int .i64 (n : Int), .int .i64 a, .int .u64 (k : Int), .int .i64 t, .bool o]
/-- A cut's. -/
def kc (a : Int) (k : Nat) (t : Int) : Array Value := #[.int .i64 a, .int .u64 (k : Int), .int .i64 t]
theorem kc_size (a : Int) (k : Nat) (t : Int) : (kc a k t).size = 3 := rfl
theorem dc_size (vs vl vw : Value) (n : Nat) (a : Int) (k : Nat) (t : Int) (o : Bool) : (dc vs vl vw n a k t o).size = 8 := rfl
/-- A write's cells. -/
def wv (a : Nat) (x : List Nat) : Array Value := #[.int .i64 (a : Int)] ++ cv .u8 x
theorem wv_size (a : Nat) (x : List Nat) : (wv a x).size = x.length + 1 := by simp [wv]; omega
theorem wv_list (a : Nat) (x : List Nat) : (wv a x).toList = .int .i64 (a : Int) :: (cv .u8 x).toList := by simp [wv]
theorem wv_one (a : Nat) (x : List Nat) : ∀ v ∈ (wv a x).toList, v.oneCell' = true := by
  intro v hv
  rw [wv_list, List.mem_cons] at hv
  rcases hv with rfl | h
  · rfl
  · exact cv_oneCell v h
theorem kc_one (a : Int) (k : Nat) (t : Int) : ∀ v ∈ (kc a k t).toList, v.oneCell' = true := by
  intro v hv
  simp [kc] at hv
  rcases hv with rfl | rfl | rfl <;> rfl
theorem dc_one {vs vl vw : Value} {n : Nat} {a : Int} {k : Nat} {t : Int} {o : Bool} (h1 : vs.oneCell' = true) (h2 : vl.oneCell' = true) (h3 : vw.oneCell' = true) : ∀ v ∈ (dc vs vl vw n a k t o).toList, v.oneCell' = true := by
  intro v hv
  simp [dc] at hv
  rcases hv with rfl | rfl | rfl | rfl | rfl | rfl | rfl | rfl <;> first | assumption | rfl

section
variable {P : Program} {T : TypeId} {b : Nat} {W : World} {vs vl vw : Value} {n : Nat} {a : Int} {k : Nat} {t : Int} {o : Bool} {ty : TypeId} {f : Nat × Nat}
theorem ldD0 (ha : (isAgg T).run P W = .ok false W) (h2 : blk W b = some (.cells (dc vs vl vw n a k t o) ty f)) : ldX P T none (some (.cells (dc vs vl vw n a k t o) ty f)) b 0 W = .ok vs W := ldX_mix1 ha h2 rfl
theorem ldD1 (ha : (isAgg T).run P W = .ok false W) (h2 : blk W b = some (.cells (dc vs vl vw n a k t o) ty f)) : ldX P T none (some (.cells (dc vs vl vw n a k t o) ty f)) b 1 W = .ok vl W := ldX_mix1 ha h2 rfl
theorem ldD2 (ha : (isAgg T).run P W = .ok false W) (h2 : blk W b = some (.cells (dc vs vl vw n a k t o) ty f)) : ldX P T none (some (.cells (dc vs vl vw n a k t o) ty f)) b 2 W = .ok vw W := ldX_mix1 ha h2 rfl
theorem ldD3 (ha : (isAgg T).run P W = .ok false W) (h2 : blk W b = some (.cells (dc vs vl vw n a k t o) ty f)) : ldX P T none (some (.cells (dc vs vl vw n a k t o) ty f)) b 3 W = .ok (.int .i64 (n : Int)) W := ldX_mix1 ha h2 rfl
theorem ldD4 (ha : (isAgg T).run P W = .ok false W) (h2 : blk W b = some (.cells (dc vs vl vw n a k t o) ty f)) : ldX P T none (some (.cells (dc vs vl vw n a k t o) ty f)) b 4 W = .ok (.int .i64 a) W := ldX_mix1 ha h2 rfl
theorem ldD5 (ha : (isAgg T).run P W = .ok false W) (h2 : blk W b = some (.cells (dc vs vl vw n a k t o) ty f)) : ldX P T none (some (.cells (dc vs vl vw n a k t o) ty f)) b 5 W = .ok (.int .u64 (k : Int)) W := ldX_mix1 ha h2 rfl
theorem ldD6 (ha : (isAgg T).run P W = .ok false W) (h2 : blk W b = some (.cells (dc vs vl vw n a k t o) ty f)) : ldX P T none (some (.cells (dc vs vl vw n a k t o) ty f)) b 6 W = .ok (.int .i64 t) W := ldX_mix1 ha h2 rfl
theorem ldD7 (ha : (isAgg T).run P W = .ok false W) (h2 : blk W b = some (.cells (dc vs vl vw n a k t o) ty f)) : ldX P T none (some (.cells (dc vs vl vw n a k t o) ty f)) b 7 W = .ok (.bool o) W := ldX_mix1 ha h2 rfl
theorem ldK (h1 : aggSize P T = some 3) (h2 : blk W b = some (.cells (kc a k t) ty f)) : ldX P T (some 3) (some (.cells (kc a k t) ty f)) b 0 W = .ok (.agg (kc a k t)) W := by
  rw [ldX_mix h1 h2 (by rw [kc_size]; omega)]; rfl
theorem ldK0 (ha : (isAgg T).run P W = .ok false W) (h2 : blk W b = some (.cells (kc a k t) ty f)) : ldX P T none (some (.cells (kc a k t) ty f)) b 0 W = .ok (.int .i64 a) W := ldX_mix1 ha h2 rfl
variable {w : World} {l : List Obj} {d i : Nat}
theorem stD2 {p : Option Addr} {x y : Nat} (h1 : (sizeOf T).run P (Wd w l d) = .ok 1 (Wd w l d)) (h2 : l[i]? = some (.cells (dc vs vl vw n a k t o) ty (0, 0))) :
    stX P T 1 (some (.cells (dc vs vl vw n a k t o) ty (0, 0))) w l d i 2 (.slice p x y) = .ok () (Wd w (l.set i (.cells (dc vs vl (.slice p x y) n a k t o) ty (0, 0))) d) := by
  rw [stX_mix1 h1 rfl h2 (by rw [dc_size]; omega)]; rfl
theorem stD3 {m : Nat} (h1 : (sizeOf T).run P (Wd w l d) = .ok 1 (Wd w l d)) (h2 : l[i]? = some (.cells (dc vs vl vw n a k t o) ty (0, 0))) :
    stX P T 1 (some (.cells (dc vs vl vw n a k t o) ty (0, 0))) w l d i 3 (.int .i64 (m : Int)) = .ok () (Wd w (l.set i (.cells (dc vs vl vw m a k t o) ty (0, 0))) d) := by
  rw [stX_mix1 h1 rfl h2 (by rw [dc_size]; omega)]; rfl
theorem stD3z (h1 : (sizeOf T).run P (Wd w l d) = .ok 1 (Wd w l d)) (h2 : l[i]? = some (.cells (dc vs vl vw n a k t o) ty (0, 0))) :
    stX P T 1 (some (.cells (dc vs vl vw n a k t o) ty (0, 0))) w l d i 3 (.int .i64 0) = .ok () (Wd w (l.set i (.cells (dc vs vl vw 0 a k t o) ty (0, 0))) d) := stD3 (m := 0) h1 h2
theorem stD4 {m : Int} (h1 : (sizeOf T).run P (Wd w l d) = .ok 1 (Wd w l d)) (h2 : l[i]? = some (.cells (dc vs vl vw n a k t o) ty (0, 0))) :
    stX P T 1 (some (.cells (dc vs vl vw n a k t o) ty (0, 0))) w l d i 4 (.int .i64 m) = .ok () (Wd w (l.set i (.cells (dc vs vl vw n m k t o) ty (0, 0))) d) := by
  rw [stX_mix1 h1 rfl h2 (by rw [dc_size]; omega)]; rfl
theorem stD7 {m : Bool} (h1 : (sizeOf T).run P (Wd w l d) = .ok 1 (Wd w l d)) (h2 : l[i]? = some (.cells (dc vs vl vw n a k t o) ty (0, 0))) :
    stX P T 1 (some (.cells (dc vs vl vw n a k t o) ty (0, 0))) w l d i 7 (.bool m) = .ok () (Wd w (l.set i (.cells (dc vs vl vw n a k t m) ty (0, 0))) d) := by
  rw [stX_mix1 h1 rfl h2 (by rw [dc_size]; omega)]; rfl
theorem stD47 {a' : Int} {k' : Nat} {t' : Int} (h1 : (sizeOf T).run P (Wd w l d) = .ok 3 (Wd w l d)) (h2 : l[i]? = some (.cells (dc vs vl vw n a k t o) ty (0, 0))) :
    stX P T 3 (some (.cells (dc vs vl vw n a k t o) ty (0, 0))) w l d i 4 (.agg (kc a' k' t')) = .ok () (Wd w (l.set i (.cells (dc vs vl vw n a' k' t' o) ty (0, 0))) d) := by
  rw [stX_mix h1 h2 rfl (by rw [dc_size]; omega) (kc_one _ _ _)]; rfl
theorem stK {a' : Int} {k' : Nat} {t' : Int} (h1 : (sizeOf T).run P (Wd w l d) = .ok 3 (Wd w l d)) (h2 : l[i]? = some (.cells (kc a k t) ty (0, 0))) :
    stX P T 3 (some (.cells (kc a k t) ty (0, 0))) w l d i 0 (.agg (kc a' k' t')) = .ok () (Wd w (l.set i (.cells (kc a' k' t') ty (0, 0))) d) := by
  rw [stX_mix h1 h2 rfl (by rw [kc_size]; omega) (kc_one _ _ _)]; rfl
end
end Go.Own.Jf
namespace Go.Proofs.YtlogjpmdfimgdaaGreatDoor.Jf
open Go.RowKit Go.Own.Jf
theorem ag3 : aggSize Tryz.prog 3 = none := by kernel_rfl
theorem ag4 : aggSize Tryz.prog 4 = none := by kernel_rfl
theorem ag5 : aggSize Tryz.prog 5 = none := by kernel_rfl
theorem ag9 : aggSize Tryz.prog 9 = none := by kernel_rfl
theorem ag29 : aggSize Tryz.prog 29 = none := by kernel_rfl
theorem ag39 : aggSize Tryz.prog 39 = none := by kernel_rfl
theorem ag41 : aggSize Tryz.prog 41 = some 3 := by kernel_rfl
theorem ag101 : aggSize Tryz.prog 101 = none := by kernel_rfl
theorem ag102 : aggSize Tryz.prog 102 = none := by kernel_rfl
theorem ag104 : aggSize Tryz.prog 104 = some 8 := by kernel_rfl
theorem ag208 : aggSize Tryz.prog 208 = some 64 := by kernel_rfl
theorem ag222 : aggSize Tryz.prog 222 = some 65 := by kernel_rfl
theorem cs3 : Tryz.prog.cellsOf 3 = 1 := by kernel_rfl
theorem cs4 : Tryz.prog.cellsOf 4 = 1 := by kernel_rfl
theorem cs5 : Tryz.prog.cellsOf 5 = 1 := by kernel_rfl
theorem cs9 : Tryz.prog.cellsOf 9 = 1 := by kernel_rfl
theorem cs29 : Tryz.prog.cellsOf 29 = 1 := by kernel_rfl
theorem cs39 : Tryz.prog.cellsOf 39 = 1 := by kernel_rfl
theorem cs41 : Tryz.prog.cellsOf 41 = 3 := by kernel_rfl
theorem cs101 : Tryz.prog.cellsOf 101 = 1 := by kernel_rfl
theorem cs102 : Tryz.prog.cellsOf 102 = 1 := by kernel_rfl
theorem cs104 : Tryz.prog.cellsOf 104 = 8 := by kernel_rfl
theorem cs208 : Tryz.prog.cellsOf 208 = 64 := by kernel_rfl
theorem cs222 : Tryz.prog.cellsOf 222 = 65 := by kernel_rfl
theorem sz3 (w : World) : (sizeOf 3).run Tryz.prog w = .ok 1 w := by kernel_rfl
theorem sz4 (w : World) : (sizeOf 4).run Tryz.prog w = .ok 1 w := by kernel_rfl
theorem sz5 (w : World) : (sizeOf 5).run Tryz.prog w = .ok 1 w := by kernel_rfl
theorem sz9 (w : World) : (sizeOf 9).run Tryz.prog w = .ok 1 w := by kernel_rfl
theorem sz29 (w : World) : (sizeOf 29).run Tryz.prog w = .ok 1 w := by kernel_rfl
theorem sz39 (w : World) : (sizeOf 39).run Tryz.prog w = .ok 1 w := by kernel_rfl
theorem sz41 (w : World) : (sizeOf 41).run Tryz.prog w = .ok 3 w := by kernel_rfl
theorem sz101 (w : World) : (sizeOf 101).run Tryz.prog w = .ok 1 w := by kernel_rfl
theorem sz102 (w : World) : (sizeOf 102).run Tryz.prog w = .ok 1 w := by kernel_rfl
theorem sz104 (w : World) : (sizeOf 104).run Tryz.prog w = .ok 8 w := by kernel_rfl
theorem sz208 (w : World) : (sizeOf 208).run Tryz.prog w = .ok 64 w := by kernel_rfl
theorem sz222 (w : World) : (sizeOf 222).run Tryz.prog w = .ok 65 w := by kernel_rfl
theorem isa3 (w : World) : (isAgg 3).run Tryz.prog w = .ok false w := by kernel_rfl
theorem isa4 (w : World) : (isAgg 4).run Tryz.prog w = .ok false w := by kernel_rfl
theorem isa5 (w : World) : (isAgg 5).run Tryz.prog w = .ok false w := by kernel_rfl
theorem isa9 (w : World) : (isAgg 9).run Tryz.prog w = .ok false w := by kernel_rfl
theorem isa29 (w : World) : (isAgg 29).run Tryz.prog w = .ok false w := by kernel_rfl
theorem isa39 (w : World) : (isAgg 39).run Tryz.prog w = .ok false w := by kernel_rfl
theorem isa101 (w : World) : (isAgg 101).run Tryz.prog w = .ok false w := by kernel_rfl
theorem isa102 (w : World) : (isAgg 102).run Tryz.prog w = .ok false w := by kernel_rfl
theorem z208 : zeroOf Tryz.prog 208 = .agg (cv .u8 (rep 64)) := by kernel_rfl
theorem z222 : zeroOf Tryz.prog 222 = .agg (wv 0 (rep 64)) := by kernel_rfl
theorem z5 : zeroOf Tryz.prog 5 = .int .u8 0 := by kernel_rfl
theorem bu41 (W : World) : (buN 41 #[]).run Tryz.prog W = .ok (.agg (kc 0 0 0)) W := by kernel_rfl
attribute [go_sem] ag3 ag4 ag5 ag9 ag29 ag39 ag41 ag101 ag102 ag104 ag208 ag222
attribute [go_sem] cs3 cs4 cs5 cs9 cs29 cs39 cs41 cs101 cs102 cs104 cs208 cs222
attribute [go_sem] sz3 sz4 sz5 sz9 sz29 sz39 sz41 sz101 sz102 sz104 sz208 sz222
attribute [go_sem] isa3 isa4 isa5 isa9 isa29 isa39 isa101 isa102 z208 z222 z5 bu41
attribute [go_sem] ldD0 ldD1 ldD2 ldD3 ldD4 ldD5 ldD6 ldD7 ldK ldK0 stD2 stD3 stD3z stD4 stD7 stD47 stK

theorem down_any (w : World) (l : List Obj) (d i : Nat) {vs vl vw : Value} {n : Nat} {a : Int} {k : Nat} {t : Int} {o : Bool} (h : l[i]? = some (.cells (dc vs vl vw n a k t o) 104 (0, 0))) :
    Calls Tryz.prog 41 #[.pointer (some ⟨w.heap.size + i, 0, none⟩)] (Wd w l d) fun e w' => e = .returned (.bool o) ∧ Wd w l d = w' := by
  go_enter Tryz.func41, Tryz.ntmps41
  go_wp2
  go_ret
  exact ⟨rfl, rfl⟩
theorem size_any (w : World) (l : List Obj) (d i : Nat) {p : Option Addr} {m c : Nat} {vl vw : Value} {n : Nat} {a : Int} {k : Nat} {t : Int} {o : Bool} (h : l[i]? = some (.cells (dc (.slice p m c) vl vw n a k t o) 104 (0, 0))) :
    Calls Tryz.prog 40 #[.pointer (some ⟨w.heap.size + i, 0, none⟩)] (Wd w l d) fun e w' => e = .returned (.int .i64 (m : Int)) ∧ Wd w l d = w' := by
  go_enter Tryz.func40, Tryz.ntmps40
  go_wp2
  go_ret
  exact ⟨rfl, rfl⟩
end Go.Proofs.YtlogjpmdfimgdaaGreatDoor.Jf

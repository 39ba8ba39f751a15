/- What lays a row of texts, plainly: one text more; how long. A literal row of two steps, one of three rows. No condition. | A disk whose power is on: steps done, plainly; what lies in a half behind them. No condition. -/
import Derived.Test.YtjgfljckmckhcaaDoorZ33
namespace Go.Proofs.YtjgfljckmckhcaaDoor
open Go Go.RowKit Go.Own
theorem lays_snoc : ∀ (l : List (List Nat)) (h : Hf) (t : List Nat), h.lays (l ++ [t]) = match h.lays l with | none => none | some (k, ls) => if k.room < t.length then none else some (k.with t, ls ++ [k.laying t])
  | [], h, t => by
    simp only [List.nil_append, Hf.lays]
  | s :: l, h, t => by
    rw [List.cons_append, Hf.lays, Hf.lays]
    by_cases hr : h.room < (s.length : Int)
    · rw [if_pos hr, if_pos hr]
    · rw [if_neg hr, if_neg hr, lays_snoc l (h.with s) t]
      cases (h.with s).lays l with
      | none => rfl
      | some p =>
        obtain ⟨k, ls⟩ := p
        simp only
        by_cases hk : k.room < (t.length : Int)
        · rw [if_pos hk, if_pos hk]
        · rw [if_neg hk, if_neg hk]; rfl
theorem lays_append_none : ∀ (l r : List (List Nat)) (h : Hf), h.lays l = none → h.lays (l ++ r) = none
  | [], _, _, h => by cases h
  | s :: l, r, h, hn => by
    rw [List.cons_append, Hf.lays]
    rw [Hf.lays] at hn
    by_cases hr : h.room < (s.length : Int)
    · rw [if_pos hr]
    · rw [if_neg hr] at hn ⊢
      have : (h.with s).lays l = none := by
        cases hc : (h.with s).lays l with
        | none => rfl
        | some p => rw [hc] at hn; cases hn
      rw [lays_append_none l r _ this]
theorem laying_length3 (h : Hf) (t : List Nat) : (h.laying t).length ≤ 3 * secs t.length := by
  unfold Hf.laying secs
  rw [List.length_append, down_length, laid_length, List.length_singleton]
  omega
/-- What is known of a row that is laid. -/
structure LaidOk (h k : Hf) (l : List (List Nat)) (ls : List (List Stp)) : Prop where
  len : ls.length = l.length
  first : k.first = h.first
  size : k.size = h.size
  gen : k.gen = h.gen
  texts : k.texts = h.texts ++ l
  used : h.used + l.length ≤ k.used
  fits : h.used ≤ h.size → k.used ≤ k.size
  steps : ls.flatten.length + 3 * h.used ≤ 3 * k.used
  short : ∀ t ∈ l, t.length ≤ 65535
theorem room_ok {h : Hf} {t : List Nat} (hr : ¬ h.room < (t.length : Int)) : t.length ≤ 65535 ∧ h.used + secs t.length ≤ h.size := by
  unfold Hf.room at hr
  unfold secs
  constructor <;> omega
theorem lays_ok : ∀ (l : List (List Nat)) (h k : Hf) (ls : List (List Stp)), h.lays l = some (k, ls) → LaidOk h k l ls
  | [], h, k, ls, e => by
    simp only [Hf.lays, Option.some.injEq, Prod.mk.injEq] at e
    obtain ⟨rfl, rfl⟩ := e
    exact ⟨rfl, rfl, rfl, rfl, by simp, Nat.le_refl _, id, by simp, fun t ht => by cases ht⟩
  | t :: l, h, k, ls, e => by
    rw [Hf.lays] at e
    by_cases hr : h.room < (t.length : Int)
    · rw [if_pos hr] at e; cases e
    · rw [if_neg hr] at e
      cases hc : (h.with t).lays l with
      | none => rw [hc] at e; cases e
      | some p =>
        obtain ⟨k', ls'⟩ := p
        rw [hc] at e
        simp only [Option.some.injEq, Prod.mk.injEq] at e
        obtain ⟨rfl, rfl⟩ := e
        have ih := lays_ok l (h.with t) k' ls' hc
        have h1 := room_ok hr
        have h2 := laying_length3 h t
        have h3 := secs_pos t.length
        have hu : (h.with t).used = h.used + secs t.length := rfl
        have i1 := ih.used
        have i2 := ih.steps
        have i3 := ih.fits
        rw [hu] at i1 i2 i3
        refine ⟨by rw [List.length_cons, List.length_cons, ih.len], ih.first, ih.size, ih.gen, by rw [ih.texts]; simp [Hf.with], by rw [List.length_cons]; omega, fun _ => i3 h1.2, ?_, fun x hx => ?_⟩
        · rw [List.flatten_cons, List.length_append]; omega
        · rcases List.mem_cons.1 hx with rfl | hx
          · exact h1.1
          · exact ih.short x hx
/-- Step by step, behind k texts. -/
theorem lays_step {l : List (List Nat)} {h k : Hf} {ls : List (List Stp)} {i : Nat} {t : List Nat} (hi : l[i]? = some t) (hk : h.lays (l.take i) = some (k, ls)) :
    (k.room < t.length → h.lays l = none) ∧ (¬ k.room < t.length → h.lays (l.take (i + 1)) = some (k.with t, ls ++ [k.laying t])) := by
  have e : l.take (i + 1) = l.take i ++ [t] := by rw [List.take_add_one, hi]; rfl
  have hs := lays_snoc (l.take i) h t
  rw [hk] at hs
  simp only at hs
  refine ⟨fun hr => ?_, fun hr => ?_⟩
  · rw [if_pos hr, ← e] at hs
    have := lays_append_none _ (l.drop (i + 1)) h hs
    rwa [List.take_append_drop] at this
  · rw [if_neg hr, ← e] at hs
    exact hs
set_option maxRecDepth 100000 in
/-- A literal row of two steps. -/
theorem lays_sr2 {dst : Option Tmp} {ty : TypeId} {pos : String} {after : Array Edge} {guard : Option (Nat × Bool)} {x y : Operand} {W : World} {j : Nat} {ps : List (Value → World → Prop)} {a : Act} {w : World} {B i : Nat} {s1 s2 : Stp} (hBW : ∀ L d, W = Wd w L d → B ≤ L.length)
    (h1 : stB w B i s1 (a.eval x) W) (h2 : stB w B i s2 (a.eval y) W) (hT : ∀ u W, srB w B i [s1, s2] u W → TL ps j u W) : Lays Tryd.prog (TL ps) j { dst, op := .buildSlice 78 2 #[(0, x), (1, y)], type := ty, pos, after, guard } a W := by
  obtain ⟨L, d, rfl, t1⟩ := h1
  obtain ⟨L', d', e, t2⟩ := h2
  obtain rfl := Wd_inj e
  have hbs := bsj782 t1.one t2.one w L d
  unfold bsN at hbs
  have he : (execOp a.eval { dst, op := .buildSlice 78 2 #[(0, x), (1, y)], type := ty, pos, after, guard }).run Tryd.prog (Wd w L d) = .ok (.value (.slice (some ⟨w.heap.size + L.length, 0, none⟩) 2 2)) (Wd w (L ++ [.cells #[a.eval x, a.eval y] 80 (0, 0)]) d) := by
    unfold execOp
    simp only [List.map_toArray, List.map_cons, List.map_nil, Sem.run_bind, hbs, Result.andThen_ok]
    rfl
  have hb := hBW L d rfl
  refine lays_value he (below_of _ _ _ _ _) (hT _ _ ⟨[a.eval x, a.eval y], _, d, rfl, by rw [List.length_append]; omega, .inr ⟨L.length, 2, [a.eval x, a.eval y], 80, hb, rfl, by simp, rfl, Nat.le_refl _, rfl⟩, rfl, fun k z s hx hs => ?_⟩)
  match k, hx, hs with
  | 0, hx, hs =>
    simp at hx hs; subst hx; subst hs
    exact t1.mono fun p hp hlt => ⟨hp, List.getElem?_append_left hlt⟩
  | 1, hx, hs =>
    simp at hx hs; subst hx; subst hs
    exact t2.mono fun p hp hlt => ⟨hp, List.getElem?_append_left hlt⟩
  | k + 2, hx, _ => simp at hx
set_option maxRecDepth 100000 in
/-- A literal row of three rows. -/
theorem lays_rr3 {dst : Option Tmp} {ty : TypeId} {pos : String} {after : Array Edge} {guard : Option (Nat × Bool)} {x y z : Operand} {W : World} {j : Nat} {ps : List (Value → World → Prop)} {a : Act} {w : World} {B i : Nat} {s1 s2 s3 : List Stp}
    (h1 : srB w B i s1 (a.eval x) W) (h2 : srB w B i s2 (a.eval y) W) (h3 : srB w B i s3 (a.eval z) W) (hT : ∀ u W, rrB w B i [s1, s2, s3] u W → TL ps j u W) : Lays Tryd.prog (TL ps) j { dst, op := .buildSlice 84 3 #[(0, x), (1, y), (2, z)], type := ty, pos, after, guard } a W := by
  obtain ⟨v1, L, d, rfl, hb, r1, t1⟩ := h1
  obtain ⟨v2, L', d', e, _, r2, t2⟩ := h2
  obtain rfl := Wd_inj e
  obtain ⟨v3, L', d'', e, _, r3, t3⟩ := h3
  obtain rfl := Wd_inj e
  have hbs := bsj843 (RowV.one r1) (RowV.one r2) (RowV.one r3) w L d
  unfold bsN at hbs
  have he : (execOp a.eval { dst, op := .buildSlice 84 3 #[(0, x), (1, y), (2, z)], type := ty, pos, after, guard }).run Tryd.prog (Wd w L d) = .ok (.value (.slice (some ⟨w.heap.size + L.length, 0, none⟩) 3 3)) (Wd w (L ++ [.cells #[a.eval x, a.eval y, a.eval z] 78 (0, 0)]) d) := by
    unfold execOp
    simp only [List.map_toArray, List.map_cons, List.map_nil, Sem.run_bind, hbs, Result.andThen_ok]
    rfl
  refine lays_value he (below_of _ _ _ _ _) (hT _ _ ⟨L.length, 3, [a.eval x, a.eval y, a.eval z], 78, [v1, v2, v3], _, d, rfl, by rw [List.length_append]; omega, hb, rfl, by simp, Nat.le_refl _, rfl, fun k z vs ss hx hv hs => ?_⟩)
  match k, hx, hv, hs with
  | 0, hx, hv, hs =>
    simp at hx hv hs; subst hx; subst hv; subst hs
    exact ⟨by rw [t1.1]; exact RowV.more r1 _, t1.mono fun p hp hlt => ⟨hp, List.getElem?_append_left hlt⟩⟩
  | 1, hx, hv, hs =>
    simp at hx hv hs; subst hx; subst hv; subst hs
    exact ⟨by rw [t2.1]; exact RowV.more r2 _, t2.mono fun p hp hlt => ⟨hp, List.getElem?_append_left hlt⟩⟩
  | 2, hx, hv, hs =>
    simp at hx hv hs; subst hx; subst hv; subst hs
    exact ⟨by rw [t3.1]; exact RowV.more r3 _, t3.mono fun p hp hlt => ⟨hp, List.getElem?_append_left hlt⟩⟩
  | k + 3, hx, _, _ => simp at hx
theorem exec_mf {ρ : Operand → Value} {W : World} {dst : Option Tmp} {ty : TypeId} {pos : String} {after : Array Edge} {guard : Option (Nat × Bool)} {x : Operand} {v : Value} {f : Nat} (h : ρ x = v) : (execOp ρ { dst, op := .makeFunc (.func f) #[x] #[], type := ty, pos, after, guard }).run Tryd.prog W = .ok (.value (.func (.func f) #[v] #[])) W := by
  subst h; simp [execOp, go_sem]
/-- Where a row lies, there it may. -/
theorem rowV_on {A : Nat → Prop} {w : World} {l : List Obj} {sz n : Nat} {v : Value} {C : List Value} (h : RowV A w l sz n v C) {p : Nat} (hp : ¬ NotAt w v p) : A p := by
  by_cases ha : A p
  · exact ha
  · exact absurd (rowV_off h ha) hp
end Go.Proofs.YtjgfljckmckhcaaDoor
namespace Go.Proofs.YtjgfljckmckhcaaDoor
open Go.RowKit Go.Own
/-- The power is on, and no cut is armed. -/
structure Live (M : Dk) : Prop where
  on : M.off = false
  cat : M.cat = 0
  ok : M.Ok
/-- A step that may be done. -/
def Stp.fits (n : Nat) : Stp → Prop
  | .w a s => a < n ∧ s.length ≤ 64 ∧ B8 s
  | .f => True
/-- What is seen behind steps. -/
def seenS (x : List Nat) : List Stp → List Nat
  | [] => x
  | .w a s :: r => seenS (spl x (a * 64) (filL s)) r
  | .f :: r => seenS x r
theorem seenS_append (a b : List Stp) : ∀ x, seenS x (a ++ b) = seenS (seenS x a) b := by
  induction a with
  | nil => intro x; rfl
  | cons s a ih => intro x; cases s <;> exact ih _
theorem run_live {M : Dk} (h : Live M) {s : Stp} (hs : s.fits M.n) : (s.run M).2 = 0 ∧ Live (s.run M).1 ∧ (s.run M).1.n = M.n ∧ (s.run M).1.seen = seenS M.seen [s] ∧ (s = .f → (s.run M).1.count = 0) := by
  cases s with
  | w a s =>
    obtain ⟨ha, hl, hb⟩ := hs
    have hr : refE M.off M.n (a : Int) = 0 := by unfold refE; rw [h.on, if_neg (by simp), if_neg (by omega)]
    have hw : M.write (a : Int) s = (M.waited a (filL s), 0) := by
      unfold Dk.write
      rw [if_pos hr, if_neg (by omega), Int.toNat_natCast]
      unfold Dk.counted
      rw [if_pos (show (M.waited a (filL s)).cat = 0 from h.cat)]
    show (M.write (a : Int) s).2 = 0 ∧ Live (M.write (a : Int) s).1 ∧ (M.write (a : Int) s).1.n = M.n ∧ (M.write (a : Int) s).1.seen = _ ∧ _
    rw [hw]
    exact ⟨rfl, ⟨h.on, h.cat, h.ok.waited ha (filL_length hl) (filL_B8 hb)⟩, rfl, rfl, fun e => by cases e⟩
  | f =>
    have hw : M.flush = (M.flushed, 0) := by
      unfold Dk.flush
      rw [if_neg (by rw [h.on]; simp)]
      have hc : M.counted = (M, 0) := by unfold Dk.counted; rw [if_pos h.cat]
      rw [hc, if_pos rfl]
    show (M.flush).2 = 0 ∧ Live (M.flush).1 ∧ (M.flush).1.n = M.n ∧ (M.flush).1.seen = _ ∧ _
    rw [hw]
    exact ⟨rfl, ⟨h.on, h.cat, h.ok.flushed⟩, rfl, rfl, fun _ => by show (M.flush).1.count = 0; rw [hw]; rfl⟩
/-- On such a disk all steps are done. -/
theorem runS_live : ∀ (ss : List Stp) (M : Dk), Live M → (∀ s ∈ ss, s.fits M.n) → (runS M ss).2 = true ∧ Live (runS M ss).1 ∧ (runS M ss).1.n = M.n ∧ (runS M ss).1.seen = seenS M.seen ss
  | [], M, h, _ => ⟨rfl, h, rfl, rfl⟩
  | s :: r, M, h, hf => by
    obtain ⟨h1, h2, h3, h4, _⟩ := run_live h (hf s (by simp))
    have ih := runS_live r (s.run M).1 h2 fun t ht => by rw [h3]; exact hf t (by simp [ht])
    rw [runS, if_pos h1]
    refine ⟨ih.1, ih.2.1, by rw [ih.2.2.1, h3], ?_⟩
    rw [ih.2.2.2, h4]
    cases s <;> rfl
theorem runS_count0 (ss : List Stp) (M : Dk) (h : Live M) (hf : ∀ s ∈ ss, s.fits M.n) : (runS M (ss ++ [.f])).1.count = 0 := by
  obtain ⟨h1, h2, h3, _⟩ := runS_live ss M h hf
  rw [runS_append, if_pos h1]
  have := run_live h2 (s := .f) trivial
  rw [runS, if_pos this.1]
  exact this.2.2.2.2 rfl
/-! ### pieces laid side by side -/
theorem spl_spl {x a b : List Nat} {o : Nat} (h : o + a.length + b.length ≤ x.length) : spl (spl x (o + a.length) b) o a = spl x o (a ++ b) := by
  have h1 : (x.take (o + a.length)).length = o + a.length := by rw [List.length_take]; omega
  unfold spl
  rw [List.append_assoc (x.take (o + a.length)), List.take_append_of_le_length (by omega), List.take_take, Nat.min_eq_left (by omega), List.drop_left' h1, List.length_append, Nat.add_assoc]
  simp [List.append_assoc]
theorem spl_take {x a : List Nat} {o p : Nat} (hp : p ≤ o) (ho : o ≤ x.length) : (spl x o a).take p = x.take p := by
  unfold spl
  rw [List.append_assoc, List.take_append_of_le_length (by rw [List.length_take]; omega), List.take_take, Nat.min_eq_left hp]
theorem spl_at {x a : List Nat} {o : Nat} (ho : o ≤ x.length) : (spl x o a).drop o = a ++ x.drop (o + a.length) := by
  unfold spl
  rw [List.append_assoc, List.drop_left' (by rw [List.length_take]; omega)]
theorem spl_behind {x a : List Nat} {o p : Nat} (hp : o + a.length ≤ p) (ho : o ≤ x.length) : (spl x o a).drop p = x.drop p := by
  unfold spl
  have e : p = (x.take o ++ a).length + (p - (o + a.length)) := by rw [List.length_append, List.length_take]; omega
  have e2 : (spl x o a).drop p = (x.drop (o + a.length)).drop (p - (o + a.length)) := by
    unfold spl
    conv => lhs; rw [e]
    rw [List.drop_append]
    simp
  unfold spl at e2
  rw [e2, List.drop_drop]; congr 1; omega
/-- What lies from sector a on, k sectors. -/
def part (x : List Nat) (a k : Nat) : List Nat := (x.drop (a * 64)).take (k * 64)
theorem part_length {x : List Nat} {a k n : Nat} (hx : x.length = n * 64) (h : a + k ≤ n) : (part x a k).length = k * 64 := by
  unfold part
  rw [List.length_take, List.length_drop, hx]; omega
theorem part_out {x s : List Nat} {a k b n m : Nat} (hx : x.length = n * 64) (hs : s.length = m * 64) (hb : b + m ≤ n) (h : a + k ≤ b ∨ b + m ≤ a) : part (spl x (b * 64) s) a k = part x a k := by
  unfold part
  rcases h with h | h
  · have e : ∀ y : List Nat, (y.drop (a * 64)).take (k * 64) = (y.take ((a + k) * 64)).drop (a * 64) := fun y => by
      rw [List.drop_take]; congr 1; omega
    rw [e, e, spl_take (by omega) (by omega)]
  · rw [spl_behind (by omega) (by omega)]
theorem part_in {x s : List Nat} {a k b n m : Nat} (hx : x.length = n * 64) (hs : s.length = m * 64) (h : b + m ≤ k) (hn : a + k ≤ n) : part (spl x ((a + b) * 64) s) a k = spl (part x a k) (b * 64) s := by
  have h1 : ((x.drop (a * 64)).take (b * 64)).length = b * 64 := by rw [List.length_take, List.length_drop, hx]; omega
  have e0 : x.take ((a + b) * 64) = x.take (a * 64) ++ (x.drop (a * 64)).take (b * 64) := by
    rw [show (a + b) * 64 = a * 64 + b * 64 by omega, List.take_add]
  have e1 : (spl x ((a + b) * 64) s).drop (a * 64) = (x.drop (a * 64)).take (b * 64) ++ (s ++ x.drop ((a + b) * 64 + s.length)) := by
    unfold spl
    rw [e0, List.append_assoc, List.append_assoc, List.drop_left' (by rw [List.length_take]; omega)]
  unfold part
  rw [e1, spl, List.take_take, Nat.min_eq_left (by omega), List.append_assoc, List.take_append, List.take_of_length_le (by omega), h1, List.take_append, List.take_of_length_le (l := s) (by omega)]
  congr 2
  rw [List.drop_take, List.drop_drop]
  rw [hs]
  have e2 : a * 64 + (b * 64 + m * 64) = (a + b) * 64 + m * 64 := by omega
  rw [e2]
  congr 1; omega
end Go.Proofs.YtjgfljckmckhcaaDoor

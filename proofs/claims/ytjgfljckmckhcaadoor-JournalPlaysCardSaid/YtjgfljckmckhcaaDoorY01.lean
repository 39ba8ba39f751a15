/- An append within a row, or to a new one: what stays of the blocks that were there. No condition but that the row is small. | A region that draws its order, one of whose operations turns what was there: by properties that last. No condition. | The document's journal: plainly; in memory; New, Room, takes: by contract. No condition but the sizes. -/
import Derived.Test.YtjgfljckmckhcaaDoorZ45
import Derived.Test.YtjgfljckmckhcaaDoorZ23
namespace Go.Own
open Go.RowKit
theorem append_row2 {P : Program} {T E : TypeId} {sz : Nat} (hR : RowT P T E sz) {A B : Nat → Prop} {w : World} {l : List Obj} {d n m : Nat} {v x : Value} {C N : List Value} (hA : ∀ p, l.length ≤ p → A p) (h : RowV A w l sz n v C) (hx : RowV B w l sz m x N)
    (ty : TypeId) (h1 : ∀ u ∈ N, u.oneCell' = true) (hs : n + m ≤ 1048576) (hn0 : n = 0 → ∃ q, v = .slice q 0 0) :
    ∃ v' l' d', (apN #[T, T] ty #[v, x]).run P (Wd w l d) = .ok v' (Wd w l' d') ∧ RowV A w l' sz (n + m) v' (C ++ N) ∧ l.length ≤ l'.length ∧ (∀ p, p < l.length → NotAt w v p → l'[p]? = l[p]?) ∧ (∀ (p : Nat) c t f, l[p]? = some (.cells c t f) → ∃ c', l'[p]? = some (.cells c' t f) ∧ c'.size = c.size ∧ ∀ k, (k < n * sz ∨ k < sz) → c'[k]? = c[k]?) ∧ (m = 0 → v' = v) := by
  obtain ⟨hT, ti, z, hi, hz, hsz, hzc, hb⟩ := hR
  have hbb : (n + m) * ti.bytes ≤ 140737488355328 := by
    have := Nat.mul_le_mul hs hb
    omega
  have hNl := hx.length
  have hfc : (Builtin.firstCells ti.size m x).run P (Wd w l d) = .ok N.toArray (Wd w l d) ∧ (Builtin.lenOf x).run P (Wd w l d) = .ok m (Wd w l d) := by
    rcases hx with ⟨rfl, rfl, rfl⟩ | ⟨j, c2, Y, t2, hBj, rfl, hj, hY, hm, rfl⟩
    · exact ⟨by simp [Builtin.firstCells], rfl⟩
    · exact ⟨run_firstCells_some (P := P) (Wd w l d) ti.size m ⟨w.heap.size + j, 0, none⟩ m c2 _ (by rw [hNl, hsz]) (row_cells hj), rfl⟩
  obtain ⟨hfc, hln⟩ := hfc
  unfold apN
  rcases h with ⟨rfl, rfl, rfl⟩ | ⟨i, c, X, t, hAi, rfl, hl, hX, hnc, rfl⟩
  · by_cases hm0 : m = 0
    · subst hm0
      obtain rfl : N = [] := List.length_eq_zero_iff.1 (by simpa using hNl)
      refine ⟨.slice none 0 0, l, d, ?_, .inl ⟨rfl, by omega, rfl⟩, Nat.le_refl _, fun _ _ _ => rfl, fun p c t f hp => ⟨c, hp, rfl, fun _ _ => rfl⟩, fun _ => rfl⟩
      simp [Builtin.append_, run_underlying hT, sizeOf, typeInfo, hi, hln, hfc]
    · rcases hx with ⟨_, e, _⟩ | ⟨j, c2, Y, t2, hBj, rfl, hj, hY, hm, rfl⟩
      · exact absurd e hm0
      have hr := run_append_nil (P := P) (Wd w l d) T ty E ti z hT hi hz ⟨w.heap.size + j, 0, none⟩ m c2 _ (by rw [hNl, hsz]) (row_cells hj) (by omega) (by omega) (by rw [Nat.zero_add] at hbb; omega)
      rw [Wd_drew, Wd_alloc, Wd_size] at hr
      have hge := grownCap_ge (Wd w l d) m 0 E
      refine ⟨_, _, _, hr, .inr ⟨l.length, grownCap (Wd w l d) m 0 E, Y.take (m * sz) ++ (Builtin.zeroCells z.cells (grownCap (Wd w l d) m 0 E - m)).toList, E, hA _ (Nat.le_refl _), by rw [Nat.zero_add], ?_, ?_, by omega, ?_⟩, by simp, fun p hp _ => List.getElem?_append_left hp, fun p c t f hp => ⟨c, app_some hp, rfl, fun _ _ => rfl⟩, fun e => absurd e (by omega)⟩
      · rw [List.getElem?_concat_length]
        congr 2
        apply Array.ext'; simp
      · rw [List.length_append, hNl, Array.length_toList, zeroCells_size, hzc, ← Nat.add_mul]
        congr 1; omega
      · rw [Nat.zero_add, List.nil_append, List.take_append_of_le_length (by omega), List.take_of_length_le (by omega)]
  · have hnsz : n * sz ≤ X.length := by rw [hX]; exact Nat.mul_le_mul_right _ hnc
    by_cases hroom : n + m ≤ c
    · have hfit : n * sz + N.length ≤ X.length := by rw [hNl, hX, ← Nat.add_mul]; exact Nat.mul_le_mul_right _ hroom
      have hr := run_storeCells_at P (w.heap.size + i) (n * sz) t N 0 X.toArray (Wd w l d) (by rw [Wd_at]; exact hl) (by simp; omega) h1
      rw [Nat.add_zero, Wd_setRow _ _ _ _ _ _ _ _ hl] at hr
      have hadd : (⟨w.heap.size + i, 0, none⟩ : Addr).add (n * sz) = ⟨w.heap.size + i, n * sz, none⟩ := by unfold Addr.add; split <;> simp_all
      have hi' := (List.getElem?_eq_some_iff.1 hl).1
      refine ⟨.slice (some ⟨w.heap.size + i, 0, none⟩) (n + m) c, l.set i (.cells (List.toArray (X.take (n * sz) ++ N ++ X.drop (n * sz + N.length))) t (0, 0)), d, ?_, .inr ⟨i, c, X.take (n * sz) ++ N ++ X.drop (n * sz + N.length), t, hAi, rfl, by simp [hi'], ?_, hroom, ?_⟩, by simp, ?_, ?_, fun e => by subst e; rfl⟩
      · rw [hsz] at hfc
        have hr' := hr
        simp only [List.append_assoc] at hr'
        simp [Builtin.append_, run_underlying hT, sizeOf, typeInfo, hi, hsz, hln, hroom, hfc, hadd, hr']
      · simp; omega
      · rw [List.take_append_of_le_length (by simp [Nat.add_mul]; omega), List.take_of_length_le (by simp [Nat.add_mul]; omega)]
      · intro p hp hv
        have hne : i ≠ p := fun e => by subst e; exact hv _ _ rfl
        rw [List.getElem?_set_ne hne]
      · intro p c' t' f' hp
        by_cases hip : i = p
        · subst hip
          rw [hl] at hp
          simp only [Option.some.injEq, Obj.cells.injEq] at hp
          obtain ⟨rfl, rfl, rfl⟩ := hp
          refine ⟨(X.take (n * sz) ++ N ++ X.drop (n * sz + N.length)).toArray, by simp [hi'], by simp; omega, fun k hk => ?_⟩
          have hk2 : k < n * sz ∨ N.length = 0 := by
            rcases hk with hk | hk
            · exact .inl hk
            · by_cases h0 : n = 0
              · obtain ⟨q, hq⟩ := hn0 h0
                simp only [Value.slice.injEq] at hq
                right; rw [hNl]
                have : m = 0 := by omega
                subst this; simp
              · left
                exact Nat.lt_of_lt_of_le hk (Nat.le_mul_of_pos_left sz (by omega))
          rcases hk2 with hk2 | hk2
          · rw [List.getElem?_toArray, List.getElem?_toArray, List.append_assoc, List.getElem?_append_left (by rw [List.length_take]; omega), List.getElem?_take_of_lt hk2]
          · have hN : N = [] := List.length_eq_zero_iff.1 hk2
            subst hN
            simp
        · exact ⟨c', by rw [List.getElem?_set_ne hip]; exact hp, rfl, fun _ _ => rfl⟩
    · have hm0 : m ≠ 0 := by omega
      rcases hx with ⟨_, e, _⟩ | ⟨j, c2, Y, t2, hBj, rfl, hj, hY, hm, rfl⟩
      · exact absurd e hm0
      have hr := run_append_grow (P := P) (Wd w l d) T ty E ti z hT hi hz ⟨w.heap.size + i, 0, none⟩ n c (X.take (n * sz)) (by rw [hsz]; simp; omega) (row_cells hl) ⟨w.heap.size + j, 0, none⟩ m c2 _ (by rw [hNl, hsz]) (row_cells hj) (by omega) (by omega)
        (growslice_fits (by omega) hbb)
      rw [Wd_drew, Wd_alloc, Wd_size] at hr
      have hge := grownCap_ge (Wd w l d) (n + m) c E
      refine ⟨_, _, _, hr, .inr ⟨l.length, grownCap (Wd w l d) (n + m) c E, X.take (n * sz) ++ Y.take (m * sz) ++ (Builtin.zeroCells z.cells (grownCap (Wd w l d) (n + m) c E - (n + m))).toList, E, hA _ (Nat.le_refl _), rfl, ?_, ?_, by omega, ?_⟩, by simp, fun p hp _ => List.getElem?_append_left hp, fun p c t f hp => ⟨c, app_some hp, rfl, fun _ _ => rfl⟩, fun e => absurd e (by omega)⟩
      · rw [List.getElem?_concat_length]
        congr 2
        apply Array.ext'; simp
      · have h3 : (X.take (n * sz)).length = n * sz := by simp; omega
        rw [List.length_append, List.length_append, hNl, h3, Array.length_toList, zeroCells_size, hzc, ← Nat.add_mul, ← Nat.add_mul]
        congr 1; omega
      · have h3 : (X.take (n * sz)).length = n * sz := by simp; omega
        rw [List.take_append_of_le_length (by rw [List.length_append, h3, hNl, Nat.add_mul]; omega), List.take_of_length_le (by rw [List.length_append, h3, hNl, Nat.add_mul]; omega)]
end Go.Own
namespace Go.Own
open Go Go.RowKit
structure FInvG (l : List Oper) (s0 : Nat) (WI : Bool → World → Prop) (T : Nat → Value → World → Prop) (a0 : Act) (done : Array Bool) (a : Act) (W : World) : Prop where
  world : WI (done.getD s0 false) W
  defers : a.defers = a0.defers
  size : a.tmps.size = a0.tmps.size
  fixed : ∀ s, (∀ i o, l[i]? = some o → done.getD i false = true → o.dst ≠ some s) → a.tmps.getD s undef = a0.tmps.getD s undef
  vals : ∀ i o s, l[i]? = some o → done.getD i false = true → o.dst = some s → T i (a.tmps.getD s undef) W
  closed : ∀ i o, l[i]? = some o → done.getD i false = true → ∀ e ∈ o.after, Region.binds .any e = true → done.getD e.on false = true
theorem getD_set_self {done : Array Bool} {i : Nat} (h : i < done.size) : (done.setIfInBounds i true).getD i false = true := by
  simp [Array.getD, h]
theorem any_fine_spec {P : Program} {Q : Exit → Act → World → Prop} {a0 : Act} {w0 : World} (hd tl : List Oper) {L : List Oper} (hL : L = hd ++ tl) (s0 : Nat) (hs0 : s0 < hd.length) (WI : Bool → World → Prop) (Rel : World → World → Prop) (T : Nat → Value → World → Prop) (hW0 : WI false { w0 with drawn := w0.drawn + 1 }) (hWB : ∀ b W W', WI b W → Below W.heap.size W W' → WI b W') (hlastS : ∀ i o v W W', hd[i]? = some o → waitsN (hd ++ tl) 5 o s0 = false → i ≠ s0 → T i v W → Rel W W' → T i v W') (hp : plainG hd a0.tmps.size = true)
    (hb0 : ((hd ++ tl).zipIdx.all fun (o, i) => o.after.all fun e => !Region.binds .any e || decide (e.on < i)) = true) (ht : tailB hd tl = true)
    (hlast : ∀ i v W W', T i v W → Below W.heap.size W W' → T i v W')
    (hguard : ∀ (i : Nat) (o : Oper) j b, hd[i]? = some o → o.guard = some (j, b) → ∀ v W, T j v W → v = .bool b)
    (hspec : ∀ o, hd[s0]? = some o → ∀ (a : Act) (W : World), WI false W → (∀ j oj s, hd[j]? = some oj → oj.dst = some s → waits o j = true → T j (a.tmps.getD s undef) W) → (∀ s, keepsB hd s0 s = true → a.tmps.getD s undef = a0.tmps.getD s undef) → ∀ Q, o.wp P a W (fun a' W' => ∃ v, a' = a.put o.dst v ∧ Rel W W' ∧ WI true W' ∧ T s0 v W') Q)
    (hstep : ∀ i o, hd[i]? = some o → i ≠ s0 → ∀ (a : Act) (W : World) (b : Bool), WI b W → (waitsN (hd ++ tl) 5 o s0 = true → b = true) → (∀ j oj s, hd[j]? = some oj → oj.dst = some s → waits o j = true → T j (a.tmps.getD s undef) W) → (∀ s, keepsB hd i s = true → a.tmps.getD s undef = a0.tmps.getD s undef) → Lays P T i o a W)
    (hend : ∀ (a : Act) (W : World), WI true W → a.defers = a0.defers → a.tmps.size = a0.tmps.size → (∀ s, (hd.all fun o => decide (o.dst ≠ some s)) = true → a.tmps.getD s undef = a0.tmps.getD s undef) → (∀ i o s, hd[i]? = some o → o.dst = some s → T i (a.tmps.getD s undef) W) → wpList P (hd ++ tl).toArray Q tl a W) :
    wpAny P .any L.toArray Q L.toArray.size (Array.replicate L.toArray.size false) a0 { w0 with drawn := w0.drawn + 1 } := by
  subst hL
  simp only [plainG, Bool.and_eq_true, decide_eq_true_eq] at hp
  obtain ⟨⟨hb, hg⟩, hn⟩ := hp
  have hg2 : ∀ (i : Nat) (o : Oper), hd[i]? = some o → (∃ s, o.dst = some s ∧ s < a0.tmps.size) ∧ ∀ j b, o.guard = some (j, b) → waits o j = true := fun i o ho => by
    have h1 := List.all_eq_true.1 hg o (List.mem_of_getElem? ho)
    simp only [Bool.and_eq_true, Option.any_eq_true, decide_eq_true_eq] at h1
    refine ⟨h1.1, fun j b hjb => ?_⟩
    have h2 := h1.2
    rw [hjb] at h2
    exact h2
  have hnd : ∀ (i j : Nat) (oi oj : Oper), hd[i]? = some oi → hd[j]? = some oj → oi.dst = oj.dst → i = j := fun i j oi oj h1 h2 e => by
    have hi := (List.getElem?_eq_some_iff.1 h1).1
    have hj := (List.getElem?_eq_some_iff.1 h2).1
    refine (List.getElem_inj (xs := hd.map fun o => o.dst) (h₀ := by simpa using hi) (h₁ := by simpa using hj) hn).1 ?_
    simp only [List.getElem_map]
    rw [(List.getElem?_eq_some_iff.1 h1).2, (List.getElem?_eq_some_iff.1 h2).2, e]
  have hhd : ∀ {i : Nat}, i < hd.length → (hd ++ tl)[i]? = hd[i]? := fun h => List.getElem?_append_left h
  have htl : ∀ {k : Nat} {o : Oper}, (hd ++ tl)[hd.length + k]? = some o → ∀ j, j < hd.length + k → waitsN (hd ++ tl) 5 o j = true := fun {k o} ho j hj => by
    rw [List.getElem?_append_right (by omega), Nat.add_sub_cancel_left] at ho
    have h1 := List.all_eq_true.1 ht (o, k) (by rw [List.mem_zipIdx_iff_getElem?]; simpa using ho)
    exact List.all_eq_true.1 h1 j (List.mem_range.2 hj)
  refine wpAny_of_inv2 (fun done a W => done.size = (hd ++ tl).length ∧ (∀ i o, (hd ++ tl)[i]? = some o → done.getD i false = true → ∀ e ∈ o.after, Region.binds .any e = true → done.getD e.on false = true) ∧
      (((∀ i, hd.length ≤ i → done.getD i false = false) ∧ FInvG hd s0 WI T a0 done a W) ∨
       ∃ m, (∀ i, i < hd.length + m → done.getD i false = true) ∧ (∀ i, hd.length + m ≤ i → done.getD i false = false) ∧ wpList P (hd ++ tl).toArray Q (tl.drop m) a W)) (by simpa using hb0) ?_ ?_ _ _ _ _ (by simp) ?_ ?_
  · rintro done a W i ⟨hds, hcl, hI⟩ hnd1 hdep hlt
    have hil : i < (hd ++ tl).length := by simpa using hlt
    have ho : (hd ++ tl)[i]? = some (hd ++ tl)[i] := List.getElem?_eq_getElem hil
    generalize hoi : (hd ++ tl)[i] = o at ho
    have hnf : done.getD i false = false := by
      cases h : done.getD i false with
      | false => rfl
      | true => rw [getD_both hnd1] at h; cases h
    have hdo := hdep o (by simpa using ho)
    have hcl' : ∀ j oj, (hd ++ tl)[j]? = some oj → (done.setIfInBounds i true).getD j false = true → ∀ e ∈ oj.after, Region.binds .any e = true → (done.setIfInBounds i true).getD e.on false = true := fun j oj hj hdj e he hbi => by
      rcases done_set hdj with h1 | h1
      · subst h1
        have : oj = o := Option.some.inj (hj.symm.trans ho)
        subst this
        have h2 := hdo e he hbi
        by_cases e2 : i = e.on
        · rw [← e2] at h2; rw [hnf] at h2; cases h2
        · rw [getD_set_ne false e2]; exact h2
      · have h2 := hcl j oj hj h1 e he hbi
        by_cases e2 : i = e.on
        · rw [← e2] at h2; rw [hnf] at h2; cases h2
        · rw [getD_set_ne false e2]; exact h2
    -- what the tail's operation waits for is done
    have hw2 : ∀ k, i = hd.length + k → ∀ j, j < i → done.getD j false = true := fun k hk j hj => by
      exact waitsN_done hcl 5 o j hdo (htl (k := k) (o := o) (by rw [← hk]; exact ho) j (by omega))
    have hseq : ∀ m, i = hd.length + m → (∀ j, j < i → done.getD j false = true) → (∀ j, i ≤ j → done.getD j false = false) → wpList P (hd ++ tl).toArray Q (tl.drop m) a W →
        wpOp P (hd ++ tl).toArray Q i (fun a' W' => (done.setIfInBounds i true).size = (hd ++ tl).length ∧ (∀ i_1 o, (hd ++ tl)[i_1]? = some o → (done.setIfInBounds i true).getD i_1 false = true → ∀ e ∈ o.after, Region.binds .any e = true → (done.setIfInBounds i true).getD e.on false = true) ∧
          (((∀ j, hd.length ≤ j → (done.setIfInBounds i true).getD j false = false) ∧ FInvG hd s0 WI T a0 (done.setIfInBounds i true) a' W') ∨
           ∃ m, (∀ j, j < hd.length + m → (done.setIfInBounds i true).getD j false = true) ∧ (∀ j, hd.length + m ≤ j → (done.setIfInBounds i true).getD j false = false) ∧ wpList P (hd ++ tl).toArray Q (tl.drop m) a' W')) a W := fun m hm1 hlow hhigh hl => by
      have hom : tl[m]? = some o := by
        have := ho
        rw [hm1, List.getElem?_append_right (by omega), Nat.add_sub_cancel_left] at this
        exact this
      have hml := (List.getElem?_eq_some_iff.1 hom).1
      rw [List.drop_eq_getElem_cons hml, (List.getElem?_eq_some_iff.1 hom).2] at hl
      have hK : ∀ a' W', wpList P (hd ++ tl).toArray Q (tl.drop (m + 1)) a' W' → ((done.setIfInBounds i true).size = (hd ++ tl).length ∧ (∀ i_1 o, (hd ++ tl)[i_1]? = some o → (done.setIfInBounds i true).getD i_1 false = true → ∀ e ∈ o.after, Region.binds .any e = true → (done.setIfInBounds i true).getD e.on false = true) ∧
          (((∀ j, hd.length ≤ j → (done.setIfInBounds i true).getD j false = false) ∧ FInvG hd s0 WI T a0 (done.setIfInBounds i true) a' W') ∨
           ∃ m, (∀ j, j < hd.length + m → (done.setIfInBounds i true).getD j false = true) ∧ (∀ j, hd.length + m ≤ j → (done.setIfInBounds i true).getD j false = false) ∧ wpList P (hd ++ tl).toArray Q (tl.drop m) a' W')) := fun a' W' h => by
        refine ⟨by simp [hds], hcl', .inr ⟨m + 1, fun j hj => ?_, fun j hj => ?_, h⟩⟩
        · by_cases e : i = j
          · subst e; simp [hds ▸ hil]
          · rw [getD_set_ne false e]; exact hlow j (by omega)
        · rw [getD_set_ne false (by omega)]; exact hhigh j (by omega)
      unfold wpOp
      have ho' : (hd ++ tl).toArray[i]? = some o := by simpa using ho
      rw [ho']
      simp only [wpList] at hl
      split at hl
      · rename_i hw
        simp only [hw, if_true]
        exact hl.imp (Oper.wp_mono hK) fun h => h
      · rename_i hw
        simp only [hw]
        exact hK _ _ hl
    rcases hI with ⟨hT0, hI⟩ | ⟨m, hlow, hhigh, hl⟩
    · by_cases hih : i < hd.length
      · rw [hhd hih] at ho
        obtain ⟨⟨s, hs, hsz⟩, hgw⟩ := hg2 i o ho
        have hvals : ∀ j oj s, hd[j]? = some oj → oj.dst = some s → waits o j = true → T j (a.tmps.getD s undef) W := fun j oj sj hj hsj hw => by
          obtain ⟨e, he, hbi, hon⟩ := waits_spec hw
          exact hI.vals j oj sj hj (hon ▸ hdo e he hbi) hsj
        have hfix : ∀ s', keepsB hd i s' = true → a.tmps.getD s' undef = a0.tmps.getD s' undef := fun s' hk => hI.fixed s' fun j oj hj hdj hds2 => by
          have h1 := List.all_eq_true.1 hk (oj, j) (by rw [List.mem_zipIdx_iff_getElem?]; simpa using hj)
          simp only [Bool.or_eq_true, decide_eq_true_eq] at h1
          rcases h1 with (h1 | h1) | h1
          · exact h1 hds2
          · subst h1; rw [hnf] at hdj; cases hdj
          · obtain ⟨e, he, hbi, hon⟩ := waits_spec h1
            have h2 := hI.closed j oj hj hdj e he hbi
            rw [hon, hnf] at h2; cases h2
        have hpost : ∀ (v : Value) (W' : World), WI ((done.setIfInBounds i true).getD s0 false) W' → T i v W' → (∀ j oj v', hd[j]? = some oj → done.getD j false = true → T j v' W → T j v' W') → ((done.setIfInBounds i true).size = (hd ++ tl).length ∧ (∀ i_1 o, (hd ++ tl)[i_1]? = some o → (done.setIfInBounds i true).getD i_1 false = true → ∀ e ∈ o.after, Region.binds .any e = true → (done.setIfInBounds i true).getD e.on false = true) ∧
          (((∀ j, hd.length ≤ j → (done.setIfInBounds i true).getD j false = false) ∧ FInvG hd s0 WI T a0 (done.setIfInBounds i true) (a.put o.dst v) W') ∨
           ∃ m, (∀ j, j < hd.length + m → (done.setIfInBounds i true).getD j false = true) ∧ (∀ j, hd.length + m ≤ j → (done.setIfInBounds i true).getD j false = false) ∧ wpList P (hd ++ tl).toArray Q (tl.drop m) (a.put o.dst v) W')) := by
          intro v W' hWI hTi hlasts
          refine ⟨by simp [hds], hcl', .inl ⟨fun j hj => by rw [getD_set_ne false (by omega)]; exact hT0 j hj, ?_⟩⟩
          have hput := fun k => put_at (a := a) (s := s) (v := v) (by rw [hI.size]; exact hsz) k
          rw [hs]
          refine ⟨hWI, hI.defers, ?_, fun k hk => ?_, fun j oj sj hj hdj hsj => ?_, fun j oj hj hdj e he hbi => ?_⟩
          · simp [Act.put, hI.size]
          · rw [hput k]
            have hne : k ≠ s := fun e => hk i o ho (by
              have hds : i < done.size := by omega
              simp [hds]) (by rw [e]; exact hs)
            rw [if_neg hne]
            exact hI.fixed k fun j oj hj hdj => hk j oj hj (by
              by_cases e : i = j
              · subst e; rw [hnf] at hdj; cases hdj
              · rw [getD_set_ne false e]; exact hdj)
          · rw [hput sj]
            rcases done_set hdj with h1 | h1
            · subst h1
              have : oj = o := Option.some.inj (hj.symm.trans ho)
              subst this
              rw [if_pos (Option.some.inj (hsj.symm.trans hs))]
              exact hTi
            · have hne : sj ≠ s := fun e => by
                have := hnd j i oj o hj ho (by rw [hsj, hs, e])
                subst this
                rw [hnf] at h1; cases h1
              rw [if_neg hne]
              exact hlasts _ _ _ hj h1 (hI.vals j oj sj hj h1 hsj)
          · exact hcl' j oj (by rw [hhd (List.getElem?_eq_some_iff.1 hj).1]; exact hj) hdj e he hbi
        refine wpOp_want o (by simpa [hhd hih] using ho) ?_ ?_
        · cases hgd : o.guard with
          | none => simp [Region.wanted, hgd]
          | some p =>
            obtain ⟨j, b⟩ := p
            have hw := hgw j b hgd
            obtain ⟨e, he, hbi, hon⟩ := waits_spec hw
            have hdj : done.getD j false = true := hon ▸ hdo e he hbi
            have hjl : j < hd.length := by
              rcases Nat.lt_or_ge j hd.length with h | h
              · exact h
              · rw [hT0 j h] at hdj; cases hdj
            have hoj : hd[j]? = some hd[j] := List.getElem?_eq_getElem hjl
            obtain ⟨⟨sj, hsj, hsjz⟩, _⟩ := hg2 j _ hoj
            have hT := hvals j _ sj hoj hsj hw
            have hv := hguard i o j b ho hgd _ _ hT
            have ht2 : a.tmps[sj]? = some (.bool b) := by
              have h3 : sj < a.tmps.size := by rw [hI.size]; exact hsjz
              rw [← hv]
              simp [Array.getD, h3]
            have hoj2 : (hd ++ tl)[j]? = some hd[j] := by rw [hhd hjl]; exact hoj
            simp [Region.wanted, hgd, yielded, hoj2, hsj, ht2]
        · by_cases his : i = s0
          · subst his
            have hw := hI.world
            rw [hnf] at hw
            refine Oper.wp_mono ?_ (hspec o ho a W hw hvals hfix _)
            rintro a' W' ⟨v, rfl, hR, hWt, hT⟩
            refine hpost v W' (by rw [getD_set_self (by omega)]; exact hWt) hT fun j oj v' hoj hj ht => hlastS j oj v' W W' hoj (by
              cases hwn : waitsN (hd ++ tl) 5 oj i with
              | false => rfl
              | true =>
                have h9 := waitsN_done hcl 5 oj i (fun e he hbi => hcl j oj (by rw [hhd (List.getElem?_eq_some_iff.1 hoj).1]; exact hoj) hj e he hbi) hwn
                rw [hnf] at h9; cases h9) (fun e => by subst e; rw [hnf] at hj; cases hj) ht hR
          · refine Oper.wp_mono ?_ (hstep i o ho his a W _ hI.world (fun hw => waitsN_done hcl 5 o s0 hdo hw) hvals hfix _)
            rintro a' W' ⟨v, rfl, hB, hT⟩
            exact hpost v W' (by rw [getD_set_ne false his]; exact hWB _ _ _ hI.world hB) hT fun j _ v' _ _ ht => hlast _ _ _ _ ht hB
      · obtain ⟨k, hk⟩ : ∃ k, i = hd.length + k := ⟨i - hd.length, by omega⟩
        have hlow := hw2 k hk
        have hk0 : k = 0 := by
          rcases Nat.eq_zero_or_pos k with h | h
          · exact h
          · have h1 := hlow hd.length (by omega)
            rw [hT0 _ (Nat.le_refl _)] at h1; cases h1
        subst hk0
        refine hseq 0 hk hlow (fun j hj => hT0 j (by omega)) ?_
        rw [List.drop_zero]
        exact hend a W (by have h9 := hI.world; rw [hlow s0 (by omega)] at h9; exact h9) hI.defers hI.size (fun s hs => hI.fixed s fun j o ho _ => by
          have := List.all_eq_true.1 hs o (List.mem_of_getElem? ho)
          simpa using this) (fun j o s ho hs => hI.vals j o s ho (hlow j (by have := (List.getElem?_eq_some_iff.1 ho).1; omega)) hs)
    · have him : i = hd.length + m := by
        rcases Nat.lt_trichotomy i (hd.length + m) with h | h | h
        · rw [hlow i h] at hnf; cases hnf
        · exact h
        · obtain ⟨k, hk⟩ : ∃ k, i = hd.length + k := ⟨i - hd.length, by omega⟩
          have h1 := hw2 k hk (hd.length + m) h
          rw [hhigh _ (Nat.le_refl _)] at h1; cases h1
      exact hseq m him (fun j hj => hlow j (by omega)) (fun j hj => hhigh j (by omega)) hl
  · rintro done a W ⟨hds, hcl, hI⟩ hall
    have hall' : ∀ i, i < (hd ++ tl).length → done.getD i false = true := fun i hi => hall i (by simpa using hi)
    rcases hI with ⟨hT0, hI⟩ | ⟨m, hlow, hhigh, hl⟩
    · have h0 : tl = [] := by
        cases tl with
        | nil => rfl
        | cons o r =>
          have h1 := hall' hd.length (by simp)
          rw [hT0 _ (Nat.le_refl _)] at h1; cases h1
      subst h0
      exact hend a W (by have h9 := hI.world; rw [hall' s0 (by simpa using hs0)] at h9; exact h9) hI.defers hI.size (fun s hs => hI.fixed s fun j o ho _ => by
          have := List.all_eq_true.1 hs o (List.mem_of_getElem? ho)
          simpa using this) (fun j o s ho hs => hI.vals j o s ho (hall' j (by have := (List.getElem?_eq_some_iff.1 ho).1; simp; omega)) hs)
    · have hml : tl.length ≤ m := by
        rcases Nat.lt_or_ge m tl.length with h | h
        · have h1 := hall' (hd.length + m) (by simp; omega)
          rw [hhigh _ (Nat.le_refl _)] at h1; cases h1
        · exact h
      rw [List.drop_of_length_le hml] at hl
      exact hl
  · have hc : ∀ (n m : Nat), ((List.range m).countP fun i => !(Array.replicate n false).getD i true) ≤ m := fun n m => by
      have := List.countP_le_length (l := List.range m) (p := fun i => !(Array.replicate n false).getD i true)
      simpa using this
    exact hc _ _
  · have hz : ∀ n j, (Array.replicate n false).getD j false ≠ true := fun n j h => by rw [getD_replicate_false] at h; cases h
    exact ⟨by simp, fun i o _ h => absurd h (hz _ _), .inl ⟨fun i _ => getD_replicate_false _ _, by rw [getD_replicate_false]; exact hW0, rfl, rfl, fun _ _ => rfl, fun i o s _ h => absurd h (hz _ _), fun i o _ h => absurd h (hz _ _)⟩⟩
theorem wp_region_fine_spec {P : Program} {id : Nat} {Q : Exit → Act → World → Prop} {a0 : Act} {w0 : World} {L : List Oper} (n s0 : Nat) (hs0 : s0 < (L.take n).length) (WI : Bool → World → Prop) (Rel : World → World → Prop) (T : Nat → Value → World → Prop) (hm : P.follows .mixedOrders = true) (hp : plainG (L.take n) a0.tmps.size = true)
    (hb0 : (L.zipIdx.all fun (o, i) => o.after.all fun e => !Region.binds .any e || decide (e.on < i)) = true) (ht : tailB (L.take n) (L.drop n) = true)
    (hW0 : WI false { w0 with drawn := w0.drawn + 1 }) (hWB : ∀ b W W', WI b W → Below W.heap.size W W' → WI b W') (hlastS : ∀ i o v W W', (L.take n)[i]? = some o → waitsN L 5 o s0 = false → i ≠ s0 → T i v W → Rel W W' → T i v W')
    (hlast : ∀ i v W W', T i v W → Below W.heap.size W W' → T i v W')
    (hguard : ∀ (i : Nat) (o : Oper) j b, (L.take n)[i]? = some o → o.guard = some (j, b) → ∀ v W, T j v W → v = .bool b)
    (hspec : ∀ o, (L.take n)[s0]? = some o → ∀ (a : Act) (W : World), WI false W → (∀ j oj s, (L.take n)[j]? = some oj → oj.dst = some s → waits o j = true → T j (a.tmps.getD s undef) W) → (∀ s, keepsB (L.take n) s0 s = true → a.tmps.getD s undef = a0.tmps.getD s undef) → ∀ Q, o.wp P a W (fun a' W' => ∃ v, a' = a.put o.dst v ∧ Rel W W' ∧ WI true W' ∧ T s0 v W') Q)
    (hstep : ∀ i o, (L.take n)[i]? = some o → i ≠ s0 → ∀ (a : Act) (W : World) (b : Bool), WI b W → (waitsN L 5 o s0 = true → b = true) → (∀ j oj s, (L.take n)[j]? = some oj → oj.dst = some s → waits o j = true → T j (a.tmps.getD s undef) W) → (∀ s, keepsB (L.take n) i s = true → a.tmps.getD s undef = a0.tmps.getD s undef) → Lays P T i o a W)
    (hend : ∀ (a : Act) (W : World), WI true W → a.defers = a0.defers → a.tmps.size = a0.tmps.size → (∀ s, ((L.take n).all fun o => decide (o.dst ≠ some s)) = true → a.tmps.getD s undef = a0.tmps.getD s undef) → (∀ i o s, (L.take n)[i]? = some o → o.dst = some s → T i (a.tmps.getD s undef) W) → wpList P L.toArray Q (L.drop n) a W) :
    (Code.region id L.toArray true).wp P Q a0 w0 :=
  wp_region_any hm (any_fine_spec (L.take n) (L.drop n) (List.take_append_drop n L).symm s0 hs0 WI Rel T hW0 hWB (by rw [List.take_append_drop]; exact hlastS) hp (by rw [List.take_append_drop]; exact hb0) ht hlast hguard hspec (by rw [List.take_append_drop]; exact hstep) (by rw [List.take_append_drop]; exact hend))
end Go.Own
namespace Go.Proofs.YtjgfljckmckhcaaDoor
open Go Go.RowKit Go.Own
structure Md where
  half : Nat
  texts : List (List Nat)
  taken : Nat
  gen : Nat
def Md.room (m : Md) : Int := min 65535 (((m.half : Int) - m.taken) * 64 - 50)
def Md.app (m : Md) (t : List Nat) : Md × Nat := if m.room < (t.length : Int) then (m, 6) else (⟨m.half, m.texts ++ [t], m.taken + secs t.length, max m.gen 1⟩, 0)
def mgo (half : Nat) : Nat → List (List Nat) → Option Nat
  | n, [] => some n
  | n, t :: l => if 65535 < t.length ∨ half < n + secs t.length then none else mgo half (n + secs t.length) l
def Md.anew (m : Md) (l : List (List Nat)) : Md × Nat := match mgo m.half 0 (someL l) with | none => (m, 6) | some n => (⟨m.half, someL l, n, m.gen + 1⟩, 0)
def Md.act (m : Md) (x : Ac) : Md × Nat := if x.New = true then m.anew (x.L.map bys) else m.app (bys x.S)
/-- The model and the journal say the same. -/
def Alike (J : Jn) (m : Md) : Prop := m.half = J.now.size ∧ m.texts = J.now.texts ∧ m.taken = J.now.used ∧ m.gen = J.now.gen
theorem mgo_lays : ∀ (l : List (List Nat)) (h : Hf), (mgo h.size h.used l = none → h.lays l = none) ∧ ∀ n, mgo h.size h.used l = some n → ∃ k ls, h.lays l = some (k, ls) ∧ k.used = n
  | [], h => ⟨fun e => by simp [mgo] at e, fun n e => by
    simp only [mgo, Option.some.injEq] at e
    exact ⟨h, [], rfl, e⟩⟩
  | t :: l, h => by
    have ih := mgo_lays l (h.with t)
    have hs : (h.with t).size = h.size := rfl
    have hu : (h.with t).used = h.used + secs t.length := rfl
    rw [hs, hu] at ih
    have hr : (65535 < t.length ∨ h.size < h.used + secs t.length) ↔ h.room < (t.length : Int) := by
      unfold Hf.room secs
      constructor
      · intro h'; omega
      · intro h'; omega
    by_cases hc : h.room < (t.length : Int)
    · refine ⟨fun _ => by rw [Hf.lays, if_pos hc], fun n e => ?_⟩
      rw [mgo, if_pos (hr.2 hc)] at e; cases e
    · have hc' : ¬ (65535 < t.length ∨ h.size < h.used + secs t.length) := fun h' => hc (hr.1 h')
      refine ⟨fun e => ?_, fun n e => ?_⟩
      · rw [mgo, if_neg hc'] at e
        rw [Hf.lays, if_neg hc, ih.1 e]
      · rw [mgo, if_neg hc'] at e
        obtain ⟨k, ls, h1, h2⟩ := ih.2 n e
        exact ⟨k, _, by rw [Hf.lays, if_neg hc, h1], h2⟩
/-- Act by act. -/
theorem alike_act {J : Jn} {M : Dk} {m : Md} (h : Inv J M) (hc : M.count = 0) (hg : J.now.gen ≤ 1000) (ha : Alike J m) (x : Ac) : ∃ J' M' c m', doJ J M x = (J', M', c) ∧ m.act x = (m', c) ∧ Inv J' M' ∧ M'.count = 0 ∧ M'.n = M.n ∧ J'.now.gen ≤ J.now.gen + 1 ∧ Alike J' m' := by
  obtain ⟨a1, a2, a3, a4⟩ := ha
  unfold doJ Md.act
  by_cases hx : x.New = true
  · rw [if_pos hx, if_pos hx]
    have hb := h.anew (x.L.map bys) (map_bys_B8 x.L) (by omega)
    have hm := mgo_lays (someL (x.L.map bys)) ⟨J.now.size - J.now.first, J.now.size, J.now.gen + 1, 0, []⟩
    unfold Md.anew
    rw [a1]
    cases hg2 : mgo J.now.size 0 (someL (x.L.map bys)) with
    | none => exact ⟨J, M, 6, m, hb.1 (hm.1 hg2), rfl, h, hc, rfl, by omega, a1, a2, a3, a4⟩
    | some n =>
      obtain ⟨k, ls, h1, h2⟩ := hm.2 n hg2
      obtain ⟨M', e, hi, hn, hc'⟩ := hb.2 k ls h1
      have ho := lays_ok _ _ _ _ h1
      exact ⟨_, M', 0, _, e, rfl, hi, hc', hn, by show k.gen ≤ _; rw [ho.gen]; exact Nat.le_refl _, ho.size.symm, ho.texts.symm, h2.symm, by show m.gen + 1 = k.gen; rw [ho.gen, a4]⟩
  · rw [if_neg hx, if_neg hx]
    have hb := h.append (bys x.S) (B8.bys x.S)
    have hrm : m.room = J.now.room := by unfold Md.room Hf.room; rw [a1, a3]
    unfold Md.app
    rw [hrm]
    by_cases hr : J.now.room < ((bys x.S).length : Int)
    · rw [if_pos hr]
      exact ⟨J, M, 6, m, hb.1 hr, rfl, h, hc, rfl, by omega, a1, a2, a3, a4⟩
    · rw [if_neg hr]
      obtain ⟨M', e, hi, hn, hc'⟩ := hb.2 hr
      exact ⟨_, M', 0, _, e, rfl, hi, hc', hn, by show max J.now.gen 1 ≤ _; omega, a1, by rw [a2]; rfl, by rw [a3]; rfl, by rw [a4]; rfl⟩
/-! ### in memory -/
def mc (h : Nat) (vt : Value) (tk g : Nat) : Array Value := #[.int .i64 (h : Int), vt, .int .i64 (tk : Int), .int .i64 (g : Int)]
theorem mc_size (h : Nat) (vt : Value) (tk g : Nat) : (mc h vt tk g).size = 4 := rfl
theorem ag34 : aggSize Tryd.prog 34 = some 4 := by kernel_rfl
theorem cs34 : Tryd.prog.cellsOf 34 = 4 := by kernel_rfl
theorem sz34 (w : World) : (sizeOf 34).run Tryd.prog w = .ok 4 w := by kernel_rfl
theorem z34 : zeroOf Tryd.prog 34 = .agg (mc 0 (.slice none 0 0) 0 0) := by kernel_rfl
theorem bu34a (n : Nat) (W : World) : (buN 34 #[(0, .int .i64 (n : Int))]).run Tryd.prog W = .ok (.agg (mc n (.slice none 0 0) 0 0)) W := by kernel_rfl
theorem bu34b (h tk g x c : Nat) (q : Option Addr) (W : World) : (buN 34 #[(0, .int .i64 (h : Int)), (1, .slice q x c), (2, .int .i64 (tk : Int)), (3, .int .i64 (g : Int))]).run Tryd.prog W = .ok (.agg (mc h (.slice q x c) tk g)) W := by kernel_rfl
theorem bu34c (h tk x c : Nat) (q : Option Addr) (W : World) : (buN 34 #[(0, .int .i64 (h : Int)), (1, .slice q x c), (2, .int .i64 (tk : Int)), (3, .int .i64 1)]).run Tryd.prog W = .ok (.agg (mc h (.slice q x c) tk 1)) W := by kernel_rfl
section
variable {P : Program} {T : TypeId} {b : Nat} {W : World} {vt vt' : Value} {h tk g h' tk' g' : Nat} {ty : TypeId} {f : Nat × Nat} {w : World} {l : List Obj} {d i : Nat}
theorem ldM0 (ha : (isAgg T).run P W = .ok false W) (h2 : blk W b = some (.cells (mc h vt tk g) ty f)) : ldX P T none (some (.cells (mc h vt tk g) ty f)) b 0 W = .ok (.int .i64 (h : Int)) W := ldX_mix1 ha h2 rfl
theorem ldM1 (ha : (isAgg T).run P W = .ok false W) (h2 : blk W b = some (.cells (mc h vt tk g) ty f)) : ldX P T none (some (.cells (mc h vt tk g) ty f)) b 1 W = .ok vt W := ldX_mix1 ha h2 rfl
theorem ldM2 (ha : (isAgg T).run P W = .ok false W) (h2 : blk W b = some (.cells (mc h vt tk g) ty f)) : ldX P T none (some (.cells (mc h vt tk g) ty f)) b 2 W = .ok (.int .i64 (tk : Int)) W := ldX_mix1 ha h2 rfl
theorem ldM3 (ha : (isAgg T).run P W = .ok false W) (h2 : blk W b = some (.cells (mc h vt tk g) ty f)) : ldX P T none (some (.cells (mc h vt tk g) ty f)) b 3 W = .ok (.int .i64 (g : Int)) W := ldX_mix1 ha h2 rfl
theorem ldMA (h1 : aggSize P T = some 4) (h2 : blk W b = some (.cells (mc h vt tk g) ty f)) : ldX P T (some 4) (some (.cells (mc h vt tk g) ty f)) b 0 W = .ok (.agg (mc h vt tk g)) W := by
  rw [ldX_mix h1 h2 (by rw [mc_size]; omega)]; rfl
theorem stMA (hv : vt'.oneCell' = true) (h1 : (sizeOf T).run P (Wd w l d) = .ok 4 (Wd w l d)) (h2 : l[i]? = some (.cells (mc h vt tk g) ty (0, 0))) :
    stX P T 4 (some (.cells (mc h vt tk g) ty (0, 0))) w l d i 0 (.agg (mc h' vt' tk' g')) = .ok () (Wd w (l.set i (.cells (mc h' vt' tk' g') ty (0, 0))) d) := by
  rw [stX_mix h1 h2 rfl (by rw [mc_size]; omega) (fun v hm => by
    simp [mc] at hm
    rcases hm with rfl | rfl | rfl | rfl <;> first | assumption | rfl)]
  rfl
end
theorem stMs {w : World} {l : List Obj} {d i : Nat} {vt : Value} {h tk g h' tk' g' x c : Nat} {q : Option Addr} {ty : TypeId} (h2 : l[i]? = some (.cells (mc h vt tk g) ty (0, 0))) :
    stX Tryd.prog 34 4 (some (.cells (mc h vt tk g) ty (0, 0))) w l d i 0 (.agg (mc h' (.slice q x c) tk' g')) = .ok () (Wd w (l.set i (.cells (mc h' (.slice q x c) tk' g') ty (0, 0))) d) := stMA rfl (sz34 _) h2
attribute [-go_sem] Sm.execOp_bs run_string_add_if
attribute [local go_sem] agj9 isaj9 csj9 szj9 agj32 isaj32 csj32 szj32 ag34 cs34 sz34 z34 alXA bu34a bu34b ldM0 ldM1 ldM2 ldM3 ldMA stMs
set_option maxRecDepth 100000 in
theorem rnew_any (m : Nat) (hm : m ≤ 1000000) (w : World) (l : List Obj) (d : Nat) :
    Calls Tryd.prog 10 #[.int .i64 (m : Int)] (Wd w l d) fun e w' => e = .returned (.agg (mc (m / 2) (.slice none 0 0) 0 0)) ∧ ∃ g' d', w' = Wd w (l ++ g') d' := by
  obtain ⟨S, hS⟩ : ∃ S, m / 2 = S := ⟨_, rfl⟩
  have hq : ((m : Int).tdiv 2) = (S : Int) := by
    have : (m : Int).tdiv 2 = ((m / 2 : Nat) : Int) := rfl
    rw [this, hS]
  have hSw : wrap64 (S : Int) = (S : Int) := IntWalk.wrap64_in _ (by omega)
  rw [hS]
  clear hS hm
  go_enter Tryd.func10, Tryd.ntmps10
  go_wp2
  exact ret_mix (i := l.length) (c := mc S (.slice none 0 0) 0 0) (t := 34) (f := (0, 0)) rfl rfl ag34 (by simp) rfl rfl ⟨rfl, _, _, rfl⟩
set_option maxRecDepth 100000 in
theorem rtakes_any (s : ByteArray) (hs : s.size ≤ 140737488351232) (w : World) : Calls Tryd.prog 45 #[.string s] w fun e w' => e = .returned (.int .i64 ((secs s.size : Nat) : Int)) ∧ w' = w := by
  obtain ⟨n, hn⟩ : ∃ n, s.size = n := ⟨_, rfl⟩
  rw [hn] at hs ⊢
  obtain ⟨S, hS⟩ : ∃ S, secs n = S := ⟨_, rfl⟩
  have hq : ((50 + (n : Int) + 63).tdiv 64) = (S : Int) := by
    have : (50 + (n : Int) + 63).tdiv 64 = (((50 + n + 63) / 64 : Nat) : Int) := rfl
    rw [this, ← hS]
    unfold secs
    congr 2; omega
  have hSb : S ≤ 140737488351232 := by rw [← hS]; unfold secs; omega
  have hSw : wrap64 (S : Int) = (S : Int) := IntWalk.wrap64_in _ (by omega)
  rw [hS]
  clear hS
  go_enter Tryd.func45, Tryd.ntmps45
  go_wp2
  go_ret
  exact ⟨rfl, rfl⟩
set_option maxRecDepth 100000 in
theorem rroom_any (h tk g : Nat) (vt : Value) (hh : h ≤ 100000) (ht : tk ≤ h) (w : World) (l : List Obj) (d : Nat) :
    Calls Tryd.prog 16 #[.agg (mc h vt tk g)] (Wd w l d) fun e w' => e = .returned (.int .i64 (min 65535 (((h : Int) - tk) * 64 - 50))) ∧ ∃ g' d', w' = Wd w (l ++ g') d' := by
  obtain ⟨r, hr⟩ : ∃ r, ((h : Int) - tk) * 64 - 50 = r := ⟨_, rfl⟩
  have hr2 : ((h : Int) - tk) * 64 = r + 50 := by omega
  obtain ⟨z, hz⟩ : ∃ z, min 65535 (((h : Int) - tk) * 64 - 50) = z := ⟨_, rfl⟩
  rw [hz]
  rw [hr] at hz
  by_cases hc : 65535 < r
  · have HZ : Hid ((65535 : Int) = z) := Lib.hid (by omega)
    clear hz
    go_enter Tryd.func16, Tryd.ntmps16
    go_wp2
    go_ret
    exact ⟨by rw [← HZ.out]; rfl, _, _, rfl⟩
  · have HZ : Hid (r = z) := Lib.hid (by omega)
    clear hz
    go_enter Tryd.func16, Tryd.ntmps16
    go_wp2
    go_ret
    exact ⟨by rw [← HZ.out]; rfl, _, _, rfl⟩
end Go.Proofs.YtjgfljckmckhcaaDoor

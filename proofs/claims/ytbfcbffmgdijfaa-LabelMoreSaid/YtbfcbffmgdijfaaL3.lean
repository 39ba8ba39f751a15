/- LabelMore's own walk. -/
import Derived.Test.YtbfcbffmgdijfaaA2
import Derived.Test.YtbfcbffmgdijfaaF1
import Derived.Test.YtbfcbffmgdijfaaP3
import Derived.Test.YtbfcbffmgdijfaaR2
namespace Go.Proofs.Ytbfcbffmgdijfaa
open Go.RowKit Go.Own
set_option maxRecDepth 100000 in
set_option maxHeartbeats 1000000 in
theorem more_skip (L : List P2) (p : Option Addr) (cap : Nat) (hL : L.length ≤ 9223372036854775807) (hs : ∀ x ∈ L, x.1.size ≤ 9223372036854775807 ∧ x.2.size ≤ 9223372036854775807) (k y v : ByteArray) (hk : k.size ≤ 9223372036854775807) (hy : y.size ≤ 9223372036854775807) (hv : v.size ≤ 9223372036854775807) (z : Int)
    (h : fewB L = false ∨ (fewB L = true ∧ 200 < k.size) ∨ (fewB L = true ∧ k.size ≤ 200 ∧ 200 < y.size) ∨ (fewB L = true ∧ k.size ≤ 200 ∧ y.size ≤ 200 ∧ 200 < v.size)) (w : World) (hP : PsC w (.slice p L.length cap) L) :
    Calls Try.prog 5 #[.slice p L.length cap, .agg #[.string k, .string y], .int .i64 z, .string v] w fun e w' => e = .returned (.bool true) ∧ Below w.heap.size w w' := by
  have HA := Lib.hid (fun W => awake_any W)
  have HF := Lib.hid (fun W (h : PsC W (.slice p L.length cap) L) => few_any L p cap hL hs W h)
  have HP := Lib.hid hP
  obtain ⟨n, hn⟩ : ∃ n, L.length = n := ⟨_, rfl⟩
  rw [hn] at hL HF HP ⊢
  clear hn hP hs
  rcases h with h | ⟨h, h1⟩ | ⟨h, h1, h2⟩ | ⟨h, h1, h2, h3⟩
  all_goals
    rw [h] at HF
    clear h
    try have d1 : decide ((200 : Int) < (k.size : Int)) = true := by simp; omega
    try have d1 : decide ((200 : Int) < (k.size : Int)) = false := by simp; omega
    try have d2 : decide ((200 : Int) < (y.size : Int)) = true := by simp; omega
    try have d2 : decide ((200 : Int) < (y.size : Int)) = false := by simp; omega
    try have d3 : decide ((200 : Int) < (v.size : Int)) = true := by simp; omega
    go_enter Try.func5, Try.ntmps5
    go_wp2_with fail
    refine (HA.out _).mono ?_
    rintro e w1 ⟨rfl, hb1⟩
    have HB1 : Hid (Below w.heap.size w w1) := Lib.hid (((Below.refl _ w).alloc (Nat.le_refl _) _).trans (hb1.mono (by simp)))
    have c0 : w1.cell? ⟨w.heap.size, 0, none⟩ = some (.string k) := by
      rw [hb1.cell (p := ⟨w.heap.size, 0, none⟩) (by simp)]
      exact cell_new _ _ _ _
    have c1 : w1.cell? ⟨w.heap.size, 1, none⟩ = some (.string y) := by
      rw [hb1.cell (p := ⟨w.heap.size, 1, none⟩) (by simp)]
      exact cell_new _ _ _ _
    clear hb1
    go_wp2_with fail
    refine (HF.out w1 (HP.out.below HB1.out)).mono ?_
    rintro e w2 ⟨rfl, rfl⟩
    go_wp2
    go_ret
    exact ⟨rfl, HB1.out⟩
theorem wpList_run {P : Program} {ops : Array Oper} {o : Oper} {rest : List Oper} {a : Act} {Q : Exit → Act → World → Prop} {w w' : World} {v : Value} (hg : o.guard = none) (hr : (execOp a.eval o).run P w = .ok (.value v) w') (hK : wpList P ops Q rest (a.put o.dst v) w') : wpList P ops Q (o :: rest) a w :=
  wpList_plain hg fun K hk => by
    unfold Oper.wp
    rw [hr]
    exact hk _ _ hK
theorem cellsP_set (L : List P2) (i : Nat) (y : P2) (v : ByteArray) (h : L[i]? = some y) : cellsP (L.set i (y.1, v)) = (cellsP L).set (i * 2 + 1) (.string v) := by
  induction L generalizing i with
  | nil => simp at h
  | cons x L ih =>
    have e : ∀ (z : P2) M, cellsP (z :: M) = .string z.1 :: .string z.2 :: cellsP M := fun z M => by simp [cellsP]
    cases i with
    | zero =>
      simp at h
      subst h
      rw [List.set_cons_zero, e, e]; rfl
    | succ i =>
      rw [List.set_cons_succ, e, e, ih i (by simpa using h), show (i + 1) * 2 + 1 = (i * 2 + 1) + 1 + 1 by omega]; rfl
/-- A value changed in a row of the call's own. -/
theorem set_ps {W : World} {B : Nat} {v0 : Value} {L : List P2} (hown : OwnP W B v0 L) {i : Nat} {y : P2} (hy : L[i]? = some y) (v : ByteArray) :
    ∃ g c, v0 = .slice (some ⟨g, 0, none⟩) L.length c ∧ B ≤ g ∧ (∃ u, W.cell? ⟨g, i * 2 + 1, none⟩ = some u) ∧ W.frozen? ⟨g, i * 2 + 1, none⟩ = false ∧ PsC (W.setCell ⟨g, i * 2 + 1, none⟩ (.string v)) (.slice (some ⟨g, 0, none⟩) L.length c) (L.set i (y.1, v)) := by
  have hi := (List.getElem?_eq_some_iff.1 hy).1
  rcases hown.2 with ⟨rfl, h2⟩ | ⟨g, c, cur, rfl, hB, hg, hc, _⟩
  · omega
  · have hadd : ∀ j, (⟨g, 0, none⟩ : Addr).add j = ⟨g, j, none⟩ := fun j => by unfold Addr.add; split <;> simp_all
    have hcell : ∀ j u, (cellsP L)[j]? = some u → W.cell? ⟨g, j, none⟩ = some u := fun j u hu => by
      have := hown.cells (g := g) rfl j u hu
      rwa [hadd] at this
    have h1 := hcell _ _ (cellsP_at L i y hy).2
    refine ⟨g, c, rfl, hB, ⟨_, h1⟩, by simp [World.frozen?, hg], ⟨_, c, by rw [List.length_set], by rw [List.length_set]; exact hc, fun j u hu => ⟨g, 0, rfl, ?_⟩⟩⟩
    rw [cellsP_set L i y v hy, List.getElem?_set] at hu
    rw [Nat.zero_add]
    by_cases e : i * 2 + 1 = j
    · subst e
      rw [if_pos rfl] at hu
      split at hu
      · rw [← Option.some.inj hu]
        exact World.cell?_setCell_same W _ _ h1
      · cases hu
    · rw [if_neg e] at hu
      rw [World.cell?_setCell_other W _ ⟨g, j, none⟩ _ (fun h => e (by injection h))]
      exact hcell j u hu
/-- What each operation of 'more' makes. -/
def TM (L : List P2) (x : P2) (B : Nat) (s0 : Value) : Nat → Value → World → Prop
  | 0, v, W => Empty0 W B v
  | 1, v, _ => v = s0
  | 2, v, W => OwnP W B v L
  | 3, v, _ => v = .agg #[.string x.1, .string x.2]
  | 4, v, W => PsC W v [x]
  | 5, v, W => OwnP W B v (L ++ [x])
  | 6, v, W => OwnP W B v (L ++ [x])
  | _, _, _ => True
theorem TM.below {L : List P2} {x : P2} {B : Nat} {s0 : Value} {W W' : World} (hb : Below W.heap.size W W') : ∀ (j : Nat) v, TM L x B s0 j v W → TM L x B s0 j v W'
  | 0, _, h => Empty0.below h hb
  | 1, _, h => h
  | 2, _, h => OwnP.below h hb
  | 3, _, h => h
  | 4, _, h => PsC.below h hb
  | 5, _, h => OwnP.below h hb
  | 6, _, h => OwnP.below h hb
  | _ + 7, _, _ => trivial
set_option maxRecDepth 100000 in
set_option maxHeartbeats 12000000 in
theorem more_few (L : List P2) (p : Option Addr) (cap : Nat) (hf : fewB L = true) (k y v : ByteArray) (hk : k.size ≤ 200) (hy : y.size ≤ 200) (hv : v.size ≤ 200) (z : Int) (w : World) (hP : PsC w (.slice p L.length cap) L) :
    Calls Try.prog 5 #[.slice p L.length cap, .agg #[.string k, .string y], .int .i64 z, .string v] w fun e w' => e = .returned (.bool true) ∧ Below w.heap.size w w' := by
  obtain ⟨hL, hsL⟩ := (fewB_iff L).1 hf
  have hF := fun W (h : PsC W (.slice p L.length cap) L) => few_any L p cap (by omega) (fun x hx => by have := hsL x hx; omega) W h
  rw [hf] at hF
  have HF := Lib.hid hF
  have HA := Lib.hid (fun W => awake_any W)
  have HP := Lib.hid hP
  obtain ⟨n, hn⟩ : ∃ n, L.length = n := ⟨_, rfl⟩
  have HN := Lib.hid hn
  have HS := Lib.hid hsL
  rw [hn] at hL HF HP ⊢
  clear hn hP hsL hF hf
  have d1 : decide ((200 : Int) < (k.size : Int)) = false := by simp; omega
  have d2 : decide ((200 : Int) < (y.size : Int)) = false := by simp; omega
  have d3 : decide ((200 : Int) < (v.size : Int)) = false := by simp; omega
  go_enter Try.func5, Try.ntmps5
  go_wp2_with fail
  refine (HA.out _).mono ?_
  rintro e w1 ⟨rfl, hb1⟩
  have HB1 : Hid (Below w.heap.size w w1) := Lib.hid (((Below.refl _ w).alloc (Nat.le_refl _) _).trans (hb1.mono (by simp)))
  have c0 : w1.cell? ⟨w.heap.size, 0, none⟩ = some (.string k) := by
    rw [hb1.cell (p := ⟨w.heap.size, 0, none⟩) (by simp)]
    exact cell_new _ _ _ _
  have c1 : w1.cell? ⟨w.heap.size, 1, none⟩ = some (.string y) := by
    rw [hb1.cell (p := ⟨w.heap.size, 1, none⟩) (by simp)]
    exact cell_new _ _ _ _
  clear hb1
  go_wp2_with fail
  have HP1 := Lib.hid (HP.out.below HB1.out)
  refine (HF.out w1 HP1.out).mono ?_
  rintro e w2 ⟨rfl, rfl⟩
  go_wp2
  rename_i Q' K hK
  refine wp_region_stable (TM L (k, y) w1.heap.size (.slice p n cap)) (by kernel_rfl) (by kernel_rfl) ?_ ?_
  · intro i o ho a W hB hdep hfix
    have hBs := hB.size
    have hst : ∀ W', Below W.heap.size W W' → Below w1.heap.size w1 W' := fun W' h => hB.trans (h.mono hBs)
    match i, ho with
    | 0, ho =>
      simp only [List.getElem?_cons_zero, Option.some.injEq] at ho
      subst ho
      have hb : Below W.heap.size W (W.alloc (.cells #[] 39)) := (Below.refl _ _).alloc (Nat.le_refl _) _
      exact ⟨_, _, exec_empty, hst _ hb, ⟨_, rfl, hBs, heap_alloc_new W _⟩, fun j v' _ h => TM.below hb j v' h⟩
    | 1, ho =>
      simp only [List.getElem?_cons_zero, List.getElem?_cons_succ, Option.some.injEq] at ho
      subst ho
      exact ⟨_, _, exec_move rfl, hB, (hfix 0 (by decide +kernel)).trans rfl, fun j v' _ h => h⟩
    | 2, ho =>
      simp only [List.getElem?_cons_zero, List.getElem?_cons_succ, Option.some.injEq] at ho
      subst ho
      obtain ⟨g, e0, hg, hgb⟩ := hdep 0 _ 33 rfl rfl (by decide +kernel)
      have e1 : a.tmps.getD 34 undef = .slice p n cap := hdep 1 _ 34 rfl rfl (by decide +kernel)
      obtain ⟨v', W', hr, ho', hb⟩ := app_fresh hg hgb (HP1.out.below hB) (by omega) hBs 22
      exact ⟨_, _, exec_append e0 e1 hr, hst _ hb, ho', fun j v' _ h => TM.below hb j v' h⟩
    | 3, ho =>
      simp only [List.getElem?_cons_zero, List.getElem?_cons_succ, Option.some.injEq] at ho
      subst ho
      have e5 : a.tmps.getD 5 undef = .pointer (some ⟨w.heap.size, 0, none⟩) := (hfix 5 (by decide +kernel)).trans rfl
      have g0 : W.cell? ⟨w.heap.size, 0, none⟩ = some (.string k) := by rw [hB.cell (p := ⟨w.heap.size, 0, none⟩) (World.block_lt_of_cell? w1 _ c0)]; exact c0
      have g1 : W.cell? ⟨w.heap.size, 0 + 1, none⟩ = some (.string y) := by rw [hB.cell (p := ⟨w.heap.size, 0 + 1, none⟩) (World.block_lt_of_cell? w1 _ c1)]; exact c1
      exact ⟨_, _, exec_load e5 (ld_pair W (by kernel_rfl) (by kernel_rfl) g0 g1), hB, rfl, fun j v' _ h => h⟩
    | 4, ho =>
      simp only [List.getElem?_cons_zero, List.getElem?_cons_succ, Option.some.injEq] at ho
      subst ho
      have e3 : a.tmps.getD 36 undef = .agg #[.string k, .string y] := hdep 3 _ 36 rfl rfl (by decide +kernel)
      have hb : Below W.heap.size W (W.alloc (.cells #[.string k, .string y] 39)) := (Below.refl _ _).alloc (Nat.le_refl _) _
      exact ⟨_, _, exec_one e3, hst _ hb, ps_one W (k, y), fun j v' _ h => TM.below hb j v' h⟩
    | 5, ho =>
      simp only [List.getElem?_cons_zero, List.getElem?_cons_succ, Option.some.injEq] at ho
      subst ho
      have e2 : OwnP W w1.heap.size (a.tmps.getD 35 undef) L := hdep 2 _ 35 rfl rfl (by decide +kernel)
      have e4 : PsC W (a.tmps.getD 37 undef) [(k, y)] := hdep 4 _ 37 rfl rfl (by decide +kernel)
      obtain ⟨p4, c4, h4, _⟩ := id e4
      rw [h4] at e4
      obtain ⟨v', W', hr, ho', hg⟩ := app_own e2 e4 (by rw [HN.out]; simp; omega) hBs 22
      refine ⟨_, _, exec_append rfl h4 hr, hB.grown hg hBs (fun j hj => (e2.lt j hj).1), ho', fun j v' hl h => ?_⟩
      match j, hl, h with
      | 0, hl, _ => exact absurd hl (by decide +kernel)
      | 1, hl, _ => exact absurd hl (by decide +kernel)
      | 2, hl, _ => exact absurd hl (by decide +kernel)
      | 3, hl, _ => exact absurd hl (by decide +kernel)
      | 4, hl, _ => exact absurd hl (by decide +kernel)
      | 5, hl, _ => exact absurd hl (by decide +kernel)
      | 6, hl, _ => exact absurd hl (by decide +kernel)
      | _ + 7, _, _ => trivial
    | 6, ho =>
      simp only [List.getElem?_cons_zero, List.getElem?_cons_succ, Option.some.injEq] at ho
      subst ho
      have e5 : OwnP W w1.heap.size (a.tmps.getD 38 undef) (L ++ [(k, y)]) := hdep 5 _ 38 rfl rfl (by decide +kernel)
      exact ⟨_, _, exec_assign rfl, hB, e5, fun j v' _ h => h⟩
    | i + 7, ho => simp at ho
  · intro a W hB hd hsz hfix hT
    have h9 : OwnP W w1.heap.size (a.tmps.getD 9 undef) (L ++ [(k, y)]) := hT 6 _ 9 rfl rfl (by decide +kernel)
    have h0 : a.tmps.getD 0 undef = .slice p n cap := (hfix 0 (by decide +kernel)).trans rfl
    have h2 : a.tmps.getD 2 undef = .int .i64 z := (hfix 2 (by decide +kernel)).trans rfl
    have h3 : a.tmps.getD 3 undef = .string v := (hfix 3 (by decide +kernel)).trans rfl
    rw [frame_lit a 105 hsz hd]
    clear hfix hT hsz hd
    simp only [List.range, List.range.loop, List.map]
    generalize a.tmps = t at *
    rw [h0, h2, h3]
    generalize t.getD 9 undef = v9 at *
    refine hK _ _ ?_
    obtain ⟨mf1, mf2⟩ := more_facts L (k, y)
    obtain ⟨p9, c9, rfl⟩ := h9.shape
    have hml : (L ++ [(k, y)]).length = n + 1 := by rw [List.length_append, HN.out]; rfl
    have hPM := h9.ps
    rw [hml] at hPM ⊢
    have HPM := Lib.hid hPM
    have HPL := Lib.hid (HP1.out.below hB)
    have HBW : Hid (Below w.heap.size w W) := Lib.hid (HB1.out.trans (hB.mono HB1.out.size))
    have hsL6 : ∀ u ∈ L, u.1.size ≤ 1000000 ∧ u.2.size ≤ 1000000 := fun u hu => by have := HS.out u hu; omega
    have hsM6 : ∀ u ∈ L ++ [(k, y)], u.1.size ≤ 1000000 ∧ u.2.size ≤ 1000000 := fun u hu => by
      rcases List.mem_append.1 hu with h | h
      · exact hsL6 u h
      · rw [List.mem_singleton.1 h]; exact ⟨by simp only; omega, by simp only; omega⟩
    have HMM := Lib.hid (fun W (h : PsC W (.slice p9 (n + 1) c9) (L ++ [(k, y)])) => equal_any (L ++ [(k, y)]) p9 c9 (by omega) hsM6 (L ++ [(k, y)]) p9 c9 (by omega) hsM6 W (by rw [hml]; exact h) (by rw [hml]; exact h))
    have HLM := Lib.hid (fun W (g : PsC W (.slice p n cap) L) (h : PsC W (.slice p9 (n + 1) c9) (L ++ [(k, y)])) => subset_any L p cap (by rw [HN.out]; omega) hsL6 (L ++ [(k, y)]) p9 c9 (by omega) hsM6 W (by rw [HN.out]; exact g) (by rw [hml]; exact h))
    have HML := Lib.hid (fun W (g : PsC W (.slice p n cap) L) (h : PsC W (.slice p9 (n + 1) c9) (L ++ [(k, y)])) => subset_any (L ++ [(k, y)]) p9 c9 (by omega) hsM6 L p cap (by rw [HN.out]; omega) hsL6 W (by rw [hml]; exact h) (by rw [HN.out]; exact g))
    have HELM := Lib.hid (fun W (g : PsC W (.slice p n cap) L) (h : PsC W (.slice p9 (n + 1) c9) (L ++ [(k, y)])) => equal_any L p cap (by rw [HN.out]; omega) hsL6 (L ++ [(k, y)]) p9 c9 (by omega) hsM6 W (by rw [HN.out]; exact g) (by rw [hml]; exact h))
    have HLL := Lib.hid (fun W (g : PsC W (.slice p n cap) L) => equal_any L p cap (by rw [HN.out]; omega) hsL6 L p cap (by rw [HN.out]; omega) hsL6 W (by rw [HN.out]; exact g) (by rw [HN.out]; exact g))
    rw [hml, mf1] at HMM
    rw [hml, HN.out] at HLM HML HELM
    rw [HN.out, eqB_self] at HLL
    have HS6 := Lib.hid hsL6
    clear mf1 hml h9 hPM hsL6 hsM6 hB h0 h2 h3 HB1 HP1 HA HF c0 c1 d1 d2 d3
    -- where the changed place stands
    have hzc : z < 0 ∨ (n : Int) ≤ z ∨ (∃ i : Nat, z = (i : Int) ∧ i < n ∧ rightP L = false) ∨ (∃ (i : Nat) (u : P2), z = (i : Int) ∧ i < n ∧ rightP L = true ∧ L[i]? = some u ∧ u.2 = v) ∨
        (∃ (i : Nat) (u : P2), z = (i : Int) ∧ i < n ∧ rightP L = true ∧ L[i]? = some u ∧ u.2 ≠ v ∧
          (∀ q' g c W, PsC W (.slice q' n cap) L → PsC W (.slice (some ⟨g, 0, none⟩) n c) (L.set i (u.1, v)) → Calls Try.prog 17 #[.slice q' n cap, .slice (some ⟨g, 0, none⟩) n c] W fun e w' => e = .returned (.bool false) ∧ Below W.heap.size W w') ∧
          (∀ q' g c W, PsC W (.slice q' n cap) L → PsC W (.slice (some ⟨g, 0, none⟩) n c) (L.set i (u.1, v)) → Calls Try.prog 17 #[.slice (some ⟨g, 0, none⟩) n c, .slice q' n cap] W fun e w' => e = .returned (.bool false) ∧ Below W.heap.size W w') ∧
          (∀ q' g c W, PsC W (.slice q' n cap) L → PsC W (.slice (some ⟨g, 0, none⟩) n c) (L.set i (u.1, v)) → Calls Try.prog 19 #[.slice q' n cap, .slice (some ⟨g, 0, none⟩) n c] W fun e w' => e = .returned (.bool false) ∧ Below W.heap.size W w')) := by
      by_cases h1 : z < 0
      · exact Or.inl h1
      by_cases h2 : (n : Int) ≤ z
      · exact Or.inr (Or.inl h2)
      obtain ⟨i, rfl⟩ := Int.eq_ofNat_of_zero_le (show 0 ≤ z by omega)
      have hin : i < n := by omega
      cases hrL : rightP L with
      | false => exact Or.inr (Or.inr (Or.inl ⟨i, rfl, hin, rfl⟩))
      | true =>
        obtain ⟨u, hu⟩ : ∃ u, L[i]? = some u := ⟨_, List.getElem?_eq_getElem (by rw [HN.out]; exact hin)⟩
        by_cases huv : u.2 = v
        · exact Or.inr (Or.inr (Or.inr (Or.inl ⟨i, u, rfl, hin, rfl, hu, huv⟩)))
        · obtain ⟨s1, s2, s3⟩ := set_facts hu huv hrL
          have hOl : (L.set i (u.1, v)).length = n := by rw [List.length_set]; exact HN.out
          have hsO : ∀ t ∈ L.set i (u.1, v), t.1.size ≤ 1000000 ∧ t.2.size ≤ 1000000 := fun t ht => by
            rcases List.mem_or_eq_of_mem_set ht with h | h
            · exact HS6.out t h
            · rw [h]; exact ⟨(HS6.out u (List.mem_of_getElem? hu)).1, by simp only; omega⟩
          refine Or.inr (Or.inr (Or.inr (Or.inr ⟨i, u, rfl, hin, rfl, hu, huv, fun q' g c W h1 h2 => ?_, fun q' g c W h1 h2 => ?_, fun q' g c W h1 h2 => ?_⟩)))
          · have := subset_any L q' cap (by rw [HN.out]; omega) HS6.out (L.set i (u.1, v)) (some ⟨g, 0, none⟩) c (by omega) hsO W (by rw [HN.out]; exact h1) (by rw [hOl]; exact h2)
            rwa [s1, HN.out, hOl] at this
          · have := subset_any (L.set i (u.1, v)) (some ⟨g, 0, none⟩) c (by omega) hsO L q' cap (by rw [HN.out]; omega) HS6.out W (by rw [hOl]; exact h2) (by rw [HN.out]; exact h1)
            rwa [s2, HN.out, hOl] at this
          · have := equal_any L q' cap (by rw [HN.out]; omega) HS6.out (L.set i (u.1, v)) (some ⟨g, 0, none⟩) c (by omega) hsO W (by rw [HN.out]; exact h1) (by rw [hOl]; exact h2)
            rwa [s3, HN.out, hOl] at this
    cases hrM : rightP (L ++ [(k, y)]) with
    | false =>
      rw [hrM] at HMM
      clear hrM mf2 HLM HML HELM
      go_wp2_with fail
      refine (HMM.out W HPM.out).mono ?_
      rintro e W2 ⟨rfl, hb2⟩
      have HPL2 := Lib.hid (HPL.out.below hb2)
      have HB2 := Lib.hid (HBW.out.trans (hb2.mono HBW.out.size))
      clear hb2 HMM HPL HBW HPM
      rcases hzc with hz | hz | ⟨i, rfl, hin, hrL⟩ | ⟨i, u, rfl, hin, hrL, hu, huv⟩ | ⟨i, u, rfl, hin, hrL, hu, huv, hq1, hq2, hq3⟩
      · go_wp2
        go_ret
        exact ⟨rfl, HB2.out⟩
      · have hz2 : ¬ z < 0 := by omega
        go_wp2
        go_ret
        exact ⟨rfl, HB2.out⟩
      · rw [hrL] at HLL
        clear hrL
        go_wp2_with fail
        refine (HLL.out W2 HPL2.out).mono ?_
        rintro e V2 ⟨rfl, hc2⟩
        have HC2 := Lib.hid (HB2.out.trans (hc2.mono HB2.out.size))
        clear hc2
        go_wp2
        go_ret
        exact ⟨rfl, HC2.out⟩
      · rw [hrL] at HLL
        clear hrL
        go_wp2_with fail
        refine (HLL.out W2 HPL2.out).mono ?_
        rintro e V2 ⟨rfl, hc2⟩
        have HC2 := Lib.hid (HB2.out.trans (hc2.mono HB2.out.size))
        obtain ⟨b, o, rfl, g0, g1⟩ := (HPL2.out.below hc2).at hu
        rw [huv] at g1
        clear hc2 hu huv g0
        go_wp2
        go_ret
        exact ⟨rfl, HC2.out⟩
      · rw [hrL] at HLL
        clear hrL
        go_wp2_with fail
        refine (HLL.out W2 HPL2.out).mono ?_
        rintro e V2 ⟨rfl, hc2⟩
        have HC2 := Lib.hid (HB2.out.trans (hc2.mono HB2.out.size))
        have HPC2 := Lib.hid (HPL2.out.below hc2)
        obtain ⟨b, o, rfl, g0, g1⟩ := HPC2.out.at hu
        have hsq := str_ff huv
        obtain ⟨v5, W5, hr5, ho5, hb5⟩ := app_fresh (W := V2.alloc (.cells #[] 39)) (B := V2.heap.size) (Nat.le_refl _) (heap_alloc_new V2 _) (HPC2.out.below ((Below.refl _ _).alloc (Nat.le_refl _) _)) (by omega) (by simp) 22
        obtain ⟨g5, c5, rfl, hgB, ⟨u5, hu5⟩, hf5, hps5⟩ := set_ps ho5 hu v
        rw [HN.out] at hps5 hr5
        have HR5 := Lib.hid hr5
        have HPS5 := Lib.hid hps5
        have hbV : Below V2.heap.size V2 W5 := ((Below.refl V2.heap.size V2).alloc (Nat.le_refl _) _).trans (hb5.mono (by simp))
        have HBV : Hid (Below V2.heap.size V2 (W5.setCell ⟨g5, i * 2 + 1, none⟩ (.string v))) := Lib.hid (hbV.setCell hgB _)
        clear hc2 hu huv g0 hr5 hps5 ho5 hb5 hbV
        go_wp2_with (at_builtin; refine wpList_run rfl (exec_append rfl rfl HR5.out) ?_)
        go_wp2_with fail
        have HPC5 := Lib.hid (HPC2.out.below HBV.out)
        have HC5 := Lib.hid (HC2.out.trans (HBV.out.mono HC2.out.size))
        refine (hq1 _ g5 c5 _ HPC5.out HPS5.out).mono ?_
        rintro e V6 ⟨rfl, hc6⟩
        have HPC6 := Lib.hid (HPC5.out.below hc6)
        have HPS6 := Lib.hid (HPS5.out.below hc6)
        have HC6 := Lib.hid (HC5.out.trans (hc6.mono HC5.out.size))
        clear hc6
        go_wp2_with fail
        refine (hq2 _ g5 c5 _ HPC6.out HPS6.out).mono ?_
        rintro e V7 ⟨rfl, hc7⟩
        have HPC7 := Lib.hid (HPC6.out.below hc7)
        have HPS7 := Lib.hid (HPS6.out.below hc7)
        have HC7 := Lib.hid (HC6.out.trans (hc7.mono HC6.out.size))
        clear hc7
        go_wp2_with fail
        refine (hq3 _ g5 c5 _ HPC7.out HPS7.out).mono ?_
        rintro e V8 ⟨rfl, hc8⟩
        have HC8 := Lib.hid (HC7.out.trans (hc8.mono HC7.out.size))
        clear hc8
        go_wp2
        go_ret
        exact ⟨rfl, HC8.out⟩
    | true =>
      obtain ⟨q1, q2, q3⟩ := mf2 hrM
      rw [hrM] at HMM
      rw [q1] at HLM
      rw [q2] at HML
      rw [q3] at HELM
      clear hrM mf2 q1 q2 q3
      go_wp2_with fail
      refine (HMM.out W HPM.out).mono ?_
      rintro e W2 ⟨rfl, hb2⟩
      have HPL2 := Lib.hid (HPL.out.below hb2)
      have HPM2 := Lib.hid (HPM.out.below hb2)
      have HB2 := Lib.hid (HBW.out.trans (hb2.mono HBW.out.size))
      clear hb2 HMM HPL HBW HPM
      go_wp2_with fail
      refine (HLM.out W2 HPL2.out HPM2.out).mono ?_
      rintro e W3 ⟨rfl, hb3⟩
      have HPL3 := Lib.hid (HPL2.out.below hb3)
      have HPM3 := Lib.hid (HPM2.out.below hb3)
      have HB3 := Lib.hid (HB2.out.trans (hb3.mono HB2.out.size))
      clear hb3
      go_wp2_with fail
      refine (HML.out W3 HPL3.out HPM3.out).mono ?_
      rintro e W4 ⟨rfl, hb4⟩
      have HPL4 := Lib.hid (HPL3.out.below hb4)
      have HPM4 := Lib.hid (HPM3.out.below hb4)
      have HB4 := Lib.hid (HB3.out.trans (hb4.mono HB3.out.size))
      clear hb4
      go_wp2_with fail
      refine (HELM.out W4 HPL4.out HPM4.out).mono ?_
      rintro e W5 ⟨rfl, hb5⟩
      have HPL5 := Lib.hid (HPL4.out.below hb5)
      have HB5 := Lib.hid (HB4.out.trans (hb5.mono HB4.out.size))
      clear hb5
      rcases hzc with hz | hz | ⟨i, rfl, hin, hrL⟩ | ⟨i, u, rfl, hin, hrL, hu, huv⟩ | ⟨i, u, rfl, hin, hrL, hu, huv, hq1, hq2, hq3⟩
      · go_wp2
        go_ret
        exact ⟨rfl, HB5.out⟩
      · have hz2 : ¬ z < 0 := by omega
        go_wp2
        go_ret
        exact ⟨rfl, HB5.out⟩
      · rw [hrL] at HLL
        clear hrL
        go_wp2_with fail
        refine (HLL.out W5 HPL5.out).mono ?_
        rintro e V2 ⟨rfl, hc2⟩
        have HC2 := Lib.hid (HB5.out.trans (hc2.mono HB5.out.size))
        clear hc2
        go_wp2
        go_ret
        exact ⟨rfl, HC2.out⟩
      · rw [hrL] at HLL
        clear hrL
        go_wp2_with fail
        refine (HLL.out W5 HPL5.out).mono ?_
        rintro e V2 ⟨rfl, hc2⟩
        have HC2 := Lib.hid (HB5.out.trans (hc2.mono HB5.out.size))
        obtain ⟨b, o, rfl, g0, g1⟩ := (HPL5.out.below hc2).at hu
        rw [huv] at g1
        clear hc2 hu huv g0
        go_wp2
        go_ret
        exact ⟨rfl, HC2.out⟩
      · rw [hrL] at HLL
        clear hrL
        go_wp2_with fail
        refine (HLL.out W5 HPL5.out).mono ?_
        rintro e V2 ⟨rfl, hc2⟩
        have HC2 := Lib.hid (HB5.out.trans (hc2.mono HB5.out.size))
        have HPC2 := Lib.hid (HPL5.out.below hc2)
        obtain ⟨b, o, rfl, g0, g1⟩ := HPC2.out.at hu
        have hsq := str_ff huv
        obtain ⟨v5, W5, hr5, ho5, hb5⟩ := app_fresh (W := V2.alloc (.cells #[] 39)) (B := V2.heap.size) (Nat.le_refl _) (heap_alloc_new V2 _) (HPC2.out.below ((Below.refl _ _).alloc (Nat.le_refl _) _)) (by omega) (by simp) 22
        obtain ⟨g5, c5, rfl, hgB, ⟨u5, hu5⟩, hf5, hps5⟩ := set_ps ho5 hu v
        rw [HN.out] at hps5 hr5
        have HR5 := Lib.hid hr5
        have HPS5 := Lib.hid hps5
        have hbV : Below V2.heap.size V2 W5 := ((Below.refl V2.heap.size V2).alloc (Nat.le_refl _) _).trans (hb5.mono (by simp))
        have HBV : Hid (Below V2.heap.size V2 (W5.setCell ⟨g5, i * 2 + 1, none⟩ (.string v))) := Lib.hid (hbV.setCell hgB _)
        clear hc2 hu huv g0 hr5 hps5 ho5 hb5 hbV
        go_wp2_with (at_builtin; refine wpList_run rfl (exec_append rfl rfl HR5.out) ?_)
        go_wp2_with fail
        have HPC5 := Lib.hid (HPC2.out.below HBV.out)
        have HC5 := Lib.hid (HC2.out.trans (HBV.out.mono HC2.out.size))
        refine (hq1 _ g5 c5 _ HPC5.out HPS5.out).mono ?_
        rintro e V6 ⟨rfl, hc6⟩
        have HPC6 := Lib.hid (HPC5.out.below hc6)
        have HPS6 := Lib.hid (HPS5.out.below hc6)
        have HC6 := Lib.hid (HC5.out.trans (hc6.mono HC5.out.size))
        clear hc6
        go_wp2_with fail
        refine (hq2 _ g5 c5 _ HPC6.out HPS6.out).mono ?_
        rintro e V7 ⟨rfl, hc7⟩
        have HPC7 := Lib.hid (HPC6.out.below hc7)
        have HPS7 := Lib.hid (HPS6.out.below hc7)
        have HC7 := Lib.hid (HC6.out.trans (hc7.mono HC6.out.size))
        clear hc7
        go_wp2_with fail
        refine (hq3 _ g5 c5 _ HPC7.out HPS7.out).mono ?_
        rintro e V8 ⟨rfl, hc8⟩
        have HC8 := Lib.hid (HC7.out.trans (hc8.mono HC7.out.size))
        clear hc8
        go_wp2
        go_ret
        exact ⟨rfl, HC8.out⟩
end Go.Proofs.Ytbfcbffmgdijfaa

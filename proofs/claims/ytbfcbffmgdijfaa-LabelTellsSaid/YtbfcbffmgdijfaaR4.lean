/- The document's order of a row of pairs: sorted by insertion, by contract. No condition but the row's sizes. -/
import Derived.Test.YtbfcbffmgdijfaaR3
namespace Go.Proofs.Ytbfcbffmgdijfaa
open Go.RowKit Go.Own
/-- What each operation of an insertion makes. -/
def TS (M : List P2) (x : P2) (q : Nat) (B : Nat) (s0 s1 s2 s3 s4 s5 : Value) : Nat → Value → World → Prop
  | 0, v, W => Empty0 W B v
  | 1, v, _ => v = s0
  | 2, v, _ => v = .int .i64 (q : Int)
  | 3, v, _ => v = s1
  | 4, v, W => OwnP W B v (M.take q)
  | 5, v, _ => v = s2
  | 6, v, _ => v = s3
  | 7, v, _ => v = s4
  | 8, v, _ => v = .agg #[.string x.1, .string x.2]
  | 9, v, W => PsC W v [x]
  | 10, v, W => OwnP W B v (M.take q ++ [x])
  | 11, v, _ => v = s0
  | 12, v, _ => v = .int .i64 (q : Int)
  | 13, v, _ => v = s5
  | 14, v, W => OwnP W B v (M.take q ++ [x] ++ M.drop q)
  | 15, v, W => OwnP W B v (M.take q ++ [x] ++ M.drop q)
  | _, _, _ => True
theorem TS.below {M : List P2} {x : P2} {q B : Nat} {s0 s1 s2 s3 s4 s5 : Value} {W W' : World} (hb : Below W.heap.size W W') : ∀ (j : Nat) v, TS M x q B s0 s1 s2 s3 s4 s5 j v W → TS M x q B s0 s1 s2 s3 s4 s5 j v W'
  | 0, _, h => Empty0.below h hb
  | 1, _, h => h
  | 2, _, h => h
  | 3, _, h => h
  | 4, _, h => OwnP.below h hb
  | 5, _, h => h
  | 6, _, h => h
  | 7, _, h => h
  | 8, _, h => h
  | 9, _, h => PsC.below h hb
  | 10, _, h => OwnP.below h hb
  | 11, _, h => h
  | 12, _, h => h
  | 13, _, h => h
  | 14, _, h => OwnP.below h hb
  | 15, _, h => OwnP.below h hb
  | _ + 16, _, _ => trivial
set_option maxRecDepth 100000 in
set_option maxHeartbeats 12000000 in
theorem refSorted_any (L : List P2) (p : Option Addr) (cap : Nat) (hL : L.length ≤ 1000) (w : World) (hP : PsC w (.slice p L.length cap) L) :
    Calls Try.prog 25 #[.slice p L.length cap] w fun e w' => ∃ v M, e = .returned v ∧ M.Perm L ∧ M.Pairwise (fun a b => leP a b = true) ∧ PsC w' v M ∧ Below w.heap.size w w' := by
  obtain ⟨n, hn⟩ : ∃ n, L.length = n := ⟨_, rfl⟩
  rw [hn] at hL ⊢
  have HN := Lib.hid hn
  have HP := Lib.hid hP
  clear hn hP
  go_enter Try.func25, Try.ntmps25
  go_wp2
  go_loopw [3, 4] (fun v i wr => ∃ (j : Nat) (M : List P2), j ≤ n ∧ i = .int .i64 (j : Int) ∧ Hid (PsC wr v M) ∧ Hid (M.Perm (L.take j)) ∧ Hid (M.Pairwise (fun a b => leP a b = true)) ∧ Hid (Below w.heap.size w wr)) (fun _ i _ => n - (intOf i).toNat)
  case atStart => exact ⟨0, [], Nat.zero_le _, rfl, Lib.hid ⟨none, 0, rfl, Nat.le_refl _, fun j u hu => by simp [cellsP] at hu⟩, Lib.hid (by simp), Lib.hid List.Pairwise.nil, Lib.hid (Below.refl _ _)⟩
  case round =>
    obtain ⟨j, M, hj, rfl, HM, HPM, HSM, HB⟩ := hrel
    obtain ⟨pM, cM, rfl, hcM, _⟩ := id HM.out
    have hMl : M.length = j := by rw [HPM.out.length_eq, List.length_take, HN.out]; omega
    rw [hMl] at HM hcM ⊢
    have HML := Lib.hid hMl
    clear hMl
    by_cases hlt : j < n
    · obtain ⟨x, hx⟩ : ∃ x, L[j]? = some x := ⟨_, List.getElem?_eq_getElem (by rw [HN.out]; exact hlt)⟩
      have HX := Lib.hid hx
      clear hx
      have hji : (j : Int) < n := by omega
      go_wp2
      go_loopw [5] (fun k wi => ∃ q : Nat, q ≤ j ∧ k = .int .i64 (q : Int) ∧ Hid (∀ b ∈ M.drop q, kl x < kl b) ∧ Hid (Below wr.heap.size wr wi)) (fun k _ => (intOf k).toNat)
      case atStart => exact ⟨j, Nat.le_refl _, rfl, Lib.hid (by rw [List.drop_eq_nil_of_le (by rw [HML.out]; exact Nat.le_refl _)]; simp), Lib.hid (Below.refl _ _)⟩
      case round =>
        obtain ⟨q, hq, rfl, HD, HBr⟩ := hrel
        have HB2 := Lib.hid (HB.out.trans (HBr.out.mono HB.out.size))
        have hcase : (∃ (q' : Nat) (y : P2), (q : Int) - 1 = (q' : Int) ∧ 0 < q ∧ q' < j ∧ q = q' + 1 ∧ M[q']? = some y ∧ kl x < kl y) ∨ q = 0 ∨ ∃ (q' : Nat) (y : P2), (q : Int) - 1 = (q' : Int) ∧ 0 < q ∧ q' < j ∧ M[q']? = some y ∧ ¬ kl x < kl y ∧ q - 1 = q' := by
          rcases Nat.eq_zero_or_pos q with h | h
          · exact Or.inr (Or.inl h)
          · have hy := List.getElem?_eq_getElem (l := M) (i := q - 1) (by rw [HML.out]; omega)
            by_cases hl : kl x < kl (M[q - 1]'(by rw [HML.out]; omega))
            · exact Or.inl ⟨q - 1, _, by omega, h, by omega, by omega, hy, hl⟩
            · exact Or.inr (Or.inr ⟨q - 1, _, by omega, h, by omega, hy, hl, rfl⟩)
        obtain ⟨b, o, rfl, c0, c1⟩ := (HP.out.below HB2.out).at HX.out
        rcases hcase with ⟨q', y, hqm, hpos, hqj, hqe, hy, hl⟩ | h0 | ⟨q', y, hqm, hpos, hqj, hy, hl, hqe⟩
        · have HD2 : Hid (∀ b ∈ M.drop q', kl x < kl b) := Lib.hid (fun b hb => by
            rw [List.drop_eq_getElem_cons (List.getElem?_eq_some_iff.1 hy).1, (List.getElem?_eq_some_iff.1 hy).2, List.mem_cons, ← hqe] at hb
            rcases hb with rfl | hb
            · exact hl
            · exact HD.out b hb)
          obtain ⟨b', o', rfl, d0, _⟩ := (HM.out.below HBr.out).at hy
          have hls : Op.bytesLess x.1.toList y.1.toList = true := by rw [less_kl]; exact decide_eq_true hl
          have hqi : (q' : Int) < (j : Int) := by omega
          clear hl hy hqe
          go_wp2
          go_quiet (fail)
          go_wp2
          go_roundw
          case rel => exact ⟨q', by omega, by go_num, HD2, Lib.hid (below_drewN HBr.out _)⟩
          case measure => simp [intOf]; omega
        · have HT : Hid (q = 0 ∨ ∃ y, M[q - 1]? = some y ∧ ¬ kl x < kl y) := Lib.hid (Or.inl h0)
          have hd : ¬ 0 < q := by omega
          clear h0
          go_wp2
          go_quiet (fail)
          go_wp2
          refine wp_region_stable (TS M x q wr.heap.size (.slice pM j cM) (.slice pM q cM) (.slice (some ⟨b, o, none⟩) n cap) (.int .i64 (j : Int)) (.pointer (some ⟨b, o + j * 2, none⟩)) (sliced pM q j cM 2)) (by kernel_rfl) (by kernel_rfl) ?_ ?_
          · intro i op ho a W hB hdep hfix
            have hBs := hB.size
            have hbr := (below_drewN HBr.out _).trans (hB.mono (below_drewN HBr.out _).size)
            have hst := fun W' (h : Below W.heap.size W W') => hB.trans (h.mono hBs)
            match i, ho with
            | 0, ho =>
              simp only [List.getElem?_cons_zero, Option.some.injEq] at ho
              subst ho
              have hb : Below W.heap.size W (W.alloc (.cells #[] 39)) := (Below.refl _ _).alloc (Nat.le_refl _) _
              exact ⟨_, _, exec_empty, hst _ hb, ⟨_, rfl, hBs, heap_alloc_new W _⟩, fun j v' _ h => TS.below hb j v' h⟩
            | 1, ho =>
              simp only [List.getElem?_cons_zero, List.getElem?_cons_succ, Option.some.injEq] at ho
              subst ho
              exact ⟨_, _, exec_move rfl, hB, (hfix 3 (by decide +kernel)).trans rfl, fun j v' _ h => h⟩
            | 2, ho =>
              simp only [List.getElem?_cons_zero, List.getElem?_cons_succ, Option.some.injEq] at ho
              subst ho
              exact ⟨_, _, exec_move rfl, hB, (hfix 5 (by decide +kernel)).trans rfl, fun j v' _ h => h⟩
            | 3, ho =>
              simp only [List.getElem?_cons_zero, List.getElem?_cons_succ, Option.some.injEq] at ho
              subst ho
              have e1 : a.tmps.getD 33 undef = .slice pM j cM := hdep 1 _ 33 rfl rfl (by decide +kernel)
              have e2 : a.tmps.getD 34 undef = .int .i64 (q : Int) := hdep 2 _ 34 rfl rfl (by decide +kernel)
              exact ⟨_, _, exec_head e1 e2 (by omega), hB, head_eq _ _ _, fun j v' _ h => h⟩
            | 4, ho =>
              simp only [List.getElem?_cons_zero, List.getElem?_cons_succ, Option.some.injEq] at ho
              subst ho
              obtain ⟨g, e0, hg, hgb⟩ := hdep 0 _ 32 rfl rfl (by decide +kernel)
              have e3 : a.tmps.getD 35 undef = .slice pM q cM := hdep 3 _ 35 rfl rfl (by decide +kernel)
              obtain ⟨v', W', hr, ho', hb⟩ := app_fresh (B := wr.heap.size) hg hgb ((HM.out.below hbr).first q (by rw [HML.out]; exact hq)) (by omega) hBs 22
              exact ⟨_, _, exec_append e0 e3 hr, hst _ hb, ho', fun j v' _ h => TS.below hb j v' h⟩
            | 5, ho =>
              simp only [List.getElem?_cons_zero, List.getElem?_cons_succ, Option.some.injEq] at ho
              subst ho
              exact ⟨_, _, exec_move rfl, hB, (hfix 0 (by decide +kernel)).trans rfl, fun j v' _ h => h⟩
            | 6, ho =>
              simp only [List.getElem?_cons_zero, List.getElem?_cons_succ, Option.some.injEq] at ho
              subst ho
              exact ⟨_, _, exec_move rfl, hB, (hfix 4 (by decide +kernel)).trans rfl, fun j v' _ h => h⟩
            | 7, ho =>
              simp only [List.getElem?_cons_zero, List.getElem?_cons_succ, Option.some.injEq] at ho
              subst ho
              have e5 : a.tmps.getD 37 undef = .slice (some ⟨b, o, none⟩) n cap := hdep 5 _ 37 rfl rfl (by decide +kernel)
              have e6 : a.tmps.getD 38 undef = .int .i64 (j : Int) := hdep 6 _ 38 rfl rfl (by decide +kernel)
              exact ⟨_, _, exec_indexAddr e5 e6 hlt, hB, rfl, fun j v' _ h => h⟩
            | 8, ho =>
              simp only [List.getElem?_cons_zero, List.getElem?_cons_succ, Option.some.injEq] at ho
              subst ho
              have e7 : a.tmps.getD 39 undef = .pointer (some ⟨b, o + j * 2, none⟩) := hdep 7 _ 39 rfl rfl (by decide +kernel)
              obtain ⟨b2, o2, e, g0, g1⟩ := (HP.out.below (HB.out.trans (hbr.mono HB.out.size))).at HX.out
              simp only [Option.some.injEq, Addr.mk.injEq] at e
              obtain ⟨rfl, rfl, _⟩ := e
              exact ⟨_, _, exec_load e7 (ld_pair W (by kernel_rfl) (by kernel_rfl) g0 g1), hB, rfl, fun j v' _ h => h⟩
            | 9, ho =>
              simp only [List.getElem?_cons_zero, List.getElem?_cons_succ, Option.some.injEq] at ho
              subst ho
              have e8 : a.tmps.getD 40 undef = .agg #[.string x.1, .string x.2] := hdep 8 _ 40 rfl rfl (by decide +kernel)
              have hb : Below W.heap.size W (W.alloc (.cells #[.string x.1, .string x.2] 39)) := (Below.refl _ _).alloc (Nat.le_refl _) _
              exact ⟨_, _, exec_one e8, hst _ hb, ps_one W x, fun j v' _ h => TS.below hb j v' h⟩
            | 10, ho =>
              simp only [List.getElem?_cons_zero, List.getElem?_cons_succ, Option.some.injEq] at ho
              subst ho
              have e4 : OwnP W wr.heap.size (a.tmps.getD 36 undef) (M.take q) := hdep 4 _ 36 rfl rfl (by decide +kernel)
              have e9 : PsC W (a.tmps.getD 41 undef) [x] := hdep 9 _ 41 rfl rfl (by decide +kernel)
              obtain ⟨p4, c4, h4, _⟩ := id e9
              rw [h4] at e9
              obtain ⟨v', W', hr, ho', hg⟩ := app_own e4 e9 (by rw [List.length_take, HML.out]; simp; omega) hBs 22
              refine ⟨_, _, exec_append rfl h4 hr, hB.grown hg hBs (fun j hj => (e4.lt j hj).1), ho', fun j v' hl h => ?_⟩
              match j, hl, h with
              | 0, hl, h => exact absurd hl (by decide +kernel)
              | 1, hl, h => exact h
              | 2, hl, h => exact h
              | 3, hl, h => exact h
              | 4, hl, h => exact absurd hl (by decide +kernel)
              | 5, hl, h => exact h
              | 6, hl, h => exact h
              | 7, hl, h => exact h
              | 8, hl, h => exact h
              | 9, hl, h => exact absurd hl (by decide +kernel)
              | 10, hl, h => exact absurd hl (by decide +kernel)
              | 11, hl, h => exact h
              | 12, hl, h => exact h
              | 13, hl, h => exact h
              | 14, hl, h => exact absurd hl (by decide +kernel)
              | 15, hl, h => exact absurd hl (by decide +kernel)
              | _ + 16, _, _ => trivial
            | 11, ho =>
              simp only [List.getElem?_cons_zero, List.getElem?_cons_succ, Option.some.injEq] at ho
              subst ho
              exact ⟨_, _, exec_move rfl, hB, (hfix 3 (by decide +kernel)).trans rfl, fun j v' _ h => h⟩
            | 12, ho =>
              simp only [List.getElem?_cons_zero, List.getElem?_cons_succ, Option.some.injEq] at ho
              subst ho
              exact ⟨_, _, exec_move rfl, hB, (hfix 5 (by decide +kernel)).trans rfl, fun j v' _ h => h⟩
            | 13, ho =>
              simp only [List.getElem?_cons_zero, List.getElem?_cons_succ, Option.some.injEq] at ho
              subst ho
              have e1 : a.tmps.getD 43 undef = .slice pM j cM := hdep 11 _ 43 rfl rfl (by decide +kernel)
              have e2 : a.tmps.getD 44 undef = .int .i64 (q : Int) := hdep 12 _ 44 rfl rfl (by decide +kernel)
              exact ⟨_, _, exec_tail e1 e2 hq, hB, rfl, fun j v' _ h => h⟩
            | 14, ho =>
              simp only [List.getElem?_cons_zero, List.getElem?_cons_succ, Option.some.injEq] at ho
              subst ho
              have e10 : OwnP W wr.heap.size (a.tmps.getD 42 undef) (M.take q ++ [x]) := hdep 10 _ 42 rfl rfl (by decide +kernel)
              have e13 : a.tmps.getD 45 undef = sliced pM q j cM 2 := hdep 13 _ 45 rfl rfl (by decide +kernel)
              have hpt := (HM.out.below hbr).tail hq
              obtain ⟨p4, c4, h4, _⟩ := id hpt
              rw [h4] at hpt e13
              obtain ⟨v', W', hr, ho', hg⟩ := app_own e10 hpt (by simp [HML.out]; omega) hBs 22
              refine ⟨_, _, exec_append rfl e13 hr, hB.grown hg hBs (fun j hj => (e10.lt j hj).1), ho', fun j v' hl h => ?_⟩
              match j, hl, h with
              | 0, hl, h => exact absurd hl (by decide +kernel)
              | 1, hl, h => exact h
              | 2, hl, h => exact h
              | 3, hl, h => exact h
              | 4, hl, h => exact absurd hl (by decide +kernel)
              | 5, hl, h => exact h
              | 6, hl, h => exact h
              | 7, hl, h => exact h
              | 8, hl, h => exact h
              | 9, hl, h => exact absurd hl (by decide +kernel)
              | 10, hl, h => exact absurd hl (by decide +kernel)
              | 11, hl, h => exact h
              | 12, hl, h => exact h
              | 13, hl, h => exact h
              | 14, hl, h => exact absurd hl (by decide +kernel)
              | 15, hl, h => exact absurd hl (by decide +kernel)
              | _ + 16, _, _ => trivial
            | 15, ho =>
              simp only [List.getElem?_cons_zero, List.getElem?_cons_succ, Option.some.injEq] at ho
              subst ho
              have e14 : OwnP W wr.heap.size (a.tmps.getD 46 undef) (M.take q ++ [x] ++ M.drop q) := hdep 14 _ 46 rfl rfl (by decide +kernel)
              exact ⟨_, _, exec_assign rfl, hB, e14, fun j v' _ h => h⟩
            | i + 16, ho => simp at ho
          · intro a W hB hd hsz hfix hT
            have h15 : OwnP W wr.heap.size (a.tmps.getD 3 undef) (M.take q ++ [x] ++ M.drop q) := hT 15 _ 3 rfl rfl (by decide +kernel)
            have h0 : a.tmps.getD 0 undef = .slice (some ⟨b, o, none⟩) n cap := (hfix 0 (by decide +kernel)).trans rfl
            have h4 : a.tmps.getD 4 undef = .int .i64 (j : Int) := (hfix 4 (by decide +kernel)).trans rfl
            have h1 : a.tmps.getD 1 undef = undef := (hfix 1 (by decide +kernel)).trans rfl
            have h2 : a.tmps.getD 2 undef = .slice none 0 0 := (hfix 2 (by decide +kernel)).trans rfl
            have h47 : a.tmps.getD 47 undef = undef := (hfix 47 (by decide +kernel)).trans rfl
            have hbr := (below_drewN HBr.out _).trans (hB.mono (below_drewN HBr.out _).size)
            have HB9 := Lib.hid (HB.out.trans (hbr.mono HB.out.size))
            have HP9 := Lib.hid h15.ps
            have HM9 : Hid ((M.take q ++ [x] ++ M.drop q).Perm (L.take (j + 1))) := Lib.hid ((ins_perm M x q).trans (by rw [take_succ_at L j x HX.out]; exact HPM.out.append_right _))
            have HS9 := Lib.hid (ins_sorted HSM.out HD.out HT.out (by rw [HML.out]; exact hq))
            rw [frame_lit a 48 hsz hd]
            clear hfix hT hsz hd h15 hB hbr HB2 HBr c0 c1 HD HT
            simp only [List.range, List.range.loop, List.map]
            generalize a.tmps = t at *
            rw [h0, h1, h2, h4, h47]
            generalize t.getD 3 undef = v3 at *
            clear h0 h1 h2 h4 h47
            generalize t.getD 5 undef = v5
            generalize t.getD 6 undef = v6
            generalize t.getD 7 undef = v7
            generalize t.getD 8 undef = v8
            generalize t.getD 9 undef = v9
            generalize t.getD 10 undef = v10
            generalize t.getD 11 undef = v11
            generalize t.getD 12 undef = v12
            generalize t.getD 13 undef = v13
            generalize t.getD 14 undef = v14
            generalize t.getD 15 undef = v15
            generalize t.getD 16 undef = v16
            generalize t.getD 17 undef = v17
            generalize t.getD 18 undef = v18
            generalize t.getD 19 undef = v19
            generalize t.getD 20 undef = v20
            generalize t.getD 21 undef = v21
            generalize t.getD 22 undef = v22
            generalize t.getD 23 undef = v23
            generalize t.getD 24 undef = v24
            generalize t.getD 25 undef = v25
            generalize t.getD 26 undef = v26
            generalize t.getD 27 undef = v27
            generalize t.getD 28 undef = v28
            generalize t.getD 29 undef = v29
            generalize t.getD 30 undef = v30
            generalize t.getD 31 undef = v31
            generalize t.getD 32 undef = v32
            generalize t.getD 33 undef = v33
            generalize t.getD 34 undef = v34
            generalize t.getD 35 undef = v35
            generalize t.getD 36 undef = v36
            generalize t.getD 37 undef = v37
            generalize t.getD 38 undef = v38
            generalize t.getD 39 undef = v39
            generalize t.getD 40 undef = v40
            generalize t.getD 41 undef = v41
            generalize t.getD 42 undef = v42
            generalize t.getD 43 undef = v43
            generalize t.getD 44 undef = v44
            generalize t.getD 45 undef = v45
            generalize t.getD 46 undef = v46
            go_wp2
            go_roundw
            case rel => exact ⟨j + 1, _, by omega, by go_num, HP9, HM9, HS9, HB9⟩
            case measure => simp [intOf]; omega
        · have HT : Hid (q = 0 ∨ ∃ y, M[q - 1]? = some y ∧ ¬ kl x < kl y) := Lib.hid (Or.inr ⟨y, by rw [hqe]; exact hy, hl⟩)
          obtain ⟨b', o', rfl, d0, _⟩ := (HM.out.below HBr.out).at hy
          have hls : Op.bytesLess x.1.toList y.1.toList = false := by rw [less_kl]; exact decide_eq_false hl
          have hqi : (q' : Int) < (j : Int) := by omega
          clear hl hy hqe
          go_wp2
          go_quiet (fail)
          go_wp2
          refine wp_region_stable (TS M x q wr.heap.size (.slice (some ⟨b', o', none⟩) j cM) (.slice (some ⟨b', o', none⟩) q cM) (.slice (some ⟨b, o, none⟩) n cap) (.int .i64 (j : Int)) (.pointer (some ⟨b, o + j * 2, none⟩)) (sliced (some ⟨b', o', none⟩) q j cM 2)) (by kernel_rfl) (by kernel_rfl) ?_ ?_
          · intro i op ho a W hB hdep hfix
            have hBs := hB.size
            have hbr := (below_drewN HBr.out _).trans (hB.mono (below_drewN HBr.out _).size)
            have hst := fun W' (h : Below W.heap.size W W') => hB.trans (h.mono hBs)
            match i, ho with
            | 0, ho =>
              simp only [List.getElem?_cons_zero, Option.some.injEq] at ho
              subst ho
              have hb : Below W.heap.size W (W.alloc (.cells #[] 39)) := (Below.refl _ _).alloc (Nat.le_refl _) _
              exact ⟨_, _, exec_empty, hst _ hb, ⟨_, rfl, hBs, heap_alloc_new W _⟩, fun j v' _ h => TS.below hb j v' h⟩
            | 1, ho =>
              simp only [List.getElem?_cons_zero, List.getElem?_cons_succ, Option.some.injEq] at ho
              subst ho
              exact ⟨_, _, exec_move rfl, hB, (hfix 3 (by decide +kernel)).trans rfl, fun j v' _ h => h⟩
            | 2, ho =>
              simp only [List.getElem?_cons_zero, List.getElem?_cons_succ, Option.some.injEq] at ho
              subst ho
              exact ⟨_, _, exec_move rfl, hB, (hfix 5 (by decide +kernel)).trans rfl, fun j v' _ h => h⟩
            | 3, ho =>
              simp only [List.getElem?_cons_zero, List.getElem?_cons_succ, Option.some.injEq] at ho
              subst ho
              have e1 : a.tmps.getD 33 undef = .slice (some ⟨b', o', none⟩) j cM := hdep 1 _ 33 rfl rfl (by decide +kernel)
              have e2 : a.tmps.getD 34 undef = .int .i64 (q : Int) := hdep 2 _ 34 rfl rfl (by decide +kernel)
              exact ⟨_, _, exec_head e1 e2 (by omega), hB, head_eq _ _ _, fun j v' _ h => h⟩
            | 4, ho =>
              simp only [List.getElem?_cons_zero, List.getElem?_cons_succ, Option.some.injEq] at ho
              subst ho
              obtain ⟨g, e0, hg, hgb⟩ := hdep 0 _ 32 rfl rfl (by decide +kernel)
              have e3 : a.tmps.getD 35 undef = .slice (some ⟨b', o', none⟩) q cM := hdep 3 _ 35 rfl rfl (by decide +kernel)
              obtain ⟨v', W', hr, ho', hb⟩ := app_fresh (B := wr.heap.size) hg hgb ((HM.out.below hbr).first q (by rw [HML.out]; exact hq)) (by omega) hBs 22
              exact ⟨_, _, exec_append e0 e3 hr, hst _ hb, ho', fun j v' _ h => TS.below hb j v' h⟩
            | 5, ho =>
              simp only [List.getElem?_cons_zero, List.getElem?_cons_succ, Option.some.injEq] at ho
              subst ho
              exact ⟨_, _, exec_move rfl, hB, (hfix 0 (by decide +kernel)).trans rfl, fun j v' _ h => h⟩
            | 6, ho =>
              simp only [List.getElem?_cons_zero, List.getElem?_cons_succ, Option.some.injEq] at ho
              subst ho
              exact ⟨_, _, exec_move rfl, hB, (hfix 4 (by decide +kernel)).trans rfl, fun j v' _ h => h⟩
            | 7, ho =>
              simp only [List.getElem?_cons_zero, List.getElem?_cons_succ, Option.some.injEq] at ho
              subst ho
              have e5 : a.tmps.getD 37 undef = .slice (some ⟨b, o, none⟩) n cap := hdep 5 _ 37 rfl rfl (by decide +kernel)
              have e6 : a.tmps.getD 38 undef = .int .i64 (j : Int) := hdep 6 _ 38 rfl rfl (by decide +kernel)
              exact ⟨_, _, exec_indexAddr e5 e6 hlt, hB, rfl, fun j v' _ h => h⟩
            | 8, ho =>
              simp only [List.getElem?_cons_zero, List.getElem?_cons_succ, Option.some.injEq] at ho
              subst ho
              have e7 : a.tmps.getD 39 undef = .pointer (some ⟨b, o + j * 2, none⟩) := hdep 7 _ 39 rfl rfl (by decide +kernel)
              obtain ⟨b2, o2, e, g0, g1⟩ := (HP.out.below (HB.out.trans (hbr.mono HB.out.size))).at HX.out
              simp only [Option.some.injEq, Addr.mk.injEq] at e
              obtain ⟨rfl, rfl, _⟩ := e
              exact ⟨_, _, exec_load e7 (ld_pair W (by kernel_rfl) (by kernel_rfl) g0 g1), hB, rfl, fun j v' _ h => h⟩
            | 9, ho =>
              simp only [List.getElem?_cons_zero, List.getElem?_cons_succ, Option.some.injEq] at ho
              subst ho
              have e8 : a.tmps.getD 40 undef = .agg #[.string x.1, .string x.2] := hdep 8 _ 40 rfl rfl (by decide +kernel)
              have hb : Below W.heap.size W (W.alloc (.cells #[.string x.1, .string x.2] 39)) := (Below.refl _ _).alloc (Nat.le_refl _) _
              exact ⟨_, _, exec_one e8, hst _ hb, ps_one W x, fun j v' _ h => TS.below hb j v' h⟩
            | 10, ho =>
              simp only [List.getElem?_cons_zero, List.getElem?_cons_succ, Option.some.injEq] at ho
              subst ho
              have e4 : OwnP W wr.heap.size (a.tmps.getD 36 undef) (M.take q) := hdep 4 _ 36 rfl rfl (by decide +kernel)
              have e9 : PsC W (a.tmps.getD 41 undef) [x] := hdep 9 _ 41 rfl rfl (by decide +kernel)
              obtain ⟨p4, c4, h4, _⟩ := id e9
              rw [h4] at e9
              obtain ⟨v', W', hr, ho', hg⟩ := app_own e4 e9 (by rw [List.length_take, HML.out]; simp; omega) hBs 22
              refine ⟨_, _, exec_append rfl h4 hr, hB.grown hg hBs (fun j hj => (e4.lt j hj).1), ho', fun j v' hl h => ?_⟩
              match j, hl, h with
              | 0, hl, h => exact absurd hl (by decide +kernel)
              | 1, hl, h => exact h
              | 2, hl, h => exact h
              | 3, hl, h => exact h
              | 4, hl, h => exact absurd hl (by decide +kernel)
              | 5, hl, h => exact h
              | 6, hl, h => exact h
              | 7, hl, h => exact h
              | 8, hl, h => exact h
              | 9, hl, h => exact absurd hl (by decide +kernel)
              | 10, hl, h => exact absurd hl (by decide +kernel)
              | 11, hl, h => exact h
              | 12, hl, h => exact h
              | 13, hl, h => exact h
              | 14, hl, h => exact absurd hl (by decide +kernel)
              | 15, hl, h => exact absurd hl (by decide +kernel)
              | _ + 16, _, _ => trivial
            | 11, ho =>
              simp only [List.getElem?_cons_zero, List.getElem?_cons_succ, Option.some.injEq] at ho
              subst ho
              exact ⟨_, _, exec_move rfl, hB, (hfix 3 (by decide +kernel)).trans rfl, fun j v' _ h => h⟩
            | 12, ho =>
              simp only [List.getElem?_cons_zero, List.getElem?_cons_succ, Option.some.injEq] at ho
              subst ho
              exact ⟨_, _, exec_move rfl, hB, (hfix 5 (by decide +kernel)).trans rfl, fun j v' _ h => h⟩
            | 13, ho =>
              simp only [List.getElem?_cons_zero, List.getElem?_cons_succ, Option.some.injEq] at ho
              subst ho
              have e1 : a.tmps.getD 43 undef = .slice (some ⟨b', o', none⟩) j cM := hdep 11 _ 43 rfl rfl (by decide +kernel)
              have e2 : a.tmps.getD 44 undef = .int .i64 (q : Int) := hdep 12 _ 44 rfl rfl (by decide +kernel)
              exact ⟨_, _, exec_tail e1 e2 hq, hB, rfl, fun j v' _ h => h⟩
            | 14, ho =>
              simp only [List.getElem?_cons_zero, List.getElem?_cons_succ, Option.some.injEq] at ho
              subst ho
              have e10 : OwnP W wr.heap.size (a.tmps.getD 42 undef) (M.take q ++ [x]) := hdep 10 _ 42 rfl rfl (by decide +kernel)
              have e13 : a.tmps.getD 45 undef = sliced (some ⟨b', o', none⟩) q j cM 2 := hdep 13 _ 45 rfl rfl (by decide +kernel)
              have hpt := (HM.out.below hbr).tail hq
              obtain ⟨p4, c4, h4, _⟩ := id hpt
              rw [h4] at hpt e13
              obtain ⟨v', W', hr, ho', hg⟩ := app_own e10 hpt (by simp [HML.out]; omega) hBs 22
              refine ⟨_, _, exec_append rfl e13 hr, hB.grown hg hBs (fun j hj => (e10.lt j hj).1), ho', fun j v' hl h => ?_⟩
              match j, hl, h with
              | 0, hl, h => exact absurd hl (by decide +kernel)
              | 1, hl, h => exact h
              | 2, hl, h => exact h
              | 3, hl, h => exact h
              | 4, hl, h => exact absurd hl (by decide +kernel)
              | 5, hl, h => exact h
              | 6, hl, h => exact h
              | 7, hl, h => exact h
              | 8, hl, h => exact h
              | 9, hl, h => exact absurd hl (by decide +kernel)
              | 10, hl, h => exact absurd hl (by decide +kernel)
              | 11, hl, h => exact h
              | 12, hl, h => exact h
              | 13, hl, h => exact h
              | 14, hl, h => exact absurd hl (by decide +kernel)
              | 15, hl, h => exact absurd hl (by decide +kernel)
              | _ + 16, _, _ => trivial
            | 15, ho =>
              simp only [List.getElem?_cons_zero, List.getElem?_cons_succ, Option.some.injEq] at ho
              subst ho
              have e14 : OwnP W wr.heap.size (a.tmps.getD 46 undef) (M.take q ++ [x] ++ M.drop q) := hdep 14 _ 46 rfl rfl (by decide +kernel)
              exact ⟨_, _, exec_assign rfl, hB, e14, fun j v' _ h => h⟩
            | i + 16, ho => simp at ho
          · intro a W hB hd hsz hfix hT
            have h15 : OwnP W wr.heap.size (a.tmps.getD 3 undef) (M.take q ++ [x] ++ M.drop q) := hT 15 _ 3 rfl rfl (by decide +kernel)
            have h0 : a.tmps.getD 0 undef = .slice (some ⟨b, o, none⟩) n cap := (hfix 0 (by decide +kernel)).trans rfl
            have h4 : a.tmps.getD 4 undef = .int .i64 (j : Int) := (hfix 4 (by decide +kernel)).trans rfl
            have h1 : a.tmps.getD 1 undef = undef := (hfix 1 (by decide +kernel)).trans rfl
            have h2 : a.tmps.getD 2 undef = .slice none 0 0 := (hfix 2 (by decide +kernel)).trans rfl
            have h47 : a.tmps.getD 47 undef = undef := (hfix 47 (by decide +kernel)).trans rfl
            have hbr := (below_drewN HBr.out _).trans (hB.mono (below_drewN HBr.out _).size)
            have HB9 := Lib.hid (HB.out.trans (hbr.mono HB.out.size))
            have HP9 := Lib.hid h15.ps
            have HM9 : Hid ((M.take q ++ [x] ++ M.drop q).Perm (L.take (j + 1))) := Lib.hid ((ins_perm M x q).trans (by rw [take_succ_at L j x HX.out]; exact HPM.out.append_right _))
            have HS9 := Lib.hid (ins_sorted HSM.out HD.out HT.out (by rw [HML.out]; exact hq))
            rw [frame_lit a 48 hsz hd]
            clear hfix hT hsz hd h15 hB hbr HB2 HBr c0 c1 HD HT
            simp only [List.range, List.range.loop, List.map]
            generalize a.tmps = t at *
            rw [h0, h1, h2, h4, h47]
            generalize t.getD 3 undef = v3 at *
            clear h0 h1 h2 h4 h47
            generalize t.getD 5 undef = v5
            generalize t.getD 6 undef = v6
            generalize t.getD 7 undef = v7
            generalize t.getD 8 undef = v8
            generalize t.getD 9 undef = v9
            generalize t.getD 10 undef = v10
            generalize t.getD 11 undef = v11
            generalize t.getD 12 undef = v12
            generalize t.getD 13 undef = v13
            generalize t.getD 14 undef = v14
            generalize t.getD 15 undef = v15
            generalize t.getD 16 undef = v16
            generalize t.getD 17 undef = v17
            generalize t.getD 18 undef = v18
            generalize t.getD 19 undef = v19
            generalize t.getD 20 undef = v20
            generalize t.getD 21 undef = v21
            generalize t.getD 22 undef = v22
            generalize t.getD 23 undef = v23
            generalize t.getD 24 undef = v24
            generalize t.getD 25 undef = v25
            generalize t.getD 26 undef = v26
            generalize t.getD 27 undef = v27
            generalize t.getD 28 undef = v28
            generalize t.getD 29 undef = v29
            generalize t.getD 30 undef = v30
            generalize t.getD 31 undef = v31
            generalize t.getD 32 undef = v32
            generalize t.getD 33 undef = v33
            generalize t.getD 34 undef = v34
            generalize t.getD 35 undef = v35
            generalize t.getD 36 undef = v36
            generalize t.getD 37 undef = v37
            generalize t.getD 38 undef = v38
            generalize t.getD 39 undef = v39
            generalize t.getD 40 undef = v40
            generalize t.getD 41 undef = v41
            generalize t.getD 42 undef = v42
            generalize t.getD 43 undef = v43
            generalize t.getD 44 undef = v44
            generalize t.getD 45 undef = v45
            generalize t.getD 46 undef = v46
            go_wp2
            go_roundw
            case rel => exact ⟨j + 1, _, by omega, by go_num, HP9, HM9, HS9, HB9⟩
            case measure => simp [intOf]; omega
    · obtain rfl : j = n := by omega
      have HZ : Hid (M.Perm L) := Lib.hid (by have := HPM.out; rwa [List.take_of_length_le (by rw [HN.out]; exact Nat.le_refl _)] at this)
      go_wp2
      go_ret
      exact ⟨_, M, rfl, HZ.out, HSM.out, HM.out, HB.out⟩
end Go.Proofs.Ytbfcbffmgdijfaa

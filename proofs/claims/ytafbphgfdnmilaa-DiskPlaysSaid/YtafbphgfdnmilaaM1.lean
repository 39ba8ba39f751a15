/- Four rows of texts of the law's own. No condition. -/
import Derived.Test.YtafbphgfdnmilaaN3
import Derived.Test.YtafbphgfdnmilaaW2
namespace Go.Proofs.Ytafbphgfdnmilaa
open Go.RowKit Go.Own

theorem rt29 : RowT Try.prog 29 9 1 := ⟨Try.underlying29, by
  cases hi : Try.prog.info? 9 with
  | none => exact absurd hi (by have : (Try.prog.info? 9).isSome = true := by kernel_rfl
                                intro e; rw [e] at this; cases this)
  | some i =>
    have h := show (Try.prog.info? 9).map (fun i => (i.zero.map fun z => z.cells.size, i.size, decide (i.bytes ≤ 1048576))) = some (some 1, 1, true) by kernel_rfl
    rw [hi] at h
    simp at h
    obtain ⟨⟨z, hz, hzc⟩, hs, hb⟩ := h
    exact ⟨i, z, rfl, hz, hs, hzc, hb⟩⟩
theorem bs29 (s : ByteArray) (w : World) (l : List Obj) (d : Nat) : (bsN 29 1 #[(0, .string s)]).run Try.prog (Wd w l d) = .ok (.slice (some ⟨w.heap.size + l.length, 0, none⟩) 1 1) (Wd w (l ++ [.cells #[.string s] 9 (0, 0)]) d) := by
  rw [← Wd_alloc, ← Wd_size w l d]
  generalize Wd w l d = W
  kernel_rfl
def m4 (mv : Nat → Value) : Array Value := #[mv 0, mv 1, mv 2, mv 3]
theorem m4_get (mv : Nat → Value) {a : Nat} (ha : a < 4) : (m4 mv)[a]? = some (mv a) := by
  match a, ha with
  | 0, _ => rfl
  | 1, _ => rfl
  | 2, _ => rfl
  | 3, _ => rfl
theorem m4_set (mv : Nat → Value) {a : Nat} (ha : a < 4) (v : Value) : splA (m4 mv) a [v] = m4 (upd mv a v) := by
  match a, ha with
  | 0, _ => rfl
  | 1, _ => rfl
  | 2, _ => rfl
  | 3, _ => rfl
theorem ldM {P : Program} {T : TypeId} {b a : Nat} {W : World} {mv : Nat → Value} {ty : TypeId} {f : Nat × Nat} (hg : (isAgg T).run P W = .ok false W) (h2 : blk W b = some (.cells (m4 mv) ty f)) (ha : a < 4) : ldX P T none (some (.cells (m4 mv) ty f)) b a W = .ok (mv a) W :=
  ldX_mix1 hg h2 (m4_get mv ha)
theorem stM {P : Program} {T : TypeId} {w : World} {l : List Obj} {d i a : Nat} {mv : Nat → Value} {v : Value} {ty : TypeId} (h1 : (sizeOf T).run P (Wd w l d) = .ok 1 (Wd w l d)) (hv : v.oneCell' = true) (h2 : l[i]? = some (.cells (m4 mv) ty (0, 0))) (ha : a < 4) :
    stX P T 1 (some (.cells (m4 mv) ty (0, 0))) w l d i a v = .ok () (Wd w (l.set i (.cells (m4 (upd mv a v)) ty (0, 0))) d) := by
  rw [stX_mix1 h1 hv h2 (by show a < 4; exact ha), m4_set mv ha]
def mv0 : Nat → Value := fun _ => .slice none 0 0
theorem z56 : zeroOf Try.prog 56 = .agg (m4 mv0) := by kernel_rfl
def ac0 : Ac := ⟨0, 0, ByteArray.empty, 0, 0, 0⟩
theorem z38 : zeroOf Try.prog 38 = .agg (ac ac0) := by kernel_rfl
section
variable {P : Program} {T : TypeId} {b : Nat} {W : World} {x y : Ac} {ty : TypeId} {f : Nat × Nat}
theorem ldA (h1 : aggSize P T = some 6) (h2 : blk W b = some (.cells (ac x) ty f)) : ldX P T (some 6) (some (.cells (ac x) ty f)) b 0 W = .ok (.agg (ac x)) W := by
  rw [ldX_mix h1 h2 (by rw [ac_size]; omega)]; rfl
theorem ldA0 (ha : (isAgg T).run P W = .ok false W) (h2 : blk W b = some (.cells (ac x) ty f)) : ldX P T none (some (.cells (ac x) ty f)) b 0 W = .ok (.int .i64 x.kind) W := ldX_mix1 ha h2 rfl
theorem ldA1 (ha : (isAgg T).run P W = .ok false W) (h2 : blk W b = some (.cells (ac x) ty f)) : ldX P T none (some (.cells (ac x) ty f)) b 1 W = .ok (.int .i64 x.at_) W := ldX_mix1 ha h2 rfl
theorem ldA2 (ha : (isAgg T).run P W = .ok false W) (h2 : blk W b = some (.cells (ac x) ty f)) : ldX P T none (some (.cells (ac x) ty f)) b 2 W = .ok (.string x.data) W := ldX_mix1 ha h2 rfl
theorem ldA4 (ha : (isAgg T).run P W = .ok false W) (h2 : blk W b = some (.cells (ac x) ty f)) : ldX P T none (some (.cells (ac x) ty f)) b 4 W = .ok (.int .u64 (x.ck : Int)) W := ldX_mix1 ha h2 rfl
theorem ldA5 (ha : (isAgg T).run P W = .ok false W) (h2 : blk W b = some (.cells (ac x) ty f)) : ldX P T none (some (.cells (ac x) ty f)) b 5 W = .ok (.int .i64 x.ct) W := ldX_mix1 ha h2 rfl
theorem ldA3 (h1 : aggSize P T = some 3) (h2 : blk W b = some (.cells (ac x) ty f)) : ldX P T (some 3) (some (.cells (ac x) ty f)) b 3 W = .ok (.agg (kc x.ca x.ck x.ct)) W := by
  rw [ldX_mix h1 h2 (by rw [ac_size]; omega)]; rfl
theorem stA {w : World} {l : List Obj} {d i : Nat} (h1 : (sizeOf T).run P (Wd w l d) = .ok 6 (Wd w l d)) (h2 : l[i]? = some (.cells (ac x) ty (0, 0))) :
    stX P T 6 (some (.cells (ac x) ty (0, 0))) w l d i 0 (.agg (ac y)) = .ok () (Wd w (l.set i (.cells (ac y) ty (0, 0))) d) := stX_all h1 h2 rfl rfl (ac_one _)
end
theorem al38 {w : World} {l : List Obj} {d : Nat} : alX Try.prog 38 (.agg (ac ac0)) w l d = .ok (.pointer (some ⟨w.heap.size + l.length, 0, none⟩)) (Wd w (l ++ [.cells (ac ac0) 38 (0, 0)]) d) := alX_mix z38
theorem al56 {w : World} {l : List Obj} {d : Nat} : alX Try.prog 56 (.agg (m4 mv0)) w l d = .ok (.pointer (some ⟨w.heap.size + l.length, 0, none⟩)) (Wd w (l ++ [.cells (m4 mv0) 56 (0, 0)]) d) := alX_mix z56

/-- Four rows of texts, in a variable at mb; each row's place bears its number. -/
structure May (w : World) (l : List Obj) (mb : Nat) (O : Nat → Prop) (tag : Nat → Nat) (mv : Nat → Value) (ms : Nat → List ByteArray) : Prop where
  blk : l[mb]? = some (.cells (m4 mv) 56 (0, 0))
  own : O mb
  rows : ∀ a, a < 4 → RowV (fun p => O p ∧ p ≠ mb ∧ tag p = a) w l 1 (ms a).length (mv a) ((ms a).map Value.string)
theorem May.keep {w : World} {l l' : List Obj} {mb : Nat} {O O' : Nat → Prop} {tag : Nat → Nat} {mv : Nat → Value} {ms : Nat → List ByteArray} (h : May w l mb O tag mv ms) (hl : ∀ p, O p → p < l.length → O' p ∧ l'[p]? = l[p]?) : May w l' mb O' tag mv ms := by
  have hm := hl mb h.own (List.getElem?_eq_some_iff.1 h.blk).1
  exact ⟨by rw [hm.2]; exact h.blk, hm.1, fun a ha => (h.rows a ha).mono fun p hp hlt => ⟨⟨(hl p hp.1 hlt).1, hp.2⟩, (hl p hp.1 hlt).2⟩⟩
theorem May.kp {w : World} {l l' : List Obj} {mb : Nat} {O : Nat → Prop} {tag : Nat → Nat} {mv : Nat → Value} {ms : Nat → List ByteArray} (h : May w l mb O tag mv ms) (hk : Kp O l l') : May w l' mb O tag mv ms :=
  h.keep fun p hp hlt => ⟨hp, hk.2 p hp hlt⟩
theorem may0 {w : World} {l : List Obj} {mb : Nat} {O : Nat → Prop} (h : l[mb]? = some (.cells (m4 mv0) 56 (0, 0))) (hO : O mb) : May w l mb O (fun _ => 0) mv0 (fun _ => []) :=
  ⟨h, hO, fun _ _ => .inl ⟨rfl, rfl, rfl⟩⟩
/-- Where the row a may lie behind an append. -/
def Arow (O : Nat → Prop) (l : List Obj) (mb : Nat) (tag : Nat → Nat) (a : Nat) : Nat → Prop := fun p => p < l.length → O p ∧ p ≠ mb ∧ tag p = a
def Omore (O : Nat → Prop) (l l' : List Obj) : Nat → Prop := fun p => O p ∨ (l.length ≤ p ∧ p < l'.length)
def tagMore (tag : Nat → Nat) (l : List Obj) (a : Nat) : Nat → Nat := fun p => if p < l.length then tag p else a
theorem Omore_lt {O : Nat → Prop} {l l' : List Obj} (h : ∀ p, O p → p < l.length) (hl : l.length ≤ l'.length) : ∀ p, Omore O l l' p → p < l'.length := fun p hp => by
  rcases hp with hp | hp
  · have := h p hp; omega
  · exact hp.2
theorem DAt.push {w : World} {l l' : List Obj} {i s q : Nat} {vw : Value} {O : Nat → Prop} {M : Dk} (h : DAt w l i s q vw O M) (hl : ∀ p, p < l.length → ¬ O p → l'[p]? = l[p]?) : DAt w l' i s q vw (Omore O l l') M :=
  h.keep fun p hp hlt => ⟨fun hO => hO.elim hp (fun h => by omega), hl p hlt hp⟩
theorem May.push {w : World} {l l1 l' : List Obj} {mb : Nat} {O : Nat → Prop} {tag : Nat → Nat} {mv : Nat → Value} {ms : Nat → List ByteArray} (h : May w l mb O tag mv ms) {a : Nat} (ha : a < 4) {v' : Value} {s : ByteArray}
    (h1 : RowV (Arow O l mb tag a) w l' 1 ((ms a).length + 1) v' ((ms a).map Value.string ++ [.string s])) (h2 : l1.length ≤ l'.length) (h3 : ∀ p, p < l1.length → NotAt w (mv a) p → l'[p]? = l1[p]?) (h4 : ∀ p, p < l.length → l1[p]? = l[p]?) (h5 : l.length ≤ l1.length) :
    let L := l'.set mb (.cells (m4 (upd mv a v')) 56 (0, 0))
    May w L mb (Omore O l L) (tagMore tag l a) (upd mv a v') (upd ms a (ms a ++ [s])) ∧ (∀ p, p < l.length → p ≠ mb → ¬ (O p ∧ p ≠ mb ∧ tag p = a) → L[p]? = l[p]?) ∧ l.length ≤ L.length := by
  intro L
  have hmb := (List.getElem?_eq_some_iff.1 h.blk).1
  have hrow := h.rows a ha
  have hkeep : ∀ p, p < l.length → p ≠ mb → ¬ (O p ∧ p ≠ mb ∧ tag p = a) → L[p]? = l[p]? := fun p hp hne hno => by
    rw [List.getElem?_set_ne hne.symm, h3 p (by omega) (RowV.notAt hrow hno), h4 p hp]
  have hLl : L.length = l'.length := List.length_set
  refine ⟨⟨?_, .inl h.own, fun b hb => ?_⟩, hkeep, by omega⟩
  · have := h3 mb (by omega) (RowV.notAt hrow (fun h => h.2.1 rfl))
    exact set_some (this.trans ((h4 mb hmb).trans h.blk))
  · by_cases hba : b = a
    · subst hba
      rw [upd_same, upd_same, List.length_append, List.map_append]
      refine h1.mono fun p hp hlt => ?_
      by_cases hpl : p < l.length
      · obtain ⟨k1, k2, k3⟩ := hp hpl
        exact ⟨⟨.inl k1, k2, by unfold tagMore; rw [if_pos hpl]; exact k3⟩, List.getElem?_set_ne k2.symm⟩
      · have hne : p ≠ mb := by omega
        exact ⟨⟨.inr ⟨by omega, by omega⟩, hne, by unfold tagMore; rw [if_neg hpl]⟩, List.getElem?_set_ne hne.symm⟩
    · rw [upd_other _ _ hba, upd_other _ _ hba]
      refine (h.rows b hb).mono fun p hp hlt => ?_
      exact ⟨⟨.inl hp.1, hp.2.1, by unfold tagMore; rw [if_pos hlt]; exact hp.2.2⟩, hkeep p hlt hp.2.1 (fun h => hba (hp.2.2.symm.trans h.2.2))⟩
theorem May.more {w : World} {l : List Obj} {mb : Nat} {O : Nat → Prop} {tag : Nat → Nat} {mv : Nat → Value} {ms : Nat → List ByteArray} (h : May w l mb O tag mv ms) (g : List Obj) : May w (l ++ g) mb (Omore O l (l ++ g)) (tagMore tag l 4) mv ms :=
  ⟨app_some h.blk, .inl h.own, fun a ha => (h.rows a ha).mono fun p hp hlt => ⟨⟨.inl hp.1, hp.2.1, by unfold tagMore; rw [if_pos hlt]; exact hp.2.2⟩, List.getElem?_append_left hlt⟩⟩
theorem tagMore_new (tag : Nat → Nat) (l : List Obj) (a : Nat) : tagMore tag l a l.length = a := if_neg (Nat.lt_irrefl _)
end Go.Proofs.Ytafbphgfdnmilaa

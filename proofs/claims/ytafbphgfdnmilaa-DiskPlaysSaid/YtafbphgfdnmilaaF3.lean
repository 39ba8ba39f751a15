/- The power fails, as the document has it: by contract. No condition but that rows are small. -/
import Derived.Test.YtafbphgfdnmilaaF2
namespace Go.Proofs.Ytafbphgfdnmilaa
open Go.RowKit Go.Own

theorem tearR_snoc (k : Nat) (t last : Int) (p : Nat × List Nat) : ∀ (ws : List (Nat × List Nat)) (i : Nat) (x : List (List Nat)), tearR k t last i x (ws ++ [p]) = (tearR k t last i x ws).set p.1 (p.2.take (keptN k t last (i + ws.length)) ++ ((tearR k t last i x ws).getD p.1 []).drop (keptN k t last (i + ws.length)))
  | [], i, x => rfl
  | q :: ws, i, x => by
    show tearR k t last (i + 1) _ (ws ++ [p]) = _
    rw [tearR_snoc k t last p ws, List.length_cons, show i + 1 + ws.length = i + (ws.length + 1) by omega]
    rfl
theorem tearR_step (k : Nat) (t last : Int) (x : List (List Nat)) (ws : List (Nat × List Nat)) (j a : Nat) (y : List Nat) (h : ws[j]? = some (a, y)) :
    tearR k t last 0 x (ws.take (j + 1)) = (tearR k t last 0 x (ws.take j)).set a (y.take (keptN k t last j) ++ ((tearR k t last 0 x (ws.take j)).getD a []).drop (keptN k t last j)) := by
  have hk := List.getElem?_eq_some_iff.1 h
  rw [List.take_succ_eq_append_getElem hk.1, tearR_snoc, hk.2, Nat.zero_add, List.length_take, Nat.min_eq_left (by have := hk.1; omega)]
/-- So many sectors of 64 bytes. -/
def Secs (n : Nat) (x : List (List Nat)) : Prop := x.length = n ∧ ∀ s ∈ x, s.length = 64 ∧ B8 s
theorem Secs.get {n : Nat} {x : List (List Nat)} (h : Secs n x) {a : Nat} (ha : a < n) : x[a]? = some (x.getD a []) ∧ (x.getD a []).length = 64 ∧ B8 (x.getD a []) := by
  have hx : x[a]? = some (x[a]'(by rw [h.1]; exact ha)) := List.getElem?_eq_getElem _
  have e : x.getD a [] = x[a]'(by rw [h.1]; exact ha) := by rw [List.getD_eq_getElem?_getD, hx]; rfl
  rw [e]
  exact ⟨hx, h.2 _ (List.mem_of_getElem? hx)⟩
theorem Secs.set {n : Nat} {x : List (List Nat)} (h : Secs n x) {a : Nat} {s : List Nat} (hs : s.length = 64 ∧ B8 s) : Secs n (x.set a s) := by
  refine ⟨by rw [List.length_set, h.1], fun y hy => ?_⟩
  rcases List.mem_or_eq_of_mem_set hy with hy | rfl
  · exact h.2 y hy
  · exact hs
theorem Secs.torn {n : Nat} {x : List (List Nat)} (h : Secs n x) {a p : Nat} {y : List Nat} (ha : a < n) (hy : y.length = 64 ∧ B8 y) (hp : p ≤ 64) : Secs n (x.set a (y.take p ++ (x.getD a []).drop p)) := by
  obtain ⟨_, h2, h3⟩ := h.get ha
  exact h.set ⟨by rw [List.length_append, List.length_take, List.length_drop, hy.1, h2]; omega, (hy.2.take _).append (h3.drop _)⟩
theorem Secs.tear {n : Nat} (k : Nat) (t last : Int) : ∀ (ws : List (Nat × List Nat)) (i : Nat) (x : List (List Nat)), Secs n x → (∀ p ∈ ws, p.1 < n ∧ p.2.length = 64 ∧ B8 p.2) → Secs n (tearR k t last i x ws)
  | [], _, _, h, _ => h
  | p :: ws, _, _, h, hp => Secs.tear k t last ws _ _ (h.torn (hp p (by simp)).1 (hp p (by simp)).2 (keptN_le _ _ _ _)) fun q hq => hp q (by simp [hq])
theorem Secs.same {n : Nat} {x : List (List Nat)} (h : Secs n x) {a : Nat} (ha : a < n) (y : List Nat) : x.set a (y.take 0 ++ (x.getD a []).drop 0) = x := by
  rw [List.take_zero, List.nil_append, List.drop_zero]
  obtain ⟨h1, _, _⟩ := h.get ha
  obtain ⟨h2, h3⟩ := List.getElem?_eq_some_iff.1 h1
  rw [← h3, List.set_getElem_self]
theorem Rk.Ok.secs {R : Rk} (h : R.Ok) : Secs R.lasts.length R.lasts := ⟨rfl, h.lastO⟩
theorem Rk.fail_secs {R : Rk} (h : R.Ok) (k : Nat) (t : Int) : Secs R.lasts.length (R.fail k t).lasts := Secs.tear k t _ _ _ _ h.secs fun p hp => h.waitO p (List.mem_of_mem_take hp)
theorem Rk.Ok.fail {R : Rk} (h : R.Ok) (k : Nat) (t : Int) : (R.fail k t).Ok := ⟨(Rk.fail_secs h k t).2, fun p hp => by simp [Rk.fail] at hp⟩
theorem notAt_ne {w : World} {i p n c : Nat} (h : i ≠ p) : NotAt w (.slice (some ⟨w.heap.size + i, 0, none⟩) n c) p := by
  intro n' c' e
  have e2 := (Value.slice.inj e).1
  have e3 := congrArg Addr.block (Option.some.inj e2)
  exact h (Nat.add_left_cancel e3)
theorem one_slice (p : Option Addr) (a b : Nat) : (Value.slice p a b).oneCell' = true := rfl
theorem bs29e (w : World) (l : List Obj) (d : Nat) : (bsN 29 0 #[]).run Try.prog (Wd w l d) = .ok (.slice (some ⟨w.heap.size + l.length, 0, none⟩) 0 0) (Wd w (l ++ [.cells #[] 9 (0, 0)]) d) := by
  rw [← Wd_alloc, ← Wd_size w l d]
  generalize Wd w l d = W
  kernel_rfl
theorem bs30e (w : World) (l : List Obj) (d : Nat) : (bsN 30 0 #[]).run Try.prog (Wd w l d) = .ok (.slice (some ⟨w.heap.size + l.length, 0, none⟩) 0 0) (Wd w (l ++ [.cells #[] 76 (0, 0)]) d) := by
  rw [← Wd_alloc, ← Wd_size w l d]
  generalize Wd w l d = W
  kernel_rfl
theorem z76 : zeroOf Try.prog 76 = .agg (wr 0 []) := by kernel_rfl
theorem al76 {w : World} {l : List Obj} {d : Nat} : alX Try.prog 76 (.agg (wr 0 [])) w l d = .ok (.pointer (some ⟨w.heap.size + l.length, 0, none⟩)) (Wd w (l ++ [.cells (wr 0 []) 76 (0, 0)]) d) := alX_mix z76
theorem bu35 (p : Option Addr) (a b n : Nat) (W : World) : (buN 35 #[(0, .slice p a b), (3, .int .i64 (n : Int)), (4, .bool true)]).run Try.prog W = .ok (.agg (rc (.slice p a b) (.slice none 0 0) ⟨[], [], 0, 0, 0, n, true⟩)) W := by kernel_rfl
section
variable {P : Program} {T : TypeId} {b a a' : Nat} {W : World} {x x' : List Nat} {ty : TypeId} {f : Nat × Nat}
theorem ldV0 (ha : (isAgg T).run P W = .ok false W) (h2 : blk W b = some (.cells (wr a x) ty f)) : ldX P T none (some (.cells (wr a x) ty f)) b 0 W = .ok (.int .i64 (a : Int)) W := ldX_mix1 ha h2 rfl
theorem ldV1 (ha : (isAgg T).run P W = .ok false W) (h2 : blk W b = some (.cells (wr a x) ty f)) : ldX P T none (some (.cells (wr a x) ty f)) b 1 W = .ok (.string (mkS x)) W := ldX_mix1 ha h2 rfl
theorem stV {w : World} {l : List Obj} {d i : Nat} (h1 : (sizeOf T).run P (Wd w l d) = .ok 2 (Wd w l d)) (h2 : l[i]? = some (.cells (wr a x) ty (0, 0))) :
    stX P T 2 (some (.cells (wr a x) ty (0, 0))) w l d i 0 (.agg (wr a' x')) = .ok () (Wd w (l.set i (.cells (wr a' x') ty (0, 0))) d) := stX_all h1 h2 rfl rfl (wr_one _ _)
end
theorem ext_mkS {x : List Nat} (a b : Nat) : (mkS x).extract a b = mkS ((x.drop a).take (b - a)) := by
  apply ByteArray.ext
  apply Array.ext'
  simp [mkS, ByteArray.data_extract, List.extract_eq_take_drop, List.map_drop, List.map_take]
theorem sls_hi {s : ByteArray} {kp : Nat} {k : IntKind} {W : World} (h : kp ≤ s.size) : (Instr.sliceAt 9 (.string s) none (some (.int k (kp : Int))) none).run Try.prog W = .ok (.string (s.extract 0 kp)) W := by
  simp [Instr.sliceAt, Instr.slice, Instr.sliceBounds, Instr.sliceBound, run_underlying Try.underlying9, asIntOf]
  intro hh; omega
theorem sls_lo {s : ByteArray} {kp : Nat} {k : IntKind} {W : World} (h : kp ≤ s.size) : (Instr.sliceAt 9 (.string s) (some (.int k (kp : Int))) none none).run Try.prog W = .ok (.string (s.extract kp s.size)) W := by
  simp [Instr.sliceAt, Instr.slice, Instr.sliceBounds, Instr.sliceBound, run_underlying Try.underlying9, asIntOf]
  intro hh; omega
theorem ld_wr {w : World} {L : List Obj} {D j k m a : Nat} {X : List Value} {x : List Nat} {tj : TypeId} {ws : List (Nat × List Nat)} (hj : L[j]? = some (.cells X.toArray tj (0, 0)))
    (hX : X.take (m * 2) = wcr ws) (hm : k < m) (hml : m * 2 ≤ X.length) (hk : ws[k]? = some (a, x)) : ldX Try.prog 76 (some 2) (some (.cells X.toArray tj (0, 0))) (w.heap.size + j) (k * 2) (Wd w L D) = .ok (.agg (wr a x)) (Wd w L D) := by
  rw [ldX_mix ag76 (by rw [blk_at]; exact hj) (by rw [List.size_toArray]; omega)]
  congr 2
  apply Array.ext'
  rw [Array.toList_extract, List.extract_eq_take_drop, Nat.add_sub_cancel_left]
  exact wr_at hX hm hk
theorem st_str {w : World} {L : List Obj} {D i a : Nat} {X : List Value} {s : ByteArray} {t : TypeId} (hi : L[i]? = some (.cells X.toArray t (0, 0))) (ha : a < X.length) :
    stX Try.prog 9 1 (some (.cells X.toArray t (0, 0))) w L D i a (.string s) = .ok () (Wd w (L.set i (.cells (X.set a (.string s)).toArray t (0, 0))) D) := by
  rw [stX_mix1 (sz9 _) rfl hi (by rw [List.size_toArray]; exact ha)]
  congr 4
  unfold splA
  rw [List.length_singleton]
  congr 1
  show X.take a ++ [_] ++ X.drop (a + 1) = _
  rw [List.set_eq_take_append_cons_drop, if_pos ha, List.append_assoc]; rfl
end Go.Proofs.Ytafbphgfdnmilaa

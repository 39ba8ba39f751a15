/- The document's disk plainly, and in memory. No condition. -/
import Derived.Test.YtafbphgfdnmilaaM1
import Derived.Laws.Concat
namespace Go.Proofs.Ytafbphgfdnmilaa
open Go.RowKit Go.Own

/-- The document's disk. -/
structure Rk where
  lasts : List (List Nat)
  wait : List (Nat × List Nat)
  cat : Int
  keep : Nat
  torn : Int
  count : Nat
  off : Bool
structure Rk.Ok (R : Rk) : Prop where
  lastO : ∀ x ∈ R.lasts, x.length = 64 ∧ B8 x
  waitO : ∀ p ∈ R.wait, p.1 < R.lasts.length ∧ p.2.length = 64 ∧ B8 p.2
/-- What lasts of writes, sector by sector. -/
def tearR (k : Nat) (t last : Int) : Nat → List (List Nat) → List (Nat × List Nat) → List (List Nat)
  | _, x, [] => x
  | i, x, p :: ws => tearR k t last (i + 1) (x.set p.1 (p.2.take (keptN k t last i) ++ (x.getD p.1 []).drop (keptN k t last i))) ws
def Rk.fail (R : Rk) (k : Nat) (t : Int) : Rk :=
  { lasts := tearR k t ((R.wait.length : Int) - 1) 0 R.lasts (R.wait.take 64), wait := [], cat := 0, keep := 0, torn := 0, count := R.count, off := true }
def Rk.counted (R : Rk) : Rk × Bool :=
  if 1 ≤ R.cat ∧ R.cat = (R.count : Int) + 1 then (({ R with count := R.count + 1 } : Rk).fail R.keep R.torn, true) else ({ R with count := R.count + 1 }, false)
def Rk.put (R : Rk) (x : Int) (s : List Nat) : Rk × Nat :=
  if refE R.off R.lasts.length x = 0 then (if 64 < s.length then (R, 3) else
    let C := ({ R with wait := R.wait ++ [(x.toNat, filL s)] } : Rk).counted
    (C.1, if C.2 then 7 else 0)) else (R, refE R.off R.lasts.length x)
/-- What is seen of sector a. -/
def seenR (a : Nat) (s : List Nat) (ws : List (Nat × List Nat)) : List Nat := ws.foldl (fun s p => if p.1 = a then p.2 else s) s
def Rk.read (R : Rk) (x : Int) : List Nat × Nat :=
  if refE R.off R.lasts.length x = 0 then (seenR x.toNat (R.lasts.getD x.toNat []) R.wait, 0) else ([], refE R.off R.lasts.length x)
def applyR (x : List (List Nat)) (ws : List (Nat × List Nat)) : List (List Nat) := ws.foldl (fun x p => x.set p.1 p.2) x
def Rk.flush (R : Rk) : Rk × Nat :=
  if R.off then (R, 7) else if R.counted.2 then (R.counted.1, 7) else ({ R.counted.1 with lasts := applyR R.counted.1.lasts R.counted.1.wait, wait := [] }, 0)
def Rk.arm (R : Rk) (a : Int) (k : Nat) (t : Int) : Rk := { R with cat := armA a, keep := armK a k, torn := armT a t, count := 0 }
def Rk.crash (R : Rk) (k : Nat) (t : Int) : Rk := if R.off then R else R.fail k t
def newR (n : Nat) : Rk := ⟨List.replicate n (rep 64), [], 0, 0, 0, 0, false⟩

/-! ### In memory -/
def rc (vl vw : Value) (R : Rk) : Array Value := #[vl, vw, .int .i64 R.cat, .int .u64 (R.keep : Int), .int .i64 R.torn, .int .i64 (R.count : Int), .bool R.off]
theorem rc_size (vl vw : Value) (R : Rk) : (rc vl vw R).size = 7 := rfl
theorem rc_one {vl vw : Value} {R : Rk} (h1 : vl.oneCell' = true) (h2 : vw.oneCell' = true) : ∀ v ∈ (rc vl vw R).toList, v.oneCell' = true := by
  intro v hv
  simp [rc] at hv
  rcases hv with rfl | rfl | rfl | rfl | rfl | rfl | rfl <;> first | assumption | rfl
def wr (a : Nat) (x : List Nat) : Array Value := #[.int .i64 (a : Int), .string (mkS x)]
theorem wr_one (a : Nat) (x : List Nat) : ∀ v ∈ (wr a x).toList, v.oneCell' = true := by
  intro v hv
  simp [wr] at hv
  rcases hv with rfl | rfl <;> rfl
def lcs (x : List (List Nat)) : List Value := x.map fun s => .string (mkS s)
def wcr (ws : List (Nat × List Nat)) : List Value := ws.flatMap fun p => (wr p.1 p.2).toList
theorem wcr_append (a b : List (Nat × List Nat)) : wcr (a ++ b) = wcr a ++ wcr b := by simp [wcr]
theorem wcr_one (a : Nat) (x : List Nat) : wcr [(a, x)] = (wr a x).toList := by simp [wcr]
theorem wcr_all : ∀ ws : List (Nat × List Nat), ∀ v ∈ wcr ws, v.oneCell' = true := fun ws v hv => by
  obtain ⟨p, _, h⟩ := List.mem_flatMap.1 hv
  exact wr_one _ _ v h
theorem lcs_all (x : List (List Nat)) : ∀ v ∈ lcs x, v.oneCell' = true := fun v hv => by
  obtain ⟨p, _, rfl⟩ := List.mem_map.1 hv
  rfl
theorem wcr_get : ∀ {ws : List (Nat × List Nat)} {k a : Nat} {x : List Nat}, ws[k]? = some (a, x) → ((wcr ws).drop (k * 2)).take 2 = (wr a x).toList
  | [], k, a, x, h => by simp at h
  | p :: ws, 0, a, x, h => by
    obtain rfl : p = (a, x) := by simpa using h
    rfl
  | p :: ws, k + 1, a, x, h => by
    have ih := wcr_get (ws := ws) (k := k) (a := a) (x := x) (by simpa using h)
    show (((wr p.1 p.2).toList ++ wcr ws).drop ((k + 1) * 2)).take 2 = _
    rw [show (k + 1) * 2 = (wr p.1 p.2).toList.length + k * 2 by show _ = 2 + k * 2; omega, List.drop_append, List.drop_of_length_le (by omega), List.nil_append, Nat.add_sub_cancel_left]
    exact ih
/-- The document's disk by value: its rows lie where A allows. -/
structure RAt (A : Nat → Prop) (w : World) (l : List Obj) (vl vw : Value) (R : Rk) : Prop where
  lasts : RowV A w l 1 R.lasts.length vl (lcs R.lasts)
  wait : RowV A w l 2 R.wait.length vw (wcr R.wait)
  ok : R.Ok
theorem RAt.mono {A B : Nat → Prop} {w : World} {l l' : List Obj} {vl vw : Value} {R : Rk} (h : RAt A w l vl vw R) (hl : ∀ p, A p → p < l.length → B p ∧ l'[p]? = l[p]?) : RAt B w l' vl vw R :=
  ⟨h.lasts.mono hl, h.wait.mono hl, h.ok⟩
/-- Nothing but new blocks. -/
def Ext (l l' : List Obj) : Prop := l.length ≤ l'.length ∧ ∀ p, p < l.length → l'[p]? = l[p]?
theorem Ext.refl (l : List Obj) : Ext l l := ⟨Nat.le_refl _, fun _ _ => rfl⟩
theorem Ext.app (l g : List Obj) : Ext l (l ++ g) := ⟨by simp, fun _ h => List.getElem?_append_left h⟩
theorem Ext.trans {a b c : List Obj} (h : Ext a b) (k : Ext b c) : Ext a c := ⟨Nat.le_trans h.1 k.1, fun p hp => by rw [k.2 p (by have := h.1; omega), h.2 p hp]⟩
theorem Ext.set {l l' : List Obj} (h : Ext l l') {i : Nat} (hi : l.length ≤ i) (X : Obj) : Ext l (l'.set i X) := ⟨by rw [List.length_set]; exact h.1, fun p hp => by rw [List.getElem?_set_ne (by omega), h.2 p hp]⟩
theorem RAt.ext {A : Nat → Prop} {w : World} {l l' : List Obj} {vl vw : Value} {R : Rk} (h : RAt A w l vl vw R) (hx : Ext l l') : RAt A w l' vl vw R := h.mono fun p hp hlt => ⟨hp, hx.2 p hlt⟩
theorem RowV.ext {A : Nat → Prop} {w : World} {l l' : List Obj} {sz n : Nat} {v : Value} {C : List Value} (h : RowV A w l sz n v C) (hx : Ext l l') : RowV A w l' sz n v C := h.mono fun p hp hlt => ⟨hp, hx.2 p hlt⟩
section
variable {P : Program} {T : TypeId} {b : Nat} {W : World} {vl vw : Value} {R : Rk} {ty : TypeId} {f : Nat × Nat}
theorem ldR (h1 : aggSize P T = some 7) (h2 : blk W b = some (.cells (rc vl vw R) ty f)) : ldX P T (some 7) (some (.cells (rc vl vw R) ty f)) b 0 W = .ok (.agg (rc vl vw R)) W := by
  rw [ldX_mix h1 h2 (by rw [rc_size]; omega)]; rfl
theorem ldR0 (ha : (isAgg T).run P W = .ok false W) (h2 : blk W b = some (.cells (rc vl vw R) ty f)) : ldX P T none (some (.cells (rc vl vw R) ty f)) b 0 W = .ok vl W := ldX_mix1 ha h2 rfl
theorem ldR1 (ha : (isAgg T).run P W = .ok false W) (h2 : blk W b = some (.cells (rc vl vw R) ty f)) : ldX P T none (some (.cells (rc vl vw R) ty f)) b 1 W = .ok vw W := ldX_mix1 ha h2 rfl
theorem ldR2 (ha : (isAgg T).run P W = .ok false W) (h2 : blk W b = some (.cells (rc vl vw R) ty f)) : ldX P T none (some (.cells (rc vl vw R) ty f)) b 2 W = .ok (.int .i64 R.cat) W := ldX_mix1 ha h2 rfl
theorem ldR3 (ha : (isAgg T).run P W = .ok false W) (h2 : blk W b = some (.cells (rc vl vw R) ty f)) : ldX P T none (some (.cells (rc vl vw R) ty f)) b 3 W = .ok (.int .u64 (R.keep : Int)) W := ldX_mix1 ha h2 rfl
theorem ldR4 (ha : (isAgg T).run P W = .ok false W) (h2 : blk W b = some (.cells (rc vl vw R) ty f)) : ldX P T none (some (.cells (rc vl vw R) ty f)) b 4 W = .ok (.int .i64 R.torn) W := ldX_mix1 ha h2 rfl
theorem ldR5 (ha : (isAgg T).run P W = .ok false W) (h2 : blk W b = some (.cells (rc vl vw R) ty f)) : ldX P T none (some (.cells (rc vl vw R) ty f)) b 5 W = .ok (.int .i64 (R.count : Int)) W := ldX_mix1 ha h2 rfl
theorem ldR6 (ha : (isAgg T).run P W = .ok false W) (h2 : blk W b = some (.cells (rc vl vw R) ty f)) : ldX P T none (some (.cells (rc vl vw R) ty f)) b 6 W = .ok (.bool R.off) W := ldX_mix1 ha h2 rfl
variable {w : World} {l : List Obj} {d i : Nat}
theorem stR {vl' vw' : Value} {R' : Rk} (h1 : (sizeOf T).run P (Wd w l d) = .ok 7 (Wd w l d)) (hl : vl'.oneCell' = true) (hw : vw'.oneCell' = true) (h2 : l[i]? = some (.cells (rc vl vw R) ty (0, 0))) :
    stX P T 7 (some (.cells (rc vl vw R) ty (0, 0))) w l d i 0 (.agg (rc vl' vw' R')) = .ok () (Wd w (l.set i (.cells (rc vl' vw' R') ty (0, 0))) d) := stX_all h1 h2 rfl rfl (rc_one hl hw)
theorem stR0 {v : Value} (h1 : (sizeOf T).run P (Wd w l d) = .ok 1 (Wd w l d)) (hv : v.oneCell' = true) (h2 : l[i]? = some (.cells (rc vl vw R) ty (0, 0))) :
    stX P T 1 (some (.cells (rc vl vw R) ty (0, 0))) w l d i 0 v = .ok () (Wd w (l.set i (.cells (rc v vw R) ty (0, 0))) d) := by
  rw [stX_mix1 h1 hv h2 (by rw [rc_size]; omega)]; rfl
theorem stR1 {v : Value} (h1 : (sizeOf T).run P (Wd w l d) = .ok 1 (Wd w l d)) (hv : v.oneCell' = true) (h2 : l[i]? = some (.cells (rc vl vw R) ty (0, 0))) :
    stX P T 1 (some (.cells (rc vl vw R) ty (0, 0))) w l d i 1 v = .ok () (Wd w (l.set i (.cells (rc vl v R) ty (0, 0))) d) := by
  rw [stX_mix1 h1 hv h2 (by rw [rc_size]; omega)]; rfl
theorem stR2 {a : Int} {k : Nat} {t : Int} (h1 : (sizeOf T).run P (Wd w l d) = .ok 3 (Wd w l d)) (h2 : l[i]? = some (.cells (rc vl vw R) ty (0, 0))) :
    stX P T 3 (some (.cells (rc vl vw R) ty (0, 0))) w l d i 2 (.agg (kc a k t)) = .ok () (Wd w (l.set i (.cells (rc vl vw { R with cat := a, keep := k, torn := t }) ty (0, 0))) d) := by
  rw [stX_mix h1 h2 rfl (by rw [rc_size]; omega) (kc_one _ _ _)]; rfl
theorem stR5 {m : Nat} (h1 : (sizeOf T).run P (Wd w l d) = .ok 1 (Wd w l d)) (h2 : l[i]? = some (.cells (rc vl vw R) ty (0, 0))) :
    stX P T 1 (some (.cells (rc vl vw R) ty (0, 0))) w l d i 5 (.int .i64 ((m : Int) + 1)) = .ok () (Wd w (l.set i (.cells (rc vl vw { R with count := m + 1 }) ty (0, 0))) d) := by
  rw [stX_mix1 h1 rfl h2 (by rw [rc_size]; omega)]; rfl
theorem stR5z (h1 : (sizeOf T).run P (Wd w l d) = .ok 1 (Wd w l d)) (h2 : l[i]? = some (.cells (rc vl vw R) ty (0, 0))) :
    stX P T 1 (some (.cells (rc vl vw R) ty (0, 0))) w l d i 5 (.int .i64 0) = .ok () (Wd w (l.set i (.cells (rc vl vw { R with count := 0 }) ty (0, 0))) d) := by
  rw [stX_mix1 h1 rfl h2 (by rw [rc_size]; omega)]; rfl
theorem stR6 {o : Bool} (h1 : (sizeOf T).run P (Wd w l d) = .ok 1 (Wd w l d)) (h2 : l[i]? = some (.cells (rc vl vw R) ty (0, 0))) :
    stX P T 1 (some (.cells (rc vl vw R) ty (0, 0))) w l d i 6 (.bool o) = .ok () (Wd w (l.set i (.cells (rc vl vw { R with off := o }) ty (0, 0))) d) := by
  rw [stX_mix1 h1 rfl h2 (by rw [rc_size]; omega)]; rfl
end
def rk0 : Rk := ⟨[], [], 0, 0, 0, 0, false⟩
theorem z35 : zeroOf Try.prog 35 = .agg (rc (.slice none 0 0) (.slice none 0 0) rk0) := by kernel_rfl
theorem al35 {w : World} {l : List Obj} {d : Nat} : alX Try.prog 35 (.agg (rc (.slice none 0 0) (.slice none 0 0) rk0)) w l d = .ok (.pointer (some ⟨w.heap.size + l.length, 0, none⟩)) (Wd w (l ++ [.cells (rc (.slice none 0 0) (.slice none 0 0) rk0) 35 (0, 0)]) d) := alX_mix z35
theorem mkS_append (a b : List Nat) : mkS a ++ mkS b = mkS (a ++ b) := by
  apply ByteArray.ext
  simp [mkS, ByteArray.data_append]
theorem mkS_add {P : Program} {W : World} (a b : List Nat) (h : a.length + b.length ≤ 1099511627776) : (Op.stringOp .add (mkS a) (mkS b)).run P W = .ok (.string (mkS (a ++ b))) W := by
  rw [run_string_add_sum W _ _ (by rw [mkS_size, mkS_size]; omega), mkS_append]
end Go.Proofs.Ytafbphgfdnmilaa

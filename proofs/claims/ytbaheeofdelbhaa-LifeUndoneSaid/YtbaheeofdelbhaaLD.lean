/- Life's functions by contract: a step, a new one. No condition but what each names. -/
import Derived.Test.YtbaheeofdelbhaaLC
namespace Go.Proofs.Ytbaheeofdelbhaa
open Go Go.RowKit
theorem cell_of {w : World} {b : Nat} {cs : Array Value} {T : TypeId} (h : w.heap[b]? = some (.cells cs T (0, 0))) (i : Nat) : w.cell? ⟨b, i, none⟩ = cs[i]? := by
  simp only [World.cell?, show w.heap[b]? = _ from h, Option.isSome_none, Bool.false_eq_true, if_false]
/-- Values are stored into a block of as many. -/
theorem wpList_put {ops : Array Oper} {rest : List Oper} {a : Act} {Q : Exit → Act → World → Prop} {w : World} {x y : Nat} {ty : TypeId} {pos : String} {after : Array Edge} (T : TypeId) (g : Nat) (cs os : Array Value)
    (hx : a.eval (.tmp x) = .pointer (some ⟨g, 0, none⟩)) (hy : a.eval (.tmp y) = .agg cs) (hg : w.heap[g]? = some (.cells os T (0, 0))) (hi : (Try.prog.info? T).map (·.size) = some cs.size) (hs : os.size = cs.size) (h1 : cs.all (·.oneCell') = true)
    (h : ∀ w', w'.heap[g]? = some (.cells cs T (0, 0)) → w.grownBy w' (some g) → wpList Try.prog ops Q rest a w') :
    wpList Try.prog ops Q ({ dst := none, op := .store T (.tmp x) (.tmp y), type := ty, pos := pos, after := after, guard := none } :: rest) a w :=
  wpList_store_row rfl T (.tmp x) (.tmp y) rfl g cs hx hy T os hg hi hs h1
    (h _ (setRow_heap w g _ _ T (0, 0) hg) ⟨rfl, rfl, rfl, by simp, fun k _ hne => setRow_other w g k _ (fun e => hne (by rw [e]))⟩)
theorem below_put {w w1 w2 : World} {B g : Nat} (h : Below B w w1) (hg : w1.grownBy w2 (some g)) (hB : B ≤ w1.heap.size) (hBg : B ≤ g) : Below B w w2 :=
  h.grown hg hB (fun k hk => by have := Option.some.inj hk; omega)
theorem res2 {fn : Func} {p u : Tmp} {ty : TypeId} (h : fn.results = #[.cell p ty, .tmp u]) (tmps : Array Value) (P : Program) (w : World) (r : Nat) (x y : Value) (hp : tmps[p]? = some (.pointer (some ⟨r, 0, none⟩))) (hu : tmps[u]? = some y) (hx : (loadVar ty ⟨r, 0, none⟩).run P w = .ok x w) :
    (results fn tmps).run P w = .ok (.tuple #[x, y]) w := by
  simp [results, h, asAddr, hp, hu, hx]
theorem ld_cells {P : Program} {T : TypeId} (W : World) {b : Nat} (cs : List Value) (ha : (isAgg T).run P W = .ok true W) (hz : (sizeOf T).run P W = .ok cs.length W) (h : W.heap[b]? = some (.cells cs.toArray T (0, 0))) :
    (Instr.loadAt T (.pointer (some ⟨b, 0, none⟩))).run P W = .ok (.agg cs.toArray) W ∧ (loadVar T ⟨b, 0, none⟩).run P W = .ok (.agg cs.toArray) W := by
  have hl := run_loadCells_list (P := P) W ⟨b, 0, none⟩ cs (fun j u hu => by
    have hadd : (⟨b, 0, none⟩ : Addr).add j = ⟨b, j, none⟩ := by unfold Addr.add; split <;> simp_all
    rw [hadd, cell_of h]
    simpa using hu)
  constructor
  · simp [Instr.loadAt, Instr.sureAddr, loadVar, ha, hz, hl]
  · simp [loadVar, ha, hz, hl]
theorem ld23 {W : World} {b : Nat} {x y z u : Value} (h : W.heap[b]? = some (.cells #[x, y, z, u] 23 (0, 0))) : (loadVar 23 ⟨b, 0, none⟩).run Try.prog W = .ok (.agg #[x, y, z, u]) W :=
  (ld_cells (P := Try.prog) (T := 23) W [x, y, z, u] (by kernel_rfl) (by kernel_rfl) h).2
theorem i23 : (Try.prog.info? 23).map (·.size) = some 4 := by kernel_rfl
/-- Three blocks of the call's own. -/
structure Has3 (w : World) (A B C : Array Value) (W : World) : Prop extends Has2 w A B W where
  c : W.heap[w.heap.size + 1 + 1]? = some (.cells C 23 (0, 0))
theorem Has3.new (w : World) (A B C : Array Value) (s t : TypeId) : Has3 w A B C (((w.alloc (.cells A s)).alloc (.cells B t)).alloc (.cells C 23)) := by
  have h := Has2.new w A B s t
  have h3 := below_new ((w.alloc (.cells A s)).alloc (.cells B t)) (.cells C 23)
  have z : ((w.alloc (.cells A s)).alloc (.cells B t)).heap.size = w.heap.size + 1 + 1 := by simp
  refine ⟨h.below h3, ?_⟩
  rw [← z]
  exact heap_alloc_new _ _
theorem Has3.below {w W W' : World} {A B C : Array Value} (h : Has3 w A B C W) (hb : Below W.heap.size W W') : Has3 w A B C W' :=
  ⟨h.toHas2.below hb, (hb.block _ (Array.getElem?_eq_some_iff.1 h.c).1).trans h.c⟩
set_option maxRecDepth 100000 in
theorem st_21 (n now d e v : Int) (hr : rightB 1 d e v = true) (ht : timeB now = true) (w : World) :
    Calls Try.prog 6 #[lv 1 d e v, ev 2 n, .int .i64 now] w (Ret (.tuple #[lv 2 d e v, .int .i64 0]) w) := by
  have H3 := Lib.hid (Has3.new w #[.int .i64 1, .int .i64 d, .int .i64 e, .int .i64 v] #[.int .i64 2, .int .i64 n] #[.int .i64 0, .int .i64 0, .int .i64 0, .int .i64 0] 23 27)
  have HR := Lib.hid (fun W => right_any 1 d e v W)
  rw [hr] at HR
  have HT := Lib.hid (fun W => time_any now W)
  rw [ht] at HT
  have HF := Lib.hid (fun W => rf_21 n now d e v W)
  have HE := Lib.hid (fun W => be_21 n now d e v W)
  unfold lv ev at *
  clear hr ht
  go_enter Try.func6, Try.ntmps6
  go_wp2_with fail
  refine (HR.out _).mono ?_
  rintro e1 w1 ⟨rfl, hb1⟩
  replace H3 := Lib.hid (H3.out.below hb1)
  clear hb1
  have a0 := H3.out.a 0 _ rfl
  have a1 := H3.out.a 1 _ rfl
  have a2 := H3.out.a 2 _ rfl
  have a3 := H3.out.a 3 _ rfl
  have b0 := H3.out.b 0 _ rfl
  have b1 := H3.out.b 1 _ rfl
  go_wp2_with fail
  refine (HT.out _).mono ?_
  rintro e1 w2 ⟨rfl, rfl⟩
  go_wp2_with fail
  refine (HF.out _).mono ?_
  clear a0 a1 a2 a3 b0 b1
  rintro e1 w3 ⟨rfl, hb1⟩
  replace H3 := Lib.hid (H3.out.below hb1)
  clear hb1
  have a0 := H3.out.a 0 _ rfl
  have a1 := H3.out.a 1 _ rfl
  have a2 := H3.out.a 2 _ rfl
  have a3 := H3.out.a 3 _ rfl
  have b0 := H3.out.b 0 _ rfl
  have b1 := H3.out.b 1 _ rfl
  go_wp2_with fail
  refine (HE.out _).mono ?_
  clear a0 a1 a2 a3 b0 b1
  rintro e1 w4 ⟨rfl, hb1⟩
  replace H3 := Lib.hid (H3.out.below hb1)
  clear hb1
  have a0 := H3.out.a 0 _ rfl
  have a1 := H3.out.a 1 _ rfl
  have a2 := H3.out.a 2 _ rfl
  have a3 := H3.out.a 3 _ rfl
  have b0 := H3.out.b 0 _ rfl
  have b1 := H3.out.b 1 _ rfl
  have I0 := Lib.hid (show (Try.prog.info? 23).map (·.size) = some (#[.int .i64 2, .int .i64 d, .int .i64 e, .int .i64 v] : Array Value).size from i23)
  have I1 := Lib.hid (show (#[.int .i64 0, .int .i64 0, .int .i64 0, .int .i64 0] : Array Value).size = (#[.int .i64 2, .int .i64 d, .int .i64 e, .int .i64 v] : Array Value).size from rfl)
  have I2 := Lib.hid (show (#[.int .i64 2, .int .i64 d, .int .i64 e, .int .i64 v] : Array Value).all (·.oneCell') = true by simp [Value.oneCell'])
  go_wp2_with (with_reducible refine wpList_put 23 (w.heap.size + 1 + 1) #[.int .i64 2, .int .i64 d, .int .i64 e, .int .i64 v] _ rfl rfl H3.out.c I0.out I1.out I2.out ?_)
  intro w5 hg hgr
  have HB := Lib.hid (below_put H3.out.be hgr H3.out.be.size (by omega))
  have HG := Lib.hid hg
  clear hg hgr
  go_wp2
  exact bodyPost_ret (v := .tuple #[.agg #[.int .i64 2, .int .i64 d, .int .i64 e, .int .i64 v], .int .i64 0]) (res2 Try.results6 _ _ _ (w.heap.size + 1 + 1) _ _ rfl rfl (ld23 HG.out)) rfl ⟨rfl, HB.out⟩
set_option maxRecDepth 100000 in
theorem st_12 (n now d e v : Int) (hr : rightB 2 d e v = true) (ht : timeB now = true) (w : World) :
    Calls Try.prog 6 #[lv 2 d e v, ev 1 n, .int .i64 now] w (Ret (.tuple #[lv 1 d e v, .int .i64 0]) w) := by
  have H3 := Lib.hid (Has3.new w #[.int .i64 2, .int .i64 d, .int .i64 e, .int .i64 v] #[.int .i64 1, .int .i64 n] #[.int .i64 0, .int .i64 0, .int .i64 0, .int .i64 0] 23 27)
  have HR := Lib.hid (fun W => right_any 2 d e v W)
  rw [hr] at HR
  have HT := Lib.hid (fun W => time_any now W)
  rw [ht] at HT
  have HF := Lib.hid (fun W => rf_12 n now d e v W)
  have HE := Lib.hid (fun W => be_12 n now d e v W)
  unfold lv ev at *
  clear hr ht
  go_enter Try.func6, Try.ntmps6
  go_wp2_with fail
  refine (HR.out _).mono ?_
  rintro e1 w1 ⟨rfl, hb1⟩
  replace H3 := Lib.hid (H3.out.below hb1)
  clear hb1
  have a0 := H3.out.a 0 _ rfl
  have a1 := H3.out.a 1 _ rfl
  have a2 := H3.out.a 2 _ rfl
  have a3 := H3.out.a 3 _ rfl
  have b0 := H3.out.b 0 _ rfl
  have b1 := H3.out.b 1 _ rfl
  go_wp2_with fail
  refine (HT.out _).mono ?_
  rintro e1 w2 ⟨rfl, rfl⟩
  go_wp2_with fail
  refine (HF.out _).mono ?_
  clear a0 a1 a2 a3 b0 b1
  rintro e1 w3 ⟨rfl, hb1⟩
  replace H3 := Lib.hid (H3.out.below hb1)
  clear hb1
  have a0 := H3.out.a 0 _ rfl
  have a1 := H3.out.a 1 _ rfl
  have a2 := H3.out.a 2 _ rfl
  have a3 := H3.out.a 3 _ rfl
  have b0 := H3.out.b 0 _ rfl
  have b1 := H3.out.b 1 _ rfl
  go_wp2_with fail
  refine (HE.out _).mono ?_
  clear a0 a1 a2 a3 b0 b1
  rintro e1 w4 ⟨rfl, hb1⟩
  replace H3 := Lib.hid (H3.out.below hb1)
  clear hb1
  have a0 := H3.out.a 0 _ rfl
  have a1 := H3.out.a 1 _ rfl
  have a2 := H3.out.a 2 _ rfl
  have a3 := H3.out.a 3 _ rfl
  have b0 := H3.out.b 0 _ rfl
  have b1 := H3.out.b 1 _ rfl
  have I0 := Lib.hid (show (Try.prog.info? 23).map (·.size) = some (#[.int .i64 1, .int .i64 d, .int .i64 e, .int .i64 v] : Array Value).size from i23)
  have I1 := Lib.hid (show (#[.int .i64 0, .int .i64 0, .int .i64 0, .int .i64 0] : Array Value).size = (#[.int .i64 1, .int .i64 d, .int .i64 e, .int .i64 v] : Array Value).size from rfl)
  have I2 := Lib.hid (show (#[.int .i64 1, .int .i64 d, .int .i64 e, .int .i64 v] : Array Value).all (·.oneCell') = true by simp [Value.oneCell'])
  go_wp2_with (with_reducible refine wpList_put 23 (w.heap.size + 1 + 1) #[.int .i64 1, .int .i64 d, .int .i64 e, .int .i64 v] _ rfl rfl H3.out.c I0.out I1.out I2.out ?_)
  intro w5 hg hgr
  have HB := Lib.hid (below_put H3.out.be hgr H3.out.be.size (by omega))
  have HG := Lib.hid hg
  clear hg hgr
  go_wp2
  exact bodyPost_ret (v := .tuple #[.agg #[.int .i64 1, .int .i64 d, .int .i64 e, .int .i64 v], .int .i64 0]) (res2 Try.results6 _ _ _ (w.heap.size + 1 + 1) _ _ rfl rfl (ld23 HG.out)) rfl ⟨rfl, HB.out⟩
set_option maxRecDepth 100000 in
theorem st_71 (n now d e v : Int) (hr : rightB 1 d e v = true) (ht : timeB now = true) (w : World) :
    Calls Try.prog 6 #[lv 1 d e v, ev 7 n, .int .i64 now] w (Ret (.tuple #[lv 1 d e v, .int .i64 0]) w) := by
  have H3 := Lib.hid (Has3.new w #[.int .i64 1, .int .i64 d, .int .i64 e, .int .i64 v] #[.int .i64 7, .int .i64 n] #[.int .i64 0, .int .i64 0, .int .i64 0, .int .i64 0] 23 27)
  have HR := Lib.hid (fun W => right_any 1 d e v W)
  rw [hr] at HR
  have HT := Lib.hid (fun W => time_any now W)
  rw [ht] at HT
  have HF := Lib.hid (fun W => rf_71 n now d e v W)
  have HE := Lib.hid (fun W => be_71 n now d e v W)
  unfold lv ev at *
  clear hr ht
  go_enter Try.func6, Try.ntmps6
  go_wp2_with fail
  refine (HR.out _).mono ?_
  rintro e1 w1 ⟨rfl, hb1⟩
  replace H3 := Lib.hid (H3.out.below hb1)
  clear hb1
  have a0 := H3.out.a 0 _ rfl
  have a1 := H3.out.a 1 _ rfl
  have a2 := H3.out.a 2 _ rfl
  have a3 := H3.out.a 3 _ rfl
  have b0 := H3.out.b 0 _ rfl
  have b1 := H3.out.b 1 _ rfl
  go_wp2_with fail
  refine (HT.out _).mono ?_
  rintro e1 w2 ⟨rfl, rfl⟩
  go_wp2_with fail
  refine (HF.out _).mono ?_
  clear a0 a1 a2 a3 b0 b1
  rintro e1 w3 ⟨rfl, hb1⟩
  replace H3 := Lib.hid (H3.out.below hb1)
  clear hb1
  have a0 := H3.out.a 0 _ rfl
  have a1 := H3.out.a 1 _ rfl
  have a2 := H3.out.a 2 _ rfl
  have a3 := H3.out.a 3 _ rfl
  have b0 := H3.out.b 0 _ rfl
  have b1 := H3.out.b 1 _ rfl
  go_wp2_with fail
  refine (HE.out _).mono ?_
  clear a0 a1 a2 a3 b0 b1
  rintro e1 w4 ⟨rfl, hb1⟩
  replace H3 := Lib.hid (H3.out.below hb1)
  clear hb1
  have a0 := H3.out.a 0 _ rfl
  have a1 := H3.out.a 1 _ rfl
  have a2 := H3.out.a 2 _ rfl
  have a3 := H3.out.a 3 _ rfl
  have b0 := H3.out.b 0 _ rfl
  have b1 := H3.out.b 1 _ rfl
  have I0 := Lib.hid (show (Try.prog.info? 23).map (·.size) = some (#[.int .i64 1, .int .i64 d, .int .i64 e, .int .i64 v] : Array Value).size from i23)
  have I1 := Lib.hid (show (#[.int .i64 0, .int .i64 0, .int .i64 0, .int .i64 0] : Array Value).size = (#[.int .i64 1, .int .i64 d, .int .i64 e, .int .i64 v] : Array Value).size from rfl)
  have I2 := Lib.hid (show (#[.int .i64 1, .int .i64 d, .int .i64 e, .int .i64 v] : Array Value).all (·.oneCell') = true by simp [Value.oneCell'])
  go_wp2_with (with_reducible refine wpList_put 23 (w.heap.size + 1 + 1) #[.int .i64 1, .int .i64 d, .int .i64 e, .int .i64 v] _ rfl rfl H3.out.c I0.out I1.out I2.out ?_)
  intro w5 hg hgr
  have HB := Lib.hid (below_put H3.out.be hgr H3.out.be.size (by omega))
  have HG := Lib.hid hg
  clear hg hgr
  go_wp2
  exact bodyPost_ret (v := .tuple #[.agg #[.int .i64 1, .int .i64 d, .int .i64 e, .int .i64 v], .int .i64 0]) (res2 Try.results6 _ _ _ (w.heap.size + 1 + 1) _ _ rfl rfl (ld23 HG.out)) rfl ⟨rfl, HB.out⟩
set_option maxRecDepth 100000 in
theorem st_31 (n now d e v : Int) (hr : rightB 1 d e v = true) (ht : timeB now = true) (h1 : 1 ≤ n) (h2 : n ≤ 1000) (h3 : 0 ≤ now) (h4 : now + n ≤ 1099511627776) (w : World) :
    Calls Try.prog 6 #[lv 1 d e v, ev 3 n, .int .i64 now] w (Ret (.tuple #[lv 3 (now + n) e v, .int .i64 0]) w) := by
  have H3 := Lib.hid (Has3.new w #[.int .i64 1, .int .i64 d, .int .i64 e, .int .i64 v] #[.int .i64 3, .int .i64 n] #[.int .i64 0, .int .i64 0, .int .i64 0, .int .i64 0] 23 27)
  have HR := Lib.hid (fun W => right_any 1 d e v W)
  rw [hr] at HR
  have HT := Lib.hid (fun W => time_any now W)
  rw [ht] at HT
  have HF := Lib.hid (fun W => rf_31 n now d e v h1 h2 h3 h4 W)
  have HE := Lib.hid (fun W => be_31 n now d e v h1 h2 h3 h4 W)
  unfold lv ev at *
  clear hr ht
  go_enter Try.func6, Try.ntmps6
  go_wp2_with fail
  refine (HR.out _).mono ?_
  rintro e1 w1 ⟨rfl, hb1⟩
  replace H3 := Lib.hid (H3.out.below hb1)
  clear hb1
  have a0 := H3.out.a 0 _ rfl
  have a1 := H3.out.a 1 _ rfl
  have a2 := H3.out.a 2 _ rfl
  have a3 := H3.out.a 3 _ rfl
  have b0 := H3.out.b 0 _ rfl
  have b1 := H3.out.b 1 _ rfl
  go_wp2_with fail
  refine (HT.out _).mono ?_
  rintro e1 w2 ⟨rfl, rfl⟩
  go_wp2_with fail
  refine (HF.out _).mono ?_
  clear a0 a1 a2 a3 b0 b1
  rintro e1 w3 ⟨rfl, hb1⟩
  replace H3 := Lib.hid (H3.out.below hb1)
  clear hb1
  have a0 := H3.out.a 0 _ rfl
  have a1 := H3.out.a 1 _ rfl
  have a2 := H3.out.a 2 _ rfl
  have a3 := H3.out.a 3 _ rfl
  have b0 := H3.out.b 0 _ rfl
  have b1 := H3.out.b 1 _ rfl
  go_wp2_with fail
  refine (HE.out _).mono ?_
  clear a0 a1 a2 a3 b0 b1
  rintro e1 w4 ⟨rfl, hb1⟩
  replace H3 := Lib.hid (H3.out.below hb1)
  clear hb1
  have a0 := H3.out.a 0 _ rfl
  have a1 := H3.out.a 1 _ rfl
  have a2 := H3.out.a 2 _ rfl
  have a3 := H3.out.a 3 _ rfl
  have b0 := H3.out.b 0 _ rfl
  have b1 := H3.out.b 1 _ rfl
  have I0 := Lib.hid (show (Try.prog.info? 23).map (·.size) = some (#[.int .i64 3, .int .i64 (now + n), .int .i64 e, .int .i64 v] : Array Value).size from i23)
  have I1 := Lib.hid (show (#[.int .i64 0, .int .i64 0, .int .i64 0, .int .i64 0] : Array Value).size = (#[.int .i64 3, .int .i64 (now + n), .int .i64 e, .int .i64 v] : Array Value).size from rfl)
  have I2 := Lib.hid (show (#[.int .i64 3, .int .i64 (now + n), .int .i64 e, .int .i64 v] : Array Value).all (·.oneCell') = true by simp [Value.oneCell'])
  go_wp2_with (with_reducible refine wpList_put 23 (w.heap.size + 1 + 1) #[.int .i64 3, .int .i64 (now + n), .int .i64 e, .int .i64 v] _ rfl rfl H3.out.c I0.out I1.out I2.out ?_)
  intro w5 hg hgr
  have HB := Lib.hid (below_put H3.out.be hgr H3.out.be.size (by omega))
  have HG := Lib.hid hg
  clear hg hgr
  go_wp2
  exact bodyPost_ret (v := .tuple #[.agg #[.int .i64 3, .int .i64 (now + n), .int .i64 e, .int .i64 v], .int .i64 0]) (res2 Try.results6 _ _ _ (w.heap.size + 1 + 1) _ _ rfl rfl (ld23 HG.out)) rfl ⟨rfl, HB.out⟩
set_option maxRecDepth 100000 in
theorem st_43 (n now d e v : Int) (hr : rightB 3 d e v = true) (ht : timeB now = true) (w : World) :
    Calls Try.prog 6 #[lv 3 d e v, ev 4 n, .int .i64 now] w (Ret (.tuple #[lv 2 0 e v, .int .i64 0]) w) := by
  have H3 := Lib.hid (Has3.new w #[.int .i64 3, .int .i64 d, .int .i64 e, .int .i64 v] #[.int .i64 4, .int .i64 n] #[.int .i64 0, .int .i64 0, .int .i64 0, .int .i64 0] 23 27)
  have HR := Lib.hid (fun W => right_any 3 d e v W)
  rw [hr] at HR
  have HT := Lib.hid (fun W => time_any now W)
  rw [ht] at HT
  have HF := Lib.hid (fun W => rf_43 n now d e v W)
  have HE := Lib.hid (fun W => be_43 n now d e v W)
  unfold lv ev at *
  clear hr ht
  go_enter Try.func6, Try.ntmps6
  go_wp2_with fail
  refine (HR.out _).mono ?_
  rintro e1 w1 ⟨rfl, hb1⟩
  replace H3 := Lib.hid (H3.out.below hb1)
  clear hb1
  have a0 := H3.out.a 0 _ rfl
  have a1 := H3.out.a 1 _ rfl
  have a2 := H3.out.a 2 _ rfl
  have a3 := H3.out.a 3 _ rfl
  have b0 := H3.out.b 0 _ rfl
  have b1 := H3.out.b 1 _ rfl
  go_wp2_with fail
  refine (HT.out _).mono ?_
  rintro e1 w2 ⟨rfl, rfl⟩
  go_wp2_with fail
  refine (HF.out _).mono ?_
  clear a0 a1 a2 a3 b0 b1
  rintro e1 w3 ⟨rfl, hb1⟩
  replace H3 := Lib.hid (H3.out.below hb1)
  clear hb1
  have a0 := H3.out.a 0 _ rfl
  have a1 := H3.out.a 1 _ rfl
  have a2 := H3.out.a 2 _ rfl
  have a3 := H3.out.a 3 _ rfl
  have b0 := H3.out.b 0 _ rfl
  have b1 := H3.out.b 1 _ rfl
  go_wp2_with fail
  refine (HE.out _).mono ?_
  clear a0 a1 a2 a3 b0 b1
  rintro e1 w4 ⟨rfl, hb1⟩
  replace H3 := Lib.hid (H3.out.below hb1)
  clear hb1
  have a0 := H3.out.a 0 _ rfl
  have a1 := H3.out.a 1 _ rfl
  have a2 := H3.out.a 2 _ rfl
  have a3 := H3.out.a 3 _ rfl
  have b0 := H3.out.b 0 _ rfl
  have b1 := H3.out.b 1 _ rfl
  have I0 := Lib.hid (show (Try.prog.info? 23).map (·.size) = some (#[.int .i64 2, .int .i64 0, .int .i64 e, .int .i64 v] : Array Value).size from i23)
  have I1 := Lib.hid (show (#[.int .i64 0, .int .i64 0, .int .i64 0, .int .i64 0] : Array Value).size = (#[.int .i64 2, .int .i64 0, .int .i64 e, .int .i64 v] : Array Value).size from rfl)
  have I2 := Lib.hid (show (#[.int .i64 2, .int .i64 0, .int .i64 e, .int .i64 v] : Array Value).all (·.oneCell') = true by simp [Value.oneCell'])
  go_wp2_with (with_reducible refine wpList_put 23 (w.heap.size + 1 + 1) #[.int .i64 2, .int .i64 0, .int .i64 e, .int .i64 v] _ rfl rfl H3.out.c I0.out I1.out I2.out ?_)
  intro w5 hg hgr
  have HB := Lib.hid (below_put H3.out.be hgr H3.out.be.size (by omega))
  have HG := Lib.hid hg
  clear hg hgr
  go_wp2
  exact bodyPost_ret (v := .tuple #[.agg #[.int .i64 2, .int .i64 0, .int .i64 e, .int .i64 v], .int .i64 0]) (res2 Try.results6 _ _ _ (w.heap.size + 1 + 1) _ _ rfl rfl (ld23 HG.out)) rfl ⟨rfl, HB.out⟩
set_option maxRecDepth 100000 in
theorem st_61 (n now d e v : Int) (hr : rightB 1 d e v = true) (ht : timeB now = true) (h1 : 0 ≤ n) (h2 : n ≤ 1099511627776) (w : World) :
    Calls Try.prog 6 #[lv 1 d e v, ev 6 n, .int .i64 now] w (Ret (.tuple #[lv 1 d n v, .int .i64 0]) w) := by
  have H3 := Lib.hid (Has3.new w #[.int .i64 1, .int .i64 d, .int .i64 e, .int .i64 v] #[.int .i64 6, .int .i64 n] #[.int .i64 0, .int .i64 0, .int .i64 0, .int .i64 0] 23 27)
  have HR := Lib.hid (fun W => right_any 1 d e v W)
  rw [hr] at HR
  have HT := Lib.hid (fun W => time_any now W)
  rw [ht] at HT
  have HF := Lib.hid (fun W => rf_61 n now d e v h1 h2 W)
  have HE := Lib.hid (fun W => be_61 n now d e v W)
  unfold lv ev at *
  clear hr ht
  go_enter Try.func6, Try.ntmps6
  go_wp2_with fail
  refine (HR.out _).mono ?_
  rintro e1 w1 ⟨rfl, hb1⟩
  replace H3 := Lib.hid (H3.out.below hb1)
  clear hb1
  have a0 := H3.out.a 0 _ rfl
  have a1 := H3.out.a 1 _ rfl
  have a2 := H3.out.a 2 _ rfl
  have a3 := H3.out.a 3 _ rfl
  have b0 := H3.out.b 0 _ rfl
  have b1 := H3.out.b 1 _ rfl
  go_wp2_with fail
  refine (HT.out _).mono ?_
  rintro e1 w2 ⟨rfl, rfl⟩
  go_wp2_with fail
  refine (HF.out _).mono ?_
  clear a0 a1 a2 a3 b0 b1
  rintro e1 w3 ⟨rfl, hb1⟩
  replace H3 := Lib.hid (H3.out.below hb1)
  clear hb1
  have a0 := H3.out.a 0 _ rfl
  have a1 := H3.out.a 1 _ rfl
  have a2 := H3.out.a 2 _ rfl
  have a3 := H3.out.a 3 _ rfl
  have b0 := H3.out.b 0 _ rfl
  have b1 := H3.out.b 1 _ rfl
  go_wp2_with fail
  refine (HE.out _).mono ?_
  clear a0 a1 a2 a3 b0 b1
  rintro e1 w4 ⟨rfl, hb1⟩
  replace H3 := Lib.hid (H3.out.below hb1)
  clear hb1
  have a0 := H3.out.a 0 _ rfl
  have a1 := H3.out.a 1 _ rfl
  have a2 := H3.out.a 2 _ rfl
  have a3 := H3.out.a 3 _ rfl
  have b0 := H3.out.b 0 _ rfl
  have b1 := H3.out.b 1 _ rfl
  have I0 := Lib.hid (show (Try.prog.info? 23).map (·.size) = some (#[.int .i64 1, .int .i64 d, .int .i64 n, .int .i64 v] : Array Value).size from i23)
  have I1 := Lib.hid (show (#[.int .i64 0, .int .i64 0, .int .i64 0, .int .i64 0] : Array Value).size = (#[.int .i64 1, .int .i64 d, .int .i64 n, .int .i64 v] : Array Value).size from rfl)
  have I2 := Lib.hid (show (#[.int .i64 1, .int .i64 d, .int .i64 n, .int .i64 v] : Array Value).all (·.oneCell') = true by simp [Value.oneCell'])
  go_wp2_with (with_reducible refine wpList_put 23 (w.heap.size + 1 + 1) #[.int .i64 1, .int .i64 d, .int .i64 n, .int .i64 v] _ rfl rfl H3.out.c I0.out I1.out I2.out ?_)
  intro w5 hg hgr
  have HB := Lib.hid (below_put H3.out.be hgr H3.out.be.size (by omega))
  have HG := Lib.hid hg
  clear hg hgr
  go_wp2
  exact bodyPost_ret (v := .tuple #[.agg #[.int .i64 1, .int .i64 d, .int .i64 n, .int .i64 v], .int .i64 0]) (res2 Try.results6 _ _ _ (w.heap.size + 1 + 1) _ _ rfl rfl (ld23 HG.out)) rfl ⟨rfl, HB.out⟩
set_option maxRecDepth 100000 in
theorem st_73n (n now d e v : Int) (hr : rightB 3 d e v = true) (ht : timeB now = true) (h1 : now < d) (w : World) :
    Calls Try.prog 6 #[lv 3 d e v, ev 7 n, .int .i64 now] w (Ret (.tuple #[lv 3 d e v, .int .i64 0]) w) := by
  have H3 := Lib.hid (Has3.new w #[.int .i64 3, .int .i64 d, .int .i64 e, .int .i64 v] #[.int .i64 7, .int .i64 n] #[.int .i64 0, .int .i64 0, .int .i64 0, .int .i64 0] 23 27)
  have HR := Lib.hid (fun W => right_any 3 d e v W)
  rw [hr] at HR
  have HT := Lib.hid (fun W => time_any now W)
  rw [ht] at HT
  have HF := Lib.hid (fun W => rf_73 n now d e v W)
  have HE := Lib.hid (fun W => be_73n n now d e v h1 W)
  unfold lv ev at *
  clear hr ht
  go_enter Try.func6, Try.ntmps6
  go_wp2_with fail
  refine (HR.out _).mono ?_
  rintro e1 w1 ⟨rfl, hb1⟩
  replace H3 := Lib.hid (H3.out.below hb1)
  clear hb1
  have a0 := H3.out.a 0 _ rfl
  have a1 := H3.out.a 1 _ rfl
  have a2 := H3.out.a 2 _ rfl
  have a3 := H3.out.a 3 _ rfl
  have b0 := H3.out.b 0 _ rfl
  have b1 := H3.out.b 1 _ rfl
  go_wp2_with fail
  refine (HT.out _).mono ?_
  rintro e1 w2 ⟨rfl, rfl⟩
  go_wp2_with fail
  refine (HF.out _).mono ?_
  clear a0 a1 a2 a3 b0 b1
  rintro e1 w3 ⟨rfl, hb1⟩
  replace H3 := Lib.hid (H3.out.below hb1)
  clear hb1
  have a0 := H3.out.a 0 _ rfl
  have a1 := H3.out.a 1 _ rfl
  have a2 := H3.out.a 2 _ rfl
  have a3 := H3.out.a 3 _ rfl
  have b0 := H3.out.b 0 _ rfl
  have b1 := H3.out.b 1 _ rfl
  go_wp2_with fail
  refine (HE.out _).mono ?_
  clear a0 a1 a2 a3 b0 b1
  rintro e1 w4 ⟨rfl, hb1⟩
  replace H3 := Lib.hid (H3.out.below hb1)
  clear hb1
  have a0 := H3.out.a 0 _ rfl
  have a1 := H3.out.a 1 _ rfl
  have a2 := H3.out.a 2 _ rfl
  have a3 := H3.out.a 3 _ rfl
  have b0 := H3.out.b 0 _ rfl
  have b1 := H3.out.b 1 _ rfl
  have I0 := Lib.hid (show (Try.prog.info? 23).map (·.size) = some (#[.int .i64 3, .int .i64 d, .int .i64 e, .int .i64 v] : Array Value).size from i23)
  have I1 := Lib.hid (show (#[.int .i64 0, .int .i64 0, .int .i64 0, .int .i64 0] : Array Value).size = (#[.int .i64 3, .int .i64 d, .int .i64 e, .int .i64 v] : Array Value).size from rfl)
  have I2 := Lib.hid (show (#[.int .i64 3, .int .i64 d, .int .i64 e, .int .i64 v] : Array Value).all (·.oneCell') = true by simp [Value.oneCell'])
  go_wp2_with (with_reducible refine wpList_put 23 (w.heap.size + 1 + 1) #[.int .i64 3, .int .i64 d, .int .i64 e, .int .i64 v] _ rfl rfl H3.out.c I0.out I1.out I2.out ?_)
  intro w5 hg hgr
  have HB := Lib.hid (below_put H3.out.be hgr H3.out.be.size (by omega))
  have HG := Lib.hid hg
  clear hg hgr
  go_wp2
  exact bodyPost_ret (v := .tuple #[.agg #[.int .i64 3, .int .i64 d, .int .i64 e, .int .i64 v], .int .i64 0]) (res2 Try.results6 _ _ _ (w.heap.size + 1 + 1) _ _ rfl rfl (ld23 HG.out)) rfl ⟨rfl, HB.out⟩
set_option maxRecDepth 100000 in
theorem st_73y (n now d e v : Int) (hr : rightB 3 d e v = true) (ht : timeB now = true) (h1 : d ≤ now) (w : World) :
    Calls Try.prog 6 #[lv 3 d e v, ev 7 n, .int .i64 now] w (Ret (.tuple #[lv 4 0 e v, .int .i64 0]) w) := by
  have H3 := Lib.hid (Has3.new w #[.int .i64 3, .int .i64 d, .int .i64 e, .int .i64 v] #[.int .i64 7, .int .i64 n] #[.int .i64 0, .int .i64 0, .int .i64 0, .int .i64 0] 23 27)
  have HR := Lib.hid (fun W => right_any 3 d e v W)
  rw [hr] at HR
  have HT := Lib.hid (fun W => time_any now W)
  rw [ht] at HT
  have HF := Lib.hid (fun W => rf_73 n now d e v W)
  have HE := Lib.hid (fun W => be_73y n now d e v h1 W)
  unfold lv ev at *
  clear hr ht
  go_enter Try.func6, Try.ntmps6
  go_wp2_with fail
  refine (HR.out _).mono ?_
  rintro e1 w1 ⟨rfl, hb1⟩
  replace H3 := Lib.hid (H3.out.below hb1)
  clear hb1
  have a0 := H3.out.a 0 _ rfl
  have a1 := H3.out.a 1 _ rfl
  have a2 := H3.out.a 2 _ rfl
  have a3 := H3.out.a 3 _ rfl
  have b0 := H3.out.b 0 _ rfl
  have b1 := H3.out.b 1 _ rfl
  go_wp2_with fail
  refine (HT.out _).mono ?_
  rintro e1 w2 ⟨rfl, rfl⟩
  go_wp2_with fail
  refine (HF.out _).mono ?_
  clear a0 a1 a2 a3 b0 b1
  rintro e1 w3 ⟨rfl, hb1⟩
  replace H3 := Lib.hid (H3.out.below hb1)
  clear hb1
  have a0 := H3.out.a 0 _ rfl
  have a1 := H3.out.a 1 _ rfl
  have a2 := H3.out.a 2 _ rfl
  have a3 := H3.out.a 3 _ rfl
  have b0 := H3.out.b 0 _ rfl
  have b1 := H3.out.b 1 _ rfl
  go_wp2_with fail
  refine (HE.out _).mono ?_
  clear a0 a1 a2 a3 b0 b1
  rintro e1 w4 ⟨rfl, hb1⟩
  replace H3 := Lib.hid (H3.out.below hb1)
  clear hb1
  have a0 := H3.out.a 0 _ rfl
  have a1 := H3.out.a 1 _ rfl
  have a2 := H3.out.a 2 _ rfl
  have a3 := H3.out.a 3 _ rfl
  have b0 := H3.out.b 0 _ rfl
  have b1 := H3.out.b 1 _ rfl
  have I0 := Lib.hid (show (Try.prog.info? 23).map (·.size) = some (#[.int .i64 4, .int .i64 0, .int .i64 e, .int .i64 v] : Array Value).size from i23)
  have I1 := Lib.hid (show (#[.int .i64 0, .int .i64 0, .int .i64 0, .int .i64 0] : Array Value).size = (#[.int .i64 4, .int .i64 0, .int .i64 e, .int .i64 v] : Array Value).size from rfl)
  have I2 := Lib.hid (show (#[.int .i64 4, .int .i64 0, .int .i64 e, .int .i64 v] : Array Value).all (·.oneCell') = true by simp [Value.oneCell'])
  go_wp2_with (with_reducible refine wpList_put 23 (w.heap.size + 1 + 1) #[.int .i64 4, .int .i64 0, .int .i64 e, .int .i64 v] _ rfl rfl H3.out.c I0.out I1.out I2.out ?_)
  intro w5 hg hgr
  have HB := Lib.hid (below_put H3.out.be hgr H3.out.be.size (by omega))
  have HG := Lib.hid hg
  clear hg hgr
  go_wp2
  exact bodyPost_ret (v := .tuple #[.agg #[.int .i64 4, .int .i64 0, .int .i64 e, .int .i64 v], .int .i64 0]) (res2 Try.results6 _ _ _ (w.heap.size + 1 + 1) _ _ rfl rfl (ld23 HG.out)) rfl ⟨rfl, HB.out⟩
set_option maxRecDepth 100000 in
theorem st_14 (n now d e v : Int) (hr : rightB 4 d e v = true) (ht : timeB now = true) (w : World) :
    Calls Try.prog 6 #[lv 4 d e v, ev 1 n, .int .i64 now] w (Ret (.tuple #[lv 0 0 0 0, .int .i64 4]) w) := by
  have H3 := Lib.hid (Has3.new w #[.int .i64 4, .int .i64 d, .int .i64 e, .int .i64 v] #[.int .i64 1, .int .i64 n] #[.int .i64 0, .int .i64 0, .int .i64 0, .int .i64 0] 23 27)
  have HR := Lib.hid (fun W => right_any 4 d e v W)
  rw [hr] at HR
  have HT := Lib.hid (fun W => time_any now W)
  rw [ht] at HT
  have HF := Lib.hid (fun W => rf_14 n now d e v W)
  unfold lv ev at *
  clear hr ht
  go_enter Try.func6, Try.ntmps6
  go_wp2_with fail
  refine (HR.out _).mono ?_
  rintro e1 w1 ⟨rfl, hb1⟩
  replace H3 := Lib.hid (H3.out.below hb1)
  clear hb1
  have a0 := H3.out.a 0 _ rfl
  have a1 := H3.out.a 1 _ rfl
  have a2 := H3.out.a 2 _ rfl
  have a3 := H3.out.a 3 _ rfl
  have b0 := H3.out.b 0 _ rfl
  have b1 := H3.out.b 1 _ rfl
  go_wp2_with fail
  refine (HT.out _).mono ?_
  rintro e1 w2 ⟨rfl, rfl⟩
  go_wp2_with fail
  refine (HF.out _).mono ?_
  clear a0 a1 a2 a3 b0 b1
  rintro e1 w3 ⟨rfl, hb1⟩
  replace H3 := Lib.hid (H3.out.below hb1)
  clear hb1
  have a0 := H3.out.a 0 _ rfl
  have a1 := H3.out.a 1 _ rfl
  have a2 := H3.out.a 2 _ rfl
  have a3 := H3.out.a 3 _ rfl
  have b0 := H3.out.b 0 _ rfl
  have b1 := H3.out.b 1 _ rfl
  have hf : ∀ j, w3.frozen? ⟨w.heap.size + 1 + 1, j, none⟩ = false := fun j => by simp only [World.frozen?, H3.out.c]; simp
  have c0 := cell_of H3.out.c 0
  have c1 := cell_of H3.out.c 1
  have c2 := cell_of H3.out.c 2
  have c3 := cell_of H3.out.c 3
  simp only [List.getElem?_toArray, List.getElem?_cons_zero, List.getElem?_cons_succ] at c0 c1 c2 c3
  have HB := Lib.hid ((((H3.out.be.setCell (p := ⟨w.heap.size + 1 + 1, 0, none⟩) (by simp; omega) (.int .i64 0)).setCell (p := ⟨w.heap.size + 1 + 1, 1, none⟩) (by simp; omega) (.int .i64 0)).setCell (p := ⟨w.heap.size + 1 + 1, 2, none⟩) (by simp; omega) (.int .i64 0)).setCell (p := ⟨w.heap.size + 1 + 1, 3, none⟩) (by simp; omega) (.int .i64 0))
  have HS := Lib.hid (heap_setCell_same _ (w.heap.size + 1 + 1) 3 _ 23 (.int .i64 0) (heap_setCell_same _ (w.heap.size + 1 + 1) 2 _ 23 (.int .i64 0) (heap_setCell_same _ (w.heap.size + 1 + 1) 1 _ 23 (.int .i64 0) (heap_setCell_same _ (w.heap.size + 1 + 1) 0 _ 23 (.int .i64 0) H3.out.c))))
  go_wp2
  exact bodyPost_ret (v := .tuple #[.agg #[.int .i64 0, .int .i64 0, .int .i64 0, .int .i64 0], .int .i64 4]) (res2 Try.results6 _ _ _ (w.heap.size + 1 + 1) _ _ rfl rfl (ld23 HS.out)) rfl ⟨rfl, HB.out⟩
set_option maxRecDepth 100000 in
theorem st_01 (n now d e v : Int) (hr : rightB 1 d e v = true) (ht : timeB now = true) (w : World) :
    Calls Try.prog 6 #[lv 1 d e v, ev 0 n, .int .i64 now] w (Ret (.tuple #[lv 0 0 0 0, .int .i64 15]) w) := by
  have H3 := Lib.hid (Has3.new w #[.int .i64 1, .int .i64 d, .int .i64 e, .int .i64 v] #[.int .i64 0, .int .i64 n] #[.int .i64 0, .int .i64 0, .int .i64 0, .int .i64 0] 23 27)
  have HR := Lib.hid (fun W => right_any 1 d e v W)
  rw [hr] at HR
  have HT := Lib.hid (fun W => time_any now W)
  rw [ht] at HT
  have HF := Lib.hid (fun W => rf_01 n now d e v W)
  unfold lv ev at *
  clear hr ht
  go_enter Try.func6, Try.ntmps6
  go_wp2_with fail
  refine (HR.out _).mono ?_
  rintro e1 w1 ⟨rfl, hb1⟩
  replace H3 := Lib.hid (H3.out.below hb1)
  clear hb1
  have a0 := H3.out.a 0 _ rfl
  have a1 := H3.out.a 1 _ rfl
  have a2 := H3.out.a 2 _ rfl
  have a3 := H3.out.a 3 _ rfl
  have b0 := H3.out.b 0 _ rfl
  have b1 := H3.out.b 1 _ rfl
  go_wp2_with fail
  refine (HT.out _).mono ?_
  rintro e1 w2 ⟨rfl, rfl⟩
  go_wp2_with fail
  refine (HF.out _).mono ?_
  clear a0 a1 a2 a3 b0 b1
  rintro e1 w3 ⟨rfl, hb1⟩
  replace H3 := Lib.hid (H3.out.below hb1)
  clear hb1
  have a0 := H3.out.a 0 _ rfl
  have a1 := H3.out.a 1 _ rfl
  have a2 := H3.out.a 2 _ rfl
  have a3 := H3.out.a 3 _ rfl
  have b0 := H3.out.b 0 _ rfl
  have b1 := H3.out.b 1 _ rfl
  have hf : ∀ j, w3.frozen? ⟨w.heap.size + 1 + 1, j, none⟩ = false := fun j => by simp only [World.frozen?, H3.out.c]; simp
  have c0 := cell_of H3.out.c 0
  have c1 := cell_of H3.out.c 1
  have c2 := cell_of H3.out.c 2
  have c3 := cell_of H3.out.c 3
  simp only [List.getElem?_toArray, List.getElem?_cons_zero, List.getElem?_cons_succ] at c0 c1 c2 c3
  have HB := Lib.hid ((((H3.out.be.setCell (p := ⟨w.heap.size + 1 + 1, 0, none⟩) (by simp; omega) (.int .i64 0)).setCell (p := ⟨w.heap.size + 1 + 1, 1, none⟩) (by simp; omega) (.int .i64 0)).setCell (p := ⟨w.heap.size + 1 + 1, 2, none⟩) (by simp; omega) (.int .i64 0)).setCell (p := ⟨w.heap.size + 1 + 1, 3, none⟩) (by simp; omega) (.int .i64 0))
  have HS := Lib.hid (heap_setCell_same _ (w.heap.size + 1 + 1) 3 _ 23 (.int .i64 0) (heap_setCell_same _ (w.heap.size + 1 + 1) 2 _ 23 (.int .i64 0) (heap_setCell_same _ (w.heap.size + 1 + 1) 1 _ 23 (.int .i64 0) (heap_setCell_same _ (w.heap.size + 1 + 1) 0 _ 23 (.int .i64 0) H3.out.c))))
  go_wp2
  exact bodyPost_ret (v := .tuple #[.agg #[.int .i64 0, .int .i64 0, .int .i64 0, .int .i64 0], .int .i64 15]) (res2 Try.results6 _ _ _ (w.heap.size + 1 + 1) _ _ rfl rfl (ld23 HS.out)) rfl ⟨rfl, HB.out⟩
set_option maxRecDepth 100000 in
theorem new_any (w : World) :
    Calls Try.prog 7 #[] w (Ret (lv 1 0 0 1) w) := by
  unfold lv
  go_enter Try.func7, Try.ntmps7
  go_wp2
  go_returns
  exact ⟨rfl, by go_grown⟩
end Go.Proofs.Ytbaheeofdelbhaa

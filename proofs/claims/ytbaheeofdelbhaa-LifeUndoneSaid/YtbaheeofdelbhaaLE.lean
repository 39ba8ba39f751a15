/- Life's list, and back; its use: by contract. No condition but what each names. -/
import Derived.Test.YtbaheeofdelbhaaLD
namespace Go.Proofs.Ytbaheeofdelbhaa
open Go Go.RowKit
@[go_sem ↓] theorem ta_3_3 (u : Value) (w : World) : (Instr.typeAssert (.iface 3 u) 20 3 true).run Try.prog w = .ok (.tuple #[u, .bool true]) w := by kernel_rfl
@[go_sem ↓] theorem ta_35_35 (u : Value) (w : World) : (Instr.typeAssert (.iface 35 u) 20 35 true).run Try.prog w = .ok (.tuple #[u, .bool true]) w := by kernel_rfl
def l4 (s d e v : Int) : Array Value := #[.iface 3 (.int .i64 s), .iface 3 (.int .i64 d), .iface 3 (.int .i64 e), .iface 3 (.int .i64 v)]
/-- A list of four in memory. -/
def ListQ (s d e v : Int) (V : Value) (w' : World) : Prop := ∃ b, V = .slice (some ⟨b, 0, none⟩) 4 4 ∧ w'.heap[b]? = some (.cells (l4 s d e v) 20 (0, 0))
theorem ListQ.below {s d e v : Int} {V : Value} {W W' : World} (h : ListQ s d e v V W) (hb : Below W.heap.size W W') : ListQ s d e v V W' := by
  obtain ⟨b, e, h⟩ := h
  exact ⟨b, e, (hb.block _ (Array.getElem?_eq_some_iff.1 h).1).trans h⟩
set_option maxRecDepth 100000 in
theorem listed_any (s d e v : Int) (w : World) : Calls Try.prog 14 #[lv s d e v] w fun x w' => ∃ V, x = .returned V ∧ ListQ s d e v V w' ∧ Below w.heap.size w w' := by
  unfold lv
  have HN : Hid ((((w.alloc (.cells #[.int .i64 s, .int .i64 d, .int .i64 e, .int .i64 v] 23)).alloc (.cells (l4 s d e v) 20))).heap[w.heap.size + 1]? = some (.cells (l4 s d e v) 20 (0, 0))) := Lib.hid (by
    have := heap_alloc_new (w.alloc (.cells #[.int .i64 s, .int .i64 d, .int .i64 e, .int .i64 v] 23)) (.cells (l4 s d e v) 20)
    rwa [World.size_alloc] at this)
  go_enter Try.func14, Try.ntmps14
  go_wp2
  go_ret
  exact ⟨_, rfl, ⟨_, rfl, HN.out⟩, by go_grown⟩
set_option maxRecDepth 100000 in
theorem print_any (s d e v : Int) (hr : rightB s d e v = true) (w : World) : Calls Try.prog 8 #[lv s d e v] w fun x w' => ∃ V, x = .returned (.tuple #[V, .int .i64 0]) ∧ ListQ s d e v V w' ∧ Below w.heap.size w w' := by
  have HR := Lib.hid (fun W => right_any s d e v W)
  rw [hr] at HR
  have HL := Lib.hid (fun W => listed_any s d e v W)
  have H2 := Lib.hid (below_new w (.cells #[.int .i64 s, .int .i64 d, .int .i64 e, .int .i64 v] 23))
  have HC := Lib.hid (cell_new w #[.int .i64 s, .int .i64 d, .int .i64 e, .int .i64 v] 23)
  have HZ := Lib.hid (World.size_alloc w (.cells #[.int .i64 s, .int .i64 d, .int .i64 e, .int .i64 v] 23))
  unfold lv at *
  clear hr
  go_enter Try.func8, Try.ntmps8
  go_wp2_with fail
  refine (HR.out _).mono ?_
  rintro e1 w1 ⟨rfl, hb1⟩
  have c : ∀ j x, (#[.int .i64 s, .int .i64 d, .int .i64 e, .int .i64 v] : Array Value)[j]? = some x → w1.cell? ⟨w.heap.size, j, none⟩ = some x := fun j x h => (hb1.cell (p := ⟨w.heap.size, j, none⟩) (by rw [HZ.out]; exact Nat.lt_succ_self _)).trans ((HC.out j).trans h)
  have c0 := c 0 _ rfl
  have c1 := c 1 _ rfl
  have c2 := c 2 _ rfl
  have c3 := c 3 _ rfl
  have HB := Lib.hid (H2.out.trans (hb1.mono H2.out.size))
  clear c hb1
  go_wp2_with fail
  refine (HL.out _).mono ?_
  rintro e1 w2 ⟨V, rfl, hl, hb2⟩
  have HL2 := Lib.hid hl
  have HB2 := Lib.hid (HB.out.trans (hb2.mono HB.out.size))
  clear c0 c1 c2 c3 hl hb2
  go_wp2
  go_ret2
  exact ⟨_, rfl, HL2.out, HB2.out⟩
set_option maxRecDepth 100000 in
theorem read_ok (s d e v : Int) (V : Value) (w : World) (h : ListQ s d e v V w) : Calls Try.prog 15 #[.iface 35 V] w (Ret (.tuple #[lv s d e v, .bool true]) w) := by
  obtain ⟨b, rfl, h⟩ := h
  have hlt := (Array.getElem?_eq_some_iff.1 h).1
  have c0 := cell_of h 0
  have c1 := cell_of h 1
  have c2 := cell_of h 2
  have c3 := cell_of h 3
  simp only [l4, List.getElem?_toArray, List.getElem?_cons_zero, List.getElem?_cons_succ] at c0 c1 c2 c3
  unfold lv
  clear h
  go_enter Try.func15, Try.ntmps15
  go_wp2
  go_rounds 5
  go_returns
  refine ⟨rfl, ?_⟩
  go_grown
theorem alloc_at (w : World) (o : Obj) : (w.alloc o).heap[w.heap.size]? = some o := heap_alloc_new w o
set_option maxRecDepth 100000 in
theorem parse_ok (s d e v : Int) (hr : rightB s d e v = true) (V : Value) (w : World) (h : ListQ s d e v V w) : Calls Try.prog 9 #[.iface 35 V] w (Ret (.tuple #[lv s d e v, .int .i64 0]) w) := by
  have HB0 := Lib.hid (below_new w (.cells #[.int .i64 0, .int .i64 0, .int .i64 0, .int .i64 0] 23))
  have HD := Lib.hid (read_ok s d e v V _ (h.below HB0.out))
  have HR := Lib.hid (fun W => right_any s d e v W)
  rw [hr] at HR
  have HZ := Lib.hid (alloc_at w (.cells #[.int .i64 0, .int .i64 0, .int .i64 0, .int .i64 0] 23))
  have HS := Lib.hid (World.size_alloc w (.cells #[.int .i64 0, .int .i64 0, .int .i64 0, .int .i64 0] 23))
  have I0 := Lib.hid (show (Try.prog.info? 23).map (·.size) = some (#[.int .i64 s, .int .i64 d, .int .i64 e, .int .i64 v] : Array Value).size from i23)
  have I1 := Lib.hid (show (#[.int .i64 0, .int .i64 0, .int .i64 0, .int .i64 0] : Array Value).size = (#[.int .i64 s, .int .i64 d, .int .i64 e, .int .i64 v] : Array Value).size from rfl)
  have I2 := Lib.hid (show (#[.int .i64 s, .int .i64 d, .int .i64 e, .int .i64 v] : Array Value).all (·.oneCell') = true by simp [Value.oneCell'])
  unfold lv at *
  clear hr h
  go_enter Try.func9, Try.ntmps9
  go_wp2_with fail
  refine HD.out.mono ?_
  rintro e1 w1 ⟨rfl, hb1⟩
  have HB1 := Lib.hid (HB0.out.trans (hb1.mono HB0.out.size))
  have HZ1 := Lib.hid ((hb1.block w.heap.size (by rw [HS.out]; exact Nat.lt_succ_self _)).trans HZ.out)
  have HN := Lib.hid (alloc_at w1 (.cells #[.int .i64 s, .int .i64 d, .int .i64 e, .int .i64 v] 23))
  have HB2 := Lib.hid (below_new w1 (.cells #[.int .i64 s, .int .i64 d, .int .i64 e, .int .i64 v] 23))
  have HS2 := Lib.hid (World.size_alloc w1 (.cells #[.int .i64 s, .int .i64 d, .int .i64 e, .int .i64 v] 23))
  have HL1 := Lib.hid (show w.heap.size < w1.heap.size from (Array.getElem?_eq_some_iff.1 HZ1.out).1)
  clear hb1
  go_wp2_with fail
  refine (HR.out _).mono ?_
  rintro e1 w2 ⟨rfl, hb2⟩
  have hn := (hb2.block w1.heap.size (by rw [HS2.out]; exact Nat.lt_succ_self _)).trans HN.out
  have HB3 := Lib.hid (HB1.out.trans ((HB2.out.trans (hb2.mono HB2.out.size)).mono HB1.out.size))
  have HZ3 := Lib.hid ((hb2.block w.heap.size (by rw [HS2.out]; exact Nat.lt_succ_of_lt HL1.out)).trans ((HB2.out.block w.heap.size HL1.out).trans HZ1.out))
  have c0 := cell_of hn 0
  have c1 := cell_of hn 1
  have c2 := cell_of hn 2
  have c3 := cell_of hn 3
  simp only [List.getElem?_toArray, List.getElem?_cons_zero, List.getElem?_cons_succ] at c0 c1 c2 c3
  clear hb2 hn
  go_wp2_with (with_reducible refine wpList_put 23 w.heap.size #[.int .i64 s, .int .i64 d, .int .i64 e, .int .i64 v] _ rfl rfl HZ3.out I0.out I1.out I2.out ?_)
  intro w5 hg hgr
  have HG := Lib.hid hg
  have HB := Lib.hid (below_put HB3.out hgr HB3.out.size (Nat.le_refl _))
  clear hg hgr
  go_wp2
  exact bodyPost_ret (v := .tuple #[.agg #[.int .i64 s, .int .i64 d, .int .i64 e, .int .i64 v], .int .i64 0]) (res2 Try.results9 _ _ _ w.heap.size _ _ rfl rfl (ld23 HG.out)) rfl ⟨rfl, HB.out⟩
set_option maxRecDepth 100000 in
theorem use_1 (now d v : Int) (hr : rightB 1 d 0 v = true) (ht : timeB now = true) (w : World) : Calls Try.prog 10 #[lv 1 d 0 v, .int .i64 now] w (Ret (.int .i64 0) w) := by
  have HR := Lib.hid (fun W => right_any 1 d 0 v W)
  rw [hr] at HR
  have HT := Lib.hid (fun W => time_any now W)
  rw [ht] at HT
  have HB0 := Lib.hid (below_new w (.cells #[.int .i64 1, .int .i64 d, .int .i64 0, .int .i64 v] 23))
  have HC := Lib.hid (cell_new w #[.int .i64 1, .int .i64 d, .int .i64 0, .int .i64 v] 23)
  have HZ := Lib.hid (World.size_alloc w (.cells #[.int .i64 1, .int .i64 d, .int .i64 0, .int .i64 v] 23))
  unfold lv at *
  clear hr ht
  go_enter Try.func10, Try.ntmps10
  go_wp2_with fail
  refine (HR.out _).mono ?_
  rintro e1 w1 ⟨rfl, hb1⟩
  have c : ∀ j x, (#[.int .i64 1, .int .i64 d, .int .i64 0, .int .i64 v] : Array Value)[j]? = some x → w1.cell? ⟨w.heap.size, j, none⟩ = some x := fun j x h => (hb1.cell (p := ⟨w.heap.size, j, none⟩) (by rw [HZ.out]; exact Nat.lt_succ_self _)).trans ((HC.out j).trans h)
  have c0 := c 0 _ rfl
  have c2 := c 2 _ rfl
  have HB := Lib.hid (HB0.out.trans (hb1.mono HB0.out.size))
  clear c hb1
  go_wp2_with fail
  refine (HT.out _).mono ?_
  rintro e1 w2 ⟨rfl, rfl⟩
  go_wp2
  go_ret
  exact ⟨rfl, HB.out⟩
set_option maxRecDepth 100000 in
theorem use_3 (now d e v : Int) (hr : rightB 3 d e v = true) (ht : timeB now = true) (w : World) : Calls Try.prog 10 #[lv 3 d e v, .int .i64 now] w (Ret (.int .i64 14) w) := by
  have HR := Lib.hid (fun W => right_any 3 d e v W)
  rw [hr] at HR
  have HT := Lib.hid (fun W => time_any now W)
  rw [ht] at HT
  have HB0 := Lib.hid (below_new w (.cells #[.int .i64 3, .int .i64 d, .int .i64 e, .int .i64 v] 23))
  have HC := Lib.hid (cell_new w #[.int .i64 3, .int .i64 d, .int .i64 e, .int .i64 v] 23)
  have HZ := Lib.hid (World.size_alloc w (.cells #[.int .i64 3, .int .i64 d, .int .i64 e, .int .i64 v] 23))
  unfold lv at *
  clear hr ht
  go_enter Try.func10, Try.ntmps10
  go_wp2_with fail
  refine (HR.out _).mono ?_
  rintro e1 w1 ⟨rfl, hb1⟩
  have c0 : w1.cell? ⟨w.heap.size, 0, none⟩ = some (.int .i64 3) := (hb1.cell (p := ⟨w.heap.size, 0, none⟩) (by rw [HZ.out]; exact Nat.lt_succ_self _)).trans (HC.out 0)
  have HB := Lib.hid (HB0.out.trans (hb1.mono HB0.out.size))
  clear hb1
  go_wp2_with fail
  refine (HT.out _).mono ?_
  rintro e1 w2 ⟨rfl, rfl⟩
  go_wp2
  go_ret
  exact ⟨rfl, HB.out⟩
set_option maxRecDepth 100000 in
theorem use_4 (now d e v : Int) (hr : rightB 4 d e v = true) (ht : timeB now = true) (w : World) : Calls Try.prog 10 #[lv 4 d e v, .int .i64 now] w (Ret (.int .i64 4) w) := by
  have HR := Lib.hid (fun W => right_any 4 d e v W)
  rw [hr] at HR
  have HT := Lib.hid (fun W => time_any now W)
  rw [ht] at HT
  have HB0 := Lib.hid (below_new w (.cells #[.int .i64 4, .int .i64 d, .int .i64 e, .int .i64 v] 23))
  have HC := Lib.hid (cell_new w #[.int .i64 4, .int .i64 d, .int .i64 e, .int .i64 v] 23)
  have HZ := Lib.hid (World.size_alloc w (.cells #[.int .i64 4, .int .i64 d, .int .i64 e, .int .i64 v] 23))
  unfold lv at *
  clear hr ht
  go_enter Try.func10, Try.ntmps10
  go_wp2_with fail
  refine (HR.out _).mono ?_
  rintro e1 w1 ⟨rfl, hb1⟩
  have c0 : w1.cell? ⟨w.heap.size, 0, none⟩ = some (.int .i64 4) := (hb1.cell (p := ⟨w.heap.size, 0, none⟩) (by rw [HZ.out]; exact Nat.lt_succ_self _)).trans (HC.out 0)
  have HB := Lib.hid (HB0.out.trans (hb1.mono HB0.out.size))
  clear hb1
  go_wp2_with fail
  refine (HT.out _).mono ?_
  rintro e1 w2 ⟨rfl, rfl⟩
  go_wp2
  go_ret
  exact ⟨rfl, HB.out⟩
end Go.Proofs.Ytbaheeofdelbhaa

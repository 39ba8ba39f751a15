/- A right grant's list, and Print: by contract. No condition but the sizes. -/
import Derived.Test.YtfihbfkgkljjdaaGD
import Derived.Test.YtfihbfkgkljjdaaG2
namespace Go.Proofs.Ytfihbfkgkljjdaa
open Go.RowKit Go.Own Go.Maps Go.WideMaps
theorem cell_of {w : World} {b : Nat} {cs : Array Value} {T : TypeId} (h : w.heap[b]? = some (.cells cs T (0, 0))) (i : Nat) : w.cell? ⟨b, i, none⟩ = cs[i]? := by
  simp only [World.cell?, show w.heap[b]? = _ from h, Option.isSome_none, Bool.false_eq_true, if_false]
theorem ld_cells {P : Program} {T : TypeId} (W : World) {b : Nat} (cs : List Value) (ha : (isAgg T).run P W = .ok true W) (hz : (sizeOf T).run P W = .ok cs.length W) (h : W.heap[b]? = some (.cells cs.toArray T (0, 0))) :
    (Instr.loadAt T (.pointer (some ⟨b, 0, none⟩))).run P W = .ok (.agg cs.toArray) W ∧ (loadVar T ⟨b, 0, none⟩).run P W = .ok (.agg cs.toArray) W := by
  have hl := run_loadCells_list (P := P) W ⟨b, 0, none⟩ cs (fun j u hu => by
    have hadd : (⟨b, 0, none⟩ : Addr).add j = ⟨b, j, none⟩ := by unfold Addr.add; split <;> simp_all
    rw [hadd, cell_of h]
    simpa using hu)
  constructor
  · simp [Instr.loadAt, Instr.sureAddr, loadVar, ha, hz, hl]
  · simp [loadVar, ha, hz, hl]
/-- Values are stored into a block of as many. -/
theorem wpList_put {ops : Array Oper} {rest : List Oper} {a : Act} {Q : Exit → Act → World → Prop} {w : World} {x y : Nat} {ty : TypeId} {pos : String} {after : Array Edge} (T : TypeId) (g : Nat) (cs os : Array Value)
    (hx : a.eval (.tmp x) = .pointer (some ⟨g, 0, none⟩)) (hy : a.eval (.tmp y) = .agg cs) (hg : w.heap[g]? = some (.cells os T (0, 0))) (hi : (Try.prog.info? T).map (·.size) = some cs.size) (hs : os.size = cs.size) (h1 : cs.all (·.oneCell') = true)
    (h : ∀ w', w'.heap[g]? = some (.cells cs T (0, 0)) → w.grownBy w' (some g) → wpList Try.prog ops Q rest a w') :
    wpList Try.prog ops Q ({ dst := none, op := .store T (.tmp x) (.tmp y), type := ty, pos := pos, after := after, guard := none } :: rest) a w :=
  wpList_store_row rfl T (.tmp x) (.tmp y) rfl g cs hx hy T os hg hi hs h1
    (h _ (setRow_heap w g _ _ T (0, 0) hg) ⟨rfl, rfl, rfl, by simp, fun k _ hne => setRow_other w g k _ (fun e => hne (by rw [e]))⟩)
theorem below_put {w w1 w2 : World} {B g : Nat} (h : Below B w w1) (hg : w1.grownBy w2 (some g)) (hB : B ≤ w1.heap.size) (hBg : B ≤ g) : Below B w w2 :=
  h.grown hg hB (fun k hk => by have := Option.some.inj hk; omega)
/-- The six values of a grant's list. -/
def listV (i o : Int) (s r n : ByteArray) (q : Bool) : Array Value := #[.iface 3 (.int .i64 i), .iface 9 (.string s), .iface 9 (.string r), .iface 3 (.int .i64 o), .iface 9 (.string n), .iface 4 (.bool q)]
def needT (g : Gr) : ByteArray := mkS (textP g.need)
set_option maxRecDepth 100000 in
set_option maxHeartbeats 4000000 in
theorem listed_any (g : Gr) (hs : g.small) (hr : rightP g.need = true) (v : Value) (w : World) (hg : GrAt w v g) :
    Calls Try.prog 29 #[v] w fun e w' => e = .returned (.agg (listV g.id g.ops g.who g.ret (needT g) g.eq)) ∧ Below w.heap.size w w' := by
  obtain ⟨p, cap, rfl, hP⟩ := hg
  obtain ⟨id, who, ret, ops, need, eq⟩ := g
  obtain ⟨s1, s2, hf⟩ := hs
  simp only at s1 s2 hf hP hr
  simp only [grV, listV, needT]
  have HT : Hid (∀ W, PsC W (.slice p need.length cap) need → Calls Try.prog 32 #[.slice p need.length cap] W fun e w' => e = .returned (.tuple #[.string (mkS (textP need)), .int .i64 0]) ∧ Below W.heap.size W w') := Lib.hid (fun W h => by
    have := text_any need p cap hf.1 hf.2 W h
    rwa [textR, if_pos hr] at this)
  have HP := Lib.hid hP
  have HC1 := Lib.hid (fun W => clone_any who (by omega) W)
  have HC2 := Lib.hid (fun W => clone_any ret (by omega) W)
  have HB := Lib.hid ((Bx.new w ⟨id, who, ret, ops, need, eq⟩ (.slice p need.length cap) 29).below ((Below.refl _ _).alloc (Nat.le_refl _) (.cells #[.nilIface, .nilIface, .nilIface, .nilIface, .nilIface, .nilIface] 54)))
  have HZ : Hid (((w.alloc (.cells #[.int .i64 id, .string who, .string ret, .int .i64 ops, .slice p need.length cap, .bool eq] 29)).alloc (.cells #[.nilIface, .nilIface, .nilIface, .nilIface, .nilIface, .nilIface] 54)).heap[w.heap.size + 1]? = some (.cells #[.nilIface, .nilIface, .nilIface, .nilIface, .nilIface, .nilIface] 54 (0, 0))) := Lib.hid (by
    have := heap_alloc_new (w.alloc (.cells #[.int .i64 id, .string who, .string ret, .int .i64 ops, .slice p need.length cap, .bool eq] 29)) (.cells #[.nilIface, .nilIface, .nilIface, .nilIface, .nilIface, .nilIface] 54)
    rwa [World.size_alloc] at this)
  obtain ⟨t, ht⟩ : ∃ t, mkS (textP need) = t := ⟨_, rfl⟩
  obtain ⟨n, hn⟩ : ∃ n, need.length = n := ⟨_, rfl⟩
  simp only [ht, hn] at HT HP HB HZ ⊢
  have hb : Hid (∀ o o2 : Obj, Below w.heap.size w ((w.alloc o).alloc o2)) := Lib.hid (fun o o2 => ((Below.refl w.heap.size w).alloc (Nat.le_refl _) o).alloc (by simp) o2)
  clear hP hf hr ht hn s1 s2
  go_enter Try.func29, Try.ntmps29
  go_wp2_with fail
  refine (HT.out _ (HP.out.below (hb.out _ _))).mono ?_
  rintro e w1 ⟨rfl, hc⟩
  replace HB := Lib.hid (HB.out.below hc)
  replace HZ := Lib.hid ((hc.block (w.heap.size + 1) (by simp)).trans HZ.out)
  replace hc := Lib.hid ((hb.out _ _).trans (hc.mono (hb.out _ _).size))
  have HZlt : Hid (w.heap.size + 1 < w1.heap.size) := Lib.hid (Array.getElem?_eq_some_iff.1 HZ.out).1
  have HBg : Hid (∀ g : Gw w1, Bx g.1 w.heap.size ⟨id, who, ret, ops, need, eq⟩ (.slice p n cap)) := Lib.hid fun g => HB.out.below g.2
  have c0 := fun g => (HBg.out g).1
  have c1 := fun g => (HBg.out g).2.1
  have c2 := fun g => (HBg.out g).2.2.1
  have c3 := fun g => (HBg.out g).2.2.2.1
  have c5 := fun g => (HBg.out g).2.2.2.2.2
  dsimp only at c0 c1 c2 c3 c5
  have HR1 : Hid (∀ g : Gw w1, Calls Try.prog 36 #[.string who] g.1 fun x w' => x = .returned (.string who) ∧ Grew w1 w') := Lib.hid fun g => grew_call (HC1.out g.1)
  have HR2 : Hid (∀ g : Gw w1, Calls Try.prog 36 #[.string ret] g.1 fun x w' => x = .returned (.string ret) ∧ Grew w1 w') := Lib.hid fun g => grew_call (HC2.out g.1)
  go_wp2
  refine wp_region_grew_tail 19 (by kernel_rfl) (by kernel_rfl) ?_
  simp only [List.take_succ_cons, List.take_zero, List.drop_succ_cons, List.drop_zero]
  repeat (go_big_quiet_step ((first | (with_reducible exact HR1.out _) | (with_reducible exact HR2.out _))))
  refine wpQuiet_nil ?_
  intro g
  have HZg := Lib.hid ((g.2.block (w.heap.size + 1) (HZlt.out)).trans HZ.out)
  have hcg := Lib.hid (hc.out.trans (g.2.mono hc.out.size))
  have hi := Lib.hid (show (Try.prog.info? 54).map (·.size) = some (#[.iface 3 (.int .i64 id), .iface 9 (.string who), .iface 9 (.string ret), .iface 3 (.int .i64 ops), .iface 9 (.string t), .iface 4 (.bool eq)] : Array Value).size by kernel_rfl)
  have hs := Lib.hid (show (#[.nilIface, .nilIface, .nilIface, .nilIface, .nilIface, .nilIface] : Array Value).size = (#[.iface 3 (.int .i64 id), .iface 9 (.string who), .iface 9 (.string ret), .iface 3 (.int .i64 ops), .iface 9 (.string t), .iface 4 (.bool eq)] : Array Value).size from rfl)
  have h1 := Lib.hid (show (#[.iface 3 (.int .i64 id), .iface 9 (.string who), .iface 9 (.string ret), .iface 3 (.int .i64 ops), .iface 9 (.string t), .iface 4 (.bool eq)] : Array Value).all (·.oneCell') = true by simp [Value.oneCell'])
  go_wp2_with (with_reducible refine wpList_put 54 (w.heap.size + 1) _ _ rfl rfl HZg.out hi.out hs.out h1.out ?_)
  intro w4 hz4 hg4
  go_wp2
  have hL := cell_of hz4
  refine bodyPost_ret (by simp [results, Try.results29, go_sem, hL]; try rfl) rfl ?_
  exact ⟨rfl, below_put hcg.out hg4 hcg.out.size (by omega)⟩
/-- What Print answers: six values in a new block. -/
def ListQ (g : Gr) (w : World) (e : Ending) (w' : World) : Prop :=
  ∃ b : Nat, e = .returned (.tuple #[.slice (some ⟨b, 0, none⟩) 6 6, .int .i64 0]) ∧ w'.heap[b]? = some (.cells (listV g.id g.ops g.who g.ret (needT g) g.eq) 54 (0, 0)) ∧ w.heap.size ≤ b ∧ Below w.heap.size w w'
set_option maxRecDepth 100000 in
set_option maxHeartbeats 4000000 in
theorem print_any (g : Gr) (hs : g.small) (hr : g.right = true) (v : Value) (w : World) (hg : GrAt w v g) :
    Calls Try.prog 17 #[v] w (ListQ g w) := by
  have hrp : rightP g.need = true := by simp only [Gr.right, Bool.and_eq_true] at hr; exact hr.2
  have HR := Lib.hid (fun W h => right_grant g hs v W h)
  have HL := Lib.hid (fun W h => listed_any g hs hrp v W h)
  have HG := Lib.hid hg
  obtain ⟨p, cap, rfl, hP⟩ := hg
  obtain ⟨id, who, ret, ops, need, eq⟩ := g
  rw [hr] at HR
  obtain ⟨n, hn⟩ : ∃ n, need.length = n := ⟨_, rfl⟩
  obtain ⟨t, ht⟩ : ∃ t, needT ⟨id, who, ret, ops, need, eq⟩ = t := ⟨_, rfl⟩
  obtain ⟨ANS, hA⟩ : ∃ A, ListQ ⟨id, who, ret, ops, need, eq⟩ w = A := ⟨_, rfl⟩
  have HA : Hid (∀ b w', w'.heap[b]? = some (.cells #[.iface 3 (.int .i64 id), .iface 9 (.string who), .iface 9 (.string ret), .iface 3 (.int .i64 ops), .iface 9 (.string t), .iface 4 (.bool eq)] 54 (0, 0)) → w.heap.size ≤ b → Below w.heap.size w w' → ANS (.returned (.tuple #[.slice (some ⟨b, 0, none⟩) 6 6, .int .i64 0])) w') := Lib.hid (fun b w' h1 h2 h3 => by
    rw [← hA]
    refine ⟨b, rfl, ?_, h2, h3⟩
    dsimp only
    rw [ht]
    exact h1)
  rw [hA]
  simp only [grV, listV, hn, ht] at HR HL HG ⊢
  have HB := Lib.hid (Bx.new w ⟨id, who, ret, ops, need, eq⟩ (.slice p n cap) 29)
  have hb : Hid (∀ o : Obj, Below w.heap.size w (w.alloc o)) := Lib.hid (fun o => (Below.refl w.heap.size w).alloc (Nat.le_refl _) o)
  clear hP hr hrp hs hn ht hA
  go_enter Try.func17, Try.ntmps17
  go_wp2_with fail
  refine (HR.out _ (HG.out.below (hb.out _))).mono ?_
  rintro e w1 ⟨rfl, hc⟩
  replace HB := Lib.hid (HB.out.below hc)
  obtain ⟨c0, c1, c2, c3, c4, c5⟩ := HB.out
  dsimp only at c0 c1 c2 c3 c4 c5
  replace hc := Lib.hid ((hb.out _).trans (hc.mono (hb.out _).size))
  go_wp2_with fail
  refine (HL.out _ (HG.out.below hc.out)).mono ?_
  rintro e w2 ⟨rfl, hd⟩
  have hsz : Hid (w.heap.size ≤ w2.heap.size) := Lib.hid (Nat.le_trans hc.out.size hd.size)
  replace hc := Lib.hid (hc.out.trans (hd.mono hc.out.size))
  clear c0 c1 c2 c3 c4 c5 hd
  go_wp2
  refine HA.out _ _ ?_ hsz.out ?_
  · exact heap_alloc_new _ _
  · exact (hc.out.alloc hsz.out _)
end Go.Proofs.Ytfihbfkgkljjdaa

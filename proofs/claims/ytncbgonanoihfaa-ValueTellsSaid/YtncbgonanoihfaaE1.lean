/- The document's Within, by contract. No condition. -/
import Derived.Test.YtncbgonanoihfaaR5
import Derived.Test.YtncbgonanoihfaaQ1
import Derived.StillTail
import Derived.StillTailTactics
namespace Go.Own
theorem wi_nil (x : V) : wi x [] = (0, x) := by cases x; rfl
theorem wi_cons (k n : Int) (s : ByteArray) (b : Bool) (l : List V) (i : Int) (r : List Int) :
    wi (.mk k n s b l) (i :: r) = if k ≠ 4 then (9, zeroV) else if i < 0 ∨ (l.length : Int) ≤ i then (4, zeroV) else wi (l.getD i.toNat zeroV) r := rfl
theorem zero_of : ofV zeroV = .none := by simp [zeroV, ofV]
theorem cm_wi : ∀ (zs : List Int) (x : V), cm (ofV x) zs = ((wi x zs).1, ofV (wi x zs).2)
  | [], x => by rw [cm_nil, wi_nil]
  | i :: r, .mk k n s b l => by
    rw [wi_cons]
    by_cases h4 : k = 4
    · subst h4
      rw [show ofV (.mk 4 n s b l) = .list (l.map ofV) by simp [ofV, ofVs_map], cm_list, List.length_map, if_neg (show ¬ (4 : Int) ≠ 4 by simp)]
      split
      · rw [zero_of]
      · rename_i hc
        have hi : i.toNat < l.length := by omega
        rw [← cm_wi r]
        congr 1
        simp [hi]
    · rw [if_pos h4, zero_of]
      refine cm_other _ (fun l' h => ?_) i r
      rw [ofV] at h
      split at h
      · cases h
      · split at h
        · cases h
        · split at h
          · cases h
          · first | cases h | (rw [if_neg h4] at h; cases h)
end Go.Own
namespace Go.Proofs.Ytncbgonanoihfaa
open Go.RowKit Go.Own
/-- Block B holds these values, and may be written. -/
def Blk (w : World) (B : Nat) (cs : Array Value) : Prop := w.heap[B]? = some (.cells cs 24 (0, 0))
theorem Blk.lt {w : World} {B : Nat} {cs : Array Value} (h : Blk w B cs) : B < w.heap.size := (Array.getElem?_eq_some_iff.1 h).1
theorem Blk.cell {w : World} {B : Nat} {cs : Array Value} (h : Blk w B cs) (i : Nat) : w.cell? ⟨B, i, none⟩ = cs[i]? := by
  simp only [World.cell?, show w.heap[B]? = _ from h, Option.isSome_none, Bool.false_eq_true, if_false]
theorem Blk.free {w : World} {B : Nat} {cs : Array Value} (h : Blk w B cs) (i : Nat) : w.frozen? ⟨B, i, none⟩ = false := by simp [World.frozen?, show w.heap[B]? = _ from h]
theorem Blk.past {w w' : World} {B : Nat} {cs : Array Value} (h : Blk w B cs) (hb : Below w.heap.size w w') : Blk w' B cs := (hb.block B h.lt).trans h
theorem blk_new (w : World) (cs : Array Value) : Blk (w.alloc (.cells cs 24)) w.heap.size cs := heap_alloc_new w _
theorem Blk.grown {w w' : World} {B g : Nat} {cs : Array Value} (h : Blk w B cs) (hg : w.grownBy w' (some g)) (hne : B ≠ g) : Blk w' B cs := (hg.block B h.lt (by simpa using hne)).trans h
theorem below_blk {w w1 w2 : World} {B g : Nat} (h : Below B w w1) (hg : w1.grownBy w2 (some g)) (hB : B ≤ w1.heap.size) (hBg : B ≤ g) : Below B w w2 :=
  h.grown hg hB (fun k hk => by have := Option.some.inj hk; omega)
theorem info24 : (Try.prog.info? 24).map (·.size) = some 5 := by kernel_rfl
/-- Five values are stored into a block of five. -/
theorem wpList_put5 {ops : Array Oper} {rest : List Oper} {a : Act} {Q : Exit → Act → World → Prop} {w : World} {x y : Nat} {ty : TypeId} {pos : String} {after : Array Edge} (g : Nat) (c0 c1 c2 c3 c4 o0 o1 o2 o3 o4 : Value)
    (hx : a.eval (.tmp x) = .pointer (some ⟨g, 0, none⟩)) (hy : a.eval (.tmp y) = .agg #[c0, c1, c2, c3, c4]) (hg : Blk w g #[o0, o1, o2, o3, o4]) (h1 : #[c0, c1, c2, c3, c4].all (·.oneCell') = true)
    (h : ∀ w', Blk w' g #[c0, c1, c2, c3, c4] → w.grownBy w' (some g) → wpList Try.prog ops Q rest a w') :
    wpList Try.prog ops Q ({ dst := none, op := .store 24 (.tmp x) (.tmp y), type := ty, pos := pos, after := after, guard := none } :: rest) a w :=
  wpList_store_row rfl 24 (.tmp x) (.tmp y) rfl g #[c0, c1, c2, c3, c4] hx hy 24 #[o0, o1, o2, o3, o4] hg info24 rfl h1
    (h _ (setRow_heap w g _ _ 24 (0, 0) hg) ⟨rfl, rfl, rfl, by simp, fun k _ hne => setRow_other w g k _ (fun e => hne (by rw [e]))⟩)
theorem ones_zero : (#[.int .i64 0, .int .i64 0, .string { data := #[] }, .bool false, .slice none 0 0] : Array Value).all (·.oneCell') = true := by simp [Value.oneCell']
theorem VAt.ones {w : World} {S : Nat → Prop} {c0 c1 c2 c3 c4 : Value} {x : V} (h : VAt w S (.agg #[c0, c1, c2, c3, c4]) x) : #[c0, c1, c2, c3, c4].all (·.oneCell') = true := by
  generalize hv : Value.agg #[c0, c1, c2, c3, c4] = v at h
  cases h <;> (simp only [Value.agg.injEq, Array.mk.injEq, List.cons.injEq, and_true] at hv; obtain ⟨rfl, rfl, rfl, rfl, rfl⟩ := hv; simp [Value.oneCell'])
theorem Blk.drewN {w : World} {B : Nat} {cs : Array Value} (h : Blk w B cs) (k : Nat) : Blk (w.drewN k) B cs := h
theorem Below.drewN' {B : Nat} {a w : World} (h : Below B a w) (k : Nat) : Below B a (w.drewN k) := ⟨h.os, h.tape, h.output, h.size, h.block⟩
def WithinQ (q : Int × V) (w : World) (e : Ending) (w' : World) : Prop := ∃ v', e = .returned (.tuple #[v', .int .i64 q.1]) ∧ Holds w' v' q.2 ∧ Below w.heap.size w w'
def zero5 : Array Value := #[.int .i64 0, .int .i64 0, .string { data := #[] }, .bool false, .slice none 0 0]
theorem holds_zero (w : World) : Holds w (.agg #[.int .i64 0, .int .i64 0, .string { data := #[] }, .bool false, .slice none 0 0]) zeroV :=
  .nil 0 0 { data := #[] } false (in_small 0 (by omega) (by omega)) (in_small 0 (by omega) (by omega)) (by decide)
set_option maxRecDepth 100000 in
set_option maxHeartbeats 1000000 in
theorem within_any (x : V) (zs : List Int) (v vz : Value) (w : World) (hv : Holds w v x) (hz : Ints w vz zs) : Calls Try.prog 16 #[v, vz] w (WithinQ (wi x zs) w) := by
  obtain ⟨c0, c1, c2, c3, c4, rfl⟩ := VAt.five hv
  obtain ⟨p, cap, rfl, hle, hcz⟩ := hz
  obtain ⟨n, hn⟩ : ∃ n, zs.length = n := ⟨_, rfl⟩
  rw [hn] at hle ⊢
  have HN := Lib.hid hn
  have HV := Lib.hid hv
  have HCZ := Lib.hid hcz
  clear hn hv hcz
  go_enter Try.func16, Try.ntmps16
  go_wp2
  have HBL0 : Hid (Below w.heap.size w ((w.alloc (.cells #[c0, c1, c2, c3, c4] 24)).alloc (.cells #[.int .i64 0, .int .i64 0, .string { data := #[] }, .bool false, .slice none 0 0] 24))) := Lib.hid (((Below.refl _ w).alloc (Nat.le_refl _) _).alloc (by simp) _)
  have HBX0 : Hid (Blk ((w.alloc (.cells #[c0, c1, c2, c3, c4] 24)).alloc (.cells #[.int .i64 0, .int .i64 0, .string { data := #[] }, .bool false, .slice none 0 0] 24)) w.heap.size #[c0, c1, c2, c3, c4]) := Lib.hid ((blk_new w _).past ((Below.refl _ _).alloc (Nat.le_refl _) _))
  have HBR0 : Hid (Blk ((w.alloc (.cells #[c0, c1, c2, c3, c4] 24)).alloc (.cells #[.int .i64 0, .int .i64 0, .string { data := #[] }, .bool false, .slice none 0 0] 24)) (w.heap.size + 1) #[.int .i64 0, .int .i64 0, .string { data := #[] }, .bool false, .slice none 0 0]) := Lib.hid (by
    have h := blk_new (w.alloc (.cells #[c0, c1, c2, c3, c4] 24)) #[.int .i64 0, .int .i64 0, .string { data := #[] }, .bool false, .slice none 0 0]
    rw [show (w.alloc (.cells #[c0, c1, c2, c3, c4] 24)).heap.size = w.heap.size + 1 by simp] at h
    exact h)
  go_loopw [6] (fun i wr => ∃ (j : Nat) (y : V) (d0 d1 d2 d3 d4 : Value), j ≤ n ∧ i = .int .i64 (j : Int) ∧ Hid (Blk wr w.heap.size #[d0, d1, d2, d3, d4]) ∧ Hid (Blk wr (w.heap.size + 1) #[.int .i64 0, .int .i64 0, .string { data := #[] }, .bool false, .slice none 0 0]) ∧ Hid (Holds w (.agg #[d0, d1, d2, d3, d4]) y) ∧
    Hid (wi x zs = wi y (zs.drop j)) ∧ Hid (Below w.heap.size w wr)) (fun i _ => n - (intOf i).toNat)
  case atStart => exact ⟨0, x, c0, c1, c2, c3, c4, Nat.zero_le _, rfl, HBX0, HBR0, HV, Lib.hid (by simp), HBL0⟩
  case round =>
    obtain ⟨j, y, d0, d1, d2, d3, d4, hj, rfl, HX, HR, HY, HE, HB⟩ := hrel
    by_cases hlt : j < n
    · have hjz : j < zs.length := by rw [HN.out]; exact hlt
      obtain ⟨z, hz⟩ : ∃ z, zs[j]? = some z := ⟨_, List.getElem?_eq_getElem hjz⟩
      obtain ⟨hin, g, o, rfl, hg, a0⟩ := HCZ.out j z hz
      have hdrop : zs.drop j = z :: zs.drop (j + 1) := by
        rw [List.drop_eq_getElem_cons hjz]
        congr 1
        rw [List.getElem?_eq_getElem hjz] at hz
        exact Option.some.inj hz
      obtain ⟨k, m', s, b, l⟩ := y
      obtain ⟨p2, cap2, hp2⟩ := VAt.parts HY.out
      obtain ⟨heq, _, _, _, hle2, _, hsub⟩ := hp2
      simp only [Value.agg.injEq, Array.mk.injEq, List.cons.injEq, and_true] at heq
      obtain ⟨rfl, rfl, rfl, rfl, rfl⟩ := heq
      have HE1 : Hid (wi x zs = wi (.mk k m' s b l) (z :: zs.drop (j + 1))) := Lib.hid (by rw [HE.out, hdrop])
      unfold In64 two63 at hin
      obtain ⟨hz1, hz2⟩ := hin
      have x0 := HX.out.cell 0
      have x1 := HX.out.cell 1
      have x2 := HX.out.cell 2
      have x3 := HX.out.cell 3
      have x4 := HX.out.cell 4
      simp at x0 x1 x2 x3 x4
      have r0 := HR.out.free 0
      clear hz hdrop hjz
      have hBH : w.heap.size + 1 ≤ wr.heap.size := by have := HR.out.lt; omega
      by_cases hk : k = 4
      · subst hk
        obtain ⟨q, hq⟩ : ∃ q, l.length = q := ⟨_, rfl⟩
        have HQ := Lib.hid hq
        rw [wi_cons, if_neg (by simp), hq] at HE1
        rw [hq] at x4 HX hle2 HY
        have a1 : wr.cell? ⟨g, o + j, none⟩ = some (.int .i64 z) := by rw [HB.out.cell (p := ⟨g, o + j, none⟩) hg]; exact a0
        have HSUB := Lib.hid hsub
        have hji : (j : Int) < (n : Int) := by omega
        have x4g : ∀ g : Gw wr, g.1.cell? ⟨w.heap.size, 4, none⟩ = some (.slice p2 q cap2) := fun g => by rw [g.2.cell (p := ⟨w.heap.size, 4, none⟩) HX.out.lt]; exact x4
        have a1g : ∀ gg : Gw wr, gg.1.cell? ⟨g, o + j, none⟩ = some (.int .i64 z) := fun gg => by rw [gg.2.cell (p := ⟨g, o + j, none⟩) (World.block_lt_of_cell? wr _ a1)]; exact a1
        clear hq hsub a0
        have hcs : z < 0 ∨ (0 ≤ z ∧ (q : Int) ≤ z) ∨ (0 ≤ z ∧ z < (q : Int)) := by omega
        rcases hcs with h | ⟨h, h'⟩ | ⟨h, h'⟩
        · have HE2 : Hid (wi x zs = (4, zeroV)) := Lib.hid (by rw [HE1.out, if_pos (Or.inl h)])
          have dd1 : decide (z < 0) = true := by simp [h]
          go_wp2
          refine wp_region_grew (by kernel_rfl) (by kernel_rfl) ?_
          repeat (go_big_quiet_step (fail))
          refine wpQuiet_nil ?_
          intro gg
          have HBG := Lib.hid gg.2
          obtain ⟨w1, hw1⟩ : ∃ w1, gg.1 = w1 := ⟨_, rfl⟩
          rw [hw1] at HBG ⊢
          have HR1 := Lib.hid (HR.out.past HBG.out)
          have HX1 := Lib.hid (HX.out.past HBG.out)
          have HB1 := Lib.hid (HB.out.trans (HBG.out.mono HB.out.size))
          clear hw1 gg x4g a1g
          go_wp2_with (with_reducible refine wpList_put5 (w.heap.size + 1) _ _ _ _ _ _ _ _ _ _ rfl rfl HR1.out ones_zero ?_)
          intro w2 hr2 hg2
          have HB2 := Lib.hid (below_blk HB1.out hg2 HB1.out.size (by omega))
          have y0 := hr2.cell 0
          have y1 := hr2.cell 1
          have y2 := hr2.cell 2
          have y3 := hr2.cell 3
          have y4 := hr2.cell 4
          simp at y0 y1 y2 y3 y4
          clear hr2 hg2 x0 x1 x2 x3 x4 r0
          go_wp2
          refine bodyPost_ret (v := .tuple #[.agg #[.int .i64 0, .int .i64 0, .string { data := #[] }, .bool false, .slice none 0 0], .int .i64 4]) (by simp [results, Try.results16, go_sem, y0, y1, y2, y3, y4]) rfl ?_
          rw [HE2.out]
          exact ⟨_, rfl, holds_zero _, HB2.out⟩
        · have HE2 : Hid (wi x zs = (4, zeroV)) := Lib.hid (by rw [HE1.out, if_pos (Or.inr h')])
          have dd1 : decide (z < 0) = false := by simp [h]
          have dd2 : decide ((q : Int) ≤ z) = true := by simp [h']
          go_wp2
          refine wp_region_grew (by kernel_rfl) (by kernel_rfl) ?_
          repeat (go_big_quiet_step (fail))
          refine wpQuiet_nil ?_
          intro gg
          have HBG := Lib.hid gg.2
          obtain ⟨w1, hw1⟩ : ∃ w1, gg.1 = w1 := ⟨_, rfl⟩
          rw [hw1] at HBG ⊢
          have HR1 := Lib.hid (HR.out.past HBG.out)
          have HX1 := Lib.hid (HX.out.past HBG.out)
          have HB1 := Lib.hid (HB.out.trans (HBG.out.mono HB.out.size))
          clear hw1 gg x4g a1g
          go_wp2_with (with_reducible refine wpList_put5 (w.heap.size + 1) _ _ _ _ _ _ _ _ _ _ rfl rfl HR1.out ones_zero ?_)
          intro w2 hr2 hg2
          have HB2 := Lib.hid (below_blk HB1.out hg2 HB1.out.size (by omega))
          have y0 := hr2.cell 0
          have y1 := hr2.cell 1
          have y2 := hr2.cell 2
          have y3 := hr2.cell 3
          have y4 := hr2.cell 4
          simp at y0 y1 y2 y3 y4
          clear hr2 hg2 x0 x1 x2 x3 x4 r0
          go_wp2
          refine bodyPost_ret (v := .tuple #[.agg #[.int .i64 0, .int .i64 0, .string { data := #[] }, .bool false, .slice none 0 0], .int .i64 4]) (by simp [results, Try.results16, go_sem, y0, y1, y2, y3, y4]) rfl ?_
          rw [HE2.out]
          exact ⟨_, rfl, holds_zero _, HB2.out⟩
        · obtain ⟨r, rfl⟩ : ∃ r : Nat, z = (r : Int) := ⟨z.toNat, by omega⟩
          have hrq : r < q := by omega
          obtain ⟨y', hy'⟩ : ∃ y', l[r]? = some y' := ⟨_, List.getElem?_eq_getElem (by rw [HQ.out]; exact hrq)⟩
          obtain ⟨g2, o2, t0, t1, t2, t3, t4, rfl, _, hg2, hvy, f0, f1, f2, f3, f4⟩ := HSUB.out r y' hy'
          have hk2 : ∀ i, wr.cell? ⟨g2, i, none⟩ = w.cell? ⟨g2, i, none⟩ := fun i => HB.out.cell (p := ⟨g2, i, none⟩) hg2
          rw [← hk2] at f0 f1 f2 f3 f4
          have HE2 : Hid (wi x zs = wi y' (zs.drop (j + 1))) := Lib.hid (by rw [HE1.out, if_neg (by omega)]; simp [hy'])
          have HVY := Lib.hid hvy.holds
          have HON := Lib.hid hvy.ones
          have dd2 : decide (q ≤ r) = false := by simp; omega
          have dd0 : decide ((r : Int) < 0) = false := by simp
          clear hy' hk2 hvy h h' hz1 hz2
          go_wp2
          refine wp_region_grew (by kernel_rfl) (by kernel_rfl) ?_
          repeat (go_big_quiet_step (fail))
          refine wpQuiet_nil ?_
          intro gg
          have HBG := Lib.hid gg.2
          obtain ⟨w1, hw1⟩ : ∃ w1, gg.1 = w1 := ⟨_, rfl⟩
          rw [hw1] at HBG ⊢
          have HR1 := Lib.hid (HR.out.past HBG.out)
          have HX1 := Lib.hid (HX.out.past HBG.out)
          have HB1 := Lib.hid (HB.out.trans (HBG.out.mono HB.out.size))
          clear hw1 gg x4g a1g
          have g4 : w1.cell? ⟨w.heap.size, 4, none⟩ = some (.slice (some ⟨g2, o2, none⟩) q cap2) := by rw [HX1.out.cell]; rfl
          have b1 : w1.cell? ⟨g, o + j, none⟩ = some (.int .i64 (r : Int)) := by rw [HBG.out.cell (p := ⟨g, o + j, none⟩) (World.block_lt_of_cell? wr _ a1)]; exact a1
          have hk3 : ∀ i, w1.cell? ⟨g2, i, none⟩ = wr.cell? ⟨g2, i, none⟩ := fun i => HBG.out.cell (p := ⟨g2, i, none⟩) (Nat.lt_of_lt_of_le hg2 HB.out.size)
          rw [← hk3] at f0 f1 f2 f3 f4
          clear x0 x1 x2 x3 x4 r0 a1 hk3
          go_wp2
          refine wp_region_still_tail 8 (by kernel_rfl) (by kernel_rfl) ?_
          simp only [List.take_succ_cons, List.take_zero, List.drop_succ_cons, List.drop_zero]
          repeat still_step
          refine wpStill_nil ?_
          refine wpList_put5 w.heap.size t0 t1 t2 t3 t4 _ _ _ _ _ rfl rfl HX1.out HON.out ?_
          intro w3 hx3 hg3'
          have hg3 : w1.grownBy w3 (some w.heap.size) := ⟨hg3'.os, hg3'.tape, hg3'.output, hg3'.size, hg3'.block⟩
          clear hg3'
          have HX3 := Lib.hid hx3
          have HR3 : Hid (Blk w3 (w.heap.size + 1) #[.int .i64 0, .int .i64 0, .string { data := #[] }, .bool false, .slice none 0 0]) := Lib.hid (Blk.grown HR1.out hg3 (by omega))
          have HB3 : Hid (Below w.heap.size w w3) := Lib.hid (below_blk HB1.out hg3 HB1.out.size (Nat.le_refl _))
          clear hx3 hg3 f0 f1 f2 f3 f4 g4 b1 dd0 dd2
          go_wp2
          go_roundw
          case rel => exact ⟨j + 1, y', t0, t1, t2, t3, t4, by omega, by go_num, HX3, HR3, HVY, HE2, HB3⟩
          case measure => simp [intOf]; omega
      · have HE2 : Hid (wi x zs = (9, zeroV)) := Lib.hid (by rw [HE1.out, wi_cons, if_pos hk])
        have e1 : (k != 4) = true := by simp [hk]
        clear hk
        go_wp2_with (with_reducible refine wpList_put5 (w.heap.size + 1) _ _ _ _ _ _ _ _ _ _ rfl rfl HR.out ones_zero ?_)
        intro w2 hr2 hg2
        have HB2 := Lib.hid (below_blk HB.out hg2 HB.out.size (by omega))
        have y0 := hr2.cell 0
        have y1 := hr2.cell 1
        have y2 := hr2.cell 2
        have y3 := hr2.cell 3
        have y4 := hr2.cell 4
        simp at y0 y1 y2 y3 y4
        clear hr2 hg2 x0 x1 x2 x3 x4 r0
        go_wp2
        refine bodyPost_ret (v := .tuple #[.agg #[.int .i64 0, .int .i64 0, .string { data := #[] }, .bool false, .slice none 0 0], .int .i64 9]) (by simp [results, Try.results16, go_sem, y0, y1, y2, y3, y4]) rfl ?_
        rw [HE2.out]
        exact ⟨_, rfl, holds_zero _, HB2.out⟩
    · obtain rfl : j = n := by omega
      have HE2 : Hid (wi x zs = (0, y)) := Lib.hid (by rw [HE.out, List.drop_of_length_le (by rw [HN.out]; exact Nat.le_refl _), wi_nil])
      have HON := Lib.hid HY.out.ones
      have x0 := HX.out.cell 0
      have x1 := HX.out.cell 1
      have x2 := HX.out.cell 2
      have x3 := HX.out.cell 3
      have x4 := HX.out.cell 4
      simp at x0 x1 x2 x3 x4
      have hBH : w.heap.size + 1 ≤ wr.heap.size := by have := HR.out.lt; omega
      go_wp2_with (with_reducible refine wpList_put5 (w.heap.size + 1) d0 d1 d2 d3 d4 _ _ _ _ _ rfl rfl HR.out HON.out ?_)
      intro w2 hr2 hg2
      have HB2 := Lib.hid (below_blk HB.out hg2 HB.out.size (by omega))
      have HY2 : Hid (Holds w2 (.agg #[d0, d1, d2, d3, d4]) y) := Lib.hid (HY.out.below HB2.out)
      have y0 := hr2.cell 0
      have y1 := hr2.cell 1
      have y2 := hr2.cell 2
      have y3 := hr2.cell 3
      have y4 := hr2.cell 4
      simp at y0 y1 y2 y3 y4
      clear hr2 hg2 x0 x1 x2 x3 x4
      go_wp2
      refine bodyPost_ret (v := .tuple #[.agg #[d0, d1, d2, d3, d4], .int .i64 0]) (by simp [results, Try.results16, go_sem, y0, y1, y2, y3, y4]) rfl ?_
      rw [HE2.out]
      exact ⟨_, rfl, HY2.out, HB2.out⟩
end Go.Proofs.Ytncbgonanoihfaa

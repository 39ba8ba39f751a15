/- Life's awake answers true. No condition. -/
import Derived.Test.YtbaheeofdelbhaaLE
namespace Go.Proofs.Ytbaheeofdelbhaa
open Go Go.RowKit
/-- A life in a block. -/
def At (W : World) (a : Nat) (s d e v : Int) : Prop := W.heap[a]? = some (.cells #[.int .i64 s, .int .i64 d, .int .i64 e, .int .i64 v] 23 (0, 0))
theorem At.below {W W' : World} {a : Nat} {s d e v : Int} (h : At W a s d e v) (hb : Below W.heap.size W W') : At W' a s d e v := (hb.block _ (Array.getElem?_eq_some_iff.1 h).1).trans h
theorem At.new (W : World) (s d e v : Int) : At (W.alloc (.cells #[.int .i64 s, .int .i64 d, .int .i64 e, .int .i64 v] 23)) W.heap.size s d e v := alloc_at W _
theorem At.cells {W : World} {a : Nat} {s d e v : Int} (h : At W a s d e v) : W.cell? ⟨a, 0, none⟩ = some (.int .i64 s) ∧ W.cell? ⟨a, 1, none⟩ = some (.int .i64 d) ∧ W.cell? ⟨a, 2, none⟩ = some (.int .i64 e) ∧ W.cell? ⟨a, 3, none⟩ = some (.int .i64 v) := by
  have c0 := cell_of h 0
  have c1 := cell_of h 1
  have c2 := cell_of h 2
  have c3 := cell_of h 3
  simp only [List.getElem?_toArray, List.getElem?_cons_zero, List.getElem?_cons_succ] at c0 c1 c2 c3
  exact ⟨c0, c1, c2, c3⟩
def AwakeQ (w : World) (e : Ending) (w' : World) : Prop := e = .returned (.bool true) ∧ Below w.heap.size w w'
set_option maxRecDepth 100000 in
set_option maxHeartbeats 4000000 in
theorem awake_any (w : World) : Calls Try.prog 4 #[] w (AwakeQ w) := by
  have C0 := Lib.hid (fun W => new_any W)
  have C1 := Lib.hid (fun W => st_31 7 5 0 0 1 (by decide) (by decide) (by decide) (by decide) (by decide) (by decide) W)
  have C2 := Lib.hid (fun W => st_73n 0 11 12 0 1 (by decide) (by decide) (by decide) W)
  have C3 := Lib.hid (fun W => st_73y 0 12 12 0 1 (by decide) (by decide) (by decide) W)
  have C4 := Lib.hid (fun W => st_14 0 13 0 0 1 (by decide) (by decide) W)
  have C5 := Lib.hid (fun W => print_any 3 12 0 1 (by decide) W)
  have C6 := Lib.hid (fun V W (h : ListQ 3 12 0 1 V W) => parse_ok 3 12 0 1 (by decide) V W h)
  have C7 := Lib.hid (fun W => st_01 0 0 0 0 1 (by decide) (by decide) W)
  have U1 := Lib.hid (fun W => use_1 0 0 1 (by decide) (by decide) W)
  have U3 := Lib.hid (fun W => use_3 6 12 0 1 (by decide) (by decide) W)
  have U4 := Lib.hid (fun W => use_4 13 0 0 1 (by decide) (by decide) W)
  have R1 := Lib.hid (fun W => right_any 1 0 0 1 W)
  rw [show rightB 1 0 0 1 = true by decide] at R1
  rw [show (5 : Int) + 7 = 12 by decide] at C1
  unfold lv ev at *
  go_enter Try.func4, Try.ntmps4
  go_wp2_with fail
  refine (C0.out _).mono ?_
  rintro e1 w1 ⟨rfl, hb⟩
  have HB := Lib.hid hb
  clear hb
  have Al := Lib.hid (At.new w1 1 0 0 1)
  have N := Lib.hid (below_new w1 (.cells #[.int .i64 1, .int .i64 0, .int .i64 0, .int .i64 1] 23))
  replace HB := Lib.hid (HB.out.trans (N.out.mono HB.out.size))
  clear N
  go_wp2_with fail
  refine (C1.out _).mono ?_
  rintro e1 w2 ⟨rfl, hb⟩
  replace Al := Lib.hid (Al.out.below hb)
  replace HB := Lib.hid (HB.out.trans (hb.mono HB.out.size))
  clear hb
  have Ap := Lib.hid (At.new w2 3 12 0 1)
  have N := Lib.hid (below_new w2 (.cells #[.int .i64 3, .int .i64 12, .int .i64 0, .int .i64 1] 23))
  replace Al := Lib.hid (Al.out.below N.out)
  replace HB := Lib.hid (HB.out.trans (N.out.mono HB.out.size))
  clear N
  go_wp2_with fail
  refine (C2.out _).mono ?_
  rintro e1 w3 ⟨rfl, hb⟩
  replace Al := Lib.hid (Al.out.below hb)
  replace Ap := Lib.hid (Ap.out.below hb)
  replace HB := Lib.hid (HB.out.trans (hb.mono HB.out.size))
  clear hb
  have Aq := Lib.hid (At.new w3 3 12 0 1)
  have N := Lib.hid (below_new w3 (.cells #[.int .i64 3, .int .i64 12, .int .i64 0, .int .i64 1] 23))
  replace Al := Lib.hid (Al.out.below N.out)
  replace Ap := Lib.hid (Ap.out.below N.out)
  replace HB := Lib.hid (HB.out.trans (N.out.mono HB.out.size))
  clear N
  obtain ⟨cp0, cp1, cp2, cp3⟩ := Ap.out.cells
  go_wp2_with fail
  refine (C3.out _).mono ?_
  rintro e1 w4 ⟨rfl, hb⟩
  replace Al := Lib.hid (Al.out.below hb)
  replace Ap := Lib.hid (Ap.out.below hb)
  replace Aq := Lib.hid (Aq.out.below hb)
  replace HB := Lib.hid (HB.out.trans (hb.mono HB.out.size))
  clear hb
  clear cp0 cp1 cp2 cp3
  have Ag := Lib.hid (At.new w4 4 0 0 1)
  have N := Lib.hid (below_new w4 (.cells #[.int .i64 4, .int .i64 0, .int .i64 0, .int .i64 1] 23))
  replace Al := Lib.hid (Al.out.below N.out)
  replace Ap := Lib.hid (Ap.out.below N.out)
  replace Aq := Lib.hid (Aq.out.below N.out)
  replace HB := Lib.hid (HB.out.trans (N.out.mono HB.out.size))
  clear N
  go_wp2_with fail
  refine (C4.out _).mono ?_
  rintro e1 w5 ⟨rfl, hb⟩
  replace Al := Lib.hid (Al.out.below hb)
  replace Ap := Lib.hid (Ap.out.below hb)
  replace Aq := Lib.hid (Aq.out.below hb)
  replace Ag := Lib.hid (Ag.out.below hb)
  replace HB := Lib.hid (HB.out.trans (hb.mono HB.out.size))
  clear hb
  have Ax := Lib.hid (At.new w5 0 0 0 0)
  have N := Lib.hid (below_new w5 (.cells #[.int .i64 0, .int .i64 0, .int .i64 0, .int .i64 0] 23))
  replace Al := Lib.hid (Al.out.below N.out)
  replace Ap := Lib.hid (Ap.out.below N.out)
  replace Aq := Lib.hid (Aq.out.below N.out)
  replace Ag := Lib.hid (Ag.out.below N.out)
  replace HB := Lib.hid (HB.out.trans (N.out.mono HB.out.size))
  clear N
  obtain ⟨cp0, cp1, cp2, cp3⟩ := Ap.out.cells
  go_wp2_with fail
  refine (C5.out _).mono ?_
  rintro e1 w6 ⟨V, rfl, hl, hb⟩
  replace Al := Lib.hid (Al.out.below hb)
  replace Ap := Lib.hid (Ap.out.below hb)
  replace Aq := Lib.hid (Aq.out.below hb)
  replace Ag := Lib.hid (Ag.out.below hb)
  replace Ax := Lib.hid (Ax.out.below hb)
  replace HB := Lib.hid (HB.out.trans (hb.mono HB.out.size))
  clear hb
  clear cp0 cp1 cp2 cp3
  have HV := Lib.hid hl
  clear hl
  go_wp2_with fail
  refine (C6.out _ _ HV.out).mono ?_
  rintro e1 w7 ⟨rfl, hb⟩
  replace Al := Lib.hid (Al.out.below hb)
  replace Ap := Lib.hid (Ap.out.below hb)
  replace Aq := Lib.hid (Aq.out.below hb)
  replace Ag := Lib.hid (Ag.out.below hb)
  replace Ax := Lib.hid (Ax.out.below hb)
  replace HB := Lib.hid (HB.out.trans (hb.mono HB.out.size))
  clear hb
  have Ar := Lib.hid (At.new w7 3 12 0 1)
  have N := Lib.hid (below_new w7 (.cells #[.int .i64 3, .int .i64 12, .int .i64 0, .int .i64 1] 23))
  replace Al := Lib.hid (Al.out.below N.out)
  replace Ap := Lib.hid (Ap.out.below N.out)
  replace Aq := Lib.hid (Aq.out.below N.out)
  replace Ag := Lib.hid (Ag.out.below N.out)
  replace Ax := Lib.hid (Ax.out.below N.out)
  replace HB := Lib.hid (HB.out.trans (N.out.mono HB.out.size))
  clear N
  obtain ⟨cl0, cl1, cl2, cl3⟩ := Al.out.cells
  go_wp2_with fail
  refine (C7.out _).mono ?_
  rintro e1 w8 ⟨rfl, hb⟩
  replace Al := Lib.hid (Al.out.below hb)
  replace Ap := Lib.hid (Ap.out.below hb)
  replace Aq := Lib.hid (Aq.out.below hb)
  replace Ag := Lib.hid (Ag.out.below hb)
  replace Ax := Lib.hid (Ax.out.below hb)
  replace Ar := Lib.hid (Ar.out.below hb)
  replace HB := Lib.hid (HB.out.trans (hb.mono HB.out.size))
  clear hb
  clear cl0 cl1 cl2 cl3
  have Ay := Lib.hid (At.new w8 0 0 0 0)
  have N := Lib.hid (below_new w8 (.cells #[.int .i64 0, .int .i64 0, .int .i64 0, .int .i64 0] 23))
  replace Al := Lib.hid (Al.out.below N.out)
  replace Ap := Lib.hid (Ap.out.below N.out)
  replace Aq := Lib.hid (Aq.out.below N.out)
  replace Ag := Lib.hid (Ag.out.below N.out)
  replace Ax := Lib.hid (Ax.out.below N.out)
  replace Ar := Lib.hid (Ar.out.below N.out)
  replace HB := Lib.hid (HB.out.trans (N.out.mono HB.out.size))
  clear N
  obtain ⟨cl0, cl1, cl2, cl3⟩ := Al.out.cells
  obtain ⟨cp0, cp1, cp2, cp3⟩ := Ap.out.cells
  obtain ⟨cq0, cq1, cq2, cq3⟩ := Aq.out.cells
  obtain ⟨cg0, cg1, cg2, cg3⟩ := Ag.out.cells
  obtain ⟨cr0, cr1, cr2, cr3⟩ := Ar.out.cells
  go_wp2_with fail
  refine (U1.out _).mono ?_
  rintro e1 w9 ⟨rfl, hb⟩
  replace Al := Lib.hid (Al.out.below hb)
  replace Ap := Lib.hid (Ap.out.below hb)
  replace Aq := Lib.hid (Aq.out.below hb)
  replace Ag := Lib.hid (Ag.out.below hb)
  replace Ax := Lib.hid (Ax.out.below hb)
  replace Ar := Lib.hid (Ar.out.below hb)
  replace Ay := Lib.hid (Ay.out.below hb)
  replace HB := Lib.hid (HB.out.trans (hb.mono HB.out.size))
  clear hb
  clear cl0 cl1 cl2 cl3 cp0 cp1 cp2 cp3 cq0 cq1 cq2 cq3 cg0 cg1 cg2 cg3 cr0 cr1 cr2 cr3
  obtain ⟨cp0, cp1, cp2, cp3⟩ := Ap.out.cells
  obtain ⟨cg0, cg1, cg2, cg3⟩ := Ag.out.cells
  obtain ⟨cl0, cl1, cl2, cl3⟩ := Al.out.cells
  go_wp2_with fail
  refine (U3.out _).mono ?_
  rintro e1 w10 ⟨rfl, hb⟩
  replace Al := Lib.hid (Al.out.below hb)
  replace Ap := Lib.hid (Ap.out.below hb)
  replace Aq := Lib.hid (Aq.out.below hb)
  replace Ag := Lib.hid (Ag.out.below hb)
  replace Ax := Lib.hid (Ax.out.below hb)
  replace Ar := Lib.hid (Ar.out.below hb)
  replace Ay := Lib.hid (Ay.out.below hb)
  replace HB := Lib.hid (HB.out.trans (hb.mono HB.out.size))
  clear hb
  clear cp0 cp1 cp2 cp3 cg0 cg1 cg2 cg3 cl0 cl1 cl2 cl3
  obtain ⟨cp0, cp1, cp2, cp3⟩ := Ap.out.cells
  obtain ⟨cg0, cg1, cg2, cg3⟩ := Ag.out.cells
  obtain ⟨cl0, cl1, cl2, cl3⟩ := Al.out.cells
  go_wp2_with fail
  refine (U4.out _).mono ?_
  rintro e1 w11 ⟨rfl, hb⟩
  replace Al := Lib.hid (Al.out.below hb)
  replace Ap := Lib.hid (Ap.out.below hb)
  replace Aq := Lib.hid (Aq.out.below hb)
  replace Ag := Lib.hid (Ag.out.below hb)
  replace Ax := Lib.hid (Ax.out.below hb)
  replace Ar := Lib.hid (Ar.out.below hb)
  replace Ay := Lib.hid (Ay.out.below hb)
  replace HB := Lib.hid (HB.out.trans (hb.mono HB.out.size))
  clear hb
  clear cp0 cp1 cp2 cp3 cg0 cg1 cg2 cg3 cl0 cl1 cl2 cl3
  obtain ⟨cp0, cp1, cp2, cp3⟩ := Ap.out.cells
  obtain ⟨cg0, cg1, cg2, cg3⟩ := Ag.out.cells
  obtain ⟨cl0, cl1, cl2, cl3⟩ := Al.out.cells
  go_wp2_with fail
  refine (R1.out _).mono ?_
  rintro e1 w12 ⟨rfl, hb⟩
  replace Al := Lib.hid (Al.out.below hb)
  replace Ap := Lib.hid (Ap.out.below hb)
  replace Aq := Lib.hid (Aq.out.below hb)
  replace Ag := Lib.hid (Ag.out.below hb)
  replace Ax := Lib.hid (Ax.out.below hb)
  replace Ar := Lib.hid (Ar.out.below hb)
  replace Ay := Lib.hid (Ay.out.below hb)
  replace HB := Lib.hid (HB.out.trans (hb.mono HB.out.size))
  clear hb
  clear cp0 cp1 cp2 cp3 cg0 cg1 cg2 cg3 cl0 cl1 cl2 cl3
  go_wp2
  go_ret
  exact ⟨rfl, HB.out⟩
end Go.Proofs.Ytbaheeofdelbhaa

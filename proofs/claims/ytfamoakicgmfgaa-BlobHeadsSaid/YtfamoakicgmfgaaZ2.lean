/- Blob's taker, the head that is read, the parts of a blob: by contract. No condition but the sizes. -/
import Derived.Test.YtfamoakicgmfgaaZ1
namespace Go.Proofs.Ytfamoakicgmfgaa.Lb
open Go.RowKit Go.Own.Lb
def takeS (s : ByteArray) (n : Nat) : ByteArray := s.extract 0 (min n s.size)
def restS (s : ByteArray) (n : Nat) : ByteArray := s.extract (min n s.size) s.size
theorem takeS_size (s : ByteArray) (n : Nat) : (takeS s n).size = min n s.size := by unfold takeS; simp
theorem restS_size (s : ByteArray) (n : Nat) : (restS s n).size = s.size - min n s.size := by unfold restS; simp
set_option maxRecDepth 100000 in
theorem taker_any (s : ByteArray) (w : World) : Calls Try.prog 27 #[.string s] w fun e w' => e = .returned (.func (.func 46) #[] #[.pointer (some ⟨w.heap.size, 0, none⟩)]) ∧ w.alloc (.cells #[.string s] 9) = w' := by
  go_enter Try.func27, Try.ntmps27
  go_wp2
  go_ret
  exact ⟨rfl, rfl⟩
set_option maxRecDepth 100000 in
set_option maxHeartbeats 1000000 in
theorem take_any (B : Nat) (s : ByteArray) (n : Nat) (w : World) (hB : Box w B s) :
    Calls Try.prog 46 #[.int .i64 (n : Int), .pointer (some ⟨B, 0, none⟩)] w fun e w' => e = .returned (.string (takeS s n)) ∧ Box w' B (restS s n) ∧ w.grownBy w' (some B) := by
  have c0 := cell_of_one hB
  have d1 := free_of_one hB
  unfold takeS restS
  obtain ⟨m, hm⟩ : ∃ m, min n s.size = m := ⟨_, rfl⟩
  have hmi : min (n : Int) (s.size : Int) = (m : Int) := by omega
  have hms : m ≤ s.size := by omega
  rw [hm]
  have HB := Lib.hid hB
  clear hm hB
  go_enter Try.func46, Try.ntmps46
  go_wp2
  go_ret
  refine ⟨rfl, one_setCell HB.out, ?_⟩
  exact ⟨rfl, rfl, rfl, by simp, fun k hk hne => by
    rw [Below.heap_setCell _ _ _ _ (fun e => hne (by rw [e]))]⟩
/-- A byte's number; 0 of nothing. -/
def numS (s : ByteArray) : Nat := if s.size = 0 then 0 else gi (bys s) 0
theorem number_any (s : ByteArray) (w : World) : Calls Try.prog 47 #[.string s] w fun e w' => e = .returned (.int .i64 ((numS s : Nat) : Int)) ∧ w = w' := by
  unfold numS
  by_cases h : s.size = 0
  · rw [if_pos h]
    obtain rfl : s = { data := #[] } := by
      apply ByteArray.ext
      exact Array.eq_empty_of_size_eq_zero h
    exact number_none w
  · rw [if_neg h]
    exact number_some s (by omega) w
theorem numS_lt (s : ByteArray) : numS s < 256 := by
  unfold numS
  split
  · decide
  · exact gi_bys_lt s 0
/-- A head that is read off a text, and what is left. -/
def idR (s : ByteArray) : ByteArray := takeS (restS s 1) (numS (takeS s 1))
def idL (s : ByteArray) : ByteArray := restS (restS s 1) (numS (takeS s 1))
def hdR (s : ByteArray) : Hd := ⟨idR s, (numS (takeS (idL s) 1) : Nat), takeS (restS (idL s) 1) 12⟩
def hdL (s : ByteArray) : ByteArray := restS (restS (idL s) 1) 12
theorem grown_seq {w w1 w2 : World} {B : Nat} (h : w.grownBy w1 (some B)) (k : w1.grownBy w2 (some B)) : w.grownBy w2 (some B) := grown_more h k (fun _ e => Or.inr (Option.some.inj e).symm)
theorem grown_below {w w1 : World} {B : Nat} (h : Below w.heap.size w w1) : w.grownBy w1 (some B) := ⟨h.os, h.tape, h.output, h.size, fun k hk _ => h.block k hk⟩
theorem keep_of {W W' : World} {B r : Nat} {x : Obj} (hG : W.grownBy W' (some B)) (h : W.heap[r]? = some x) (hne : r ≠ B) : W'.heap[r]? = some x :=
  (hG.block _ (Array.getElem?_eq_some_iff.1 h).1 (fun e => hne (Option.some.inj e))).trans h
theorem keep_b {W W' : World} {r : Nat} {x : Obj} (hG : Below W.heap.size W W') (h : W.heap[r]? = some x) : W'.heap[r]? = some x :=
  (hG.block _ (Array.getElem?_eq_some_iff.1 h).1).trans h
theorem cell_of {W : World} {b : Nat} {c : Array Value} {t : TypeId} (h : W.heap[b]? = some (.cells c t (0, 0))) (j : Nat) : W.cell? ⟨b, j, none⟩ = c[j]? := by
  simp only [World.cell?, h, Option.isSome_none, Bool.false_eq_true, if_false]
theorem free_of {W : World} {b : Nat} {c : Array Value} {t : TypeId} (h : W.heap[b]? = some (.cells c t (0, 0))) (j : Nat) : W.frozen? ⟨b, j, none⟩ = false := by simp [World.frozen?, h]
/-- Three cells of a block are written. -/
def set3 (W : World) (r : Nat) (a b c : Value) : World := ((W.setCell ⟨r, 0, none⟩ a).setCell ⟨r, 1, none⟩ b).setCell ⟨r, 2, none⟩ c
theorem set3_at {W : World} {r : Nat} {x y z : Value} {T : TypeId} (h : W.heap[r]? = some (.cells #[x, y, z] T (0, 0))) (a b c : Value) : (set3 W r a b c).heap[r]? = some (.cells #[a, b, c] T (0, 0)) :=
  heap_setCell_same _ r 2 _ T _ (heap_setCell_same _ r 1 _ T _ (heap_setCell_same W r 0 _ T _ h))
theorem set3_other (W : World) {r k : Nat} (a b c : Value) (h : k ≠ r) : (set3 W r a b c).heap[k]? = W.heap[k]? := by
  unfold set3
  rw [heap_setCell_other _ _ _ _ h, heap_setCell_other _ _ _ _ h, heap_setCell_other _ _ _ _ h]
theorem set3_size (W : World) (r : Nat) (a b c : Value) : (set3 W r a b c).heap.size = W.heap.size := by unfold set3; simp
theorem set3_grown {w W : World} {r : Nat} {o : Option Nat} (a b c : Value) (hr : w.heap.size ≤ r) (h : w.grownBy W o) : w.grownBy (set3 W r a b c) o :=
  ⟨h.os, h.tape, h.output, by rw [set3_size]; exact h.size, fun k hk hne => by rw [set3_other W a b c (by omega)]; exact h.block k hk hne⟩
theorem set3_below {w W : World} {r : Nat} (a b c : Value) (hr : w.heap.size ≤ r) (h : Below w.heap.size w W) : Below w.heap.size w (set3 W r a b c) :=
  ⟨h.os, h.tape, h.output, by rw [set3_size]; exact h.size, fun k hk => by rw [set3_other W a b c (by omega)]; exact h.block k hk⟩
theorem load3 {W : World} {r : Nat} {a b c : Value} {T : TypeId} (h : W.heap[r]? = some (.cells #[a, b, c] T (0, 0))) (hs : (sizeOf T).run Try.prog W = .ok 3 W) (ha : (isAgg T).run Try.prog W = .ok true W) :
    (loadVar T ⟨r, 0, none⟩).run Try.prog W = .ok (.agg #[a, b, c]) W := by
  have hl := run_loadCells_list (P := Try.prog) W ⟨r, 0, none⟩ [a, b, c] (fun j u hu => by
    rw [show (⟨r, 0, none⟩ : Addr).add j = ⟨r, j, none⟩ by unfold Addr.add; split <;> simp_all, cell_of h]
    simpa using hu)
  simp only [List.length_cons, List.length_nil, Nat.zero_add, Nat.reduceAdd] at hl
  simp [loadVar, ha, hs, hl]
theorem cell_new0 (w : World) (c : Array Value) (T : TypeId) (j : Nat) : (w.alloc (.cells c T)).cell? ⟨w.heap.size, j, none⟩ = c[j]? := cell_new w c T j
set_option maxRecDepth 100000 in
set_option maxHeartbeats 2000000 in
theorem read_any (B : Nat) (s : ByteArray) (hs : s.size ≤ 1099511627776) (w : World) (hB : Box w B s) :
    Calls Try.prog 28 #[.func (.func 46) #[] #[.pointer (some ⟨B, 0, none⟩)]] w fun e w' => e = .returned (hdV (hdR s)) ∧ Box w' B (hdL s) ∧ w.grownBy w' (some B) := by
  unfold hdV hdR hdL
  simp only
  have hBl : B < w.heap.size := (Array.getElem?_eq_some_iff.1 hB).1
  have z1 : (idR s).size ≤ 281474976710656 := by
    unfold idR; rw [takeS_size, restS_size]; omega
  have z2 : (takeS (restS (idL s) 1) 12).size ≤ 281474976710656 := by
    rw [takeS_size]; omega
  obtain ⟨W0, hW0⟩ : ∃ W0, w.alloc (.cells #[.string { data := #[] }, .int .i64 0, .string { data := #[] }] 23) = W0 := ⟨_, rfl⟩
  have hg0 : w.grownBy W0 (some B) := grown_below (hW0 ▸ (Below.refl _ w).alloc (Nat.le_refl _) _)
  have hB0 : Box W0 B s := hW0 ▸ (((Below.refl _ w).alloc (Nat.le_refl _) _).block B hBl).trans hB
  have HT1 := Lib.hid (take_any B s 1 W0 hB0)
  have HC1 := Lib.hid fun W => clone_any (idR s) z1 W
  have HC2 := Lib.hid fun W => clone_any (takeS (restS (idL s) 1) 12) z2 W
  have HG0 := Lib.hid hg0
  have HW0 := Lib.hid hW0
  have hsz : w.heap.size < W0.heap.size := by rw [← hW0]; simp
  have HSZ := Lib.hid hsz
  have HNE : Hid (w.heap.size ≠ B) := Lib.hid (by omega)
  have HR0 : Hid (W0.heap[w.heap.size]? = some (.cells #[.string { data := #[] }, .int .i64 0, .string { data := #[] }] 23 (0, 0))) := Lib.hid (hW0 ▸ heap_alloc_new w _)
  clear hs hB hW0 hg0 hB0 z1 z2 hsz
  go_enter Try.func28, Try.ntmps28
  go_wp2_with fail
  rw [HW0.out]
  go_wp2_with fail
  refine HT1.out.mono ?_
  rintro e w1 ⟨rfl, hB1, hG1⟩
  have HG1 := Lib.hid (grown_seq HG0.out hG1)
  have HR1 := Lib.hid (keep_of hG1 HR0.out HNE.out)
  have HN1 := Lib.hid (number_any (takeS s 1) w1)
  have HT2 := Lib.hid (take_any B (restS s 1) (numS (takeS s 1)) w1 hB1)
  clear hG1 hB1
  go_wp2_with fail
  refine HN1.out.mono ?_
  rintro e w' ⟨rfl, rfl⟩
  go_wp2_with fail
  refine HT2.out.mono ?_
  rintro e w2 ⟨rfl, hB2, hG2⟩
  have HG2 := Lib.hid (grown_seq HG1.out hG2)
  have HR2 := Lib.hid (keep_of hG2 HR1.out HNE.out)
  have HT3 := Lib.hid (take_any B (idL s) 1 w2 hB2)
  clear hG2 hB2
  go_wp2_with fail
  refine HT3.out.mono ?_
  rintro e w3 ⟨rfl, hB3, hG3⟩
  have HG3 := Lib.hid (grown_seq HG2.out hG3)
  have HR3 := Lib.hid (keep_of hG3 HR2.out HNE.out)
  have HN3 := Lib.hid (number_any (takeS (idL s) 1) w3)
  have HT4 := Lib.hid (take_any B (restS (idL s) 1) 12 w3 hB3)
  clear hG3 hB3
  go_wp2_with fail
  refine HN3.out.mono ?_
  rintro e w' ⟨rfl, rfl⟩
  go_wp2_with fail
  refine HT4.out.mono ?_
  rintro e w4 ⟨rfl, hB4, hG4⟩
  have HG4 := Lib.hid (grown_seq HG3.out hG4)
  have HR4 := Lib.hid (keep_of hG4 HR3.out HNE.out)
  have HB4 := Lib.hid hB4
  clear hG4 hB4
  go_wp2_with fail
  refine (HC1.out _).mono ?_
  rintro e w5 ⟨rfl, hb5⟩
  have HG5 := Lib.hid (grown_seq HG4.out (grown_below hb5))
  have HR5 := Lib.hid (keep_b hb5 HR4.out)
  have HB5 := Lib.hid (keep_b hb5 HB4.out)
  clear hb5
  go_wp2_with fail
  refine (HC2.out _).mono ?_
  rintro e w6 ⟨rfl, hb6⟩
  have HG6 := Lib.hid (grown_seq HG5.out (grown_below hb6))
  have HR6 := Lib.hid (keep_b hb6 HR5.out)
  have HB6 := Lib.hid (keep_b hb6 HB5.out)
  clear hb6
  have c0 := cell_of HR6.out 0
  have c1 := cell_of HR6.out 1
  have c2 := cell_of HR6.out 2
  have f0 := free_of HR6.out 0
  have f1 := free_of HR6.out 1
  have f2 := free_of HR6.out 2
  go_wp2
  refine bodyPost_ret (v := .agg #[.string (idR s), .int .i64 ((numS (takeS (idL s) 1) : Nat) : Int), .string (takeS (restS (idL s) 1) 12)]) ?_ rfl ?_
  · have h := load3 (set3_at HR6.out (.string (idR s)) (.int .i64 ((numS (takeS (idL s) 1) : Nat) : Int)) (.string (takeS (restS (idL s) 1) 12))) (by kernel_rfl) (by kernel_rfl)
    unfold set3 at h
    generalize (((w6.setCell { block := w.heap.size, off := 0 } (Value.string (idR s))).setCell { block := w.heap.size, off := 1 } (Value.int IntKind.i64 ↑(numS (takeS (idL s) 1)))).setCell { block := w.heap.size, off := 2 } (Value.string (takeS (restS (idL s) 1) 12))) = WW at h ⊢
    simp only [results, Try.results28]
    simp [asAddr, h]
  · refine ⟨rfl, (set3_other _ _ _ _ (Ne.symm HNE.out)).trans HB6.out, set3_grown _ _ _ (Nat.le_refl _) HG6.out⟩
end Go.Proofs.Ytfamoakicgmfgaa.Lb

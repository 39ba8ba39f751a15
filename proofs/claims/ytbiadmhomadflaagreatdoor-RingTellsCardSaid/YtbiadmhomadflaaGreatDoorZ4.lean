/- The kinds of keys of ring: their salts, and the closures that make their names; numbers as bytes: by contract. No condition but the sizes. | What ring's kinds do with a key, given what Wrap, Unwrap and Derive answer: by contract. | A key of a draw, wrapped; a domain's key; the key above a backing key: by contract, given what Wrap, Unwrap and Derive answer. | Ring's Backing, Key, Rewrap, New, Data: by contract, given what Wrap, Unwrap and Derive answer. -/
import Derived.Test.YtbiadmhomadflaaGreatDoorFT
import Derived.Test.YtbiadmhomadflaaGreatDoorProg
import Derived.Shelf.Strconv.Clone
import Derived.WalkLawsBesides
import Derived.OneCell
import Derived.Laws.EntriesVeiled
import Derived.Laws.BytesArg
import Derived.Laws.Cells
namespace Go.Proofs.YtbiadmhomadflaaGreatDoor
open Go.RowKit Go.Own Go.Own.Fr
def rClone_ren : Go.Shelf.Ren := ⟨fun | 316 => 34 | n => n, fun | 37 => 56 | 127 => 62 | n => n, fun | n => n⟩
theorem rClone : Go.Proofs.LaysM.n316 Tryz.prog rClone_ren := {
  mixed := by kernel_rfl
  f316 := Tryz.func34.trans (congrArg some (by kernel_rfl))
  t0 := Tryz.underlying0
  a0 := Tryz.isAgg0
  z0 := Tryz.sizeOf0
  v0 := Tryz.zeroValue0
  t3 := Tryz.underlying3
  a3 := Tryz.isAgg3
  z3 := Tryz.sizeOf3
  v3 := Tryz.zeroValue3
  t4 := Tryz.underlying4
  a4 := Tryz.isAgg4
  z4 := Tryz.sizeOf4
  v4 := Tryz.zeroValue4
  t9 := Tryz.underlying9
  a9 := Tryz.isAgg9
  z9 := Tryz.sizeOf9
  v9 := Tryz.zeroValue9
  t37 := Tryz.underlying56
  a37 := Tryz.isAgg56
  z37 := Tryz.sizeOf56
  v37 := Tryz.zeroValue56
  t127 := Tryz.underlying62
  a127 := Tryz.isAgg62
  z127 := Tryz.sizeOf62
  v127 := Tryz.zeroValue62
  t5 := Tryz.underlying5
  a5 := Tryz.isAgg5
  z5 := Tryz.sizeOf5
  v5 := Tryz.zeroValue5
  i0 := by kernel_rfl
  i3 := by kernel_rfl
  i4 := by kernel_rfl
  i5 := by kernel_rfl
  i9 := by kernel_rfl
  i37 := by kernel_rfl
  i127 := by kernel_rfl }
set_option maxRecDepth 100000 in
theorem rclone_any (s : ByteArray) (hs : s.size ≤ 281474976710656) (w : World) : Calls Tryz.prog 18 #[.string s] w fun e w' => e = .returned (.string s) ∧ Below w.heap.size w w' := by
  have HC : Hid (Calls Tryz.prog 34 #[.string s] w fun e w' => e = .returned (.string s) ∧ Below w.heap.size w w') := Lib.hid (Any.stringslite_Clone rClone s w hs)
  go_enter Tryz.func18, Tryz.ntmps18
  go_wp2_with fail
  refine HC.out.mono ?_
  rintro e w' ⟨rfl, hb⟩
  replace hb := Lib.hid hb
  go_wp2
  go_ret
  exact ⟨rfl, hb.out⟩
theorem within_any (n : Int) (w : World) : Calls Tryz.prog 19 #[.int .i64 n, .int .i64 8] w fun e w' => e = .returned (.bool (decide (1 ≤ n ∧ n ≤ 8))) ∧ w = w' := by
  by_cases h1 : 1 ≤ n
  · by_cases h2 : n ≤ 8
    · have e1 : decide ((1 : Int) ≤ n) = true := by simp [h1]
      have e2 : decide (n ≤ (8 : Int)) = true := by simp [h2]
      rw [decide_eq_true ⟨h1, h2⟩]
      go_enter Tryz.func19, Tryz.ntmps19
      go_wp2
      go_ret
      exact ⟨rfl, rfl⟩
    · have e1 : decide ((1 : Int) ≤ n) = true := by simp [h1]
      have e2 : decide (n ≤ (8 : Int)) = false := by simp; omega
      rw [decide_eq_false (fun h => h2 h.2)]
      go_enter Tryz.func19, Tryz.ntmps19
      go_wp2
      go_ret
      exact ⟨rfl, rfl⟩
  · have e1 : decide ((1 : Int) ≤ n) = false := by simp; omega
    rw [decide_eq_false (fun h => h1 h.1)]
    go_enter Tryz.func19, Tryz.ntmps19
    go_wp2
    go_ret
    exact ⟨rfl, rfl⟩
/-- A kind: its salt, and the closure over its mark. -/
def Kd (salt mark : ByteArray) (v : Value) (w : World) : Prop := ∃ b, v = .agg #[.string salt, .func (.func 42) #[] #[.pointer (some ⟨b, 0, none⟩)]] ∧ b < w.heap.size ∧ w.heap[b]? = some (.cells #[.string mark] 9 (0, 0))
theorem Kd_last (salt mark : ByteArray) : Lasts (Kd salt mark) := fun _ _ _ ⟨b, h1, h2, h3⟩ hB => ⟨b, h1, Nat.lt_of_lt_of_le h2 hB.size, (hB.block b h2).trans h3⟩
set_option maxRecDepth 100000 in
theorem namer_any (s : ByteArray) (w : World) : Calls Tryz.prog 35 #[.string s] w fun e w' => e = .returned (.func (.func 42) #[] #[.pointer (some ⟨w.heap.size, 0, none⟩)]) ∧ w.alloc (.cells #[.string s] 9) = w' := by
  go_enter Tryz.func35, Tryz.ntmps35
  go_wp2
  go_ret
  exact ⟨rfl, rfl⟩
set_option maxRecDepth 100000 in
theorem domains_any (w : World) : Calls Tryz.prog 20 #[] w fun e w' => ∃ v, e = .returned v ∧ Below w.heap.size w w' ∧ Kd { data := #[100, 111, 109, 97, 105, 110] } { data := #[100] } v w' := by
  have HN := Lib.hid namer_any
  go_enter Tryz.func20, Tryz.ntmps20
  go_wp2_with fail
  refine (HN.out _ _).mono ?_
  rintro e w' ⟨rfl, rfl⟩
  go_wp2
  have hb : Below w.heap.size w (((w.alloc (Obj.cells #[Value.string { data := #[100, 111, 109, 97, 105, 110] }, Value.func (Fn.func 42) #[] #[Value.pointer (some { block := w.heap.size + 1, off := 0 })]] 46)).alloc (Obj.cells #[Value.string { data := #[100] }] 9))) := ((Below.refl _ w).alloc (Nat.le_refl _) _).alloc (by simp) _
  have hk : ((w.alloc (Obj.cells #[Value.string { data := #[100, 111, 109, 97, 105, 110] }, Value.func (Fn.func 42) #[] #[Value.pointer (some { block := w.heap.size + 1, off := 0 })]] 46)).alloc (Obj.cells #[Value.string { data := #[100] }] 9)).heap[w.heap.size + 1]? = some (.cells #[.string { data := #[100] }] 9 (0, 0)) := by
    have h := heap_alloc_new (w.alloc (Obj.cells #[Value.string { data := #[100, 111, 109, 97, 105, 110] }, Value.func (Fn.func 42) #[] #[Value.pointer (some { block := w.heap.size + 1, off := 0 })]] 46)) (Obj.cells #[Value.string { data := #[100] }] 9)
    simpa using h
  refine bodyPost_ret (v := .agg #[.string { data := #[100, 111, 109, 97, 105, 110] }, .func (.func 42) #[] #[.pointer (some ⟨w.heap.size + 1, 0, none⟩)]]) (by simp [results, Tryz.results20, go_sem]) rfl ?_
  exact ⟨_, rfl, hb, _, rfl, by simp, hk⟩
set_option maxRecDepth 100000 in
theorem backings_any (w : World) : Calls Tryz.prog 26 #[] w fun e w' => ∃ v, e = .returned v ∧ Below w.heap.size w w' ∧ Kd { data := #[98, 97, 99, 107, 105, 110, 103] } { data := #[98] } v w' := by
  have HN := Lib.hid namer_any
  go_enter Tryz.func26, Tryz.ntmps26
  go_wp2_with fail
  refine (HN.out _ _).mono ?_
  rintro e w' ⟨rfl, rfl⟩
  go_wp2
  have hb : Below w.heap.size w (((w.alloc (Obj.cells #[Value.string { data := #[98, 97, 99, 107, 105, 110, 103] }, Value.func (Fn.func 42) #[] #[Value.pointer (some { block := w.heap.size + 1, off := 0 })]] 46)).alloc (Obj.cells #[Value.string { data := #[98] }] 9))) := ((Below.refl _ w).alloc (Nat.le_refl _) _).alloc (by simp) _
  have hk : ((w.alloc (Obj.cells #[Value.string { data := #[98, 97, 99, 107, 105, 110, 103] }, Value.func (Fn.func 42) #[] #[Value.pointer (some { block := w.heap.size + 1, off := 0 })]] 46)).alloc (Obj.cells #[Value.string { data := #[98] }] 9)).heap[w.heap.size + 1]? = some (.cells #[.string { data := #[98] }] 9 (0, 0)) := by
    have h := heap_alloc_new (w.alloc (Obj.cells #[Value.string { data := #[98, 97, 99, 107, 105, 110, 103] }, Value.func (Fn.func 42) #[] #[Value.pointer (some { block := w.heap.size + 1, off := 0 })]] 46)) (Obj.cells #[Value.string { data := #[98] }] 9)
    simpa using h
  refine bodyPost_ret (v := .agg #[.string { data := #[98, 97, 99, 107, 105, 110, 103] }, .func (.func 42) #[] #[.pointer (some ⟨w.heap.size + 1, 0, none⟩)]]) (by simp [results, Tryz.results26, go_sem]) rfl ?_
  exact ⟨_, rfl, hb, _, rfl, by simp, hk⟩

/-- What a kind's closure makes of what is told: the mark ahead of it. -/
theorem name_any (mark info : ByteArray) (hm : mark.size ≤ 1000) (hi : info.size ≤ 1000) (b : Nat) (w : World) (hb : w.heap[b]? = some (.cells #[.string mark] 9 (0, 0))) :
    Calls Tryz.prog 42 #[.string info, .pointer (some ⟨b, 0, none⟩)] w fun e w' => e = .returned (.string (mark ++ info)) ∧ w = w' := by
  have c0 := cell_of_one hb
  have hadd : ∀ W, (Op.stringOp .add mark info).run Tryz.prog W = .ok (.string (mark ++ info)) W := fun W => run_string_add_sum W _ _ (by omega)
  clear hb
  go_enter Tryz.func42, Tryz.ntmps42
  go_wp2
  go_ret
  exact ⟨rfl, rfl⟩
/-- Four bytes of a small number. -/
def fourB (n : Nat) : ByteArray := { data := #[0, 0, 0, UInt8.ofNat n] }
theorem fourB_size (n : Nat) : (fourB n).size = 4 := rfl
theorem eight {n : Nat} (h1 : 1 ≤ n) (h2 : n ≤ 8) : n = 1 ∨ n = 2 ∨ n = 3 ∨ n = 4 ∨ n = 5 ∨ n = 6 ∨ n = 7 ∨ n = 8 := by omega
theorem cell_newr (w : World) (c : Array Value) (t : TypeId) (j : Nat) : (w.alloc (.cells c t)).cell? ⟨w.heap.size, j, none⟩ = c[j]? := by
  have h := heap_alloc_new w (.cells c t)
  simp only [World.cell?, h, Option.isSome_none, Bool.false_eq_true, if_false]
theorem conv_row (w : World) (cs : List Nat) (n : Nat) (hn : cs.length = n) : (convert 56 9 (.slice (some ⟨w.heap.size, 0, none⟩) n n)).run Tryz.prog (w.alloc (.cells (cs.map fun (k : Nat) => Value.int .u8 (k : Int)).toArray 5)) = .ok (.string ⟨(cs.map UInt8.ofNat).toArray⟩) (w.alloc (.cells (cs.map fun (k : Nat) => Value.int .u8 (k : Int)).toArray 5)) := by
  have hl := run_loadCells_list (P := Tryz.prog) (w.alloc (.cells (cs.map fun (k : Nat) => Value.int .u8 (k : Int)).toArray 5)) ⟨w.heap.size, 0, none⟩ (cs.map fun (k : Nat) => Value.int .u8 (k : Int)) (fun j u hu => by
    rw [show (⟨w.heap.size, 0, none⟩ : Addr).add j = ⟨w.heap.size, j, none⟩ by unfold Addr.add; split <;> simp_all, cell_newr]
    simpa using hu)
  rw [List.length_map, hn] at hl
  have hl' : (loadCells ⟨w.heap.size, 0, none⟩ n).run Tryz.prog (w.alloc (.cells (cs.map fun (k : Nat) => Value.int .u8 (k : Int)).toArray 5)) = .ok ((cs.map fun (k : Nat) => (k : Int)).map (Value.int .u8)).toArray (w.alloc (.cells (cs.map fun (k : Nat) => Value.int .u8 (k : Int)).toArray 5)) := by
    rw [hl]; simp [Function.comp_def]
  rw [run_convert_bytes_string _ 56 9 5 _ _ _ Tryz.underlying56 Tryz.underlying5 Tryz.underlying9, run_bytesToString _ _ _ _ _ hl', foldl_push_bytes]
  simp [Function.comp_def]
theorem conv4 (w : World) (k : Nat) (z : Int) (hz : (k : Int) = z) : (convert 56 9 (.slice (some ⟨w.heap.size, 0, none⟩) 4 4)).run Tryz.prog (w.alloc (.cells #[.int .u8 0, .int .u8 0, .int .u8 0, .int .u8 z] 5)) = .ok (.string (fourB k)) (w.alloc (.cells #[.int .u8 0, .int .u8 0, .int .u8 0, .int .u8 z] 5)) := by
  subst hz
  exact conv_row w [0, 0, 0, k] 4 rfl
theorem conv1 (w : World) (k : Nat) (z : Int) (hz : (k : Int) = z) : (convert 56 9 (.slice (some ⟨w.heap.size, 0, none⟩) 1 1)).run Tryz.prog (w.alloc (.cells #[.int .u8 z] 5)) = .ok (.string { data := #[UInt8.ofNat k] }) (w.alloc (.cells #[.int .u8 z] 5)) := by
  subst hz
  exact conv_row w [k] 1 rfl
set_option maxRecDepth 100000 in
set_option maxHeartbeats 1000000 in
theorem ofDomain_any (n : Nat) (h1 : 1 ≤ n) (h2 : n ≤ 8) (w : World) : Calls Tryz.prog 22 #[.int .i64 (n : Int)] w fun e w' => e = .returned (.string (fourB n)) ∧ Below w.heap.size w w' := by
  have c1 := conv4 w 1 1 rfl
  have c2 := conv4 w 2 2 rfl
  have c3 := conv4 w 3 3 rfl
  have c4 := conv4 w 4 4 rfl
  have c5 := conv4 w 5 5 rfl
  have c6 := conv4 w 6 6 rfl
  have c7 := conv4 w 7 7 rfl
  have c8 := conv4 w 8 8 rfl
  have hb := Lib.hid ((Below.refl _ w).alloc (Nat.le_refl _) (.cells #[.int .u8 0, .int .u8 0, .int .u8 0, .int .u8 (n : Int)] 5))
  rcases eight h1 h2 with rfl | rfl | rfl | rfl | rfl | rfl | rfl | rfl
  all_goals
    clear h1 h2
    go_enter Tryz.func22, Tryz.ntmps22
    go_wp2
    go_ret
    exact ⟨rfl, hb.out⟩
set_option maxRecDepth 100000 in
set_option maxHeartbeats 1000000 in
theorem rfour_any (n : Nat) (h1 : 1 ≤ n) (h2 : n ≤ 8) (w : World) : Calls Tryz.prog 24 #[.int .i64 (n : Int)] w fun e w' => e = .returned (.string (fourB n)) ∧ Below w.heap.size w w' := by
  have c1 := conv4 w 1 1 rfl
  have c2 := conv4 w 2 2 rfl
  have c3 := conv4 w 3 3 rfl
  have c4 := conv4 w 4 4 rfl
  have c5 := conv4 w 5 5 rfl
  have c6 := conv4 w 6 6 rfl
  have c7 := conv4 w 7 7 rfl
  have c8 := conv4 w 8 8 rfl
  have hb := Lib.hid ((Below.refl _ w).alloc (Nat.le_refl _) (.cells #[.int .u8 0, .int .u8 0, .int .u8 0, .int .u8 (n : Int)] 5))
  rcases eight h1 h2 with rfl | rfl | rfl | rfl | rfl | rfl | rfl | rfl
  all_goals
    clear h1 h2
    go_enter Tryz.func24, Tryz.ntmps24
    go_wp2
    go_ret
    exact ⟨rfl, hb.out⟩
/-- What is told of a backing key: its id, and its version. -/
def infoB (id : ByteArray) (v : Nat) : ByteArray := id ++ { data := #[UInt8.ofNat v] }
theorem infoB_size (id : ByteArray) (v : Nat) : (infoB id v).size = id.size + 1 := by unfold infoB; rw [ByteArray.size_append]; rfl
set_option maxRecDepth 100000 in
set_option maxHeartbeats 1000000 in
theorem ofVersion_any (id : ByteArray) (hi : id.size ≤ 1000) (n : Nat) (h1 : 1 ≤ n) (h2 : n ≤ 8) (w : World) : Calls Tryz.prog 27 #[.string id, .int .i64 (n : Int)] w fun e w' => e = .returned (.string (infoB id n)) ∧ Below w.heap.size w w' := by
  have c1 := conv1 w 1 1 rfl
  have c2 := conv1 w 2 2 rfl
  have c3 := conv1 w 3 3 rfl
  have c4 := conv1 w 4 4 rfl
  have c5 := conv1 w 5 5 rfl
  have c6 := conv1 w 6 6 rfl
  have c7 := conv1 w 7 7 rfl
  have c8 := conv1 w 8 8 rfl
  have hb := Lib.hid ((Below.refl _ w).alloc (Nat.le_refl _) (.cells #[.int .u8 (n : Int)] 5))
  have hadd : ∀ W, (Op.stringOp .add id { data := #[UInt8.ofNat n] }).run Tryz.prog W = .ok (.string (infoB id n)) W := fun W => run_string_add_sum W _ _ (by show id.size + 1 ≤ _; omega)
  rcases eight h1 h2 with rfl | rfl | rfl | rfl | rfl | rfl | rfl | rfl
  all_goals
    clear h1 h2
    go_enter Tryz.func27, Tryz.ntmps27
    go_wp2
    go_ret
    exact ⟨rfl, hb.out⟩
end Go.Proofs.YtbiadmhomadflaaGreatDoor
namespace Go.Proofs.YtbiadmhomadflaaGreatDoor
open Go.RowKit Go.Own Go.Own.Fr
/-- What the layers below answer, the program's and the document's alike. -/
structure Under (Rt : World → Prop) (wA uA : ByteArray → ByteArray → ByteArray → ByteArray × Int) (dA : ByteArray → ByteArray → ByteArray → ByteArray) : Prop where
  last : ∀ w w', Rt w → Below w.heap.size w w' → Rt w'
  wrap : ∀ u n k w, Rt w → Calls Tryz.prog 40 #[.string u, .string n, .string k] w fun e w' => e = .returned (.tuple #[.string (wA u n k).1, .int .i64 (wA u n k).2]) ∧ Below w.heap.size w w'
  unwrap : ∀ u n k w, Rt w → Calls Tryz.prog 38 #[.string u, .string n, .string k] w fun e w' => e = .returned (.tuple #[.string (uA u n k).1, .int .i64 (uA u n k).2]) ∧ Below w.heap.size w w'
  derive : ∀ (s d i : ByteArray) w, s.size ≤ 1000 → d.size ≤ 1000 → i.size ≤ 1000 → Rt w → Calls Tryz.prog 41 #[.string s, .string d, .string i, .int .i64 32] w fun e w' => e = .returned (.tuple #[.string (dA s d i), .int .i64 0]) ∧ Below w.heap.size w w'
  rwrap : ∀ u n k w, Calls Tryz.prog 23 #[.string u, .string n, .string k] w fun e w' => e = .returned (.tuple #[.string (wA u n k).1, .int .i64 (wA u n k).2]) ∧ Below w.heap.size w w'
  runwrap : ∀ u n k w, Calls Tryz.prog 30 #[.string u, .string n, .string k] w fun e w' => e = .returned (.tuple #[.string (uA u n k).1, .int .i64 (uA u n k).2]) ∧ Below w.heap.size w w'
  rderive : ∀ (s d i : ByteArray) w, s.size ≤ 1000 → d.size ≤ 1000 → i.size ≤ 1000 → Calls Tryz.prog 33 #[.string s, .string d, .string i, .int .i64 32] w fun e w' => e = .returned (.tuple #[.string (dA s d i), .int .i64 0]) ∧ Below w.heap.size w w'
variable {Rt : World → Prop} {wA uA : ByteArray → ByteArray → ByteArray → ByteArray × Int} {dA : ByteArray → ByteArray → ByteArray → ByteArray}
set_option maxRecDepth 100000 in
theorem derived_any (H : Under Rt wA uA dA) (s d i : ByteArray) (hs : s.size ≤ 1000) (hd : d.size ≤ 1000) (hi : i.size ≤ 1000) (w : World) (hR : Rt w) :
    Calls Tryz.prog 32 #[.string s, .string d, .string i] w fun e w' => e = .returned (.string (dA s d i)) ∧ Below w.heap.size w w' := by
  have HD := Lib.hid (H.derive s d i w hs hd hi hR)
  clear hs hd hi hR H
  go_enter Tryz.func32, Tryz.ntmps32
  go_wp2_with fail
  refine HD.out.mono ?_
  rintro e w' ⟨rfl, hb⟩
  replace hb := Lib.hid hb
  go_wp2
  go_ret
  exact ⟨rfl, hb.out⟩
set_option maxRecDepth 100000 in
theorem rderived_any (H : Under Rt wA uA dA) (s d i : ByteArray) (hs : s.size ≤ 1000) (hd : d.size ≤ 1000) (hi : i.size ≤ 1000) (w : World) :
    Calls Tryz.prog 16 #[.string s, .string d, .string i] w fun e w' => e = .returned (.string (dA s d i)) ∧ Below w.heap.size w w' := by
  have HD := Lib.hid (H.rderive s d i w hs hd hi)
  clear hs hd hi H
  go_enter Tryz.func16, Tryz.ntmps16
  go_wp2_with fail
  refine HD.out.mono ?_
  rintro e w' ⟨rfl, hb⟩
  replace hb := Lib.hid hb
  go_wp2
  go_ret
  exact ⟨rfl, hb.out⟩
set_option maxRecDepth 100000 in
theorem wrapped_any (H : Under Rt wA uA dA) (salt mark u i k : ByteArray) (hm : mark.size ≤ 1000) (hi : i.size ≤ 1000) (kv : Value) (w : World) (hR : Rt w) (hK : Kd salt mark kv w) :
    Calls Tryz.prog 31 #[kv, .string u, .string i, .string k] w fun e w' => e = .returned (.tuple #[.string (wA u (mark ++ i) k).1, .int .i64 (wA u (mark ++ i) k).2]) ∧ Below w.heap.size w w' := by
  obtain ⟨b, rfl, hlt, hbk⟩ := hK
  have hb0 := (Below.refl _ w).alloc (Nat.le_refl _) (.cells #[.string salt, .func (.func 42) #[] #[.pointer (some ⟨b, 0, none⟩)]] 46)
  have hbk1 := (hb0.block b hlt).trans hbk
  have hs1 := hb0.size
  have HN := Lib.hid (name_any mark i hm hi b (w.alloc (.cells #[.string salt, .func (.func 42) #[] #[.pointer (some ⟨b, 0, none⟩)]] 46)) hbk1)
  have HW := Lib.hid (H.wrap u (mark ++ i) k (w.alloc (.cells #[.string salt, .func (.func 42) #[] #[.pointer (some ⟨b, 0, none⟩)]] 46)) (H.last _ _ hR hb0))
  obtain ⟨r, hr⟩ : ∃ r, wA u (mark ++ i) k = r := ⟨_, rfl⟩
  rw [hr] at HW ⊢
  have HB0 := Lib.hid hb0
  have HS := Lib.hid hs1
  clear hm hi hR hlt hbk hb0 hbk1 hr H hs1
  go_enter Tryz.func31, Tryz.ntmps31
  go_wp2_with fail
  refine HN.out.mono ?_
  rintro e w' ⟨rfl, rfl⟩
  go_wp2_with fail
  refine HW.out.mono ?_
  rintro e w' ⟨rfl, hb⟩
  replace hb := Lib.hid (HB0.out.trans (hb.mono HS.out))
  go_wp2
  go_ret2
  exact ⟨rfl, hb.out⟩
set_option maxRecDepth 100000 in
theorem unwrapped_any (H : Under Rt wA uA dA) (salt mark u i k : ByteArray) (hm : mark.size ≤ 1000) (hi : i.size ≤ 1000) (kv : Value) (w : World) (hR : Rt w) (hK : Kd salt mark kv w) :
    Calls Tryz.prog 29 #[kv, .string u, .string i, .string k] w fun e w' => e = .returned (.tuple #[.string (uA u (mark ++ i) k).1, .int .i64 (uA u (mark ++ i) k).2]) ∧ Below w.heap.size w w' := by
  obtain ⟨b, rfl, hlt, hbk⟩ := hK
  have hb0 := (Below.refl _ w).alloc (Nat.le_refl _) (.cells #[.string salt, .func (.func 42) #[] #[.pointer (some ⟨b, 0, none⟩)]] 46)
  have hbk1 := (hb0.block b hlt).trans hbk
  have hs1 := hb0.size
  have HN := Lib.hid (name_any mark i hm hi b (w.alloc (.cells #[.string salt, .func (.func 42) #[] #[.pointer (some ⟨b, 0, none⟩)]] 46)) hbk1)
  have HW := Lib.hid (H.unwrap u (mark ++ i) k (w.alloc (.cells #[.string salt, .func (.func 42) #[] #[.pointer (some ⟨b, 0, none⟩)]] 46)) (H.last _ _ hR hb0))
  obtain ⟨r, hr⟩ : ∃ r, uA u (mark ++ i) k = r := ⟨_, rfl⟩
  rw [hr] at HW ⊢
  have HB0 := Lib.hid hb0
  have HS := Lib.hid hs1
  clear hm hi hR hlt hbk hb0 hbk1 hr H hs1
  go_enter Tryz.func29, Tryz.ntmps29
  go_wp2_with fail
  refine HN.out.mono ?_
  rintro e w' ⟨rfl, rfl⟩
  go_wp2_with fail
  refine HW.out.mono ?_
  rintro e w' ⟨rfl, hb⟩
  replace hb := Lib.hid (HB0.out.trans (hb.mono HS.out))
  go_wp2
  go_ret2
  exact ⟨rfl, hb.out⟩
end Go.Proofs.YtbiadmhomadflaaGreatDoor
namespace Go.Own
open Go Go.RowKit Go.Own.Fr
section
variable {P : Program} {ρ : Operand → Value} {W : World} {dst : Option Tmp} {ty : TypeId} {pos : String} {after : Array Edge} {guard : Option (Nat × Bool)} {v r : Value} {x : Operand}
theorem exec_ld {T : TypeId} (h1 : ρ x = v) (hr : (Instr.loadAt T v).run P W = .ok r W) : (execOp ρ { dst, op := .load T x, type := ty, pos, after, guard }).run P W = .ok (.value r) W := by
  have e : execOp ρ { dst, op := .load T x, type := ty, pos, after, guard } = (Instr.loadAt T (ρ x) >>= fun v => pure (.value v)) := rfl
  rw [e, h1]
  simp [hr, Result.andThen]
theorem exec_fd {T k : Nat} (h1 : ρ x = v) (hr : (Instr.fieldAt T v k).run P W = .ok r W) : (execOp ρ { dst, op := .fieldAddr T x k, type := ty, pos, after, guard }).run P W = .ok (.value r) W := by
  simp [execOp, h1, hr, Result.andThen]
theorem exec_nc {b o : Nat} (h1 : ρ x = .pointer (some ⟨b, o, none⟩)) : (execOp ρ { dst, op := .nilCheck x, type := ty, pos, after, guard }).run P W = .ok (.value (.pointer (some ⟨b, o, none⟩))) W := by
  simp [execOp, h1, go_sem]
theorem exec_ex {c : Array Value} {n : Nat} (h1 : ρ x = .tuple c) (hn : c[n]? = some v) : (execOp ρ { dst, op := .extract x n, type := ty, pos, after, guard }).run P W = .ok (.value v) W := by
  simp [execOp, h1, go_sem, hn]
end
end Go.Own
namespace Go.Proofs.YtbiadmhomadflaaGreatDoor
open Go.RowKit Go.Own Go.Own.Fr
variable {Rt : World → Prop} {wA uA : ByteArray → ByteArray → ByteArray → ByteArray × Int} {dA : ByteArray → ByteArray → ByteArray → ByteArray}
theorem fld46 (b : Nat) (W : World) : (Instr.fieldAt 46 (.pointer (some ⟨b, 0, none⟩)) 0).run Tryz.prog W = .ok (.pointer (some ⟨b, 0, none⟩)) W := by
  simp [Instr.fieldAt, go_sem]
theorem fld43 (b : Nat) (W : World) : (Instr.fieldAt 43 (.pointer (some ⟨b, 0, none⟩)) 0).run Tryz.prog W = .ok (.pointer (some ⟨b, 0, none⟩)) W := by
  simp [Instr.fieldAt, go_sem]
theorem ld9 {b : Nat} {W : World} {s : ByteArray} {cs : Array Value} {t : TypeId} (h : W.heap[b]? = some (.cells cs t (0, 0))) (h0 : cs[0]? = some (.string s)) : (Instr.loadAt 9 (.pointer (some ⟨b, 0, none⟩))).run Tryz.prog W = .ok (.string s) W := by
  have c0 : W.cell? ⟨b, 0, none⟩ = some (.string s) := by simp only [World.cell?, h, Option.isSome_none, Bool.false_eq_true, if_false, h0]
  simp [Instr.loadAt, go_sem, c0]
theorem ld46 {b : Nat} {W : World} {x y : Value} (h : W.heap[b]? = some (.cells #[x, y] 46 (0, 0))) : (Instr.loadAt 46 (.pointer (some ⟨b, 0, none⟩))).run Tryz.prog W = .ok (.agg #[x, y]) W := by
  have c0 : W.cell? ⟨b, 0, none⟩ = some x := by simp only [World.cell?, h]; rfl
  have c1 : W.cell? ⟨b, 1, none⟩ = some y := by simp only [World.cell?, h]; rfl
  simp [Instr.loadAt, go_sem, c0, c1]
set_option maxRecDepth 100000 in
set_option maxHeartbeats 1000000 in
theorem made_any (H : Under Rt wA uA dA) (salt mark u i d : ByteArray) (hs : salt.size ≤ 1000) (hm : mark.size ≤ 1000) (hi : i.size ≤ 1000) (hd0 : d.size ≤ 1000) (kv : Value) (w : World) (hR : Rt w) (hK : Kd salt mark kv w) :
    Calls Tryz.prog 21 #[kv, .string u, .string i, .string d] w fun e w' => e = .returned (.tuple #[.string (wA u (mark ++ i) (dA salt d i)).1, .int .i64 (wA u (mark ++ i) (dA salt d i)).2]) ∧ Below w.heap.size w w' := by
  obtain ⟨b, rfl, hlt, hbk⟩ := hK
  obtain ⟨W0, hW0⟩ : ∃ W0, w.alloc (.cells #[.string salt, .func (.func 42) #[] #[.pointer (some ⟨b, 0, none⟩)]] 46) = W0 := ⟨_, rfl⟩
  have hb0 : Below w.heap.size w W0 := hW0 ▸ (Below.refl _ w).alloc (Nat.le_refl _) _
  have HK0 : Hid (Kd salt mark (.agg #[.string salt, .func (.func 42) #[] #[.pointer (some ⟨b, 0, none⟩)]]) W0) := Lib.hid (Kd_last salt mark _ _ _ ⟨b, rfl, hlt, hbk⟩ hb0)
  have HN : Hid (W0.heap[w.heap.size]? = some (.cells #[.string salt, .func (.func 42) #[] #[.pointer (some ⟨b, 0, none⟩)]] 46 (0, 0))) := Lib.hid (hW0 ▸ heap_alloc_new w _)
  have HS : Hid (w.heap.size < W0.heap.size) := Lib.hid (by rw [← hW0]; simp)
  have HR : Hid (Rt W0) := Lib.hid (H.last _ _ hR hb0)
  have HB0 := Lib.hid hb0
  obtain ⟨r, hr⟩ : ∃ r, wA u (mark ++ i) (dA salt d i) = r := ⟨_, rfl⟩
  rw [hr]
  replace hr := Lib.hid hr
  clear hlt hbk hb0 hR
  go_enter Tryz.func21, Tryz.ntmps21
  go_wp2_with fail
  clear hW0
  refine wp_region_fine_drop 11 (TL [eqv (.agg #[.string salt, .func (.func 42) #[] #[.pointer (some ⟨b, 0, none⟩)]]), eqv (.string u), eqv (.string i), eqv (.pointer (some ⟨w.heap.size, 0, none⟩)), eqv (.string salt), eqv (.string d), eqv (.string i), eqv (.string (dA salt d i)), eqv (.tuple #[.string r.1, .int .i64 r.2]), eqv (.string r.1), eqv (.int .i64 r.2)]) (by kernel_rfl) (by kernel_rfl) (by kernel_rfl) (by kernel_rfl) (TL_last (List.forall_mem_cons.2 ⟨eqv_last _, List.forall_mem_cons.2 ⟨eqv_last _, List.forall_mem_cons.2 ⟨eqv_last _, List.forall_mem_cons.2 ⟨eqv_last _, List.forall_mem_cons.2 ⟨eqv_last _, List.forall_mem_cons.2 ⟨eqv_last _, List.forall_mem_cons.2 ⟨eqv_last _, List.forall_mem_cons.2 ⟨eqv_last _, List.forall_mem_cons.2 ⟨eqv_last _, List.forall_mem_cons.2 ⟨eqv_last _, List.forall_mem_cons.2 ⟨eqv_last _, fun _ h => (List.not_mem_nil h).elim⟩⟩⟩⟩⟩⟩⟩⟩⟩⟩⟩)) (TL_no_guard (by kernel_rfl)) ?_ ?_
  · intro ix o ho a W hB hdep hfix
    simp only [List.take_succ_cons, List.take_zero] at ho hdep hfix
    match ix, ho with
    | 0, ho =>
      simp only [List.getElem?_cons_zero, Option.some.injEq] at ho; subst ho
      exact lays_eq _ rfl (exec_ld (T := 46) (v := .pointer (some ⟨w.heap.size, 0, none⟩)) (hfix 4 (by decide +kernel)) (ld46 ((hB.block _ HS.out).trans HN.out)))
    | 1, ho =>
      simp only [List.getElem?_cons_zero, List.getElem?_cons_succ, Option.some.injEq] at ho; subst ho
      exact lays_eq _ rfl (exec_move (hfix 1 (by decide +kernel)))
    | 2, ho =>
      simp only [List.getElem?_cons_zero, List.getElem?_cons_succ, Option.some.injEq] at ho; subst ho
      exact lays_eq _ rfl (exec_move (hfix 2 (by decide +kernel)))
    | 3, ho =>
      simp only [List.getElem?_cons_zero, List.getElem?_cons_succ, Option.some.injEq] at ho; subst ho
      exact lays_eq _ rfl (exec_fd (v := .pointer (some ⟨w.heap.size, 0, none⟩)) (hfix 4 (by decide +kernel)) (fld46 _ _))
    | 4, ho =>
      simp only [List.getElem?_cons_zero, List.getElem?_cons_succ, Option.some.injEq] at ho; subst ho
      have e1 : a.tmps.getD 13 undef = .pointer (some ⟨w.heap.size, 0, none⟩) := hdep 3 _ 13 rfl rfl (by decide +kernel)
      exact lays_eq _ rfl (exec_ld (v := .pointer (some ⟨w.heap.size, 0, none⟩)) e1 (ld9 ((hB.block _ HS.out).trans HN.out) rfl))
    | 5, ho =>
      simp only [List.getElem?_cons_zero, List.getElem?_cons_succ, Option.some.injEq] at ho; subst ho
      exact lays_eq _ rfl (exec_move (hfix 3 (by decide +kernel)))
    | 6, ho =>
      simp only [List.getElem?_cons_zero, List.getElem?_cons_succ, Option.some.injEq] at ho; subst ho
      exact lays_eq _ rfl (exec_move (hfix 2 (by decide +kernel)))
    | 7, ho =>
      simp only [List.getElem?_cons_zero, List.getElem?_cons_succ, Option.some.injEq] at ho; subst ho
      have e1 : a.tmps.getD 14 undef = .string salt := hdep 4 _ 14 rfl rfl (by decide +kernel)
      have e2 : a.tmps.getD 15 undef = .string d := hdep 5 _ 15 rfl rfl (by decide +kernel)
      have e3 : a.tmps.getD 16 undef = .string i := hdep 6 _ 16 rfl rfl (by decide +kernel)
      exact lays_call #[.string salt, .string d, .string i] (by simp [Act.eval, e1, e2, e3]) (by kernel_rfl) ((derived_any H salt d i hs hd0 hi W (H.last _ _ HR.out hB)).mono fun e W' ⟨he, hg⟩ => ⟨_, he, hg, rfl⟩)
    | 8, ho =>
      simp only [List.getElem?_cons_zero, List.getElem?_cons_succ, Option.some.injEq] at ho; subst ho
      have e1 : a.tmps.getD 10 undef = .agg #[.string salt, .func (.func 42) #[] #[.pointer (some ⟨b, 0, none⟩)]] := hdep 0 _ 10 rfl rfl (by decide +kernel)
      have e2 : a.tmps.getD 11 undef = .string u := hdep 1 _ 11 rfl rfl (by decide +kernel)
      have e3 : a.tmps.getD 12 undef = .string i := hdep 2 _ 12 rfl rfl (by decide +kernel)
      have e4 : a.tmps.getD 17 undef = .string (dA salt d i) := hdep 7 _ 17 rfl rfl (by decide +kernel)
      exact lays_call #[.agg #[.string salt, .func (.func 42) #[] #[.pointer (some ⟨b, 0, none⟩)]], .string u, .string i, .string (dA salt d i)] (by simp [Act.eval, e1, e2, e3, e4]) (by kernel_rfl) ((wrapped_any H salt mark u i (dA salt d i) hm hi _ W (H.last _ _ HR.out hB) (Kd_last _ _ _ _ _ HK0.out hB)).mono fun e W' ⟨he, hg⟩ => ⟨_, he, hg, by rw [hr.out]; rfl⟩)
    | 9, ho =>
      simp only [List.getElem?_cons_zero, List.getElem?_cons_succ, Option.some.injEq] at ho; subst ho
      have e1 : a.tmps.getD 18 undef = .tuple #[.string r.1, .int .i64 r.2] := hdep 8 _ 18 rfl rfl (by decide +kernel)
      exact lays_eq _ rfl (exec_ex e1 rfl)
    | 10, ho =>
      simp only [List.getElem?_cons_zero, List.getElem?_cons_succ, Option.some.injEq] at ho; subst ho
      have e1 : a.tmps.getD 18 undef = .tuple #[.string r.1, .int .i64 r.2] := hdep 8 _ 18 rfl rfl (by decide +kernel)
      exact lays_eq _ rfl (exec_ex e1 rfl)
    | ix + 11, ho => simp at ho
  · intro a W hB hd hsz hfix hT
    simp only [List.take_succ_cons, List.take_zero, List.drop_succ_cons, List.drop_zero] at hfix hT ⊢
    have f19 : a.tmps.getD 19 undef = .string r.1 := hT 9 _ 19 rfl rfl
    have f20 : a.tmps.getD 20 undef = .int .i64 r.2 := hT 10 _ 20 rfl rfl
    rw [frame_lit a 21 hsz hd]
    clear hfix hT hsz hd
    simp only [List.range, List.range.loop, List.map]
    generalize a.tmps = t at *
    simp only [f19, f20]
    clear f19 f20
    have HB := Lib.hid (HB0.out.trans (hB.mono (Nat.le_of_lt HS.out)))
    clear hB hs hm hi hd0 HN HR HK0 HB0 H hr
    go_wp2
    go_ret2
    exact ⟨rfl, HB.out⟩
/-- A ring in memory. -/
def Rg (root : ByteArray) (rb : Nat) (w : World) : Prop := rb < w.heap.size ∧ w.heap[rb]? = some (.cells #[.string root] 43 (0, 0))
theorem Rg.last {root : ByteArray} {rb : Nat} {w w' : World} (h : Rg root rb w) (hB : Below w.heap.size w w') : Rg root rb w' := ⟨Nat.lt_of_lt_of_le h.1 hB.size, (hB.block rb h.1).trans h.2⟩
def dS : ByteArray := { data := #[100] }
def bS : ByteArray := { data := #[98] }
def domS : ByteArray := { data := #[100, 111, 109, 97, 105, 110] }
def backS : ByteArray := { data := #[98, 97, 99, 107, 105, 110, 103] }
/-- The answers of a ring. -/
def okN (n : Int) : Bool := decide (1 ≤ n ∧ n ≤ 8)
def domA (wA : ByteArray → ByteArray → ByteArray → ByteArray × Int) (dA : ByteArray → ByteArray → ByteArray → ByteArray) (root : ByteArray) (n : Int) (d : ByteArray) : ByteArray × Int :=
  if okN n = false then ({ data := #[] }, 1) else wA root (dS ++ fourB n.toNat) (dA domS d (fourB n.toNat))
def abvA (uA : ByteArray → ByteArray → ByteArray → ByteArray × Int) (root : ByteArray) (n : Int) (dom id : ByteArray) (v : Int) : ByteArray × Int :=
  if okN n = false ∨ okN v = false then ({ data := #[] }, 1) else if 32 < id.size then ({ data := #[] }, 3) else uA root (dS ++ fourB n.toNat) dom
theorem okN_nat {n : Int} (h : okN n = true) : 1 ≤ n.toNat ∧ n.toNat ≤ 8 ∧ ((n.toNat : Nat) : Int) = n := by
  unfold okN at h
  have := of_decide_eq_true h
  omega
set_option maxRecDepth 100000 in
set_option maxHeartbeats 1000000 in
theorem domain_any (H : Under Rt wA uA dA) (root d : ByteArray) (hd0 : d.size ≤ 1000) (n : Int) (rb : Nat) (w : World) (hR : Rt w) (hG : Rg root rb w) :
    Calls Tryz.prog 7 #[.pointer (some ⟨rb, 0, none⟩), .int .i64 n, .string d] w fun e w' => e = .returned (.tuple #[.string (domA wA dA root n d).1, .int .i64 (domA wA dA root n d).2]) ∧ Below w.heap.size w w' := by
  have HWI := Lib.hid (within_any n w)
  by_cases hn : okN n = true
  case neg =>
    have hn' : okN n = false := by simpa using hn
    have hA : domA wA dA root n d = ({ data := #[] }, 1) := if_pos hn'
    rw [hA]
    unfold okN at hn'
    rw [hn'] at HWI
    clear hn hn' hA hR hG hd0 H
    go_enter Tryz.func7, Tryz.ntmps7
    go_wp2_with fail
    refine HWI.out.mono ?_
    rintro e w' ⟨rfl, rfl⟩
    go_wp2
    go_ret2
    exact ⟨rfl, Below.refl _ _⟩
  obtain ⟨hn1, hn2, hn3⟩ := okN_nat hn
  have hA : domA wA dA root n d = wA root (dS ++ fourB n.toNat) (dA domS d (fourB n.toNat)) := if_neg (by rw [hn]; simp)
  rw [hA]
  unfold okN at hn
  rw [hn] at HWI
  clear hA hn
  obtain ⟨n, rfl⟩ : ∃ k : Nat, n = (k : Int) := ⟨n.toNat, hn3.symm⟩
  rw [Int.toNat_natCast] at hn1 hn2 ⊢
  have h1 := Lib.hid hn1
  have h2 := Lib.hid hn2
  clear hn1 hn2 hn3
  obtain ⟨r, hr⟩ : ∃ r, wA root (dS ++ fourB n) (dA domS d (fourB n)) = r := ⟨_, rfl⟩
  rw [hr]
  replace hr := Lib.hid hr
  have HR := Lib.hid hR
  have HG := Lib.hid hG
  have HD := Lib.hid hd0
  clear hR hG hd0
  go_enter Tryz.func7, Tryz.ntmps7
  go_wp2_with fail
  refine HWI.out.mono ?_
  rintro e w' ⟨rfl, rfl⟩
  clear HWI
  go_wp2_with fail
  refine wp_region_fine_drop 11 (TL [Kd domS dS, eqv (.pointer (some ⟨rb, 0, none⟩)), eqv (.pointer (some ⟨rb, 0, none⟩)), eqv (.pointer (some ⟨rb, 0, none⟩)), eqv (.string root), eqv (.int .i64 (n : Int)), eqv (.string (fourB n)), eqv (.string d), eqv (.tuple #[.string r.1, .int .i64 r.2]), eqv (.string r.1), eqv (.int .i64 r.2)]) (by kernel_rfl) (by kernel_rfl) (by kernel_rfl) (by kernel_rfl) (TL_last (List.forall_mem_cons.2 ⟨Kd_last _ _, List.forall_mem_cons.2 ⟨eqv_last _, List.forall_mem_cons.2 ⟨eqv_last _, List.forall_mem_cons.2 ⟨eqv_last _, List.forall_mem_cons.2 ⟨eqv_last _, List.forall_mem_cons.2 ⟨eqv_last _, List.forall_mem_cons.2 ⟨eqv_last _, List.forall_mem_cons.2 ⟨eqv_last _, List.forall_mem_cons.2 ⟨eqv_last _, List.forall_mem_cons.2 ⟨eqv_last _, List.forall_mem_cons.2 ⟨eqv_last _, fun _ h => (List.not_mem_nil h).elim⟩⟩⟩⟩⟩⟩⟩⟩⟩⟩⟩)) (TL_no_guard (by kernel_rfl)) ?_ ?_
  · intro ix o ho a W hB hdep hfix
    simp only [List.take_succ_cons, List.take_zero] at ho hdep hfix
    match ix, ho with
    | 0, ho =>
      simp only [List.getElem?_cons_zero, Option.some.injEq] at ho; subst ho
      exact lays_call #[] (by simp) (by kernel_rfl) ((domains_any W).mono fun e W' ⟨v, he, hg, hk⟩ => ⟨v, he, hg, hk⟩)
    | 1, ho =>
      simp only [List.getElem?_cons_zero, List.getElem?_cons_succ, Option.some.injEq] at ho; subst ho
      exact lays_eq _ rfl (exec_move (hfix 0 (by decide +kernel)))
    | 2, ho =>
      simp only [List.getElem?_cons_zero, List.getElem?_cons_succ, Option.some.injEq] at ho; subst ho
      have e1 : a.tmps.getD 12 undef = .pointer (some ⟨rb, 0, none⟩) := hdep 1 _ 12 rfl rfl (by decide +kernel)
      exact lays_eq _ rfl (exec_nc e1)
    | 3, ho =>
      simp only [List.getElem?_cons_zero, List.getElem?_cons_succ, Option.some.injEq] at ho; subst ho
      have e1 : a.tmps.getD 13 undef = .pointer (some ⟨rb, 0, none⟩) := hdep 2 _ 13 rfl rfl (by decide +kernel)
      exact lays_eq _ rfl (exec_fd (v := .pointer (some ⟨rb, 0, none⟩)) e1 (fld43 _ _))
    | 4, ho =>
      simp only [List.getElem?_cons_zero, List.getElem?_cons_succ, Option.some.injEq] at ho; subst ho
      have e1 : a.tmps.getD 14 undef = .pointer (some ⟨rb, 0, none⟩) := hdep 3 _ 14 rfl rfl (by decide +kernel)
      exact lays_eq _ rfl (exec_ld (v := .pointer (some ⟨rb, 0, none⟩)) e1 (ld9 ((HG.out.last hB).2) rfl))
    | 5, ho =>
      simp only [List.getElem?_cons_zero, List.getElem?_cons_succ, Option.some.injEq] at ho; subst ho
      exact lays_eq _ rfl (exec_move (hfix 1 (by decide +kernel)))
    | 6, ho =>
      simp only [List.getElem?_cons_zero, List.getElem?_cons_succ, Option.some.injEq] at ho; subst ho
      have e1 : a.tmps.getD 16 undef = .int .i64 (n : Int) := hdep 5 _ 16 rfl rfl (by decide +kernel)
      exact lays_call #[.int .i64 (n : Int)] (by simp [Act.eval, e1]) (by kernel_rfl) ((ofDomain_any n h1.out h2.out W).mono fun e W' ⟨he, hg⟩ => ⟨_, he, hg, rfl⟩)
    | 7, ho =>
      simp only [List.getElem?_cons_zero, List.getElem?_cons_succ, Option.some.injEq] at ho; subst ho
      exact lays_eq _ rfl (exec_move (hfix 2 (by decide +kernel)))
    | 8, ho =>
      simp only [List.getElem?_cons_zero, List.getElem?_cons_succ, Option.some.injEq] at ho; subst ho
      have e1 : Kd domS dS (a.tmps.getD 11 undef) W := hdep 0 _ 11 rfl rfl (by decide +kernel)
      have e2 : a.tmps.getD 15 undef = .string root := hdep 4 _ 15 rfl rfl (by decide +kernel)
      have e3 : a.tmps.getD 17 undef = .string (fourB n) := hdep 6 _ 17 rfl rfl (by decide +kernel)
      have e4 : a.tmps.getD 18 undef = .string d := hdep 7 _ 18 rfl rfl (by decide +kernel)
      exact lays_call #[a.tmps.getD 11 undef, .string root, .string (fourB n), .string d] (by simp [Act.eval, e2, e3, e4]) (by kernel_rfl) ((made_any H domS dS root (fourB n) d (by decide) (by decide) (by rw [fourB_size]; decide) HD.out _ W (H.last _ _ HR.out hB) e1).mono fun e W' ⟨he, hg⟩ => ⟨_, he, hg, by rw [hr.out]; rfl⟩)
    | 9, ho =>
      simp only [List.getElem?_cons_zero, List.getElem?_cons_succ, Option.some.injEq] at ho; subst ho
      have e1 : a.tmps.getD 19 undef = .tuple #[.string r.1, .int .i64 r.2] := hdep 8 _ 19 rfl rfl (by decide +kernel)
      exact lays_eq _ rfl (exec_ex e1 rfl)
    | 10, ho =>
      simp only [List.getElem?_cons_zero, List.getElem?_cons_succ, Option.some.injEq] at ho; subst ho
      have e1 : a.tmps.getD 19 undef = .tuple #[.string r.1, .int .i64 r.2] := hdep 8 _ 19 rfl rfl (by decide +kernel)
      exact lays_eq _ rfl (exec_ex e1 rfl)
    | ix + 11, ho => simp at ho
  · intro a W hB hd hsz hfix hT
    simp only [List.take_succ_cons, List.take_zero, List.drop_succ_cons, List.drop_zero] at hfix hT ⊢
    have f20 : a.tmps.getD 20 undef = .string r.1 := hT 9 _ 20 rfl rfl
    have f21 : a.tmps.getD 21 undef = .int .i64 r.2 := hT 10 _ 21 rfl rfl
    rw [frame_lit a 22 hsz hd]
    clear hfix hT hsz hd
    simp only [List.range, List.range.loop, List.map]
    generalize a.tmps = t at *
    simp only [f20, f21]
    clear f20 f21
    have HB := Lib.hid hB
    clear hB HG HR h1 h2 H hr
    go_wp2
    go_ret2
    exact ⟨rfl, HB.out⟩
set_option maxRecDepth 100000 in
set_option maxHeartbeats 1000000 in
theorem above_any (H : Under Rt wA uA dA) (root d id : ByteArray) (n v : Int) (rb : Nat) (w : World) (hR : Rt w) (hG : Rg root rb w) :
    Calls Tryz.prog 25 #[.pointer (some ⟨rb, 0, none⟩), .int .i64 n, .string d, .string id, .int .i64 v] w fun e w' => e = .returned (.tuple #[.string (abvA uA root n d id v).1, .int .i64 (abvA uA root n d id v).2]) ∧ Below w.heap.size w w' := by
  have HWI := Lib.hid (within_any n w)
  have HWV := Lib.hid (within_any v w)
  by_cases hn : okN n = true
  case neg =>
    have hn' : okN n = false := by simpa using hn
    have hA : abvA uA root n d id v = ({ data := #[] }, 1) := if_pos (Or.inl hn')
    rw [hA]
    unfold okN at hn'
    rw [hn'] at HWI
    clear hn hn' hA hR hG H HWV
    go_enter Tryz.func25, Tryz.ntmps25
    go_wp2_with fail
    refine HWI.out.mono ?_
    rintro e w' ⟨rfl, rfl⟩
    go_wp2
    go_ret2
    exact ⟨rfl, Below.refl _ _⟩
  by_cases hv : okN v = true
  case neg =>
    have hv' : okN v = false := by simpa using hv
    have hA : abvA uA root n d id v = ({ data := #[] }, 1) := if_pos (Or.inr hv')
    rw [hA]
    unfold okN at hv' hn
    rw [hv'] at HWV
    rw [hn] at HWI
    clear hn hv hv' hA hR hG H
    go_enter Tryz.func25, Tryz.ntmps25
    go_wp2_with fail
    refine HWI.out.mono ?_
    rintro e w' ⟨rfl, rfl⟩
    go_wp2_with fail
    refine HWV.out.mono ?_
    rintro e w' ⟨rfl, rfl⟩
    go_wp2
    go_ret2
    exact ⟨rfl, Below.refl _ _⟩
  by_cases hi : 32 < id.size
  case pos =>
    have hA : abvA uA root n d id v = ({ data := #[] }, 3) := by unfold abvA; rw [if_neg (by rw [hn, hv]; simp), if_pos hi]
    rw [hA]
    unfold okN at hv hn
    rw [hv] at HWV
    rw [hn] at HWI
    have hii : (32 : Int) < (id.size : Int) := by omega
    clear hn hv hA hR hG H hi
    go_enter Tryz.func25, Tryz.ntmps25
    go_wp2_with fail
    refine HWI.out.mono ?_
    rintro e w' ⟨rfl, rfl⟩
    go_wp2_with fail
    refine HWV.out.mono ?_
    rintro e w' ⟨rfl, rfl⟩
    go_wp2
    go_ret2
    exact ⟨rfl, Below.refl _ _⟩
  obtain ⟨hn1, hn2, hn3⟩ := okN_nat hn
  have hA : abvA uA root n d id v = uA root (dS ++ fourB n.toNat) d := by unfold abvA; rw [if_neg (by rw [hn, hv]; simp), if_neg hi]
  rw [hA]
  unfold okN at hn hv
  rw [hn] at HWI
  rw [hv] at HWV
  have hii : ¬ (32 : Int) < (id.size : Int) := by omega
  clear hA hn hv hi
  obtain ⟨n, rfl⟩ : ∃ k : Nat, n = (k : Int) := ⟨n.toNat, hn3.symm⟩
  rw [Int.toNat_natCast] at hn1 hn2 ⊢
  have h1 := Lib.hid hn1
  have h2 := Lib.hid hn2
  clear hn1 hn2 hn3
  obtain ⟨r, hr⟩ : ∃ r, uA root (dS ++ fourB n) d = r := ⟨_, rfl⟩
  rw [hr]
  replace hr := Lib.hid hr
  have HR := Lib.hid hR
  have HG := Lib.hid hG
  clear hR hG
  go_enter Tryz.func25, Tryz.ntmps25
  go_wp2_with fail
  refine HWI.out.mono ?_
  rintro e w' ⟨rfl, rfl⟩
  clear HWI
  go_wp2_with fail
  refine HWV.out.mono ?_
  rintro e w' ⟨rfl, rfl⟩
  clear HWV
  go_wp2_with fail
  refine wp_region_fine_drop 11 (TL [Kd domS dS, eqv (.pointer (some ⟨rb, 0, none⟩)), eqv (.pointer (some ⟨rb, 0, none⟩)), eqv (.pointer (some ⟨rb, 0, none⟩)), eqv (.string root), eqv (.int .i64 (n : Int)), eqv (.string (fourB n)), eqv (.string d), eqv (.tuple #[.string r.1, .int .i64 r.2]), eqv (.string r.1), eqv (.int .i64 r.2)]) (by kernel_rfl) (by kernel_rfl) (by kernel_rfl) (by kernel_rfl) (TL_last (List.forall_mem_cons.2 ⟨Kd_last _ _, List.forall_mem_cons.2 ⟨eqv_last _, List.forall_mem_cons.2 ⟨eqv_last _, List.forall_mem_cons.2 ⟨eqv_last _, List.forall_mem_cons.2 ⟨eqv_last _, List.forall_mem_cons.2 ⟨eqv_last _, List.forall_mem_cons.2 ⟨eqv_last _, List.forall_mem_cons.2 ⟨eqv_last _, List.forall_mem_cons.2 ⟨eqv_last _, List.forall_mem_cons.2 ⟨eqv_last _, List.forall_mem_cons.2 ⟨eqv_last _, fun _ h => (List.not_mem_nil h).elim⟩⟩⟩⟩⟩⟩⟩⟩⟩⟩⟩)) (TL_no_guard (by kernel_rfl)) ?_ ?_
  · intro ix o ho a W hB hdep hfix
    simp only [List.take_succ_cons, List.take_zero] at ho hdep hfix
    match ix, ho with
    | 0, ho =>
      simp only [List.getElem?_cons_zero, Option.some.injEq] at ho; subst ho
      exact lays_call #[] (by simp) (by kernel_rfl) ((domains_any W).mono fun e W' ⟨v, he, hg, hk⟩ => ⟨v, he, hg, hk⟩)
    | 1, ho =>
      simp only [List.getElem?_cons_zero, List.getElem?_cons_succ, Option.some.injEq] at ho; subst ho
      exact lays_eq _ rfl (exec_move (hfix 0 (by decide +kernel)))
    | 2, ho =>
      simp only [List.getElem?_cons_zero, List.getElem?_cons_succ, Option.some.injEq] at ho; subst ho
      have e1 : a.tmps.getD 24 undef = .pointer (some ⟨rb, 0, none⟩) := hdep 1 _ 24 rfl rfl (by decide +kernel)
      exact lays_eq _ rfl (exec_nc e1)
    | 3, ho =>
      simp only [List.getElem?_cons_zero, List.getElem?_cons_succ, Option.some.injEq] at ho; subst ho
      have e1 : a.tmps.getD 25 undef = .pointer (some ⟨rb, 0, none⟩) := hdep 2 _ 25 rfl rfl (by decide +kernel)
      exact lays_eq _ rfl (exec_fd (v := .pointer (some ⟨rb, 0, none⟩)) e1 (fld43 _ _))
    | 4, ho =>
      simp only [List.getElem?_cons_zero, List.getElem?_cons_succ, Option.some.injEq] at ho; subst ho
      have e1 : a.tmps.getD 26 undef = .pointer (some ⟨rb, 0, none⟩) := hdep 3 _ 26 rfl rfl (by decide +kernel)
      exact lays_eq _ rfl (exec_ld (v := .pointer (some ⟨rb, 0, none⟩)) e1 (ld9 ((HG.out.last hB).2) rfl))
    | 5, ho =>
      simp only [List.getElem?_cons_zero, List.getElem?_cons_succ, Option.some.injEq] at ho; subst ho
      exact lays_eq _ rfl (exec_move (hfix 1 (by decide +kernel)))
    | 6, ho =>
      simp only [List.getElem?_cons_zero, List.getElem?_cons_succ, Option.some.injEq] at ho; subst ho
      have e1 : a.tmps.getD 28 undef = .int .i64 (n : Int) := hdep 5 _ 28 rfl rfl (by decide +kernel)
      exact lays_call #[.int .i64 (n : Int)] (by simp [Act.eval, e1]) (by kernel_rfl) ((ofDomain_any n h1.out h2.out W).mono fun e W' ⟨he, hg⟩ => ⟨_, he, hg, rfl⟩)
    | 7, ho =>
      simp only [List.getElem?_cons_zero, List.getElem?_cons_succ, Option.some.injEq] at ho; subst ho
      exact lays_eq _ rfl (exec_move (hfix 2 (by decide +kernel)))
    | 8, ho =>
      simp only [List.getElem?_cons_zero, List.getElem?_cons_succ, Option.some.injEq] at ho; subst ho
      have e1 : Kd domS dS (a.tmps.getD 23 undef) W := hdep 0 _ 23 rfl rfl (by decide +kernel)
      have e2 : a.tmps.getD 27 undef = .string root := hdep 4 _ 27 rfl rfl (by decide +kernel)
      have e3 : a.tmps.getD 29 undef = .string (fourB n) := hdep 6 _ 29 rfl rfl (by decide +kernel)
      have e4 : a.tmps.getD 30 undef = .string d := hdep 7 _ 30 rfl rfl (by decide +kernel)
      exact lays_call #[a.tmps.getD 23 undef, .string root, .string (fourB n), .string d] (by simp [Act.eval, e2, e3, e4]) (by kernel_rfl) ((unwrapped_any H domS dS root (fourB n) d (by decide) (by rw [fourB_size]; decide) _ W (H.last _ _ HR.out hB) e1).mono fun e W' ⟨he, hg⟩ => ⟨_, he, hg, by rw [hr.out]; rfl⟩)
    | 9, ho =>
      simp only [List.getElem?_cons_zero, List.getElem?_cons_succ, Option.some.injEq] at ho; subst ho
      have e1 : a.tmps.getD 31 undef = .tuple #[.string r.1, .int .i64 r.2] := hdep 8 _ 31 rfl rfl (by decide +kernel)
      exact lays_eq _ rfl (exec_ex e1 rfl)
    | 10, ho =>
      simp only [List.getElem?_cons_zero, List.getElem?_cons_succ, Option.some.injEq] at ho; subst ho
      have e1 : a.tmps.getD 31 undef = .tuple #[.string r.1, .int .i64 r.2] := hdep 8 _ 31 rfl rfl (by decide +kernel)
      exact lays_eq _ rfl (exec_ex e1 rfl)
    | ix + 11, ho => simp at ho
  · intro a W hB hd hsz hfix hT
    simp only [List.take_succ_cons, List.take_zero, List.drop_succ_cons, List.drop_zero] at hfix hT ⊢
    have f32 : a.tmps.getD 32 undef = .string r.1 := hT 9 _ 32 rfl rfl
    have f33 : a.tmps.getD 33 undef = .int .i64 r.2 := hT 10 _ 33 rfl rfl
    rw [frame_lit a 34 hsz hd]
    clear hfix hT hsz hd
    simp only [List.range, List.range.loop, List.map]
    generalize a.tmps = t at *
    simp only [f32, f33]
    clear f32 f33
    have HB := Lib.hid hB
    clear hB HG HR h1 h2 H hr
    go_wp2
    go_ret2
    exact ⟨rfl, HB.out⟩
end Go.Proofs.YtbiadmhomadflaaGreatDoor
namespace Go.Proofs.YtbiadmhomadflaaGreatDoor
open Go.RowKit Go.Own Go.Own.Fr
variable {Rt : World → Prop} {wA uA : ByteArray → ByteArray → ByteArray → ByteArray × Int} {dA : ByteArray → ByteArray → ByteArray → ByteArray}
def bakA (wA uA : ByteArray → ByteArray → ByteArray → ByteArray × Int) (dA : ByteArray → ByteArray → ByteArray → ByteArray) (root : ByteArray) (n : Int) (dom id : ByteArray) (v : Int) (d : ByteArray) : ByteArray × Int :=
  if (abvA uA root n dom id v).2 = 0 then wA (abvA uA root n dom id v).1 (bS ++ infoB id v.toNat) (dA backS d (infoB id v.toNat)) else ({ data := #[] }, (abvA uA root n dom id v).2)
def keyA (uA : ByteArray → ByteArray → ByteArray → ByteArray × Int) (root : ByteArray) (n : Int) (dom id : ByteArray) (v : Int) (x : ByteArray) : ByteArray × Int :=
  if (abvA uA root n dom id v).2 = 0 then uA (abvA uA root n dom id v).1 (bS ++ infoB id v.toNat) x else ({ data := #[] }, (abvA uA root n dom id v).2)
def rewA (wA uA : ByteArray → ByteArray → ByteArray → ByteArray × Int) (root : ByteArray) (n : Int) (dom : ByteArray) (m : Int) (other id : ByteArray) (v : Int) (x : ByteArray) : ByteArray × Int :=
  if (keyA uA root n dom id v x).2 = 0 then
    (if (abvA uA root m other id v).2 = 0 then wA (abvA uA root m other id v).1 (bS ++ infoB id v.toNat) (keyA uA root n dom id v x).1 else ({ data := #[] }, (abvA uA root m other id v).2))
  else ({ data := #[] }, (keyA uA root n dom id v x).2)
theorem abvA_ok {root dom id : ByteArray} {n v : Int} (h : (abvA uA root n dom id v).2 = 0) : 1 ≤ v.toNat ∧ v.toNat ≤ 8 ∧ ((v.toNat : Nat) : Int) = v ∧ id.size ≤ 32 := by
  unfold abvA at h
  split at h
  · cases h
  · rename_i h1
    split at h
    · cases h
    · rename_i h2
      have hv : okN v = true := by
        cases e : okN v with
        | true => rfl
        | false => exact absurd (Or.inr e) h1
      exact ⟨(okN_nat hv).1, (okN_nat hv).2.1, (okN_nat hv).2.2, by omega⟩
theorem int_ne {z : Int} (h : z ≠ 0) : (z != 0) = true := by simp [h]
theorem int_eq : ((0 : Int) != 0) = false := rfl
set_option maxRecDepth 100000 in
set_option maxHeartbeats 1000000 in
theorem backing_any (H : Under Rt wA uA dA) (root dom id d : ByteArray) (hd0 : d.size ≤ 1000) (n v : Int) (rb : Nat) (w : World) (hR : Rt w) (hG : Rg root rb w) :
    Calls Tryz.prog 9 #[.pointer (some ⟨rb, 0, none⟩), .int .i64 n, .string dom, .string id, .int .i64 v, .string d] w fun e w' => e = .returned (.tuple #[.string (bakA wA uA dA root n dom id v d).1, .int .i64 (bakA wA uA dA root n dom id v d).2]) ∧ Below w.heap.size w w' := by
  have HA := Lib.hid (above_any H root dom id n v rb w hR hG)
  by_cases h0 : (abvA uA root n dom id v).2 = 0
  case neg =>
    have hA : bakA wA uA dA root n dom id v d = ({ data := #[] }, (abvA uA root n dom id v).2) := if_neg h0
    rw [hA]
    obtain ⟨⟨s, z⟩, hq⟩ : ∃ q, abvA uA root n dom id v = q := ⟨_, rfl⟩
    rw [hq] at HA h0 ⊢
    have hz := int_ne h0
    simp only at HA ⊢ hz
    clear hA hq hR hG H h0 hd0
    go_enter Tryz.func9, Tryz.ntmps9
    go_wp2_with fail
    refine HA.out.mono ?_
    rintro e w' ⟨rfl, hb⟩
    replace hb := Lib.hid hb
    go_wp2
    go_ret2
    exact ⟨rfl, hb.out⟩
  have hA : bakA wA uA dA root n dom id v d = wA (abvA uA root n dom id v).1 (bS ++ infoB id v.toNat) (dA backS d (infoB id v.toNat)) := if_pos h0
  obtain ⟨hv1, hv2, hv3, hi⟩ := abvA_ok h0
  rw [hA]
  clear hA
  obtain ⟨⟨s, z⟩, hq⟩ : ∃ q, abvA uA root n dom id v = q := ⟨_, rfl⟩
  rw [hq] at HA h0 ⊢
  simp only at HA h0 ⊢
  subst h0
  clear hq
  obtain ⟨v, rfl⟩ : ∃ k : Nat, v = (k : Int) := ⟨v.toNat, hv3.symm⟩
  rw [Int.toNat_natCast] at hv1 hv2 ⊢
  have HV := Lib.hid (fun W => ofVersion_any id (by omega) v hv1 hv2 W)
  have HBK := Lib.hid backings_any
  have his : (infoB id v).size ≤ 1000 := by rw [infoB_size]; omega
  have HM := Lib.hid (fun kv W => made_any H backS bS s (infoB id v) d (by decide) (by decide) his hd0 kv W)
  have HR := Lib.hid hR
  have HL := Lib.hid H.last
  generalize wA s (bS ++ infoB id v) (dA backS d (infoB id v)) = r at *
  generalize infoB id v = i at *
  clear hv1 hv2 hv3 hi his hd0 H hR hG
  go_enter Tryz.func9, Tryz.ntmps9
  go_wp2_with fail
  refine HA.out.mono ?_
  rintro e w' ⟨rfl, hb⟩
  replace hb := Lib.hid hb
  clear HA
  go_wp2_with fail
  refine (HBK.out _).mono ?_
  rintro e w2 ⟨kv, rfl, hb2, hk⟩
  replace hb2 := Lib.hid (hb.out.trans (hb2.mono hb.out.size))
  clear hb
  go_wp2_with fail
  refine (HV.out _).mono ?_
  rintro e w3 ⟨rfl, hb3⟩
  replace hk := Lib.hid (Kd_last _ _ _ _ _ hk hb3)
  replace hb3 := Lib.hid (hb2.out.trans (hb3.mono hb2.out.size))
  clear hb2
  go_wp2_with fail
  refine (HM.out kv w3 (HL.out _ _ HR.out hb3.out) hk.out).mono ?_
  rintro e w4 ⟨rfl, hb4⟩
  replace hb4 := Lib.hid (hb3.out.trans (hb4.mono hb3.out.size))
  go_wp2
  go_ret2
  exact ⟨rfl, hb4.out⟩
set_option maxRecDepth 100000 in
set_option maxHeartbeats 1000000 in
theorem key_any (H : Under Rt wA uA dA) (root dom id d : ByteArray) (n v : Int) (rb : Nat) (w : World) (hR : Rt w) (hG : Rg root rb w) :
    Calls Tryz.prog 11 #[.pointer (some ⟨rb, 0, none⟩), .int .i64 n, .string dom, .string id, .int .i64 v, .string d] w fun e w' => e = .returned (.tuple #[.string (keyA uA root n dom id v d).1, .int .i64 (keyA uA root n dom id v d).2]) ∧ Below w.heap.size w w' := by
  have HA := Lib.hid (above_any H root dom id n v rb w hR hG)
  by_cases h0 : (abvA uA root n dom id v).2 = 0
  case neg =>
    have hA : keyA uA root n dom id v d = ({ data := #[] }, (abvA uA root n dom id v).2) := if_neg h0
    rw [hA]
    obtain ⟨⟨s, z⟩, hq⟩ : ∃ q, abvA uA root n dom id v = q := ⟨_, rfl⟩
    rw [hq] at HA h0 ⊢
    have hz := int_ne h0
    simp only at HA ⊢ hz
    clear hA hq hR hG H h0
    go_enter Tryz.func11, Tryz.ntmps11
    go_wp2_with fail
    refine HA.out.mono ?_
    rintro e w' ⟨rfl, hb⟩
    replace hb := Lib.hid hb
    go_wp2
    go_ret2
    exact ⟨rfl, hb.out⟩
  have hA : keyA uA root n dom id v d = uA (abvA uA root n dom id v).1 (bS ++ infoB id v.toNat) d := if_pos h0
  obtain ⟨hv1, hv2, hv3, hi⟩ := abvA_ok h0
  rw [hA]
  clear hA
  obtain ⟨⟨s, z⟩, hq⟩ : ∃ q, abvA uA root n dom id v = q := ⟨_, rfl⟩
  rw [hq] at HA h0 ⊢
  simp only at HA h0 ⊢
  subst h0
  clear hq
  obtain ⟨v, rfl⟩ : ∃ k : Nat, v = (k : Int) := ⟨v.toNat, hv3.symm⟩
  rw [Int.toNat_natCast] at hv1 hv2 ⊢
  have HV := Lib.hid (fun W => ofVersion_any id (by omega) v hv1 hv2 W)
  have HBK := Lib.hid backings_any
  have his : (infoB id v).size ≤ 1000 := by rw [infoB_size]; omega
  have HM := Lib.hid (fun kv W => unwrapped_any H backS bS s (infoB id v) d (by decide) his kv W)
  have HR := Lib.hid hR
  have HL := Lib.hid H.last
  generalize uA s (bS ++ infoB id v) d = r at *
  generalize infoB id v = i at *
  clear hv1 hv2 hv3 hi his H hR hG
  go_enter Tryz.func11, Tryz.ntmps11
  go_wp2_with fail
  refine HA.out.mono ?_
  rintro e w' ⟨rfl, hb⟩
  replace hb := Lib.hid hb
  clear HA
  go_wp2_with fail
  refine (HBK.out _).mono ?_
  rintro e w2 ⟨kv, rfl, hb2, hk⟩
  replace hb2 := Lib.hid (hb.out.trans (hb2.mono hb.out.size))
  clear hb
  go_wp2_with fail
  refine (HV.out _).mono ?_
  rintro e w3 ⟨rfl, hb3⟩
  replace hk := Lib.hid (Kd_last _ _ _ _ _ hk hb3)
  replace hb3 := Lib.hid (hb2.out.trans (hb3.mono hb2.out.size))
  clear hb2
  go_wp2_with fail
  refine (HM.out kv w3 (HL.out _ _ HR.out hb3.out) hk.out).mono ?_
  rintro e w4 ⟨rfl, hb4⟩
  replace hb4 := Lib.hid (hb3.out.trans (hb4.mono hb3.out.size))
  go_wp2
  go_ret2
  exact ⟨rfl, hb4.out⟩
set_option maxRecDepth 100000 in
set_option maxHeartbeats 1000000 in
theorem rewrap_any (H : Under Rt wA uA dA) (root dom other id d : ByteArray) (n m v : Int) (rb : Nat) (w : World) (hR : Rt w) (hG : Rg root rb w) :
    Calls Tryz.prog 13 #[.pointer (some ⟨rb, 0, none⟩), .int .i64 n, .string dom, .int .i64 m, .string other, .string id, .int .i64 v, .string d] w fun e w' => e = .returned (.tuple #[.string (rewA wA uA root n dom m other id v d).1, .int .i64 (rewA wA uA root n dom m other id v d).2]) ∧ Below w.heap.size w w' := by
  have HK := Lib.hid (key_any H root dom id d n v rb w hR hG)
  by_cases hk : (keyA uA root n dom id v d).2 = 0
  case neg =>
    have hA : rewA wA uA root n dom m other id v d = ({ data := #[] }, (keyA uA root n dom id v d).2) := if_neg hk
    rw [hA]
    obtain ⟨⟨s, z⟩, hq⟩ : ∃ q, keyA uA root n dom id v d = q := ⟨_, rfl⟩
    rw [hq] at HK hk ⊢
    have hz := int_ne hk
    simp only at HK ⊢ hz
    clear hA hq hR hG H hk
    go_enter Tryz.func13, Tryz.ntmps13
    go_wp2_with fail
    refine HK.out.mono ?_
    rintro e w' ⟨rfl, hb⟩
    replace hb := Lib.hid hb
    go_wp2
    go_ret2
    exact ⟨rfl, hb.out⟩
  have HA := Lib.hid (fun w' (hB : Below w.heap.size w w') => above_any H root other id m v rb w' (H.last _ _ hR hB) (hG.last hB))
  by_cases h0 : (abvA uA root m other id v).2 = 0
  case neg =>
    have hA : rewA wA uA root n dom m other id v d = ({ data := #[] }, (abvA uA root m other id v).2) := by
      unfold rewA; rw [if_pos hk, if_neg h0]
    rw [hA]
    obtain ⟨⟨s, z⟩, hq⟩ : ∃ q, abvA uA root m other id v = q := ⟨_, rfl⟩
    rw [hq] at HA h0 ⊢
    obtain ⟨⟨s2, z2⟩, hq2⟩ : ∃ q, keyA uA root n dom id v d = q := ⟨_, rfl⟩
    rw [hq2] at HK hk
    have hz := int_ne h0
    simp only at HA HK ⊢ hz hk
    subst hk
    clear hA hq hq2 hR hG H h0
    go_enter Tryz.func13, Tryz.ntmps13
    go_wp2_with fail
    refine HK.out.mono ?_
    rintro e w' ⟨rfl, hb⟩
    replace hb := Lib.hid hb
    go_wp2_with fail
    refine (HA.out _ hb.out).mono ?_
    rintro e w2 ⟨rfl, hb2⟩
    replace hb2 := Lib.hid (hb.out.trans (hb2.mono hb.out.size))
    go_wp2
    go_ret2
    exact ⟨rfl, hb2.out⟩
  have hA : rewA wA uA root n dom m other id v d = wA (abvA uA root m other id v).1 (bS ++ infoB id v.toNat) (keyA uA root n dom id v d).1 := by
    unfold rewA; rw [if_pos hk, if_pos h0]
  obtain ⟨hv1, hv2, hv3, hi⟩ := abvA_ok h0
  rw [hA]
  clear hA
  obtain ⟨⟨s, z⟩, hq⟩ : ∃ q, abvA uA root m other id v = q := ⟨_, rfl⟩
  rw [hq] at HA h0 ⊢
  obtain ⟨⟨s2, z2⟩, hq2⟩ : ∃ q, keyA uA root n dom id v d = q := ⟨_, rfl⟩
  rw [hq2] at HK hk ⊢
  simp only at HA HK h0 hk ⊢
  subst h0 hk
  clear hq hq2
  obtain ⟨v, rfl⟩ : ∃ k : Nat, v = (k : Int) := ⟨v.toNat, hv3.symm⟩
  rw [Int.toNat_natCast] at hv1 hv2 ⊢
  have HV := Lib.hid (fun W => ofVersion_any id (by omega) v hv1 hv2 W)
  have HBK := Lib.hid backings_any
  have his : (infoB id v).size ≤ 1000 := by rw [infoB_size]; omega
  have HM := Lib.hid (fun kv W => wrapped_any H backS bS s (infoB id v) s2 (by decide) his kv W)
  have HR := Lib.hid hR
  have HL := Lib.hid H.last
  generalize wA s (bS ++ infoB id v) s2 = r at *
  generalize infoB id v = i at *
  clear hv1 hv2 hv3 hi his H hR hG
  go_enter Tryz.func13, Tryz.ntmps13
  go_wp2_with fail
  refine HK.out.mono ?_
  rintro e w' ⟨rfl, hb⟩
  replace hb := Lib.hid hb
  clear HK
  go_wp2_with fail
  refine (HA.out _ hb.out).mono ?_
  rintro e w1 ⟨rfl, hb1⟩
  replace hb1 := Lib.hid (hb.out.trans (hb1.mono hb.out.size))
  clear HA hb
  go_wp2_with fail
  refine (HBK.out _).mono ?_
  rintro e w2 ⟨kv, rfl, hb2, hk⟩
  replace hb2 := Lib.hid (hb1.out.trans (hb2.mono hb1.out.size))
  clear hb1
  go_wp2_with fail
  refine (HV.out _).mono ?_
  rintro e w3 ⟨rfl, hb3⟩
  replace hk := Lib.hid (Kd_last _ _ _ _ _ hk hb3)
  replace hb3 := Lib.hid (hb2.out.trans (hb3.mono hb2.out.size))
  clear hb2
  go_wp2_with fail
  refine (HM.out kv w3 (HL.out _ _ HR.out hb3.out) hk.out).mono ?_
  rintro e w4 ⟨rfl, hb4⟩
  replace hb4 := Lib.hid (hb3.out.trans (hb4.mono hb3.out.size))
  go_wp2
  go_ret2
  exact ⟨rfl, hb4.out⟩
def dataS : ByteArray := { data := #[100, 97, 116, 97] }
set_option maxRecDepth 100000 in
theorem data_any (H : Under Rt wA uA dA) (d : ByteArray) (hd : d.size ≤ 1000) (w : World) (hR : Rt w) :
    Calls Tryz.prog 15 #[.string d] w fun e w' => e = .returned (.string (dA dataS d { data := #[] })) ∧ Below w.heap.size w w' := by
  have HD := Lib.hid (derived_any H dataS d { data := #[] } (by decide) hd (by decide) w hR)
  rw [show dataS = { data := #[100, 97, 116, 97] } from rfl] at HD ⊢
  clear hd hR H
  go_enter Tryz.func15, Tryz.ntmps15
  go_wp2_with fail
  refine HD.out.mono ?_
  rintro e w' ⟨rfl, hb⟩
  replace hb := Lib.hid hb
  go_wp2
  go_ret
  exact ⟨rfl, hb.out⟩
set_option maxRecDepth 100000 in
theorem rnew_bad (root : ByteArray) (h : root.size ≠ 32) (w : World) :
    Calls Tryz.prog 6 #[.string root] w fun e w' => e = .returned (.tuple #[.pointer none, .int .i64 2]) ∧ w = w' := by
  have hz : ((root.size : Int) != 32) = true := by simp; omega
  clear h
  go_enter Tryz.func6, Tryz.ntmps6
  go_wp2
  go_ret2
  exact ⟨rfl, rfl⟩
set_option maxRecDepth 100000 in
theorem rnew_ok (root : ByteArray) (h : root.size = 32) (w : World) :
    Calls Tryz.prog 6 #[.string root] w fun e w' => ∃ rb, e = .returned (.tuple #[.pointer (some ⟨rb, 0, none⟩), .int .i64 0]) ∧ Below w.heap.size w w' ∧ Rg root rb w' := by
  have hz : ((root.size : Int) != 32) = false := by simp; omega
  have HC := Lib.hid (rclone_any root (by omega) w)
  clear h
  go_enter Tryz.func6, Tryz.ntmps6
  go_wp2_with fail
  refine HC.out.mono ?_
  rintro e w' ⟨rfl, hb⟩
  have h1 := Lib.hid (hb.trans ((Below.refl _ w').alloc hb.size (.cells #[.string root] 43)))
  have h2 : Hid (Rg root w'.heap.size (w'.alloc (.cells #[.string root] 43))) := Lib.hid ⟨by simp, heap_alloc_new w' _⟩
  clear hb
  go_wp2
  go_ret2
  exact ⟨_, rfl, h1.out, h2.out⟩
end Go.Proofs.YtbiadmhomadflaaGreatDoor

/- Blob's small calls, by contract: a head's bytes, whether it is right, a number of a byte. No condition but the sizes. | Blob's taker, the head that is read, the parts of a blob: by contract. No condition but the sizes. | The parts of a blob, and Parse: by contract. No condition but the sizes. | Parse, Build and Open of blob, given what Seal and Open of the layer below answer: by contract. No condition but the sizes. -/
import Derived.Test.YtfamoakicgmfgaaGreatLC6
import Derived.Test.YtfamoakicgmfgaaGreatLN3
import Derived.Test.YtfamoakicgmfgaaGreatLG1
import Derived.Laws.BytesArg
import Derived.Laws.Cells
import Derived.Deep.Slices
import Derived.Laws.ResultCell
namespace Go.Proofs.YtfamoakicgmfgaaGreat.Lb
open Go.RowKit Go.Own.Lb
/-- A head. -/
structure Hd where
  id : ByteArray
  ver : Int
  nonce : ByteArray
def hdV (h : Hd) : Value := .agg #[.string h.id, .int .i64 h.ver, .string h.nonce]
def noHd : Hd := ⟨{ data := #[] }, 0, { data := #[] }⟩
def rightH (h : Hd) : Bool := decide (0 < runesN h.id) && decide (1 ≤ h.ver) && decide (h.ver ≤ 8) && decide (h.nonce.size = 12)
/-- A number's byte, as a text. -/
def oneS (n : Nat) : ByteArray := { data := #[UInt8.ofNat n] }
theorem oneS_size (n : Nat) : (oneS n).size = 1 := rfl
def markS : ByteArray := { data := #[75, 49] }
def laidH (h : Hd) : ByteArray := markS ++ oneS h.id.size ++ h.id ++ oneS h.ver.toNat ++ h.nonce
theorem laidH_size (h : Hd) : (laidH h).size = 4 + h.id.size + h.nonce.size := by
  unfold laidH markS
  simp only [ByteArray.size_append, oneS_size]
  rw [show ({ data := #[75, 49] } : ByteArray).size = 2 from rfl]
  omega
theorem conv_row (w : World) (cs : List Nat) (n : Nat) (hn : cs.length = n) : (convert 52 9 (.slice (some ⟨w.heap.size, 0, none⟩) n n)).run Tryz.prog (w.alloc (.cells (cs.map fun (k : Nat) => Value.int .u8 (k : Int)).toArray 5)) = .ok (.string ⟨(cs.map UInt8.ofNat).toArray⟩) (w.alloc (.cells (cs.map fun (k : Nat) => Value.int .u8 (k : Int)).toArray 5)) := by
  have hl := run_loadCells_list (P := Tryz.prog) (w.alloc (.cells (cs.map fun (k : Nat) => Value.int .u8 (k : Int)).toArray 5)) ⟨w.heap.size, 0, none⟩ (cs.map fun (k : Nat) => Value.int .u8 (k : Int)) (fun j u hu => by
    rw [show (⟨w.heap.size, 0, none⟩ : Addr).add j = ⟨w.heap.size, j, none⟩ by unfold Addr.add; split <;> simp_all, cell_new]
    simpa using hu)
  rw [List.length_map, hn] at hl
  have hl' : (loadCells ⟨w.heap.size, 0, none⟩ n).run Tryz.prog (w.alloc (.cells (cs.map fun (k : Nat) => Value.int .u8 (k : Int)).toArray 5)) = .ok ((cs.map fun (k : Nat) => (k : Int)).map (Value.int .u8)).toArray (w.alloc (.cells (cs.map fun (k : Nat) => Value.int .u8 (k : Int)).toArray 5)) := by
    rw [hl]; simp [Function.comp_def]
  rw [run_convert_bytes_string _ 52 9 5 _ _ _ Tryz.underlying52 Tryz.underlying5 Tryz.underlying9, run_bytesToString _ _ _ _ _ hl', foldl_push_bytes]
  simp [Function.comp_def]
theorem conv1 (w : World) (k : Nat) (z : Int) (hz : (k : Int) = z) : (convert 52 9 (.slice (some ⟨w.heap.size, 0, none⟩) 1 1)).run Tryz.prog (w.alloc (.cells #[.int .u8 z] 5)) = .ok (.string (oneS k)) (w.alloc (.cells #[.int .u8 z] 5)) := by
  subst hz
  exact conv_row w [k] 1 rfl
theorem oneS_mod (n : Nat) : oneS (n % 256) = oneS n := by
  unfold oneS
  congr 2
  rw [show UInt8.ofNat (n % 256) = UInt8.ofNat n from UInt8.toNat_inj.1 (by simp)]
theorem wrapu8 (n : Nat) : IntKind.u8.wrap (n : Int) = ((n % 256 : Nat) : Int) := by
  simp [IntKind.wrap, IntKind.signed, IntKind.bits]
set_option maxRecDepth 100000 in
set_option maxHeartbeats 1000000 in
theorem oneByte_any (n : Nat) (w : World) : Calls Tryz.prog 29 #[.int .i64 (n : Int)] w fun e w' => e = .returned (.string (oneS n)) ∧ Below w.heap.size w w' := by
  have hc := conv1 w (n % 256) ((n % 256 : Nat) : Int) rfl
  rw [oneS_mod] at hc
  have hw : ∀ W, (convert 3 5 (.int .i64 (n : Int))).run Tryz.prog W = .ok (.int .u8 ((n % 256 : Nat) : Int)) W := fun W => by
    have e : (convert 3 5 (.int .i64 (n : Int))).run Tryz.prog W = .ok (.int .u8 (IntKind.u8.wrap (n : Int))) W := by kernel_rfl
    rw [e, wrapu8]
  obtain ⟨m, hm⟩ : ∃ m, n % 256 = m := ⟨_, rfl⟩
  rw [hm] at hc hw
  clear hm
  have hb := Lib.hid ((Below.refl _ w).alloc (Nat.le_refl _) (.cells #[.int .u8 (m : Int)] 5))
  go_enter Tryz.func29, Tryz.ntmps29
  go_wp2
  go_ret
  exact ⟨rfl, hb.out⟩
set_option maxRecDepth 100000 in
theorem number_none (w : World) : Calls Tryz.prog 68 #[.string { data := #[] }] w fun e w' => e = .returned (.int .i64 0) ∧ w = w' := by
  go_enter Tryz.func68, Tryz.ntmps68
  go_wp2
  go_ret
  exact ⟨rfl, rfl⟩
set_option maxRecDepth 100000 in
theorem number_some (s : ByteArray) (h : 0 < s.size) (w : World) : Calls Tryz.prog 68 #[.string s] w fun e w' => e = .returned (.int .i64 ((gi (bys s) 0 : Nat) : Int)) ∧ w = w' := by
  have hne : (s.toList == []) = false := by
    have hl : s.toList.length = s.size := by rw [ByteArray.toList_eq]; rfl
    cases h : s.toList with
    | nil => rw [h] at hl; simp at hl; omega
    | cons a l => rfl
  have hix : ∀ W, (Instr.index 9 (.string s) (.int .i64 0)).run Tryz.prog W = .ok (.int .u8 ((gi (bys s) 0 : Nat) : Int)) W := fun W => by
    rw [gi_at s 0 h]
    have := run_index_string (P := Tryz.prog) W 9 s .i64 0 Tryz.underlying9
    rw [dif_pos ⟨by omega, by omega⟩] at this
    exact this
  obtain ⟨c, hc⟩ : ∃ c, gi (bys s) 0 = c := ⟨_, rfl⟩
  have hcb : c < 256 := by rw [← hc]; exact gi_bys_lt s 0
  rw [hc] at hix ⊢
  clear hc h
  go_enter Tryz.func68, Tryz.ntmps68
  go_wp2
  go_ret
  exact ⟨rfl, rfl⟩
theorem cell_later {w W0 w' : World} {c : Array Value} {T : TypeId} (hW : w.alloc (.cells c T) = W0) (hb : Below W0.heap.size W0 w') (j : Nat) : w'.cell? ⟨w.heap.size, j, none⟩ = c[j]? := by
  have h0 : W0.heap[w.heap.size]? = some (.cells c T (0, 0)) := by rw [← hW]; exact heap_alloc_new w _
  have h1 := (hb.block _ (Array.getElem?_eq_some_iff.1 h0).1).trans h0
  simp only [World.cell?, h1, Option.isSome_none, Bool.false_eq_true, if_false]
set_option maxRecDepth 100000 in
set_option maxHeartbeats 1000000 in
theorem right_h (h : Hd) (w : World) : Calls Tryz.prog 14 #[hdV h] w fun e w' => e = .returned (.bool (rightH h)) ∧ Below w.heap.size w w' := by
  obtain ⟨id, ver, nonce⟩ := h
  unfold rightH hdV
  simp only
  obtain ⟨W0, hW0⟩ : ∃ W0, w.alloc (.cells #[.string id, .int .i64 ver, .string nonce] 23) = W0 := ⟨_, rfl⟩
  have hb0 := Lib.hid (show Below w.heap.size w W0 from hW0 ▸ (Below.refl _ w).alloc (Nat.le_refl _) _)
  have c0 : W0.cell? ⟨w.heap.size, 0, none⟩ = some (.string id) := by rw [← hW0, cell_new]; rfl
  have c1 : W0.cell? ⟨w.heap.size, 1, none⟩ = some (.int .i64 ver) := by rw [← hW0, cell_new]; rfl
  have c2 : W0.cell? ⟨w.heap.size, 2, none⟩ = some (.string nonce) := by rw [← hW0, cell_new]; rfl
  have hlt : w.heap.size < W0.heap.size := by rw [← hW0]; simp
  have HR := Lib.hid (right_any id W0)
  have hsz : (W0.heap.size) = W0.heap.size := rfl
  clear hsz
  rcases Nat.eq_zero_or_pos (runesN id) with hz | hz
  · have hd : decide (0 < runesN id) = false := decide_eq_false (by omega)
    rw [hd] at HR ⊢
    simp only [Bool.false_and]
    have HW0 := Lib.hid hW0
    clear hz hd hW0
    go_enter Tryz.func14, Tryz.ntmps14
    go_wp2_with fail
    rw [HW0.out]
    go_wp2_with fail
    refine HR.out.mono ?_
    rintro e w' ⟨rfl, hb⟩
    replace hb := Lib.hid (hb0.out.trans (hb.mono hb0.out.size))
    go_wp2
    go_ret
    exact ⟨rfl, hb.out⟩
  · have hd : decide (0 < runesN id) = true := decide_eq_true hz
    rw [hd] at HR ⊢
    simp only [Bool.true_and]
    have HW0 := Lib.hid hW0
    clear hz hd hW0 c1 c2
    by_cases h1 : 1 ≤ ver
    case neg =>
      have hd : decide (1 ≤ ver) = false := decide_eq_false h1
      rw [hd]
      simp only [Bool.false_and]
      clear h1
      go_enter Tryz.func14, Tryz.ntmps14
      go_wp2_with fail
      rw [HW0.out]
      go_wp2_with fail
      refine HR.out.mono ?_
      rintro e w' ⟨rfl, hb⟩
      have c1 : w'.cell? ⟨w.heap.size, 1, none⟩ = some (.int .i64 ver) := cell_later HW0.out hb 1
      replace hb := Lib.hid (hb0.out.trans (hb.mono hb0.out.size))
      go_wp2
      go_ret
      exact ⟨rfl, hb.out⟩
    have hd : decide (1 ≤ ver) = true := decide_eq_true h1
    rw [hd]
    simp only [Bool.true_and]
    clear hd
    by_cases h2 : ver ≤ 8
    case neg =>
      have hd : decide (ver ≤ 8) = false := decide_eq_false h2
      rw [hd]
      simp only [Bool.false_and]
      clear hd
      go_enter Tryz.func14, Tryz.ntmps14
      go_wp2_with fail
      rw [HW0.out]
      go_wp2_with fail
      refine HR.out.mono ?_
      rintro e w' ⟨rfl, hb⟩
      have c1 : w'.cell? ⟨w.heap.size, 1, none⟩ = some (.int .i64 ver) := cell_later HW0.out hb 1
      replace hb := Lib.hid (hb0.out.trans (hb.mono hb0.out.size))
      go_wp2
      go_ret
      exact ⟨rfl, hb.out⟩
    have hd : decide (ver ≤ 8) = true := decide_eq_true h2
    rw [hd]
    simp only [Bool.true_and]
    clear hd
    have hq : ((nonce.size : Int) == 12) = decide (nonce.size = 12) := by
      rw [Bool.eq_iff_iff]; simp; omega
    obtain ⟨q, hqq⟩ : ∃ q, decide (nonce.size = 12) = q := ⟨_, rfl⟩
    rw [hqq] at hq ⊢
    clear hqq
    go_enter Tryz.func14, Tryz.ntmps14
    go_wp2_with fail
    rw [HW0.out]
    go_wp2_with fail
    refine HR.out.mono ?_
    rintro e w' ⟨rfl, hb⟩
    have c1 : w'.cell? ⟨w.heap.size, 1, none⟩ = some (.int .i64 ver) := cell_later HW0.out hb 1
    have c2 : w'.cell? ⟨w.heap.size, 2, none⟩ = some (.string nonce) := cell_later HW0.out hb 2
    replace hb := Lib.hid (hb0.out.trans (hb.mono hb0.out.size))
    go_wp2
    go_ret
    exact ⟨rfl, hb.out⟩
set_option maxRecDepth 100000 in
set_option maxHeartbeats 1000000 in
theorem laid_h (h : Hd) (hi : h.id.size ≤ 1000000) (hv : 0 ≤ h.ver) (hn : h.nonce.size ≤ 1000000) (w : World) : Calls Tryz.prog 15 #[hdV h] w fun e w' => e = .returned (.string (laidH h)) ∧ Below w.heap.size w w' := by
  obtain ⟨id, ver, nonce⟩ := h
  unfold laidH hdV
  simp only at hi hv hn ⊢
  obtain ⟨v, rfl⟩ : ∃ v : Nat, ver = v := ⟨ver.toNat, by omega⟩
  rw [Int.toNat_natCast]
  have o1 := oneS_size id.size
  have o2 := oneS_size v
  have o3 : markS.size = 2 := rfl
  have HO1' := fun W => oneByte_any id.size W
  have HO2' := fun W => oneByte_any v W
  have a1 : ∀ W, (Op.stringOp .add { data := #[75, 49] } (oneS id.size)).run Tryz.prog W = .ok (.string (markS ++ oneS id.size)) W := fun W => run_string_add_sum W _ _ (by rw [show ({ data := #[75, 49] } : ByteArray).size = 2 from rfl]; omega)
  have a2 : ∀ W, (Op.stringOp .add (markS ++ oneS id.size) id).run Tryz.prog W = .ok (.string (markS ++ oneS id.size ++ id)) W := fun W => run_string_add_sum W _ _ (by rw [ByteArray.size_append]; omega)
  have a3 : ∀ W, (Op.stringOp .add (markS ++ oneS id.size ++ id) (oneS v)).run Tryz.prog W = .ok (.string (markS ++ oneS id.size ++ id ++ oneS v)) W := fun W => run_string_add_sum W _ _ (by rw [ByteArray.size_append, ByteArray.size_append]; omega)
  have a4 : ∀ W, (Op.stringOp .add (markS ++ oneS id.size ++ id ++ oneS v) nonce).run Tryz.prog W = .ok (.string (markS ++ oneS id.size ++ id ++ oneS v ++ nonce)) W := fun W => run_string_add_sum W _ _ (by rw [ByteArray.size_append, ByteArray.size_append, ByteArray.size_append]; omega)
  generalize markS ++ oneS id.size ++ id ++ oneS v ++ nonce = s4 at *
  generalize markS ++ oneS id.size ++ id ++ oneS v = s3 at *
  generalize markS ++ oneS id.size ++ id = s2 at *
  generalize markS ++ oneS id.size = s1 at *
  generalize oneS id.size = t1 at *
  generalize oneS v = t2 at *
  obtain ⟨W0, hW0⟩ : ∃ W0, w.alloc (.cells #[.string id, .int .i64 (v : Int), .string nonce] 23) = W0 := ⟨_, rfl⟩
  have hb0 := Lib.hid (show Below w.heap.size w W0 from hW0 ▸ (Below.refl _ w).alloc (Nat.le_refl _) _)
  have HO1 : Hid (∀ g : Gw W0, Calls Tryz.prog 29 #[.int .i64 (id.size : Int)] g.1 fun x w' => x = .returned (.string t1) ∧ Grew W0 w') := Lib.hid fun g => grew_call (HO1' _)
  have HO2 : Hid (∀ g : Gw W0, Calls Tryz.prog 29 #[.int .i64 (v : Int)] g.1 fun x w' => x = .returned (.string t2) ∧ Grew W0 w') := Lib.hid fun g => grew_call (HO2' _)
  have c0 : ∀ g : Gw W0, g.1.cell? ⟨w.heap.size, 0, none⟩ = some (.string id) := fun g => cell_later hW0 g.2 0
  have c1 : ∀ g : Gw W0, g.1.cell? ⟨w.heap.size, 1, none⟩ = some (.int .i64 (v : Int)) := fun g => cell_later hW0 g.2 1
  have c2 : ∀ g : Gw W0, g.1.cell? ⟨w.heap.size, 2, none⟩ = some (.string nonce) := fun g => cell_later hW0 g.2 2
  have HW0 := Lib.hid hW0
  clear hW0 o1 o2 o3 hi hv hn HO1' HO2'
  go_enter Tryz.func15, Tryz.ntmps15
  go_wp2_with fail
  rw [HW0.out]
  refine wp_region_grew (by kernel_rfl) (by kernel_rfl) ?_
  repeat (go_big_quiet_step ((first | (with_reducible exact HO1.out _) | (with_reducible exact HO2.out _))))
  refine wpQuiet_nil ?_
  intro g
  have HB := Lib.hid (hb0.out.trans (g.2.mono hb0.out.size))
  go_wp2
  go_ret
  exact ⟨rfl, HB.out⟩
end Go.Proofs.YtfamoakicgmfgaaGreat.Lb
namespace Go.Proofs.YtfamoakicgmfgaaGreat.Lb
open Go.RowKit Go.Own.Lb
def takeS (s : ByteArray) (n : Nat) : ByteArray := s.extract 0 (min n s.size)
def restS (s : ByteArray) (n : Nat) : ByteArray := s.extract (min n s.size) s.size
theorem takeS_size (s : ByteArray) (n : Nat) : (takeS s n).size = min n s.size := by unfold takeS; simp
theorem restS_size (s : ByteArray) (n : Nat) : (restS s n).size = s.size - min n s.size := by unfold restS; simp
set_option maxRecDepth 100000 in
theorem taker_any (s : ByteArray) (w : World) : Calls Tryz.prog 41 #[.string s] w fun e w' => e = .returned (.func (.func 67) #[] #[.pointer (some ⟨w.heap.size, 0, none⟩)]) ∧ w.alloc (.cells #[.string s] 9) = w' := by
  go_enter Tryz.func41, Tryz.ntmps41
  go_wp2
  go_ret
  exact ⟨rfl, rfl⟩
set_option maxRecDepth 100000 in
set_option maxHeartbeats 1000000 in
theorem take_any (B : Nat) (s : ByteArray) (n : Nat) (w : World) (hB : Box w B s) :
    Calls Tryz.prog 67 #[.int .i64 (n : Int), .pointer (some ⟨B, 0, none⟩)] w fun e w' => e = .returned (.string (takeS s n)) ∧ Box w' B (restS s n) ∧ w.grownBy w' (some B) := by
  have c0 := cell_of_one hB
  have d1 := free_of_one hB
  unfold takeS restS
  obtain ⟨m, hm⟩ : ∃ m, min n s.size = m := ⟨_, rfl⟩
  have hmi : min (n : Int) (s.size : Int) = (m : Int) := by omega
  have hms : m ≤ s.size := by omega
  rw [hm]
  have HB := Lib.hid hB
  clear hm hB
  go_enter Tryz.func67, Tryz.ntmps67
  go_wp2
  go_ret
  refine ⟨rfl, one_setCell HB.out, ?_⟩
  exact ⟨rfl, rfl, rfl, by simp, fun k hk hne => by
    rw [Below.heap_setCell _ _ _ _ (fun e => hne (by rw [e]))]⟩
/-- A byte's number; 0 of nothing. -/
def numS (s : ByteArray) : Nat := if s.size = 0 then 0 else gi (bys s) 0
theorem number_any (s : ByteArray) (w : World) : Calls Tryz.prog 68 #[.string s] w fun e w' => e = .returned (.int .i64 ((numS s : Nat) : Int)) ∧ w = w' := by
  unfold numS
  by_cases h : s.size = 0
  · rw [if_pos h]
    obtain rfl : s = { data := #[] } := by
      apply ByteArray.ext
      exact Array.eq_empty_of_size_eq_zero h
    exact number_none w
  · rw [if_neg h]
    exact number_some s (by omega) w
theorem numS_lt (s : ByteArray) : numS s < 256 := by
  unfold numS
  split
  · decide
  · exact gi_bys_lt s 0
/-- A head that is read off a text, and what is left. -/
def idR (s : ByteArray) : ByteArray := takeS (restS s 1) (numS (takeS s 1))
def idL (s : ByteArray) : ByteArray := restS (restS s 1) (numS (takeS s 1))
def hdR (s : ByteArray) : Hd := ⟨idR s, (numS (takeS (idL s) 1) : Nat), takeS (restS (idL s) 1) 12⟩
def hdL (s : ByteArray) : ByteArray := restS (restS (idL s) 1) 12
theorem grown_seq {w w1 w2 : World} {B : Nat} (h : w.grownBy w1 (some B)) (k : w1.grownBy w2 (some B)) : w.grownBy w2 (some B) := grown_more h k (fun _ e => Or.inr (Option.some.inj e).symm)
theorem grown_below {w w1 : World} {B : Nat} (h : Below w.heap.size w w1) : w.grownBy w1 (some B) := ⟨h.os, h.tape, h.output, h.size, fun k hk _ => h.block k hk⟩
theorem keep_of {W W' : World} {B r : Nat} {x : Obj} (hG : W.grownBy W' (some B)) (h : W.heap[r]? = some x) (hne : r ≠ B) : W'.heap[r]? = some x :=
  (hG.block _ (Array.getElem?_eq_some_iff.1 h).1 (fun e => hne (Option.some.inj e))).trans h
theorem keep_b {W W' : World} {r : Nat} {x : Obj} (hG : Below W.heap.size W W') (h : W.heap[r]? = some x) : W'.heap[r]? = some x :=
  (hG.block _ (Array.getElem?_eq_some_iff.1 h).1).trans h
theorem cell_of {W : World} {b : Nat} {c : Array Value} {t : TypeId} (h : W.heap[b]? = some (.cells c t (0, 0))) (j : Nat) : W.cell? ⟨b, j, none⟩ = c[j]? := by
  simp only [World.cell?, h, Option.isSome_none, Bool.false_eq_true, if_false]
theorem free_of {W : World} {b : Nat} {c : Array Value} {t : TypeId} (h : W.heap[b]? = some (.cells c t (0, 0))) (j : Nat) : W.frozen? ⟨b, j, none⟩ = false := by simp [World.frozen?, h]
/-- Three cells of a block are written. -/
def set3 (W : World) (r : Nat) (a b c : Value) : World := ((W.setCell ⟨r, 0, none⟩ a).setCell ⟨r, 1, none⟩ b).setCell ⟨r, 2, none⟩ c
theorem set3_at {W : World} {r : Nat} {x y z : Value} {T : TypeId} (h : W.heap[r]? = some (.cells #[x, y, z] T (0, 0))) (a b c : Value) : (set3 W r a b c).heap[r]? = some (.cells #[a, b, c] T (0, 0)) :=
  heap_setCell_same _ r 2 _ T _ (heap_setCell_same _ r 1 _ T _ (heap_setCell_same W r 0 _ T _ h))
theorem set3_other (W : World) {r k : Nat} (a b c : Value) (h : k ≠ r) : (set3 W r a b c).heap[k]? = W.heap[k]? := by
  unfold set3
  rw [heap_setCell_other _ _ _ _ h, heap_setCell_other _ _ _ _ h, heap_setCell_other _ _ _ _ h]
theorem set3_size (W : World) (r : Nat) (a b c : Value) : (set3 W r a b c).heap.size = W.heap.size := by unfold set3; simp
theorem set3_grown {w W : World} {r : Nat} {o : Option Nat} (a b c : Value) (hr : w.heap.size ≤ r) (h : w.grownBy W o) : w.grownBy (set3 W r a b c) o :=
  ⟨h.os, h.tape, h.output, by rw [set3_size]; exact h.size, fun k hk hne => by rw [set3_other W a b c (by omega)]; exact h.block k hk hne⟩
theorem set3_below {w W : World} {r : Nat} (a b c : Value) (hr : w.heap.size ≤ r) (h : Below w.heap.size w W) : Below w.heap.size w (set3 W r a b c) :=
  ⟨h.os, h.tape, h.output, by rw [set3_size]; exact h.size, fun k hk => by rw [set3_other W a b c (by omega)]; exact h.block k hk⟩
theorem load3 {W : World} {r : Nat} {a b c : Value} {T : TypeId} (h : W.heap[r]? = some (.cells #[a, b, c] T (0, 0))) (hs : (sizeOf T).run Tryz.prog W = .ok 3 W) (ha : (isAgg T).run Tryz.prog W = .ok true W) :
    (loadVar T ⟨r, 0, none⟩).run Tryz.prog W = .ok (.agg #[a, b, c]) W := by
  have hl := run_loadCells_list (P := Tryz.prog) W ⟨r, 0, none⟩ [a, b, c] (fun j u hu => by
    rw [show (⟨r, 0, none⟩ : Addr).add j = ⟨r, j, none⟩ by unfold Addr.add; split <;> simp_all, cell_of h]
    simpa using hu)
  simp only [List.length_cons, List.length_nil, Nat.zero_add, Nat.reduceAdd] at hl
  simp [loadVar, ha, hs, hl]
theorem cell_new0 (w : World) (c : Array Value) (T : TypeId) (j : Nat) : (w.alloc (.cells c T)).cell? ⟨w.heap.size, j, none⟩ = c[j]? := cell_new w c T j
set_option maxRecDepth 100000 in
set_option maxHeartbeats 2000000 in
theorem read_any (B : Nat) (s : ByteArray) (hs : s.size ≤ 1099511627776) (w : World) (hB : Box w B s) :
    Calls Tryz.prog 42 #[.func (.func 67) #[] #[.pointer (some ⟨B, 0, none⟩)]] w fun e w' => e = .returned (hdV (hdR s)) ∧ Box w' B (hdL s) ∧ w.grownBy w' (some B) := by
  unfold hdV hdR hdL
  simp only
  have hBl : B < w.heap.size := (Array.getElem?_eq_some_iff.1 hB).1
  have z1 : (idR s).size ≤ 281474976710656 := by
    unfold idR; rw [takeS_size, restS_size]; omega
  have z2 : (takeS (restS (idL s) 1) 12).size ≤ 281474976710656 := by
    rw [takeS_size]; omega
  obtain ⟨W0, hW0⟩ : ∃ W0, w.alloc (.cells #[.string { data := #[] }, .int .i64 0, .string { data := #[] }] 23) = W0 := ⟨_, rfl⟩
  have hg0 : w.grownBy W0 (some B) := grown_below (hW0 ▸ (Below.refl _ w).alloc (Nat.le_refl _) _)
  have hB0 : Box W0 B s := hW0 ▸ (((Below.refl _ w).alloc (Nat.le_refl _) _).block B hBl).trans hB
  have HT1 := Lib.hid (take_any B s 1 W0 hB0)
  have HC1 := Lib.hid fun W => clone_any (idR s) z1 W
  have HC2 := Lib.hid fun W => clone_any (takeS (restS (idL s) 1) 12) z2 W
  have HG0 := Lib.hid hg0
  have HW0 := Lib.hid hW0
  have hsz : w.heap.size < W0.heap.size := by rw [← hW0]; simp
  have HSZ := Lib.hid hsz
  have HNE : Hid (w.heap.size ≠ B) := Lib.hid (by omega)
  have HR0 : Hid (W0.heap[w.heap.size]? = some (.cells #[.string { data := #[] }, .int .i64 0, .string { data := #[] }] 23 (0, 0))) := Lib.hid (hW0 ▸ heap_alloc_new w _)
  clear hs hB hW0 hg0 hB0 z1 z2 hsz
  go_enter Tryz.func42, Tryz.ntmps42
  go_wp2_with fail
  rw [HW0.out]
  go_wp2_with fail
  refine HT1.out.mono ?_
  rintro e w1 ⟨rfl, hB1, hG1⟩
  have HG1 := Lib.hid (grown_seq HG0.out hG1)
  have HR1 := Lib.hid (keep_of hG1 HR0.out HNE.out)
  have HN1 := Lib.hid (number_any (takeS s 1) w1)
  have HT2 := Lib.hid (take_any B (restS s 1) (numS (takeS s 1)) w1 hB1)
  clear hG1 hB1
  go_wp2_with fail
  refine HN1.out.mono ?_
  rintro e w' ⟨rfl, rfl⟩
  go_wp2_with fail
  refine HT2.out.mono ?_
  rintro e w2 ⟨rfl, hB2, hG2⟩
  have HG2 := Lib.hid (grown_seq HG1.out hG2)
  have HR2 := Lib.hid (keep_of hG2 HR1.out HNE.out)
  have HT3 := Lib.hid (take_any B (idL s) 1 w2 hB2)
  clear hG2 hB2
  go_wp2_with fail
  refine HT3.out.mono ?_
  rintro e w3 ⟨rfl, hB3, hG3⟩
  have HG3 := Lib.hid (grown_seq HG2.out hG3)
  have HR3 := Lib.hid (keep_of hG3 HR2.out HNE.out)
  have HN3 := Lib.hid (number_any (takeS (idL s) 1) w3)
  have HT4 := Lib.hid (take_any B (restS (idL s) 1) 12 w3 hB3)
  clear hG3 hB3
  go_wp2_with fail
  refine HN3.out.mono ?_
  rintro e w' ⟨rfl, rfl⟩
  go_wp2_with fail
  refine HT4.out.mono ?_
  rintro e w4 ⟨rfl, hB4, hG4⟩
  have HG4 := Lib.hid (grown_seq HG3.out hG4)
  have HR4 := Lib.hid (keep_of hG4 HR3.out HNE.out)
  have HB4 := Lib.hid hB4
  clear hG4 hB4
  go_wp2_with fail
  refine (HC1.out _).mono ?_
  rintro e w5 ⟨rfl, hb5⟩
  have HG5 := Lib.hid (grown_seq HG4.out (grown_below hb5))
  have HR5 := Lib.hid (keep_b hb5 HR4.out)
  have HB5 := Lib.hid (keep_b hb5 HB4.out)
  clear hb5
  go_wp2_with fail
  refine (HC2.out _).mono ?_
  rintro e w6 ⟨rfl, hb6⟩
  have HG6 := Lib.hid (grown_seq HG5.out (grown_below hb6))
  have HR6 := Lib.hid (keep_b hb6 HR5.out)
  have HB6 := Lib.hid (keep_b hb6 HB5.out)
  clear hb6
  have c0 := cell_of HR6.out 0
  have c1 := cell_of HR6.out 1
  have c2 := cell_of HR6.out 2
  have f0 := free_of HR6.out 0
  have f1 := free_of HR6.out 1
  have f2 := free_of HR6.out 2
  go_wp2
  refine bodyPost_ret (v := .agg #[.string (idR s), .int .i64 ((numS (takeS (idL s) 1) : Nat) : Int), .string (takeS (restS (idL s) 1) 12)]) ?_ rfl ?_
  · have h := load3 (set3_at HR6.out (.string (idR s)) (.int .i64 ((numS (takeS (idL s) 1) : Nat) : Int)) (.string (takeS (restS (idL s) 1) 12))) (by kernel_rfl) (by kernel_rfl)
    unfold set3 at h
    generalize (((w6.setCell { block := w.heap.size, off := 0 } (Value.string (idR s))).setCell { block := w.heap.size, off := 1 } (Value.int IntKind.i64 ↑(numS (takeS (idL s) 1)))).setCell { block := w.heap.size, off := 2 } (Value.string (takeS (restS (idL s) 1) 12))) = WW at h ⊢
    simp only [results, Tryz.results42]
    simp [asAddr, h]
  · refine ⟨rfl, (set3_other _ _ _ _ (Ne.symm HNE.out)).trans HB6.out, set3_grown _ _ _ (Nat.le_refl _) HG6.out⟩
end Go.Proofs.YtfamoakicgmfgaaGreat.Lb
namespace Go.Proofs.YtfamoakicgmfgaaGreat.Lb
open Go.RowKit Go.Own.Lb
open Classical in
/-- A blob's head, and what is sealed. -/
noncomputable def partS (b : ByteArray) : Option (Hd × ByteArray) :=
  if takeS b 2 = markS ∧ rightH (hdR (restS b 2)) = true ∧ 16 ≤ (hdL (restS b 2)).size ∧ (hdL (restS b 2)).size ≤ 1040 then some (hdR (restS b 2), hdL (restS b 2)) else none
def partV (o : Option (Hd × ByteArray)) : Value := match o with
  | some (h, r) => .tuple #[hdV h, .string r, .bool true]
  | none => .tuple #[hdV noHd, .string { data := #[] }, .bool false]
theorem res3 {fn : Func} {p u v : Tmp} {ty : TypeId} (h : fn.results = #[.cell p ty, .tmp u, .tmp v]) (tmps : Array Value) (P : Program) (w : World) (r : Nat) (x y z : Value) (hp : tmps[p]? = some (.pointer (some ⟨r, 0, none⟩))) (hu : tmps[u]? = some y) (hv : tmps[v]? = some z) (hx : (loadVar ty ⟨r, 0, none⟩).run P w = .ok x w) :
    (results fn tmps).run P w = .ok (.tuple #[x, y, z]) w := by
  simp [results, h, asAddr, hp, hu, hv, hx]
theorem mark_list : markS.toList = [75, 49] := by rw [ByteArray.toList_eq]; rfl
theorem below_grown {n B : Nat} {w W W' : World} (h : Below n w W) (g : W.grownBy W' (some B)) (hn : n ≤ w.heap.size) (hB : n ≤ B) : Below n w W' :=
  ⟨g.os.trans h.os, g.tape.trans h.tape, g.output.trans h.output, Nat.le_trans h.size g.size, fun k hk => (g.block k (by have := h.size; omega) (fun e => by have := Option.some.inj e; omega)).trans (h.block k hk)⟩
set_option maxRecDepth 100000 in
set_option maxHeartbeats 2000000 in
theorem parted_any (b : ByteArray) (hs : b.size ≤ 1099511627776) (w : World) :
    Calls Tryz.prog 21 #[.string b] w fun e w' => e = .returned (partV (partS b)) ∧ Below w.heap.size w w' := by
  obtain ⟨W0, hW0⟩ : ∃ W0, w.alloc (.cells #[.string { data := #[] }, .int .i64 0, .string { data := #[] }] 23) = W0 := ⟨_, rfl⟩
  have hb0 : Below w.heap.size w W0 := hW0 ▸ (Below.refl _ w).alloc (Nat.le_refl _) _
  have hR0 : W0.heap[w.heap.size]? = some (.cells #[.string { data := #[] }, .int .i64 0, .string { data := #[] }] 23 (0, 0)) := hW0 ▸ heap_alloc_new w _
  obtain ⟨W1, hW1⟩ : ∃ W1, W0.alloc (.cells #[.string b] 9) = W1 := ⟨_, rfl⟩
  obtain ⟨B, hBB⟩ : ∃ B, W0.heap.size = B := ⟨_, rfl⟩
  have hne : w.heap.size ≠ B := by rw [← hBB, ← hW0]; simp
  have hB1 : Box W1 B b := hBB ▸ hW1 ▸ heap_alloc_new W0 _
  have hR1 : W1.heap[w.heap.size]? = some (.cells #[.string { data := #[] }, .int .i64 0, .string { data := #[] }] 23 (0, 0)) := hW1 ▸ keep_b ((Below.refl _ W0).alloc (Nat.le_refl _) _) hR0
  have hb1 : Below w.heap.size w W1 := hb0.trans (hW1 ▸ ((Below.refl _ W0).alloc hb0.size _))
  have HTK := Lib.hid (taker_any b W0)
  have HT1 := Lib.hid (take_any B b 2 W1 hB1)
  have HR1 := Lib.hid hR1
  have HB1 := Lib.hid hb1
  have HNE := Lib.hid hne
  have HBL : Hid (w.heap.size ≤ B) := Lib.hid (by have := hb0.size; omega)
  have HW0 := Lib.hid hW0
  have HW1 := Lib.hid hW1
  have HS := Lib.hid hs
  clear hB1 hR1 hb1 hne hW0 hW1 hs hR0 hb0
  by_cases hm : takeS b 2 = markS
  case neg =>
    have hP : partS b = none := if_neg fun h => hm h.1
    have hf : ((takeS b 2).toList == [75, 49]) = false := by
      have h := str_ff hm
      rwa [mark_list] at h
    rw [hP]
    clear hm hP
    obtain ⟨q, hq⟩ : ∃ q, takeS b 2 = q := ⟨_, rfl⟩
    rw [hq] at hf HT1
    clear hq
    go_enter Tryz.func21, Tryz.ntmps21
    go_wp2_with fail
    rw [HW0.out]
    go_wp2_with fail
    refine HTK.out.mono ?_
    rintro e w' ⟨rfl, rfl⟩
    rw [HW1.out]
    go_wp2_with fail
    refine HT1.out.mono ?_
    rintro e w1 ⟨rfl, hB1, hG1⟩
    have hR := keep_of hG1 HR1.out HNE.out
    have c0 := cell_of hR 0
    have c1 := cell_of hR 1
    have c2 := cell_of hR 2
    have f0 := free_of hR 0
    have f1 := free_of hR 1
    have f2 := free_of hR 2
    have HR := Lib.hid hR
    clear hR
    go_wp2
    refine bodyPost_ret (v := partV none) (res3 Tryz.results21 _ _ _ w.heap.size _ _ _ rfl rfl rfl (load3 (set3_at HR.out _ _ _) (by kernel_rfl) (by kernel_rfl))) rfl ⟨rfl, set3_below _ _ _ (Nat.le_refl _) (below_grown HB1.out hG1 (Nat.le_refl _) HBL.out)⟩
  have hf : ((takeS b 2).toList == [75, 49]) = true := by rw [hm, mark_list]; rfl
  have hP : partS b = if rightH (hdR (restS b 2)) = true ∧ 16 ≤ (hdL (restS b 2)).size ∧ (hdL (restS b 2)).size ≤ 1040 then some (hdR (restS b 2), hdL (restS b 2)) else none := by
    unfold partS
    by_cases hz : rightH (hdR (restS b 2)) = true ∧ 16 ≤ (hdL (restS b 2)).size ∧ (hdL (restS b 2)).size ≤ 1040
    · rw [if_pos ⟨hm, hz⟩, if_pos hz]
    · rw [if_neg (fun h => hz h.2), if_neg hz]
  rw [hP]
  clear hm hP
  obtain ⟨q, hq⟩ : ∃ q, takeS b 2 = q := ⟨_, rfl⟩
  rw [hq] at hf HT1
  clear hq
  have hs2 : (restS b 2).size ≤ 1099511627776 := by have := HS.out; rw [restS_size]; omega
  have HRD := Lib.hid fun W h => read_any B (restS b 2) hs2 W h
  obtain ⟨h, hh⟩ : ∃ h, hdR (restS b 2) = h := ⟨_, rfl⟩
  obtain ⟨r, hr⟩ : ∃ r, hdL (restS b 2) = r := ⟨_, rfl⟩
  have hrs : r.size ≤ b.size := by
    rw [← hr]; unfold hdL idL; simp only [restS_size]; omega
  have htk : takeS r b.size = r := by
    unfold takeS; rw [Nat.min_eq_right hrs]; exact ByteArray.extract_zero_size
  have HTR := Lib.hid fun W h => take_any B r b.size W h
  rw [htk] at HTR
  rw [hh, hr] at HRD ⊢
  have HRH := Lib.hid fun W => right_h h W
  obtain ⟨rb, hrb⟩ : ∃ rb, rightH h = rb := ⟨_, rfl⟩
  rw [hrb] at HRH ⊢
  clear htk hh hr hrb hs2
  have HRS : Hid (r.size ≤ b.size) := Lib.hid hrs
  clear hrs
  obtain ⟨i, v, n⟩ := h
  obtain ⟨ANS, hANS⟩ : ∃ A, (if rb = true ∧ 16 ≤ r.size ∧ r.size ≤ 1040 then some (⟨i, v, n⟩, r) else none : Option (Hd × ByteArray)) = A := ⟨_, rfl⟩
  rw [hANS]
  have HANS := Lib.hid hANS
  clear hANS
  unfold hdV at HRD HRH
  simp only at HRD HRH
  go_enter Tryz.func21, Tryz.ntmps21
  go_wp2_with fail
  rw [HW0.out]
  go_wp2_with fail
  refine HTK.out.mono ?_
  rintro e w' ⟨rfl, rfl⟩
  rw [HW1.out]
  go_wp2_with fail
  refine HT1.out.mono ?_
  rintro e w1 ⟨rfl, hB1, hG1⟩
  have HR1 := Lib.hid (keep_of hG1 HR1.out HNE.out)
  have HB1 := Lib.hid (below_grown HB1.out hG1 (Nat.le_refl _) HBL.out)
  have HX1 := Lib.hid hB1
  clear hB1 hG1
  go_wp2_with fail
  refine (HRD.out _ HX1.out).mono ?_
  rintro e w2 ⟨rfl, hB2, hG2⟩
  have HR2 := Lib.hid (keep_of hG2 HR1.out HNE.out)
  have HB2 := Lib.hid (below_grown HB1.out hG2 (Nat.le_refl _) HBL.out)
  have HX2 := Lib.hid hB2
  clear hB2 hG2
  go_wp2_with fail
  obtain ⟨W3, hW3⟩ : ∃ W3, w2.alloc (.cells #[.string i, .int .i64 v, .string n] 23) = W3 := ⟨_, rfl⟩
  have hq3 : w2.heap.size ≠ B := fun e => by
    have h9 := (Array.getElem?_eq_some_iff.1 HX2.out).1
    omega
  have HN3 := Lib.hid hq3
  have HP3 : Hid (W3.heap[w2.heap.size]? = some (.cells #[.string i, .int .i64 v, .string n] 23 (0, 0))) := Lib.hid (hW3 ▸ heap_alloc_new w2 _)
  have hA3 : Below w2.heap.size w2 W3 := hW3 ▸ (Below.refl _ w2).alloc (Nat.le_refl _) _
  have HR3 := Lib.hid (keep_b hA3 HR2.out)
  have HX3 : Hid (Box W3 B r) := Lib.hid (keep_b hA3 HX2.out)
  have HB3 := Lib.hid (HB2.out.trans (hA3.mono HB2.out.size))
  have HS3 : Hid (w2.heap.size < W3.heap.size ∧ w.heap.size ≤ w2.heap.size) := Lib.hid ⟨by rw [← hW3]; simp, HB2.out.size⟩
  rw [hW3]
  obtain ⟨b2, hb2⟩ : ∃ b2, w2.heap.size = b2 := ⟨_, rfl⟩
  rw [hb2] at HP3 HS3 HN3 ⊢
  clear hA3 hW3 hb2 hq3
  refine (HTR.out _ HX3.out).mono ?_
  rintro e w4 ⟨rfl, _, hG4⟩
  have HR4 := Lib.hid (keep_of hG4 HR3.out HNE.out)
  have HP4 := Lib.hid (keep_of hG4 HP3.out HN3.out)
  have HB4 := Lib.hid (below_grown HB3.out hG4 (Nat.le_refl _) HBL.out)
  clear hG4
  have c0 := cell_of HP4.out 0
  have c1 := cell_of HP4.out 1
  have c2 := cell_of HP4.out 2
  cases rb with
  | false =>
    have hP : Hid (ANS = none) := Lib.hid (HANS.out.symm.trans (if_neg fun h => by cases h.1))
    go_wp2_with fail
    refine (HRH.out _).mono ?_
    rintro e w5 ⟨rfl, hb5⟩
    have HR5 := Lib.hid (keep_b hb5 HR4.out)
    have HB5 := Lib.hid (HB4.out.trans (hb5.mono HB4.out.size))
    clear hb5 c0 c1 c2
    have c0 := cell_of HR5.out 0
    have c1 := cell_of HR5.out 1
    have c2 := cell_of HR5.out 2
    have f0 := free_of HR5.out 0
    have f1 := free_of HR5.out 1
    have f2 := free_of HR5.out 2
    go_wp2
    exact bodyPost_ret (v := partV none) (res3 Tryz.results21 _ _ _ w.heap.size _ _ _ rfl rfl rfl (load3 (set3_at HR5.out _ _ _) (by kernel_rfl) (by kernel_rfl))) rfl ⟨by rw [hP.out], set3_below _ _ _ (Nat.le_refl _) HB5.out⟩
  | true =>
    by_cases h16 : r.size < 16
    · have hP : Hid (ANS = none) := Lib.hid (HANS.out.symm.trans (if_neg fun h => by omega))
      have h16i : (r.size : Int) < 16 := by omega
      clear h16
      go_wp2_with fail
      refine (HRH.out _).mono ?_
      rintro e w5 ⟨rfl, hb5⟩
      have HR5 := Lib.hid (keep_b hb5 HR4.out)
      have HB5 := Lib.hid (HB4.out.trans (hb5.mono HB4.out.size))
      clear hb5 c0 c1 c2
      have c0 := cell_of HR5.out 0
      have c1 := cell_of HR5.out 1
      have c2 := cell_of HR5.out 2
      have f0 := free_of HR5.out 0
      have f1 := free_of HR5.out 1
      have f2 := free_of HR5.out 2
      go_wp2
      exact bodyPost_ret (v := partV none) (res3 Tryz.results21 _ _ _ w.heap.size _ _ _ rfl rfl rfl (load3 (set3_at HR5.out _ _ _) (by kernel_rfl) (by kernel_rfl))) rfl ⟨by rw [hP.out], set3_below _ _ _ (Nat.le_refl _) HB5.out⟩
    · by_cases h1040 : 1040 < r.size
      · have hP : Hid (ANS = none) := Lib.hid (HANS.out.symm.trans (if_neg fun h => by omega))
        have h16i : ¬ (r.size : Int) < 16 := by omega
        have h17i : 1040 < (r.size : Int) := by omega
        clear h16 h1040
        go_wp2_with fail
        refine (HRH.out _).mono ?_
        rintro e w5 ⟨rfl, hb5⟩
        have HR5 := Lib.hid (keep_b hb5 HR4.out)
        have HB5 := Lib.hid (HB4.out.trans (hb5.mono HB4.out.size))
        clear hb5 c0 c1 c2
        have c0 := cell_of HR5.out 0
        have c1 := cell_of HR5.out 1
        have c2 := cell_of HR5.out 2
        have f0 := free_of HR5.out 0
        have f1 := free_of HR5.out 1
        have f2 := free_of HR5.out 2
        go_wp2
        exact bodyPost_ret (v := partV none) (res3 Tryz.results21 _ _ _ w.heap.size _ _ _ rfl rfl rfl (load3 (set3_at HR5.out _ _ _) (by kernel_rfl) (by kernel_rfl))) rfl ⟨by rw [hP.out], set3_below _ _ _ (Nat.le_refl _) HB5.out⟩
      · have hP : Hid (ANS = some (⟨i, v, n⟩, r)) := Lib.hid (HANS.out.symm.trans (if_pos ⟨rfl, by omega, by omega⟩))
        have h16i : ¬ (r.size : Int) < 16 := by omega
        have h17i : ¬ 1040 < (r.size : Int) := by omega
        clear h16 h1040
        go_wp2_with fail
        refine (HRH.out _).mono ?_
        rintro e w5 ⟨rfl, hb5⟩
        have HR5 := Lib.hid (keep_b hb5 HR4.out)
        have HP5 := Lib.hid (keep_b hb5 HP4.out)
        have HB5 := Lib.hid (HB4.out.trans (hb5.mono HB4.out.size))
        clear hb5 c0 c1 c2
        have c0 := cell_of HR5.out 0
        have c1 := cell_of HR5.out 1
        have c2 := cell_of HR5.out 2
        have f0 := free_of HR5.out 0
        have f1 := free_of HR5.out 1
        have f2 := free_of HR5.out 2
        have d0 := cell_of HP5.out 0
        have d1 := cell_of HP5.out 1
        have d2 := cell_of HP5.out 2
        go_wp2
        exact bodyPost_ret (v := partV (some (⟨i, v, n⟩, r))) (res3 Tryz.results21 _ _ _ w.heap.size _ _ _ rfl rfl rfl (load3 (set3_at HR5.out _ _ _) (by kernel_rfl) (by kernel_rfl))) rfl ⟨by rw [hP.out], set3_below _ _ _ (Nat.le_refl _) HB5.out⟩
end Go.Proofs.YtfamoakicgmfgaaGreat.Lb
namespace Go.Proofs.YtfamoakicgmfgaaGreat.Lb
open Go.RowKit Go.Own.Lb
theorem res2 {fn : Func} {p u : Tmp} {ty : TypeId} (h : fn.results = #[.cell p ty, .tmp u]) (tmps : Array Value) (P : Program) (w : World) (r : Nat) (x y : Value) (hp : tmps[p]? = some (.pointer (some ⟨r, 0, none⟩))) (hu : tmps[u]? = some y) (hx : (loadVar ty ⟨r, 0, none⟩).run P w = .ok x w) :
    (results fn tmps).run P w = .ok (.tuple #[x, y]) w := by
  simp [results, h, asAddr, hp, hu, hx]
def parseV (o : Option (Hd × ByteArray)) : Value := match o with
  | some (h, _) => .tuple #[hdV h, .int .i64 0]
  | none => .tuple #[hdV noHd, .int .i64 2]
set_option maxRecDepth 100000 in
set_option maxHeartbeats 2000000 in
theorem parse_any (b : ByteArray) (hs : b.size ≤ 1099511627776) (w : World) :
    Calls Tryz.prog 8 #[.string b] w fun e w' => e = .returned (parseV (partS b)) ∧ Below w.heap.size w w' := by
  obtain ⟨W0, hW0⟩ : ∃ W0, w.alloc (.cells #[.string { data := #[] }, .int .i64 0, .string { data := #[] }] 23) = W0 := ⟨_, rfl⟩
  have hb0 : Below w.heap.size w W0 := hW0 ▸ (Below.refl _ w).alloc (Nat.le_refl _) _
  have hR0 : W0.heap[w.heap.size]? = some (.cells #[.string { data := #[] }, .int .i64 0, .string { data := #[] }] 23 (0, 0)) := hW0 ▸ heap_alloc_new w _
  have HP := Lib.hid (parted_any b hs W0)
  obtain ⟨o, ho⟩ : ∃ o, partS b = o := ⟨_, rfl⟩
  rw [ho] at HP ⊢
  have HR0 := Lib.hid hR0
  have HB0 := Lib.hid hb0
  have HW0 := Lib.hid hW0
  have hlt : w.heap.size < W0.heap.size := by rw [← hW0]; simp
  have HLT := Lib.hid hlt
  clear hs ho hR0 hb0 hW0 hlt
  rcases o with _ | ⟨⟨i, v, n⟩, r⟩
  · unfold partV parseV hdV noHd at *
    simp only at HP ⊢
    go_enter Tryz.func8, Tryz.ntmps8
    go_wp2_with fail
    rw [HW0.out]
    go_wp2_with fail
    refine HP.out.mono ?_
    rintro e w1 ⟨rfl, hb1⟩
    have HR1 := Lib.hid (keep_b hb1 HR0.out)
    have HB1 := Lib.hid (HB0.out.trans (hb1.mono HB0.out.size))
    clear hb1
    have c0 := fun o => cell_of (keep_b ((Below.refl _ w1).alloc (Nat.le_refl _) o) HR1.out) 0
    have c1 := fun o => cell_of (keep_b ((Below.refl _ w1).alloc (Nat.le_refl _) o) HR1.out) 1
    have c2 := fun o => cell_of (keep_b ((Below.refl _ w1).alloc (Nat.le_refl _) o) HR1.out) 2
    have f0 := fun o => free_of (keep_b ((Below.refl _ w1).alloc (Nat.le_refl _) o) HR1.out) 0
    have f1 := fun o => free_of (keep_b ((Below.refl _ w1).alloc (Nat.le_refl _) o) HR1.out) 1
    have f2 := fun o => free_of (keep_b ((Below.refl _ w1).alloc (Nat.le_refl _) o) HR1.out) 2
    go_wp2
    exact bodyPost_ret (v := .tuple #[.agg #[.string { data := #[] }, .int .i64 0, .string { data := #[] }], .int .i64 2]) (res2 Tryz.results8 _ _ _ w.heap.size _ _ rfl rfl (load3 (set3_at (keep_b ((Below.refl _ w1).alloc (Nat.le_refl _) _) HR1.out) _ _ _) (by kernel_rfl) (by kernel_rfl))) rfl ⟨rfl, set3_below _ _ _ (Nat.le_refl _) (HB1.out.trans ((Below.refl _ w1).alloc HB1.out.size _))⟩
  · unfold partV parseV hdV at *
    simp only at HP ⊢
    go_enter Tryz.func8, Tryz.ntmps8
    go_wp2_with fail
    rw [HW0.out]
    go_wp2_with fail
    refine HP.out.mono ?_
    rintro e w1 ⟨rfl, hb1⟩
    have HR1 := Lib.hid (keep_b hb1 HR0.out)
    have HB1 := Lib.hid (HB0.out.trans (hb1.mono HB0.out.size))
    clear hb1
    have c0 := fun o => cell_of (keep_b ((Below.refl _ w1).alloc (Nat.le_refl _) o) HR1.out) 0
    have c1 := fun o => cell_of (keep_b ((Below.refl _ w1).alloc (Nat.le_refl _) o) HR1.out) 1
    have c2 := fun o => cell_of (keep_b ((Below.refl _ w1).alloc (Nat.le_refl _) o) HR1.out) 2
    have f0 := fun o => free_of (keep_b ((Below.refl _ w1).alloc (Nat.le_refl _) o) HR1.out) 0
    have f1 := fun o => free_of (keep_b ((Below.refl _ w1).alloc (Nat.le_refl _) o) HR1.out) 1
    have f2 := fun o => free_of (keep_b ((Below.refl _ w1).alloc (Nat.le_refl _) o) HR1.out) 2
    go_wp2
    exact bodyPost_ret (v := .tuple #[.agg #[.string i, .int .i64 v, .string n], .int .i64 0]) (res2 Tryz.results8 _ _ _ w.heap.size _ _ rfl rfl (load3 (set3_at (keep_b ((Below.refl _ w1).alloc (Nat.le_refl _) _) HR1.out) _ _ _) (by kernel_rfl) (by kernel_rfl))) rfl ⟨rfl, set3_below _ _ _ (Nat.le_refl _) (HB1.out.trans ((Below.refl _ w1).alloc HB1.out.size _))⟩
/-- A name has two bytes a rune at most. -/
theorem nm_bytes : ∀ (l : List Nat) (f : Bool) (n : Nat), nm f l = some n → l.length ≤ 2 * n
  | [], _, _, _ => Nat.zero_le _
  | [c], f, n, h => by
    unfold nm at h
    split at h
    · have := Option.some.inj h; simp; omega
    · cases h
  | c :: d :: r, f, n, h => by
    unfold nm at h
    split at h
    · obtain ⟨m, hm, rfl⟩ := Option.map_eq_some_iff.1 h
      have := nm_bytes (d :: r) false m hm
      simp at this ⊢; omega
    · split at h
      · obtain ⟨m, hm, rfl⟩ := Option.map_eq_some_iff.1 h
        have := nm_bytes r false m hm
        simp; omega
      · cases h
theorem runes_bytes {s : ByteArray} (h : 0 < runesN s) : s.size ≤ 64 := by
  unfold runesN at h
  cases hn : nm true (bys s) with
  | none => rw [hn] at h; simp [runesOf] at h
  | some n =>
    rw [hn] at h
    have h1 := nm_bytes _ _ _ hn
    rw [bys_length] at h1
    unfold runesOf at h
    simp only at h
    split at h <;> omega
theorem text_len {L : List P2} (h : rightP L = true) : (mkS (textP L)).size ≤ 784 := by
  obtain ⟨h8, hf, _⟩ := (rightP_iff L).1 h
  rw [mkS_size]
  have h1 := encs_le (sortP L) (fun x hx => hf x ((sortP_perm L).mem_iff.1 hx))
  rw [sortP_length] at h1
  show (encs (sortP L)).length ≤ _
  omega
/-- A right head's parts. -/
theorem right_parts {h : Hd} (hr : rightH h = true) : h.id.size ≤ 64 ∧ 1 ≤ h.ver ∧ h.ver ≤ 8 ∧ h.nonce.size = 12 := by
  unfold rightH at hr
  simp only [Bool.and_eq_true, decide_eq_true_eq] at hr
  exact ⟨runes_bytes hr.1.1.1, hr.1.1.2, hr.1.2, hr.2⟩
/-- What the layer below answers, the program's and the document's alike. -/
structure Under (sA : ByteArray → ByteArray → ByteArray → ByteArray → ByteArray) (oA : ByteArray → ByteArray → ByteArray → ByteArray → ByteArray × Int) : Prop where
  size : ∀ k n b t, (sA k n b t).size = t.size + 16
  osize : ∀ k n b t, (oA k n b t).1.size ≤ t.size
  seal_ : ∀ (k n b t : ByteArray) w, k.size = 32 → n.size = 12 → b.size ≤ 65536 → t.size ≤ 1024 → Calls Tryz.prog 16 #[.string k, .string n, .string b, .string t] w fun e w' => e = .returned (.tuple #[.string (sA k n b t), .int .i64 0]) ∧ Below w.heap.size w w'
  rseal : ∀ (k n b t : ByteArray) w, k.size = 32 → n.size = 12 → b.size ≤ 65536 → t.size ≤ 1024 → Calls Tryz.prog 19 #[.string k, .string n, .string b, .string t] w fun e w' => e = .returned (.tuple #[.string (sA k n b t), .int .i64 0]) ∧ Below w.heap.size w w'
  opn : ∀ (k n b t : ByteArray) w, k.size = 32 → n.size = 12 → b.size ≤ 65536 → 16 ≤ t.size → t.size ≤ 1040 → Calls Tryz.prog 22 #[.string k, .string n, .string b, .string t] w fun e w' => e = .returned (.tuple #[.string (oA k n b t).1, .int .i64 (oA k n b t).2]) ∧ Below w.heap.size w w'
  ropn : ∀ (k n b t : ByteArray) w, k.size = 32 → n.size = 12 → b.size ≤ 65536 → 16 ≤ t.size → t.size ≤ 1040 → Calls Tryz.prog 23 #[.string k, .string n, .string b, .string t] w fun e w' => e = .returned (.tuple #[.string (oA k n b t).1, .int .i64 (oA k n b t).2]) ∧ Below w.heap.size w w'
variable {sA : ByteArray → ByteArray → ByteArray → ByteArray → ByteArray} {oA : ByteArray → ByteArray → ByteArray → ByteArray → ByteArray × Int}
open Classical in
/-- What Build answers. -/
noncomputable def buildA (sA : ByteArray → ByteArray → ByteArray → ByteArray → ByteArray) (k : ByteArray) (h : Hd) (L : List P2) (t : ByteArray) : ByteArray × Int :=
  if rightP L = true ∧ rightH h = true ∧ k.size = 32 then (if t.size ≤ 1024 then (laidH h ++ sA k h.nonce (laidH h ++ mkS (textP L)) t, 0) else ({ data := #[] }, 3)) else ({ data := #[] }, 2)
open Classical in
/-- What Open answers. -/
noncomputable def openA (oA : ByteArray → ByteArray → ByteArray → ByteArray → ByteArray × Int) (k b : ByteArray) (L : List P2) : ByteArray × Int :=
  match partS b with
  | some (h, r) => if rightP L = true ∧ k.size = 32 then oA k h.nonce (laidH h ++ mkS (textP L)) r else ({ data := #[] }, 2)
  | none => ({ data := #[] }, 2)
end Go.Proofs.YtfamoakicgmfgaaGreat.Lb

/- Blob's small calls, by contract: a head's bytes, whether it is right, a number of a byte. No condition but the sizes. -/
import Derived.Test.YtfamoakicgmfgaaLC6
import Derived.Test.YtfamoakicgmfgaaLN2
import Derived.Test.YtfamoakicgmfgaaLG1
import Derived.Laws.BytesArg
import Derived.Laws.Cells
import Derived.Deep.Slices
namespace Go.Proofs.Ytfamoakicgmfgaa.Lb
open Go.RowKit Go.Own.Lb
/-- A head. -/
structure Hd where
  id : ByteArray
  ver : Int
  nonce : ByteArray
def hdV (h : Hd) : Value := .agg #[.string h.id, .int .i64 h.ver, .string h.nonce]
def noHd : Hd := ⟨{ data := #[] }, 0, { data := #[] }⟩
def rightH (h : Hd) : Bool := decide (0 < runesN h.id) && decide (1 ≤ h.ver) && decide (h.ver ≤ 8) && decide (h.nonce.size = 12)
/-- A number's byte, as a text. -/
def oneS (n : Nat) : ByteArray := { data := #[UInt8.ofNat n] }
theorem oneS_size (n : Nat) : (oneS n).size = 1 := rfl
def markS : ByteArray := { data := #[75, 49] }
def laidH (h : Hd) : ByteArray := markS ++ oneS h.id.size ++ h.id ++ oneS h.ver.toNat ++ h.nonce
theorem laidH_size (h : Hd) : (laidH h).size = 4 + h.id.size + h.nonce.size := by
  unfold laidH markS
  simp only [ByteArray.size_append, oneS_size]
  rw [show ({ data := #[75, 49] } : ByteArray).size = 2 from rfl]
  omega
theorem conv_row (w : World) (cs : List Nat) (n : Nat) (hn : cs.length = n) : (convert 40 9 (.slice (some ⟨w.heap.size, 0, none⟩) n n)).run Try.prog (w.alloc (.cells (cs.map fun (k : Nat) => Value.int .u8 (k : Int)).toArray 5)) = .ok (.string ⟨(cs.map UInt8.ofNat).toArray⟩) (w.alloc (.cells (cs.map fun (k : Nat) => Value.int .u8 (k : Int)).toArray 5)) := by
  have hl := run_loadCells_list (P := Try.prog) (w.alloc (.cells (cs.map fun (k : Nat) => Value.int .u8 (k : Int)).toArray 5)) ⟨w.heap.size, 0, none⟩ (cs.map fun (k : Nat) => Value.int .u8 (k : Int)) (fun j u hu => by
    rw [show (⟨w.heap.size, 0, none⟩ : Addr).add j = ⟨w.heap.size, j, none⟩ by unfold Addr.add; split <;> simp_all, cell_new]
    simpa using hu)
  rw [List.length_map, hn] at hl
  have hl' : (loadCells ⟨w.heap.size, 0, none⟩ n).run Try.prog (w.alloc (.cells (cs.map fun (k : Nat) => Value.int .u8 (k : Int)).toArray 5)) = .ok ((cs.map fun (k : Nat) => (k : Int)).map (Value.int .u8)).toArray (w.alloc (.cells (cs.map fun (k : Nat) => Value.int .u8 (k : Int)).toArray 5)) := by
    rw [hl]; simp [Function.comp_def]
  rw [run_convert_bytes_string _ 40 9 5 _ _ _ Try.underlying40 Try.underlying5 Try.underlying9, run_bytesToString _ _ _ _ _ hl', foldl_push_bytes]
  simp [Function.comp_def]
theorem conv1 (w : World) (k : Nat) (z : Int) (hz : (k : Int) = z) : (convert 40 9 (.slice (some ⟨w.heap.size, 0, none⟩) 1 1)).run Try.prog (w.alloc (.cells #[.int .u8 z] 5)) = .ok (.string (oneS k)) (w.alloc (.cells #[.int .u8 z] 5)) := by
  subst hz
  exact conv_row w [k] 1 rfl
theorem oneS_mod (n : Nat) : oneS (n % 256) = oneS n := by
  unfold oneS
  congr 2
  rw [show UInt8.ofNat (n % 256) = UInt8.ofNat n from UInt8.toNat_inj.1 (by simp)]
theorem wrapu8 (n : Nat) : IntKind.u8.wrap (n : Int) = ((n % 256 : Nat) : Int) := by
  simp [IntKind.wrap, IntKind.signed, IntKind.bits]
set_option maxRecDepth 100000 in
set_option maxHeartbeats 1000000 in
theorem oneByte_any (n : Nat) (w : World) : Calls Try.prog 21 #[.int .i64 (n : Int)] w fun e w' => e = .returned (.string (oneS n)) ∧ Below w.heap.size w w' := by
  have hc := conv1 w (n % 256) ((n % 256 : Nat) : Int) rfl
  rw [oneS_mod] at hc
  have hw : ∀ W, (convert 3 5 (.int .i64 (n : Int))).run Try.prog W = .ok (.int .u8 ((n % 256 : Nat) : Int)) W := fun W => by
    have e : (convert 3 5 (.int .i64 (n : Int))).run Try.prog W = .ok (.int .u8 (IntKind.u8.wrap (n : Int))) W := by kernel_rfl
    rw [e, wrapu8]
  obtain ⟨m, hm⟩ : ∃ m, n % 256 = m := ⟨_, rfl⟩
  rw [hm] at hc hw
  clear hm
  have hb := Lib.hid ((Below.refl _ w).alloc (Nat.le_refl _) (.cells #[.int .u8 (m : Int)] 5))
  go_enter Try.func21, Try.ntmps21
  go_wp2
  go_ret
  exact ⟨rfl, hb.out⟩
set_option maxRecDepth 100000 in
theorem number_none (w : World) : Calls Try.prog 47 #[.string { data := #[] }] w fun e w' => e = .returned (.int .i64 0) ∧ w = w' := by
  go_enter Try.func47, Try.ntmps47
  go_wp2
  go_ret
  exact ⟨rfl, rfl⟩
set_option maxRecDepth 100000 in
theorem number_some (s : ByteArray) (h : 0 < s.size) (w : World) : Calls Try.prog 47 #[.string s] w fun e w' => e = .returned (.int .i64 ((gi (bys s) 0 : Nat) : Int)) ∧ w = w' := by
  have hne : (s.toList == []) = false := by
    have hl : s.toList.length = s.size := by rw [ByteArray.toList_eq]; rfl
    cases h : s.toList with
    | nil => rw [h] at hl; simp at hl; omega
    | cons a l => rfl
  have hix : ∀ W, (Instr.index 9 (.string s) (.int .i64 0)).run Try.prog W = .ok (.int .u8 ((gi (bys s) 0 : Nat) : Int)) W := fun W => by
    rw [gi_at s 0 h]
    have := run_index_string (P := Try.prog) W 9 s .i64 0 Try.underlying9
    rw [dif_pos ⟨by omega, by omega⟩] at this
    exact this
  obtain ⟨c, hc⟩ : ∃ c, gi (bys s) 0 = c := ⟨_, rfl⟩
  have hcb : c < 256 := by rw [← hc]; exact gi_bys_lt s 0
  rw [hc] at hix ⊢
  clear hc h
  go_enter Try.func47, Try.ntmps47
  go_wp2
  go_ret
  exact ⟨rfl, rfl⟩
theorem cell_later {w W0 w' : World} {c : Array Value} {T : TypeId} (hW : w.alloc (.cells c T) = W0) (hb : Below W0.heap.size W0 w') (j : Nat) : w'.cell? ⟨w.heap.size, j, none⟩ = c[j]? := by
  have h0 : W0.heap[w.heap.size]? = some (.cells c T (0, 0)) := by rw [← hW]; exact heap_alloc_new w _
  have h1 := (hb.block _ (Array.getElem?_eq_some_iff.1 h0).1).trans h0
  simp only [World.cell?, h1, Option.isSome_none, Bool.false_eq_true, if_false]
set_option maxRecDepth 100000 in
set_option maxHeartbeats 1000000 in
theorem right_h (h : Hd) (w : World) : Calls Try.prog 11 #[hdV h] w fun e w' => e = .returned (.bool (rightH h)) ∧ Below w.heap.size w w' := by
  obtain ⟨id, ver, nonce⟩ := h
  unfold rightH hdV
  simp only
  obtain ⟨W0, hW0⟩ : ∃ W0, w.alloc (.cells #[.string id, .int .i64 ver, .string nonce] 23) = W0 := ⟨_, rfl⟩
  have hb0 := Lib.hid (show Below w.heap.size w W0 from hW0 ▸ (Below.refl _ w).alloc (Nat.le_refl _) _)
  have c0 : W0.cell? ⟨w.heap.size, 0, none⟩ = some (.string id) := by rw [← hW0, cell_new]; rfl
  have c1 : W0.cell? ⟨w.heap.size, 1, none⟩ = some (.int .i64 ver) := by rw [← hW0, cell_new]; rfl
  have c2 : W0.cell? ⟨w.heap.size, 2, none⟩ = some (.string nonce) := by rw [← hW0, cell_new]; rfl
  have hlt : w.heap.size < W0.heap.size := by rw [← hW0]; simp
  have HR := Lib.hid (right_any id W0)
  have hsz : (W0.heap.size) = W0.heap.size := rfl
  clear hsz
  rcases Nat.eq_zero_or_pos (runesN id) with hz | hz
  · have hd : decide (0 < runesN id) = false := decide_eq_false (by omega)
    rw [hd] at HR ⊢
    simp only [Bool.false_and]
    have HW0 := Lib.hid hW0
    clear hz hd hW0
    go_enter Try.func11, Try.ntmps11
    go_wp2_with fail
    rw [HW0.out]
    go_wp2_with fail
    refine HR.out.mono ?_
    rintro e w' ⟨rfl, hb⟩
    replace hb := Lib.hid (hb0.out.trans (hb.mono hb0.out.size))
    go_wp2
    go_ret
    exact ⟨rfl, hb.out⟩
  · have hd : decide (0 < runesN id) = true := decide_eq_true hz
    rw [hd] at HR ⊢
    simp only [Bool.true_and]
    have HW0 := Lib.hid hW0
    clear hz hd hW0 c1 c2
    by_cases h1 : 1 ≤ ver
    case neg =>
      have hd : decide (1 ≤ ver) = false := decide_eq_false h1
      rw [hd]
      simp only [Bool.false_and]
      clear h1
      go_enter Try.func11, Try.ntmps11
      go_wp2_with fail
      rw [HW0.out]
      go_wp2_with fail
      refine HR.out.mono ?_
      rintro e w' ⟨rfl, hb⟩
      have c1 : w'.cell? ⟨w.heap.size, 1, none⟩ = some (.int .i64 ver) := cell_later HW0.out hb 1
      replace hb := Lib.hid (hb0.out.trans (hb.mono hb0.out.size))
      go_wp2
      go_ret
      exact ⟨rfl, hb.out⟩
    have hd : decide (1 ≤ ver) = true := decide_eq_true h1
    rw [hd]
    simp only [Bool.true_and]
    clear hd
    by_cases h2 : ver ≤ 8
    case neg =>
      have hd : decide (ver ≤ 8) = false := decide_eq_false h2
      rw [hd]
      simp only [Bool.false_and]
      clear hd
      go_enter Try.func11, Try.ntmps11
      go_wp2_with fail
      rw [HW0.out]
      go_wp2_with fail
      refine HR.out.mono ?_
      rintro e w' ⟨rfl, hb⟩
      have c1 : w'.cell? ⟨w.heap.size, 1, none⟩ = some (.int .i64 ver) := cell_later HW0.out hb 1
      replace hb := Lib.hid (hb0.out.trans (hb.mono hb0.out.size))
      go_wp2
      go_ret
      exact ⟨rfl, hb.out⟩
    have hd : decide (ver ≤ 8) = true := decide_eq_true h2
    rw [hd]
    simp only [Bool.true_and]
    clear hd
    have hq : ((nonce.size : Int) == 12) = decide (nonce.size = 12) := by
      rw [Bool.eq_iff_iff]; simp; omega
    obtain ⟨q, hqq⟩ : ∃ q, decide (nonce.size = 12) = q := ⟨_, rfl⟩
    rw [hqq] at hq ⊢
    clear hqq
    go_enter Try.func11, Try.ntmps11
    go_wp2_with fail
    rw [HW0.out]
    go_wp2_with fail
    refine HR.out.mono ?_
    rintro e w' ⟨rfl, hb⟩
    have c1 : w'.cell? ⟨w.heap.size, 1, none⟩ = some (.int .i64 ver) := cell_later HW0.out hb 1
    have c2 : w'.cell? ⟨w.heap.size, 2, none⟩ = some (.string nonce) := cell_later HW0.out hb 2
    replace hb := Lib.hid (hb0.out.trans (hb.mono hb0.out.size))
    go_wp2
    go_ret
    exact ⟨rfl, hb.out⟩
set_option maxRecDepth 100000 in
set_option maxHeartbeats 1000000 in
theorem laid_h (h : Hd) (hi : h.id.size ≤ 1000000) (hv : 0 ≤ h.ver) (hn : h.nonce.size ≤ 1000000) (w : World) : Calls Try.prog 12 #[hdV h] w fun e w' => e = .returned (.string (laidH h)) ∧ Below w.heap.size w w' := by
  obtain ⟨id, ver, nonce⟩ := h
  unfold laidH hdV
  simp only at hi hv hn ⊢
  obtain ⟨v, rfl⟩ : ∃ v : Nat, ver = v := ⟨ver.toNat, by omega⟩
  rw [Int.toNat_natCast]
  have o1 := oneS_size id.size
  have o2 := oneS_size v
  have o3 : markS.size = 2 := rfl
  have HO1' := fun W => oneByte_any id.size W
  have HO2' := fun W => oneByte_any v W
  have a1 : ∀ W, (Op.stringOp .add { data := #[75, 49] } (oneS id.size)).run Try.prog W = .ok (.string (markS ++ oneS id.size)) W := fun W => run_string_add_sum W _ _ (by rw [show ({ data := #[75, 49] } : ByteArray).size = 2 from rfl]; omega)
  have a2 : ∀ W, (Op.stringOp .add (markS ++ oneS id.size) id).run Try.prog W = .ok (.string (markS ++ oneS id.size ++ id)) W := fun W => run_string_add_sum W _ _ (by rw [ByteArray.size_append]; omega)
  have a3 : ∀ W, (Op.stringOp .add (markS ++ oneS id.size ++ id) (oneS v)).run Try.prog W = .ok (.string (markS ++ oneS id.size ++ id ++ oneS v)) W := fun W => run_string_add_sum W _ _ (by rw [ByteArray.size_append, ByteArray.size_append]; omega)
  have a4 : ∀ W, (Op.stringOp .add (markS ++ oneS id.size ++ id ++ oneS v) nonce).run Try.prog W = .ok (.string (markS ++ oneS id.size ++ id ++ oneS v ++ nonce)) W := fun W => run_string_add_sum W _ _ (by rw [ByteArray.size_append, ByteArray.size_append, ByteArray.size_append]; omega)
  generalize markS ++ oneS id.size ++ id ++ oneS v ++ nonce = s4 at *
  generalize markS ++ oneS id.size ++ id ++ oneS v = s3 at *
  generalize markS ++ oneS id.size ++ id = s2 at *
  generalize markS ++ oneS id.size = s1 at *
  generalize oneS id.size = t1 at *
  generalize oneS v = t2 at *
  obtain ⟨W0, hW0⟩ : ∃ W0, w.alloc (.cells #[.string id, .int .i64 (v : Int), .string nonce] 23) = W0 := ⟨_, rfl⟩
  have hb0 := Lib.hid (show Below w.heap.size w W0 from hW0 ▸ (Below.refl _ w).alloc (Nat.le_refl _) _)
  have HO1 : Hid (∀ g : Gw W0, Calls Try.prog 21 #[.int .i64 (id.size : Int)] g.1 fun x w' => x = .returned (.string t1) ∧ Grew W0 w') := Lib.hid fun g => grew_call (HO1' _)
  have HO2 : Hid (∀ g : Gw W0, Calls Try.prog 21 #[.int .i64 (v : Int)] g.1 fun x w' => x = .returned (.string t2) ∧ Grew W0 w') := Lib.hid fun g => grew_call (HO2' _)
  have c0 : ∀ g : Gw W0, g.1.cell? ⟨w.heap.size, 0, none⟩ = some (.string id) := fun g => cell_later hW0 g.2 0
  have c1 : ∀ g : Gw W0, g.1.cell? ⟨w.heap.size, 1, none⟩ = some (.int .i64 (v : Int)) := fun g => cell_later hW0 g.2 1
  have c2 : ∀ g : Gw W0, g.1.cell? ⟨w.heap.size, 2, none⟩ = some (.string nonce) := fun g => cell_later hW0 g.2 2
  have HW0 := Lib.hid hW0
  clear hW0 o1 o2 o3 hi hv hn HO1' HO2'
  go_enter Try.func12, Try.ntmps12
  go_wp2_with fail
  rw [HW0.out]
  refine wp_region_grew (by kernel_rfl) (by kernel_rfl) ?_
  repeat (go_big_quiet_step ((first | (with_reducible exact HO1.out _) | (with_reducible exact HO2.out _))))
  refine wpQuiet_nil ?_
  intro g
  have HB := Lib.hid (hb0.out.trans (g.2.mono hb0.out.size))
  go_wp2
  go_ret
  exact ⟨rfl, HB.out⟩
end Go.Proofs.Ytfamoakicgmfgaa.Lb

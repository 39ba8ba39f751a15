/- Bytes taken off a text; a copy of a text: by contract. No condition but the sizes. -/
import Derived.Test.YtncbgonanoihfaaW3
import Derived.Test.YtncbgonanoihfaaU1
import Derived.Shelf.Strconv.Clone
import Derived.WalkLawsBesides
import Derived.OneCell
namespace Go.Proofs.Ytncbgonanoihfaa
open Go.RowKit Go.Own
def itClone_ren : Go.Shelf.Ren := ⟨fun | 316 => 46 | n => n, fun | 37 => 56 | 127 => 84 | n => n, fun | n => n⟩
theorem itClone : Go.Proofs.LaysM.n316 Try.prog itClone_ren := {
  mixed := by kernel_rfl
  f316 := Try.func46.trans (congrArg some (by kernel_rfl))
  t0 := Try.underlying0
  a0 := Try.isAgg0
  z0 := Try.sizeOf0
  v0 := Try.zeroValue0
  t3 := Try.underlying3
  a3 := Try.isAgg3
  z3 := Try.sizeOf3
  v3 := Try.zeroValue3
  t4 := Try.underlying4
  a4 := Try.isAgg4
  z4 := Try.sizeOf4
  v4 := Try.zeroValue4
  t9 := Try.underlying9
  a9 := Try.isAgg9
  z9 := Try.sizeOf9
  v9 := Try.zeroValue9
  t37 := Try.underlying56
  a37 := Try.isAgg56
  z37 := Try.sizeOf56
  v37 := Try.zeroValue56
  t127 := Try.underlying84
  a127 := Try.isAgg84
  z127 := Try.sizeOf84
  v127 := Try.zeroValue84
  t5 := Try.underlying5
  a5 := Try.isAgg5
  z5 := Try.sizeOf5
  v5 := Try.zeroValue5
  i0 := by kernel_rfl
  i3 := by kernel_rfl
  i4 := by kernel_rfl
  i5 := by kernel_rfl
  i9 := by kernel_rfl
  i37 := by kernel_rfl
  i127 := by kernel_rfl }
set_option maxRecDepth 100000 in
theorem clone_any (s : ByteArray) (hs : s.size ≤ 281474976710656) (w : World) : Calls Try.prog 45 #[.string s] w fun e w' => e = .returned (.string s) ∧ Below w.heap.size w w' := by
  have HC : Hid (Calls Try.prog 46 #[.string s] w fun e w' => e = .returned (.string s) ∧ Below w.heap.size w w') := Lib.hid (Any.stringslite_Clone itClone s w hs)
  go_enter Try.func45, Try.ntmps45
  go_wp2_with fail
  refine HC.out.mono ?_
  rintro e w' ⟨rfl, hb⟩
  replace hb := Lib.hid hb
  go_wp2
  go_ret
  exact ⟨rfl, hb.out⟩
/-- Block B holds the string s, which may be written. -/
def Box (w : World) (B : Nat) (s : ByteArray) : Prop := w.heap[B]? = some (.cells #[.string s] 9 (0, 0))
theorem Box.lt {w : World} {B : Nat} {s : ByteArray} (h : Box w B s) : B < w.heap.size := (Array.getElem?_eq_some_iff.1 h).1
theorem Box.past {w w' : World} {B : Nat} {s : ByteArray} {row : Option Nat} (h : Box w B s) (hg : w.grownBy w' row) (hne : row ≠ some B) : Box w' B s :=
  (hg.block B h.lt (fun e => hne e.symm)).trans h
theorem Box.below {w w' : World} {B : Nat} {s : ByteArray} (h : Box w B s) (hb : Below w.heap.size w w') : Box w' B s := (hb.block B h.lt).trans h
theorem box_new (w : World) (s : ByteArray) : Box (w.alloc (.cells #[.string s] 9)) w.heap.size s := heap_alloc_new w _
set_option maxRecDepth 100000 in
theorem taker_any (s : ByteArray) (w : World) : Calls Try.prog 27 #[.string s] w fun e w' => e = .returned (.func (.func 40) #[] #[.pointer (some ⟨w.heap.size, 0, none⟩)]) ∧ w.alloc (.cells #[.string s] 9) = w' := by
  go_enter Try.func27, Try.ntmps27
  go_wp2
  go_ret
  exact ⟨rfl, rfl⟩
theorem grown_refl (w : World) (row : Option Nat) : w.grownBy w row := ⟨rfl, rfl, rfl, Nat.le_refl _, fun _ _ _ => rfl⟩
set_option maxRecDepth 100000 in
set_option maxHeartbeats 1000000 in
theorem take_no (B n : Nat) (s : ByteArray) (hs : s.size < n) (w : World) (hB : Box w B s) :
    Calls Try.prog 40 #[.int .i64 (n : Int), .pointer (some ⟨B, 0, none⟩)] w fun e w' => e = .returned (.tuple #[.string { data := #[] }, .bool false]) ∧ w = w' := by
  have c0 := cell_of_one hB
  have d1 : decide ((s.size : Int) < (n : Int)) = true := by simp; omega
  clear hB
  go_enter Try.func40, Try.ntmps40
  go_wp2
  go_ret2
  exact ⟨rfl, rfl⟩
set_option maxRecDepth 100000 in
set_option maxHeartbeats 1000000 in
theorem take_yes (B n : Nat) (s : ByteArray) (hs : n ≤ s.size) (w : World) (hB : Box w B s) :
    Calls Try.prog 40 #[.int .i64 (n : Int), .pointer (some ⟨B, 0, none⟩)] w fun e w' => e = .returned (.tuple #[.string (s.extract 0 n), .bool true]) ∧ Box w' B (s.extract n s.size) ∧ w.grownBy w' (some B) := by
  have c0 := cell_of_one hB
  have f0 := free_of_one hB
  have d1 : decide ((s.size : Int) < (n : Int)) = false := by simp; omega
  have HB := Lib.hid hB
  clear hB
  go_enter Try.func40, Try.ntmps40
  go_wp2
  go_ret2
  refine ⟨rfl, one_setCell HB.out, ?_⟩
  exact ⟨rfl, rfl, rfl, by simp, fun k hk hne => by
    rw [Below.heap_setCell _ _ _ _ (fun e => hne (by rw [e]))]⟩
theorem ext_take (t : List Nat) (n : Nat) : (mkS t).extract 0 n = mkS (t.take n) := by
  apply ByteArray.ext
  simp [mkS, List.map_take]
theorem ext_drop (t : List Nat) (n : Nat) : (mkS t).extract n (mkS t).size = mkS (t.drop n) := by
  apply ByteArray.ext
  simp [mkS, List.map_drop, ByteArray.size]
  exact List.take_of_length_le (by simp)
theorem take_ok (B n : Nat) (t : List Nat) (hs : n ≤ t.length) (w : World) (hB : Box w B (mkS t)) :
    Calls Try.prog 40 #[.int .i64 (n : Int), .pointer (some ⟨B, 0, none⟩)] w fun e w' => e = .returned (.tuple #[.string (mkS (t.take n)), .bool true]) ∧ Box w' B (mkS (t.drop n)) ∧ w.grownBy w' (some B) := by
  have h := take_yes B n (mkS t) (by rw [mkS_size]; exact hs) w hB
  rw [ext_take, ext_drop] at h
  exact h
theorem gi_mkS (l : List Nat) (i : Nat) (hi : i < l.length) (h : ∀ c ∈ l, c < 256) (W : World) : (Instr.index 9 (.string (mkS l)) (.int .i64 (i : Int))).run Try.prog W = .ok (.int .u8 ((gi l i : Nat) : Int)) W := by
  have hz : i < (mkS l).size := by rw [mkS_size]; exact hi
  have := run_index_string (P := Try.prog) W 9 (mkS l) .i64 (i : Int) Try.underlying9
  rw [dif_pos ⟨by omega, by omega⟩] at this
  rw [this]
  congr 3
  have e : gi l i = l[i] := by simp [gi, hi]
  have e2 : (mkS l)[i] = UInt8.ofNat l[i] := by
    show (mkS l).data[i]'_ = _
    simp [mkS]
  rw [e]
  have e3 : ((i : Int).toNat) = i := by simp
  simp only [e3, e2]
  have := h _ (List.getElem_mem hi)
  simp
  omega
theorem val_step (l : List Nat) (i : Nat) (hi : i < l.length) : val (l.take (i + 1)) = val (l.take i) * 256 + gi l i := by
  have e : l.take (i + 1) = l.take i ++ [gi l i] := by
    rw [List.take_add_one]
    simp [gi, hi]
  rw [e, val_snoc]
set_option maxRecDepth 100000 in
set_option maxHeartbeats 1000000 in
theorem num_no (B k : Nat) (s : ByteArray) (hs : s.size < k) (w : World) (hB : Box w B s) :
    Calls Try.prog 41 #[.func (.func 40) #[] #[.pointer (some ⟨B, 0, none⟩)], .int .i64 (k : Int)] w fun e w' => e = .returned (.tuple #[.int .u64 0, .bool false]) ∧ w = w' := by
  have HT := Lib.hid (take_no B k s hs w hB)
  clear hB
  go_enter Try.func41, Try.ntmps41
  go_wp2_with (go_at_call 40; fail)
  refine HT.out.mono ?_
  rintro e w' ⟨rfl, rfl⟩
  go_wp2
  go_loop [8, 18] (fun a i => a = .int .u64 0 ∧ i = .int .i64 0) (fun _ _ => 0)
  case atStart => exact ⟨rfl, rfl⟩
  case round =>
    obtain ⟨rfl, rfl⟩ := hrel
    go_wp2
    go_ret2
    exact ⟨rfl, rfl⟩
set_option maxRecDepth 100000 in
set_option maxHeartbeats 1000000 in
theorem num_yes (B k : Nat) (t : List Nat) (hb : ∀ c ∈ t, c < 256) (hk : k ≤ 8) (hs : k ≤ t.length) (w : World) (hB : Box w B (mkS t)) :
    Calls Try.prog 41 #[.func (.func 40) #[] #[.pointer (some ⟨B, 0, none⟩)], .int .i64 (k : Int)] w fun e w' => e = .returned (.tuple #[.int .u64 ((val (t.take k) : Nat) : Int), .bool true]) ∧ Box w' B (mkS (t.drop k)) ∧ w.grownBy w' (some B) := by
  have HT := Lib.hid (take_ok B k t hs w hB)
  obtain ⟨l, hl⟩ : ∃ l, t.take k = l := ⟨_, rfl⟩
  have hll : l.length = k := by rw [← hl, List.length_take]; omega
  have hlb : ∀ c ∈ l, c < 256 := fun c hc => hb c (by rw [← hl] at hc; exact List.mem_of_mem_take hc)
  rw [hl] at HT ⊢
  have hz : (mkS l).size = k := by rw [mkS_size, hll]
  obtain ⟨q, hq⟩ : ∃ q, mkS l = q := ⟨_, rfl⟩
  have HQ : Hid (mkS l = q) := Lib.hid hq
  rw [hq] at HT hz
  have HLL := Lib.hid hll
  have HLB := Lib.hid hlb
  have HQZ := Lib.hid hz
  clear hB hl hll hlb hb hq hz
  go_enter Try.func41, Try.ntmps41
  go_wp2_with (go_at_call 40; fail)
  refine HT.out.mono ?_
  rintro e w1 ⟨rfl, hb1, hg1⟩
  have HB1 := Lib.hid hb1
  have HG1 := Lib.hid hg1
  clear hb1 hg1
  have hz := HQZ.out
  go_wp2
  clear hz
  go_loop [8, 18] (fun a i => ∃ j : Nat, j ≤ k ∧ i = .int .i64 (j : Int) ∧ a = .int .u64 ((val (l.take j) : Nat) : Int)) (fun _ i => k - (intOf i).toNat)
  case atStart => exact ⟨0, Nat.zero_le _, rfl, rfl⟩
  case round =>
    obtain ⟨j, hj, rfl, rfl⟩ := hrel
    by_cases hlt : j < k
    · have hix := fun W => gi_mkS l j (by rw [HLL.out]; exact hlt) HLB.out W
      rw [HQ.out] at hix
      have hb := HLB.out
      have hgb : gi l j < 256 := by
        have : gi l j = l[j]'(by rw [HLL.out]; exact hlt) := by simp [gi, HLL.out, hlt]
        rw [this]; exact hb _ (List.getElem_mem _)
      have hv : val (l.take j) < 72057594037927936 := by
        have h1 := val_lt (l.take j) (fun c hc => hb c (List.mem_of_mem_take hc))
        have h2 : (l.take j).length = j := by rw [List.length_take, HLL.out]; omega
        rw [h2] at h1
        exact Nat.lt_of_lt_of_le h1 (Nat.pow_le_pow_right (by omega) (by omega : j ≤ 7))
      have HO := Lib.hid (or_u64 _ _ hv hgb)
      have HS := Lib.hid (val_step l j (by rw [HLL.out]; exact hlt))
      clear hb hgb hv
      go_wp2
      go_round
      case rel => exact ⟨j + 1, by omega, by go_num, by rw [HO.out, HS.out]⟩
      case measure => simp [intOf]; omega
    · obtain rfl : j = k := by omega
      have HF : Hid (val (l.take j) = val l) := Lib.hid (by rw [List.take_of_length_le (by rw [HLL.out]; exact Nat.le_refl _)])
      go_wp2
      go_ret2
      exact ⟨by rw [← HF.out]; rfl, HB1.out, HG1.out⟩
end Go.Proofs.Ytncbgonanoihfaa

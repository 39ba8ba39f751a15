/- Are two contexts equal? By contract. A piece off a text, and the pairs read of it. No condition but the rows' sizes. -/
import Derived.Test.YtfihbfkgkljjdaaC4
import Derived.Test.YtfihbfkgkljjdaaN1
import Derived.Shelf.Strconv.Clone
import Derived.WalkLawsBesides
import Derived.OneCell
import Derived.RegionTactic
import Derived.ChangeAlike
namespace Go.Proofs.Ytfihbfkgkljjdaa
open Go.RowKit Go.Own Go.Maps Go.WideMaps
noncomputable def eqB (a b : List P2) : Bool := decide (a.length = b.length) && subB a b
set_option maxRecDepth 100000 in
theorem equal_any (A : List P2) (p : Option Addr) (cap : Nat) (hA : A.length ≤ 1000000) (hs : ∀ x ∈ A, x.1.size ≤ 1000000 ∧ x.2.size ≤ 1000000)
    (C : List P2) (q : Option Addr) (qcap : Nat) (hC : C.length ≤ 1000000) (hsC : ∀ x ∈ C, x.1.size ≤ 1000000 ∧ x.2.size ≤ 1000000) (w : World) (hP : PsC w (.slice p A.length cap) A) (hQ : PsC w (.slice q C.length qcap) C) :
    Calls Try.prog 33 #[.slice p A.length cap, .slice q C.length qcap] w fun e w' => e = .returned (.bool (eqB A C)) ∧ Below w.heap.size w w' := by
  have HS := Lib.hid (subset_any A p cap hA hs C q qcap hC hsC w hP hQ)
  obtain ⟨n, hn⟩ : ∃ n, A.length = n := ⟨_, rfl⟩
  obtain ⟨m, hm⟩ : ∃ m, C.length = m := ⟨_, rfl⟩
  rw [hn] at hA HS ⊢
  rw [hm] at hC HS ⊢
  obtain ⟨b, hb⟩ : ∃ b, subB A C = b := ⟨_, rfl⟩
  rw [hb] at HS
  by_cases h : n = m
  · have HE : Hid (eqB A C = b) := Lib.hid (by simp [eqB, hn, hm, h, hb])
    have hd : ((n : Int) == (m : Int)) = true := by simp; omega
    clear hn hm hb hP hQ hs hsC h
    go_enter Try.func33, Try.ntmps33
    go_wp2_with fail
    refine HS.out.mono ?_
    rintro e w1 ⟨rfl, hb⟩
    replace hb := Lib.hid hb
    go_wp2
    go_ret
    exact ⟨by rw [HE.out]; rfl, hb.out⟩
  · have HE : Hid (eqB A C = false) := Lib.hid (by simp [eqB, hn, hm, h])
    have hd : ((n : Int) == (m : Int)) = false := by simp; omega
    clear hn hm hb hP hQ hs hsC h
    go_enter Try.func33, Try.ntmps33
    go_wp2
    go_ret
    exact ⟨by rw [HE.out]; rfl, Below.refl _ _⟩
def itClone_ren : Go.Shelf.Ren := ⟨fun | 316 => 46 | n => n, fun | 37 => 81 | 127 => 96 | n => n, fun | n => n⟩
theorem itClone : Go.Proofs.LaysM.n316 Try.prog itClone_ren := {
  mixed := by kernel_rfl
  f316 := Try.func46.trans (congrArg some (by kernel_rfl))
  t0 := Try.underlying0
  a0 := Try.isAgg0
  z0 := Try.sizeOf0
  v0 := Try.zeroValue0
  t3 := Try.underlying3
  a3 := Try.isAgg3
  z3 := Try.sizeOf3
  v3 := Try.zeroValue3
  t4 := Try.underlying4
  a4 := Try.isAgg4
  z4 := Try.sizeOf4
  v4 := Try.zeroValue4
  t9 := Try.underlying9
  a9 := Try.isAgg9
  z9 := Try.sizeOf9
  v9 := Try.zeroValue9
  t37 := Try.underlying81
  a37 := Try.isAgg81
  z37 := Try.sizeOf81
  v37 := Try.zeroValue81
  t127 := Try.underlying96
  a127 := Try.isAgg96
  z127 := Try.sizeOf96
  v127 := Try.zeroValue96
  t5 := Try.underlying5
  a5 := Try.isAgg5
  z5 := Try.sizeOf5
  v5 := Try.zeroValue5
  i0 := by kernel_rfl
  i3 := by kernel_rfl
  i4 := by kernel_rfl
  i5 := by kernel_rfl
  i9 := by kernel_rfl
  i37 := by kernel_rfl
  i127 := by kernel_rfl }
set_option maxRecDepth 100000 in
theorem clone_any (s : ByteArray) (hs : s.size ≤ 281474976710656) (w : World) : Calls Try.prog 36 #[.string s] w fun e w' => e = .returned (.string s) ∧ Below w.heap.size w w' := by
  have HC : Hid (Calls Try.prog 46 #[.string s] w fun e w' => e = .returned (.string s) ∧ Below w.heap.size w w') := Lib.hid (Any.stringslite_Clone itClone s w hs)
  go_enter Try.func36, Try.ntmps36
  go_wp2_with fail
  refine HC.out.mono ?_
  rintro e w' ⟨rfl, hb⟩
  replace hb := Lib.hid hb
  go_wp2
  go_ret
  exact ⟨rfl, hb.out⟩
/-- Block B holds the string s, which may be written. -/
def Box (w : World) (B : Nat) (s : ByteArray) : Prop := w.heap[B]? = some (.cells #[.string s] 9 (0, 0))
set_option maxRecDepth 100000 in
set_option maxHeartbeats 1000000 in
theorem take_end (B : Nat) (s : ByteArray) (hz : s.size = 0) (w : World) (hB : Box w B s) :
    Calls Try.prog 53 #[.pointer (some ⟨B, 0, none⟩)] w fun e w' => e = .returned (.tuple #[.string { data := #[] }, .bool false]) ∧ w = w' := by
  have c0 : w.cell? ⟨B, 0, none⟩ = some (.string s) := by simp only [World.cell?, show w.heap[B]? = _ from hB, Option.isSome_none, Bool.false_eq_true, if_false]; rfl
  obtain rfl : s = { data := #[] } := by
    apply ByteArray.ext
    exact Array.eq_empty_of_size_eq_zero hz
  clear hz hB
  go_enter Try.func53, Try.ntmps53
  go_wp2
  go_ret2
  exact ⟨rfl, rfl⟩
set_option maxRecDepth 100000 in
set_option maxHeartbeats 1000000 in
theorem take_piece (B : Nat) (s : ByteArray) (hz : 0 < s.size) (hs : s.size ≤ 1000000) (c m : Nat) (hc : gi (bys s) 0 = c) (hm : min (1 + c) s.size = m) (w : World) (hB : Box w B s) :
    Calls Try.prog 53 #[.pointer (some ⟨B, 0, none⟩)] w fun e w' => e = .returned (.tuple #[.string (s.extract 1 m), .bool true]) ∧ Box w' B (s.extract m s.size) ∧ w.grownBy w' (some B) := by
  have c0 : w.cell? ⟨B, 0, none⟩ = some (.string s) := by simp only [World.cell?, show w.heap[B]? = _ from hB, Option.isSome_none, Bool.false_eq_true, if_false]; rfl
  have hne : (s.toList == []) = false := by
    have hl : s.toList.length = s.size := by rw [ByteArray.toList_eq]; rfl
    cases h : s.toList with
    | nil => rw [h] at hl; simp at hl; omega
    | cons a l => rfl
  have hix : ∀ W, (Instr.index 9 (.string s) (.int .i64 0)).run Try.prog W = .ok (.int .u8 (c : Int)) W := fun W => by
    rw [← hc, gi_at s 0 hz]
    have := run_index_string (P := Try.prog) W 9 s .i64 0 Try.underlying9
    rw [dif_pos ⟨by omega, by omega⟩] at this
    exact this
  have hcb : c < 256 := by rw [← hc]; exact gi_bys_lt s 0
  have hmi : min (1 + (c : Int)) (s.size : Int) = (m : Int) := by omega
  have hm1 : 1 ≤ m := by omega
  have hms : m ≤ s.size := by omega
  have HCL := Lib.hid (clone_any (s.extract 1 m) (by simp; omega))
  clear hm hc
  have HB := Lib.hid hB
  clear hB
  go_enter Try.func53, Try.ntmps53
  go_wp2
  go_quiet (fail)
  go_wp2_with fail
  refine (HCL.out _).mono ?_
  rintro e w1 ⟨rfl, hb⟩
  have hbl : B < w.heap.size := (Array.getElem?_eq_some_iff.1 HB.out).1
  have hB1 : Box w1 B s := (hb.block B hbl).trans HB.out
  have d0 := cell_of_one hB1
  have d1 := free_of_one hB1
  have HB1 := Lib.hid hB1
  have HBB : Hid (Below w.heap.size w w1) := Lib.hid ((below_drewN (Below.refl w.heap.size w) nq).trans hb)
  clear hb hB1 c0
  go_wp2
  go_ret2
  refine ⟨rfl, one_setCell HB1.out, ?_⟩
  have hg : w.grownBy w1 (some B) := ⟨HBB.out.os, HBB.out.tape, HBB.out.output, HBB.out.size, fun k hk _ => HBB.out.block k hk⟩
  exact ⟨hg.os, hg.tape, hg.output, by simp; exact hg.size, fun k hk hne => by
    rw [Below.heap_setCell _ _ _ _ (fun e => hne (by rw [e]))]
    exact hg.block k hk hne⟩
end Go.Proofs.Ytfihbfkgkljjdaa

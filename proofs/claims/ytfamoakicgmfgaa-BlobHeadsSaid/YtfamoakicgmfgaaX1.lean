/- The pieces of a text, as the iterator hands them out: its contract. No condition but the size. -/
import Derived.RangeFuncNested
import Derived.RangeFuncBound
import Derived.RangeFuncCalls
import Derived.RangeFuncLeaves
import Derived.Shelf.Abstract
import Derived.Shelf.RegionOpen
import Derived.WalkKit
import Derived.OwnWalkIn
import Derived.TacticsInMore
import Derived.LoopNIn
import Derived.LoopIn
import Derived.Test.YtfamoakicgmfgaaV1
import Derived.Test.YtfamoakicgmfgaaW1
namespace Go.Own
open Go.RowKit
/-- A piece: no more than 16 bytes, not none. -/
abbrev Pc := { x : ByteArray // 0 < x.size ∧ x.size ≤ 16 }
/-- The piece of number k. -/
def pcB (t : ByteArray) (k : Nat) : Pc := if h : 16 * k < t.size then ⟨t.extract (16 * k) (min (16 * k + 16) t.size), by rw [ByteArray.size_extract]; omega⟩ else ⟨mkS [0], by decide⟩
theorem pcB_val {t : ByteArray} {k : Nat} (h : 16 * k < t.size) : (pcB t k).1 = t.extract (16 * k) (min (16 * k + 16) t.size) := by unfold pcB; rw [dif_pos h]
def pcsB (t : ByteArray) (k : Nat) : List Pc := (List.range k).map (pcB t)
theorem pcsB_succ (t : ByteArray) (k : Nat) : pcsB t (k + 1) = pcsB t k ++ [pcB t k] := by simp [pcsB, List.range_succ]
theorem pcsB_length (t : ByteArray) (k : Nat) : (pcsB t k).length = k := by simp [pcsB]
/-- The block b lies as it lay. -/
def KeepsB (b : Nat) (A B : World) : Prop := ∀ o, blk A b = some o → blk B b = some o
end Go.Own
namespace Go.Proofs.Ytfamoakicgmfgaa
open Go.RowKit Go.Own Go.Shelf
attribute [local go_sem] Oper.semAt_some
theorem isa9x (w : World) : (isAgg 9).run Try.prog w = .ok false w := by kernel_rfl
theorem ag9x : aggSize Try.prog 9 = none := by kernel_rfl
attribute [local go_sem] isa9x ag9x
set_option maxRecDepth 100000 in
set_option maxHeartbeats 1000000 in
theorem pieces_stops (t : ByteArray) (ht : t.size ≤ 1000000) (b n : Nat) (w : World) (hb : blk w b = some (.cells #[.string t] 9 (0, 0))) :
    SeqStopsK Fence.wide n Try.prog 62 #[.pointer (some ⟨b, 0, none⟩)] (fun x : Pc => #[.string x.1]) (KeepsB b) (fun xs => xs = pcsB t ((t.size + 15) / 16)) (fun _ => True) ((t.size + 15) / 16) w := by
  intro l J Jx W hW hJ hJx hY h0
  have hbW : blk W b = some (.cells #[.string t] 9 (0, 0)) := by
    have hbl : b < w.heap.size := by
      unfold blk at hb
      rcases Nat.lt_or_ge b w.heap.size with h' | h'
      · exact h'
      · simp [Array.getElem?_eq_none h'] at hb
    unfold blk at hb ⊢
    rw [hW.block b hbl]; exact hb
  have HBW := Lib.hid hbW
  obtain ⟨N, hN⟩ : ∃ N, (t.size + 15) / 16 = N := ⟨_, rfl⟩
  rw [hN] at hY ⊢
  have HY := Lib.hid hY
  have H0 := Lib.hid h0
  have HN : Hid (16 * N < t.size + 16 ∧ t.size ≤ 16 * N) := Lib.hid (by omega)
  clear hY h0 hbW hb hW hJ hJx hN
  refine callsIn_of_wp Try.func62 rfl trivial ?_ rfl
  simp only [Try.ntmps62, List.size_toArray, List.length_cons, List.length_nil, Nat.reduceAdd, Nat.reduceSub, Array.replicate_succ, Array.replicate_zero, List.push_toArray, List.append_toArray, List.nil_append, List.cons_append]
  gi_wp2
  gi_loopw [3] (fun p wr => ∃ k : Nat, k ≤ N ∧ p = .int .i64 ((16 * k : Nat) : Int) ∧ Hid (blk wr b = some (.cells #[.string t] 9 (0, 0))) ∧ Hid (J (pcsB t k) wr)) (fun p _ => t.size + 16 - (intOf p).toNat)
  case atStart => exact ⟨0, by omega, rfl, HBW, H0⟩
  case round =>
    obtain ⟨k, hk, rfl, hB, hJ⟩ := hrel
    have hb' := hB.out
    obtain ⟨p, hp⟩ : ∃ p, 16 * k = p := ⟨_, rfl⟩
    rw [hp]
    by_cases hlt : p < t.size
    · have hpi : (p : Int) < (t.size : Int) := by omega
      have hkN : k < N := by have := HN.out; omega
      obtain ⟨fn, tmps, assign, body, hy, hR⟩ := HY.out (pcsB t k) (pcB t k) wr hJ.out (by rw [pcsB_length]; exact hkN)
      obtain ⟨p2, hp2⟩ : ∃ p2, p + 16 = p2 := ⟨_, rfl⟩
      have hp2i : (p : Int) + 16 = (p2 : Int) := by omega
      have hpt : (p : Int) ≤ (t.size : Int) := by omega
      have HP := Lib.hid hp
      have HP2 := Lib.hid hp2
      by_cases h16 : t.size < p2
      · have e : (pcB t k).1 = t.extract p t.size := by rw [pcB_val (by omega), hp, Nat.min_eq_right (by omega)]
        have h16i : ¬ (p2 : Int) < (t.size : Int) := by omega
        have h16k : ¬ (p2 : Int) ≤ (t.size : Int) := by omega
        have h16j : (t.size : Int) ≤ (p2 : Int) := by omega
        have h16l : (t.size : Int) < (p2 : Int) := by omega
        rw [e] at hy
        clear e hp hp2 h16 hJ
        gi_wp2
        all_goals first
          | (exfalso; omega)
          | (refine ⟨fun h0 => (by cases h0), hR.mono ?_⟩
             rintro e W' (⟨rfl, hJ', hk'⟩ | ⟨rfl, hJx'⟩)
             · rw [← pcsB_succ] at hJ'
               have HJ' := Lib.hid hJ'
               have HB' := Lib.hid (hk' _ hb')
               clear hJ' hk'
               gi_wp2
               go_roundw
               case rel => exact ⟨k + 1, hkN, by have := HP.out; have := HP2.out; congr 1; omega, HB', HJ'⟩
               case measure => have := HP2.out; simp [intOf]; omega
             · gi_wp2
               refine bodyPost_ret (results_none rfl _ _ _) rfl ?_
               exact ⟨⟨_, rfl⟩, .inr ⟨_, trivial, hJx'⟩⟩)
      · have e : (pcB t k).1 = t.extract p p2 := by rw [pcB_val (by omega), hp, hp2, Nat.min_eq_left (by omega)]
        have h16j : ¬ (t.size : Int) < (p2 : Int) := by omega
        have h16k : (p : Int) ≤ (p2 : Int) := by omega
        have h16l : (p2 : Int) ≤ (t.size : Int) := by omega
        rw [e] at hy
        clear e hp hp2 h16 hJ
        gi_wp2
        all_goals first
          | (exfalso; omega)
          | (refine ⟨fun h0 => (by cases h0), hR.mono ?_⟩
             rintro e W' (⟨rfl, hJ', hk'⟩ | ⟨rfl, hJx'⟩)
             · rw [← pcsB_succ] at hJ'
               have HJ' := Lib.hid hJ'
               have HB' := Lib.hid (hk' _ hb')
               clear hJ' hk'
               gi_wp2
               go_roundw
               case rel => exact ⟨k + 1, hkN, by have := HP.out; have := HP2.out; congr 1; omega, HB', HJ'⟩
               case measure => have := HP2.out; simp [intOf]; omega
             · gi_wp2
               refine bodyPost_ret (results_none rfl _ _ _) rfl ?_
               exact ⟨⟨_, rfl⟩, .inr ⟨_, trivial, hJx'⟩⟩)
    · have hpi : ¬ (p : Int) < (t.size : Int) := by omega
      obtain rfl : k = N := by have := HN.out; omega
      gi_wp2
      go_end0
      exact ⟨⟨_, rfl⟩, .inl hJ.out⟩
end Go.Proofs.Ytfamoakicgmfgaa

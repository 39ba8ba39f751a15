/- Strings as rows of bytes, by name. No program. -/
import Derived.WalkKit
import Derived.Lib.Hide
namespace Go.Own
open Go.RowKit
/-- The number at place i (0 behind the end): by name, so that no simp opens it. -/
def gi (s : List Nat) (i : Nat) : Nat := s.getD i 0
/-- A string's bytes; a string of bytes. -/
def bys (s : ByteArray) : List Nat := s.data.toList.map UInt8.toNat
def mkS (l : List Nat) : ByteArray := ⟨(l.map UInt8.ofNat).toArray⟩
theorem bys_length (s : ByteArray) : (bys s).length = s.size := by simp only [bys, List.length_map, Array.length_toList]; rfl
theorem mkS_bys (s : ByteArray) : mkS (bys s) = s := by
  cases s with | mk d => simp [mkS, bys, Function.comp_def]
theorem mkS_size (l : List Nat) : (mkS l).size = l.length := by simp [mkS, ByteArray.size]
theorem bys_lt (s : ByteArray) : ∀ n ∈ bys s, n < 256 := by
  intro n hn
  simp only [bys, List.mem_map] at hn
  obtain ⟨b, _, rfl⟩ := hn
  exact b.toNat_lt
theorem gi_bys_lt (s : ByteArray) (i : Nat) : gi (bys s) i < 256 := by
  unfold gi
  rw [List.getD_eq_getElem?_getD]
  cases h : (bys s)[i]? with
  | none => decide
  | some n => exact bys_lt s n (List.mem_of_getElem? h)
theorem bys_mkS (l : List Nat) (h : ∀ n ∈ l, n < 256) : bys (mkS l) = l := by
  simp only [bys, mkS, List.map_map]
  conv => rhs; rw [← List.map_id l]
  apply List.map_congr_left
  intro n hn
  have := h n hn
  simp; omega
theorem bys_inj {s t : ByteArray} (h : bys s = bys t) : s = t := by rw [← mkS_bys s, h, mkS_bys]
theorem bys_extract (s : ByteArray) (a b : Nat) : bys (s.extract a b) = ((bys s).drop a).take (b - a) := by
  simp [bys, List.extract_eq_take_drop, List.map_take, List.map_drop]
theorem bys_append (s t : ByteArray) : bys (s ++ t) = bys s ++ bys t := by
  simp [bys]
theorem mkS_append (a b : List Nat) : mkS (a ++ b) = mkS a ++ mkS b := by
  apply ByteArray.ext; simp [mkS]
end Go.Own

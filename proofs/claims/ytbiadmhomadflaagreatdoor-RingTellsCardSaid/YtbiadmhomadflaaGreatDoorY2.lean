/- The program's small calls of layer 5, by contract: what is refused, what makes nonces. -/
import Derived.Test.YtbiadmhomadflaaGreatDoorV7
import Derived.Test.YtbiadmhomadflaaGreatDoorN1
import Derived.Test.YtbiadmhomadflaaGreatDoorY0
namespace Go.Proofs.YtbiadmhomadflaaGreatDoor
open Go.RowKit Go.Own
theorem roots_below {w w' : World} (h : Sm.Roots w) (hb : Below w.heap.size w w') : Sm.Roots w' := by
  obtain ⟨t, f, e⟩ := h
  have h0 : 0 < w.heap.size := by
    unfold blk at e
    rcases Nat.lt_or_ge 0 w.heap.size with h' | h'
    · exact h'
    · simp [Array.getElem?_eq_none h'] at e
  exact ⟨t, f, by unfold blk at e ⊢; rw [hb.block 0 h0]; exact e⟩
/-- A key's nonce, and a wrapped key. -/
def nonB (u n k : ByteArray) : ByteArray := (mkS (Sm.tagL (bys u) (bys (n ++ mkS [0] ++ k)))).extract 0 12
theorem nonB_size (u n k : ByteArray) : (nonB u n k).size = 12 := by
  unfold nonB
  rw [ByteArray.size_extract, mkS_size, Sm.tagL_length]
  decide
theorem mk0 : mkS [0] = { data := #[0] } := rfl
def wrefN (u n : Nat) (fits : Bool) : Nat := if u ≠ 32 ∨ fits = false then 2 else if 64 < n then 3 else 0
theorem wrefused_any (u n : ByteArray) (fits : Bool) (w : World) :
    Calls Tryz.prog 47 #[.string u, .string n, .bool fits] w fun e w' => e = .returned (.int .i64 ((wrefN u.size n.size fits : Nat) : Int)) ∧ w = w' := by
  obtain ⟨r, hr⟩ : ∃ r, wrefN u.size n.size fits = r := ⟨_, rfl⟩
  have h : (((u.size : Int) != 32) = true ∧ r = 2) ∨ (((u.size : Int) != 32) = false ∧ fits = false ∧ r = 2) ∨
      (((u.size : Int) != 32) = false ∧ fits = true ∧ 64 < (n.size : Int) ∧ r = 3) ∨ (((u.size : Int) != 32) = false ∧ fits = true ∧ ¬ 64 < (n.size : Int) ∧ r = 0) := by
    rw [← hr]
    unfold wrefN
    cases fits <;> by_cases h1 : u.size = 32 <;> by_cases h3 : 64 < n.size <;> simp [h1, h3] <;> omega
  rw [hr]
  clear hr
  rcases h with ⟨h1, rfl⟩ | ⟨h1, h2, rfl⟩ | ⟨h1, h2, h3, rfl⟩ | ⟨h1, h2, h3, rfl⟩
  all_goals
    go_enter Tryz.func47, Tryz.ntmps47
    go_wp2
    go_ret
    exact ⟨rfl, rfl⟩
theorem noncer_any (u n : ByteArray) (w : World) :
    Calls Tryz.prog 50 #[.string u, .string n] w fun e w' => e = .returned (.func (.func 67) #[] #[.pointer (some ⟨w.heap.size, 0, none⟩), .pointer (some ⟨w.heap.size + 1, 0, none⟩)]) ∧
      w' = Wd w [.cells #[.string u] 9 (0, 0), .cells #[.string n] 9 (0, 0)] 0 := by
  refine calls_wd ?_
  go_enter Tryz.func50, Tryz.ntmps50
  go_wp2
  go_ret
  exact ⟨rfl, rfl⟩
theorem bsS3 (a b c : ByteArray) (w : World) (l : List Obj) (d : Nat) : (Sm.bsN 93 3 #[(0, .string a), (1, .string b), (2, .string c)]).run Tryz.prog (Wd w l d) =
    .ok (.slice (some ⟨w.heap.size + l.length, 0, none⟩) 3 3) (Wd w (l ++ [.cells #[.string a, .string b, .string c] 9 (0, 0)]) d) := by
  rw [← Wd_alloc, ← Wd_size w l d]
  generalize Wd w l d = W
  kernel_rfl
theorem parts3 {w : World} {L : List Obj} {d i : Nat} {a b c : ByteArray} {t : TypeId} {f : Nat × Nat} (h : L[i]? = some (.cells #[.string a, .string b, .string c] t f)) : Sm.PartsO (Wd w L d) (some ⟨w.heap.size + i, 0, none⟩) [a, b, c] := by
  intro j s hs
  refine ⟨_, 0, _, _, _, rfl, by rw [blk_at]; exact h, ?_⟩
  match j, hs with
  | 0, hs => simp at hs; simp [hs]
  | 1, hs => simp at hs; simp [hs]
  | 2, hs => simp at hs; simp [hs]
theorem allB3 (a b c : ByteArray) : Sm.allB [a, b, c] = bys (a ++ b ++ c) := by
  apply Eq.symm
  simp [Sm.allB, bys, ByteArray.data_append]
attribute [local go_sem] isa9 ag9 Sm.ldX_some bsS3
attribute [-go_sem] run_string_add_if
set_option maxRecDepth 100000 in
set_option maxHeartbeats 1000000 in
theorem nonce_any (u n k : ByteArray) (hu : u.size ≤ 1000) (hn : n.size ≤ 1000) (hk : k.size ≤ 1000) (w : World) (hR : Sm.Roots w) (bu bn : Nat) (h1 : blk w bu = some (.cells #[.string u] 9 (0, 0))) (h2 : blk w bn = some (.cells #[.string n] 9 (0, 0))) :
    Calls Tryz.prog 67 #[.string k, .pointer (some ⟨bu, 0, none⟩), .pointer (some ⟨bn, 0, none⟩)] w fun e w' => e = .returned (.string (nonB u n k)) ∧ Grows w w' := by
  have hW1 : ∀ l d, blk (Wd w l d) bu = some (.cells #[.string u] 9 (0, 0)) := fun l d => blk_old _ _ _ _ h1
  have hW2 : ∀ l d, blk (Wd w l d) bn = some (.cells #[.string n] 9 (0, 0)) := fun l d => blk_old _ _ _ _ h2
  clear h1 h2
  obtain ⟨T, hT⟩ : ∃ T, mkS (Sm.tagL (bys u) (bys (n ++ mkS [0] ++ k))) = T := ⟨_, rfl⟩
  have hTs : T.size = 32 := by rw [← hT, mkS_size, Sm.tagL_length]
  have hNON : Hid (nonB u n k = T.extract 0 12) := Lib.hid (by unfold nonB; rw [hT])
  have HTAG : Hid (∀ (l : List Obj) (d : Nat), Calls Tryz.prog 52 #[.string u, .slice (some ⟨w.heap.size + l.length, 0, none⟩) 3 3] (Wd w (l ++ [.cells #[.string n, .string { data := #[0] }, .string k] 9 (0, 0)]) d) fun e w' => e = .returned (.string T) ∧ Grows (Wd w (l ++ [.cells #[.string n, .string { data := #[0] }, .string k] 9 (0, 0)]) d) w') := Lib.hid fun l d => by
    have := Sm.tag_any u (by omega) (Wd w (l ++ [.cells #[.string n, .string { data := #[0] }, .string k] 9 (0, 0)]) d) (hR.wd _ _) (some ⟨w.heap.size + l.length, 0, none⟩) 3 [n, { data := #[0] }, k] (parts3 (t := 9) (f := (0, 0)) (by simp)) (by rw [allB3, bys_length, ByteArray.size_append, ByteArray.size_append]; show n.size + 1 + k.size ≤ _; omega) (by simp)
    rw [allB3, ← mk0, hT] at this
    exact this
  clear hT hu hn hk hR
  refine calls_wd ?_
  go_enter Tryz.func67, Tryz.ntmps67
  go_wp2_with fail
  refine (HTAG.out [] _).mono ?_
  rintro e w' ⟨rfl, g, d, rfl⟩
  rw [Wd_wd]
  go_wp2
  go_ret
  exact ⟨by rw [hNON.out]; rfl, Grows.of _ _ _⟩
end Go.Proofs.YtbiadmhomadflaaGreatDoor

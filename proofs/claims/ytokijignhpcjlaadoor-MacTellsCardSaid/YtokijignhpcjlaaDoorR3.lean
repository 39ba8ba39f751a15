/- Are pieces few and short enough? By contract. -/
import Derived.Test.YtokijignhpcjlaaDoorS7
namespace Go.Proofs.YtokijignhpcjlaaDoor
open Go.RowKit Go.Own

def tot (ss : List ByteArray) (k : Nat) : Nat := (allB (ss.take k)).length
theorem tot_succ (ss : List ByteArray) (k : Nat) (s : ByteArray) (h : ss[k]? = some s) : tot ss (k + 1) = tot ss k + s.size := by
  unfold tot
  rw [allB_succ ss k s h, List.length_append, bys_length]
theorem tot_mono (ss : List ByteArray) (k : Nat) : tot ss k ≤ (allB ss).length := allB_le ss k
theorem tot_all (ss : List ByteArray) : tot ss ss.length = (allB ss).length := by unfold tot; rw [List.take_length]
/-- The slice p of so many strings, from some place of its block on: these. -/
def PartsO (w : World) (p : Option Addr) (ss : List ByteArray) : Prop :=
  ∀ (j : Nat) (s : ByteArray), ss[j]? = some s → ∃ (b o : Nat) (c : Array Value) (t : TypeId) (f : Nat × Nat), p = some ⟨b, o, none⟩ ∧ blk w b = some (.cells c t f) ∧ c[o + j]? = some (Value.string s)
theorem PartsO.grows {w w' : World} {p : Option Addr} {ss : List ByteArray} (h : PartsO w p ss) (hg : Grows w w') : PartsO w' p ss := fun j s hs => by
  obtain ⟨b, o, c, t, f, h1, h2, h3⟩ := h j s hs
  exact ⟨b, o, c, t, f, h1, hg.blk h2, h3⟩
theorem PartsO.wd {w : World} {p : Option Addr} {ss : List ByteArray} (h : PartsO w p ss) (l : List Obj) (d : Nat) : PartsO (Wd w l d) p ss := h.grows (Grows.of _ _ _)
attribute [local go_sem] isa9 ag9 ldX_some
set_option maxRecDepth 100000 in
set_option maxHeartbeats 1000000 in
theorem few_yes (w : World) (p : Option Addr) (cap : Nat) (ss : List ByteArray) (hP : PartsO w p ss) (h1 : ss.length ≤ 100) (h2 : (allB ss).length ≤ 4000) :
    Calls Tryd.prog 8 #[.slice p ss.length cap] w fun e w' => e = .returned (.bool true) ∧ Grows w w' := by
  have HP := Lib.hid hP; clear hP
  have HB := Lib.hid h2; clear h2
  obtain ⟨n, hn⟩ : ∃ n, ss.length = n := ⟨_, rfl⟩
  have HN := Lib.hid hn
  rw [hn] at h1 ⊢
  clear hn
  refine calls_wd ?_
  go_enter Tryd.func8, Tryd.ntmps8
  go_wp2
  go_loopw [3, 4] (fun q i wr => ∃ (k d : Nat), k ≤ n ∧ i = .int .i64 k ∧ q = .int .i64 (tot ss k : Nat) ∧ wr = Wd w [] d) (fun _ i _ => n - (intOf i).toNat)
  case atStart => exact ⟨0, 0, by omega, rfl, rfl, rfl⟩
  case round =>
    obtain ⟨k, d, hk, rfl, rfl, rfl⟩ := hrel
    by_cases hlt : k < n
    · obtain ⟨s, hs⟩ : ∃ s, ss[k]? = some s := ⟨_, List.getElem?_eq_getElem (by rw [HN.out]; exact hlt)⟩
      obtain ⟨b, o, c, t, f, rfl, hblk, hc⟩ := HP.out k s hs
      have hW : ∀ (l : List Obj) (d : Nat), blk (Wd w l d) b = some (.cells c t f) := fun l d => blk_old _ _ _ _ hblk
      obtain ⟨a, ha⟩ : ∃ a, tot ss k = a := ⟨_, rfl⟩
      obtain ⟨y, hy⟩ : ∃ y, tot ss (k + 1) = y := ⟨_, rfl⟩
      have hay : a + s.size = y := by rw [← ha, ← hy, tot_succ ss k s hs]
      have hyb : y ≤ 4000 := by rw [← hy]; exact Nat.le_trans (tot_mono ss _) HB.out
      have hsum : (a : Int) + (s.size : Int) = (y : Int) := by omega
      have hsz : s.size ≤ 4000 := by omega
      have hki : (k : Int) < n := by omega
      have hk100 : ¬ (100 : Int) ≤ (k : Int) := by omega
      have hy4 : ¬ (4000 : Int) < (y : Int) := by omega
      have HY := Lib.hid hy
      rw [ha]
      clear hs hblk hay ha hy
      go_wp2
      go_roundw
      case rel => exact ⟨k + 1, _, by omega, by go_num, by rw [HY.out], rfl⟩
      case measure => simp [intOf]; omega
    · obtain rfl : k = n := by omega
      go_wp2
      go_ret
      exact ⟨rfl, Grows.of _ _ _⟩
/-- The first place at which pieces are too many or too long. -/
theorem first_bad (ss : List ByteArray) (h : ¬ (ss.length ≤ 100 ∧ (allB ss).length ≤ 4000)) : ∃ k, k < ss.length ∧ k ≤ 100 ∧ tot ss k ≤ 4000 ∧ (100 ≤ k ∨ 4000 < tot ss (k + 1)) ∧ ∀ j, j < k → tot ss (j + 1) ≤ 4000 := by
  suffices H : ∀ m, m ≤ ss.length → m ≤ 101 → (∀ j, j < m → tot ss (j + 1) ≤ 4000 ∧ j < 100) ∨ ∃ k, k < m ∧ k ≤ 100 ∧ tot ss k ≤ 4000 ∧ (100 ≤ k ∨ 4000 < tot ss (k + 1)) ∧ ∀ j, j < k → tot ss (j + 1) ≤ 4000 by
    rcases H (min ss.length 101) (by omega) (by omega) with h1 | ⟨k, hk, h2⟩
    · exfalso
      apply h
      have hl : ss.length ≤ 100 := by
        by_cases e : ss.length ≤ 100
        · exact e
        · have := (h1 100 (by omega)).2; omega
      refine ⟨hl, ?_⟩
      rw [← tot_all]
      by_cases e : ss.length = 0
      · rw [e]; show (allB (ss.take 0)).length ≤ 4000; simp [allB]
      · have := (h1 (ss.length - 1) (by omega)).1
        rwa [show ss.length - 1 + 1 = ss.length by omega] at this
    · exact ⟨k, by omega, h2⟩
  intro m
  induction m with
  | zero => intro _ _; exact Or.inl fun j hj => by omega
  | succ m ih =>
    intro h1 h2
    rcases ih (by omega) (by omega) with h3 | ⟨k, hk, h4⟩
    · have hm : tot ss m ≤ 4000 := by
        by_cases e : m = 0
        · subst e; show (allB (ss.take 0)).length ≤ 4000; simp [allB]
        · have := (h3 (m - 1) (by omega)).1
          rwa [show m - 1 + 1 = m by omega] at this
      by_cases h5 : 100 ≤ m ∨ 4000 < tot ss (m + 1)
      · exact Or.inr ⟨m, by omega, by omega, hm, h5, fun j hj => (h3 j hj).1⟩
      · refine Or.inl fun j hj => ?_
        by_cases e : j = m
        · subst e; omega
        · exact h3 j (by omega)
    · exact Or.inr ⟨k, by omega, h4⟩
set_option maxRecDepth 100000 in
set_option maxHeartbeats 1000000 in
theorem few_no (w : World) (p : Option Addr) (cap : Nat) (ss : List ByteArray) (hP : PartsO w p ss) (hS : ∀ s ∈ ss, s.size ≤ 140737488355328) (h : ¬ (ss.length ≤ 100 ∧ (allB ss).length ≤ 4000)) :
    Calls Tryd.prog 8 #[.slice p ss.length cap] w fun e w' => e = .returned (.bool false) ∧ Grows w w' := by
  obtain ⟨kb, hkb, hk100, htk, hbad, hok⟩ := first_bad ss h
  have HP := Lib.hid hP; clear hP h
  have HS := Lib.hid hS; clear hS
  have HBAD := Lib.hid hbad
  have HOK := Lib.hid hok
  obtain ⟨n, hn⟩ : ∃ n, ss.length = n := ⟨_, rfl⟩
  have HN := Lib.hid hn
  rw [hn] at hkb ⊢
  clear hn hbad hok
  refine calls_wd ?_
  go_enter Tryd.func8, Tryd.ntmps8
  go_wp2
  go_loopw [3, 4] (fun q i wr => ∃ (k d : Nat), k ≤ kb ∧ i = .int .i64 k ∧ q = .int .i64 (tot ss k : Nat) ∧ Hid (tot ss k ≤ 4000) ∧ wr = Wd w [] d) (fun _ i _ => n - (intOf i).toNat)
  case atStart => exact ⟨0, 0, by omega, rfl, rfl, Lib.hid (by unfold tot; simp [allB]), rfl⟩
  case round =>
    obtain ⟨k, d, hk, rfl, rfl, h4, rfl⟩ := hrel
    have hlt : k < n := by omega
    obtain ⟨s, hs⟩ : ∃ s, ss[k]? = some s := ⟨_, List.getElem?_eq_getElem (by rw [HN.out]; exact hlt)⟩
    have hsz := HS.out s (List.mem_of_getElem? hs)
    obtain ⟨b, o, c, t, f, rfl, hblk, hc⟩ := HP.out k s hs
    have hW : ∀ (l : List Obj) (d : Nat), blk (Wd w l d) b = some (.cells c t f) := fun l d => blk_old _ _ _ _ hblk
    obtain ⟨a, ha⟩ : ∃ a, tot ss k = a := ⟨_, rfl⟩
    obtain ⟨y, hy⟩ : ∃ y, tot ss (k + 1) = y := ⟨_, rfl⟩
    have ha4 : a ≤ 4000 := by rw [← ha]; exact h4.out
    have hay : a + s.size = y := by rw [← ha, ← hy, tot_succ ss k s hs]
    have hsum : (a : Int) + (s.size : Int) = (y : Int) := by omega
    have hki : (k : Int) < n := by omega
    have HY := Lib.hid hy
    rw [ha]
    by_cases e : k = kb
    · subst e
      have hb2 := HBAD.out
      rw [hy] at hb2
      clear hs hblk hay ha hy
      rcases hb2 with hb3 | hb3
      · have hz : (100 : Int) ≤ (k : Int) := by omega
        go_wp2
        go_ret
        exact ⟨rfl, Grows.of _ _ _⟩
      · have hz : (4000 : Int) < (y : Int) := by omega
        by_cases hz1 : (100 : Int) ≤ (k : Int)
        · go_wp2
          go_ret
          exact ⟨rfl, Grows.of _ _ _⟩
        · go_wp2
          go_ret
          exact ⟨rfl, Grows.of _ _ _⟩
    · have hy4' := HOK.out k (by omega)
      rw [hy] at hy4'
      have hk100' : ¬ (100 : Int) ≤ (k : Int) := by omega
      have hy4 : ¬ (4000 : Int) < (y : Int) := by omega
      clear hs hblk hay ha hy
      go_wp2
      go_roundw
      case rel => exact ⟨k + 1, _, by omega, by go_num, by rw [HY.out], Lib.hid (by rw [HY.out]; exact hy4'), rfl⟩
      case measure => simp [intOf]; omega
end Go.Proofs.YtokijignhpcjlaaDoor

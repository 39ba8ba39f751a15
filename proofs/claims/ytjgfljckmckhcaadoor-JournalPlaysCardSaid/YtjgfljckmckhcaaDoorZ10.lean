/- The digest of parts: by contract. -/
import Derived.Test.YtjgfljckmckhcaaDoorZ09
namespace Go.Proofs.YtjgfljckmckhcaaDoor.Sm
open Go.RowKit Go.Own
/-- All parts' bytes. -/
def allB (ss : List ByteArray) : List Nat := ss.flatMap bys
theorem isa9 (w : World) : (isAgg 9).run Tryd.prog w = .ok false w := by kernel_rfl
theorem ag9 : aggSize Tryd.prog 9 = none := by kernel_rfl
theorem ldX_some {P : Program} {T : TypeId} {b o : Nat} {W : World} {c : Array Value} {t : TypeId} {f : Nat × Nat} (ha : (isAgg T).run P W = .ok false W)
    (h2 : blk W b = some (.cells c t f)) (h3 : (c[o]?).isSome = true) :
    ldX P T none (some (.cells c t f)) b o W = .ok ((c[o]?).getD undef) W := by
  obtain ⟨v, hv⟩ := Option.isSome_iff_exists.1 h3
  rw [ldX_mix1 ha h2 hv, hv]; rfl
/-- The slice p of so many strings: these. -/
def Parts (w : World) (p : Option Addr) (ss : List ByteArray) : Prop :=
  ∀ (j : Nat) (s : ByteArray), ss[j]? = some s → ∃ (b : Nat) (c : Array Value) (t : TypeId) (f : Nat × Nat), p = some ⟨b, 0, none⟩ ∧ blk w b = some (.cells c t f) ∧ c[j]? = some (Value.string s)
theorem allB_succ (ss : List ByteArray) (k : Nat) (s : ByteArray) (h : ss[k]? = some s) : allB (ss.take (k + 1)) = allB (ss.take k) ++ bys s := by
  unfold allB
  rw [List.take_add_one, h]
  simp
theorem allB_le (ss : List ByteArray) (k : Nat) : (allB (ss.take k)).length ≤ (allB ss).length := by
  have : allB ss = allB (ss.take k) ++ allB (ss.drop k) := by unfold allB; rw [← List.flatMap_append, List.take_append_drop]
  rw [this, List.length_append]; omega
attribute [local go_sem] isa9 ag9 ldX_some
set_option maxRecDepth 100000 in
set_option maxHeartbeats 1000000 in
theorem of_any (w : World) (hR : Roots w) (p : Option Addr) (cap : Nat) (ss : List ByteArray) (hP : Parts w p ss) (hb : (allB ss).length ≤ 1099511600000) (hl : ss.length ≤ 1099511627776) :
    Calls Tryd.prog 58 #[.slice p ss.length cap] w fun e w' => e = .returned (.string (mkS (digL (allB ss)))) ∧ Grows w w' := by
  have HR := Lib.hid hR; clear hR
  have HP := Lib.hid hP; clear hP
  have HB := Lib.hid hb; clear hb
  obtain ⟨n, hn⟩ : ∃ n, ss.length = n := ⟨_, rfl⟩
  have HN := Lib.hid hn
  rw [hn] at hl ⊢
  clear hn
  refine calls_wd ?_
  go_enter Tryd.func58, Tryd.ntmps58
  go_wp2_with fail
  refine (new_any w [] _).mono ?_
  rintro e w' ⟨g, d, rfl, rfl⟩
  obtain ⟨j, hj⟩ : ∃ j, ([] : List Obj).length + g.length = j := ⟨_, rfl⟩
  have hget : ([] ++ g ++ [Obj.cells (tc startL (rep 64) 0) 130 (0, 0)])[j]? = some (.cells (tc startL (rep 64) 0) 130 (0, 0)) := by
    rw [← hj]; simp
  have HG := Lib.hid hget
  rw [hj]
  clear hget hj
  generalize [] ++ g ++ [Obj.cells (tc startL (rep 64) 0) 130 (0, 0)] = L0 at *
  go_wp2
  go_loopw [9] (fun i wr => ∃ (k : Nat) (st bl : List Nat) (L : List Obj) (d : Nat), k ≤ n ∧ i = .int .i64 k ∧ Hid (Tal (allB (ss.take k)) st bl) ∧ Hid (L[j]? = some (.cells (tc st bl (allB (ss.take k)).length) 130 (0, 0))) ∧ wr = Wd w L d) (fun i _ => n - (intOf i).toNat)
  case atStart => exact ⟨0, startL, rep 64, L0, d, by omega, rfl, Lib.hid Tal.start, HG, rfl⟩
  case round =>
    clear HG
    obtain ⟨k, st, bl, L, d, hk, rfl, hT, hL, rfl⟩ := hrel
    by_cases hlt : k < n
    · obtain ⟨s, hs⟩ : ∃ s, ss[k]? = some s := ⟨_, List.getElem?_eq_getElem (by rw [HN.out]; exact hlt)⟩
      obtain ⟨b, c, t, f, rfl, hblk, hc⟩ := HP.out k s hs
      have HS := Lib.hid (allB_succ ss k s hs)
      have HK := Lib.hid (allB_le ss (k + 1))
      clear hs
      have hW : ∀ (l : List Obj) (d : Nat), blk (Wd w l d) b = some (.cells c t f) := fun l d => blk_old _ _ _ _ hblk
      clear hblk
      have hki : (k : Int) < n := by omega
      go_wp2_with fail
      refine (add_any w HR.out L d j (allB (ss.take k)) st bl s hT.out hL.out ?hl).mono ?_
      case hl =>
        have h1 := HK.out
        have h2 := HB.out
        rw [HS.out, List.length_append, bys_length] at h1
        omega
      rintro e w' ⟨rfl, st2, bl2, L2, d2, hT2, hL2, rfl⟩
      have HT2 : Hid (Tal (allB (ss.take (k + 1))) st2 bl2) := by rw [HS.out]; exact Lib.hid hT2
      have HL2 : Hid (L2[j]? = some (.cells (tc st2 bl2 (allB (ss.take (k + 1))).length) 130 (0, 0))) := by rw [HS.out]; exact Lib.hid hL2.get
      clear hT2 hL2
      go_wp2
      go_roundw
      case rel => exact ⟨k + 1, st2, bl2, L2, d2, by omega, by go_num, HT2, HL2, rfl⟩
      case measure => simp [intOf]; omega
    · obtain rfl : k = n := by omega
      have HA : Hid (allB (ss.take k) = allB ss) := Lib.hid (by rw [List.take_of_length_le (by rw [HN.out]; exact Nat.le_refl _)])
      go_wp2_with fail
      refine (sum_any w HR.out L d j (allB (ss.take k)) st bl hT.out hL.out (by rw [HA.out]; exact HB.out)).mono ?_
      rintro e w' ⟨rfl, g2, d2, rfl⟩
      rw [HA.out]
      go_wp2
      go_ret
      exact ⟨rfl, Grows.of _ _ _⟩
end Go.Proofs.YtjgfljckmckhcaaDoor.Sm

/- The document's New: by contract. -/
import Derived.Test.YtafbphgfdnmilaaF7
namespace Go.Proofs.Ytafbphgfdnmilaa
open Go.RowKit Go.Own
theorem bs29f (s : ByteArray) (w : World) (l : List Obj) (d : Nat) : (bsN 29 1 #[(0, .string s)]).run Try.prog (Wd w l d) = .ok (.slice (some ⟨w.heap.size + l.length, 0, none⟩) 1 1) (Wd w (l ++ [.cells #[.string s] 9 (0, 0)]) d) := by
  rw [← Wd_alloc, ← Wd_size w l d]
  generalize Wd w l d = W
  kernel_rfl
theorem filE : filL [] = rep 64 := by rw [fil_rep]; rfl
theorem lcs_rep (k : Nat) : lcs (List.replicate k (rep 64)) ++ [.string (mkS (rep 64))] = lcs (List.replicate (k + 1) (rep 64)) := by
  unfold lcs
  rw [List.replicate_succ', List.map_append]; rfl
theorem newR_ok (n : Nat) : (newR n).Ok := ⟨fun x hx => by
  obtain ⟨_, rfl⟩ := List.mem_replicate.1 hx
  exact ⟨rep_length 64, fun v hv => by obtain ⟨_, rfl⟩ := List.mem_replicate.1 hv; omega⟩, fun p hp => by simp [newR] at hp⟩
attribute [local go_sem] bs29f one_slice ldR ldR0 ldR1 ldR2 ldR3 ldR4 ldR5 ldR6 stR stR0 stR1 stR2 stR5 stR5z stR6 z35 al35 set_same app_left set_left at_mid' set_mid' at_mid2' set_mid2' List.getElem?_set_ne
set_option maxRecDepth 100000 in
set_option maxHeartbeats 2000000 in
theorem newR_any (w : World) (l : List Obj) (d n : Nat) (hn : n ≤ 4096) (A : Nat → Prop) (hA : ∀ p, l.length ≤ p → A p) :
    Calls Try.prog 10 #[.int .i64 (n : Int)] (Wd w l d) (RetR A w l (newR n) fun v => v) := by
  obtain ⟨R', hR'⟩ : ∃ R', newR n = R' := ⟨_, rfl⟩
  rw [hR']
  have HR' := Lib.hid hR'
  have HA := Lib.hid hA
  clear hR' hA
  go_enter Try.func10, Try.ntmps10
  go_wp2
  go_loopw [4] (fun x wr => ∃ (kk : Nat) (lc : List Obj) (e : Nat) (v : Value), kk ≤ n ∧ x = .int .i64 kk ∧ wr = Wd w lc e ∧ Hid (Ext l lc) ∧ lc[l.length]? = some (.cells (rc (.slice none 0 0) (.slice none 0 0) rk0) 35 (0, 0)) ∧ lc[l.length + 1]? = some (.cells (rc v (.slice none 0 0) rk0) 35 (0, 0)) ∧ Hid (RowV (fun p => l.length + 2 ≤ p) w lc 1 kk v (lcs (List.replicate kk (rep 64))))) (fun x _ => n - (intOf x).toNat)
  case atStart => exact ⟨0, _, _, .slice none 0 0, by omega, rfl, rfl, Lib.hid (Ext.app _ _), at_mid' rfl, at_next rfl, Lib.hid (.inl ⟨rfl, rfl, rfl⟩)⟩
  case round =>
    obtain ⟨kk, lc, e, v, hkk, rfl, rfl, HX, hb0, hb1, HROW⟩ := hrel
    have hv := RowV.one HROW.out
    have hll : l.length + 2 ≤ lc.length := (List.getElem?_eq_some_iff.1 hb1).1
    by_cases hlt : kk < n
    · have hli : (kk : Int) < n := by omega
      have HB0 := Lib.hid hb0
      have HB1 := Lib.hid hb1
      have HLL := Lib.hid hll
      have HKN := Lib.hid (show kk + 1 ≤ 1048576 by omega)
      go_wp2
      go_region_law (first
        | (refine step_row rfl (.tmp 11) (.tmp 13) 29 9 rfl rt29 (A := fun p => l.length + 2 ≤ p) (B := fun _ => True) (fun p hp => by have := HLL.out; simp at hp; omega) v kk (lcs (List.replicate kk (rep 64))) rfl (HROW.out.more _) (.slice (some ⟨w.heap.size + lc.length, 0, none⟩) 1 1) 1 [.string (mkS (rep 64))] rfl (.inr ⟨lc.length, 1, [.string (mkS (rep 64))], 9, trivial, rfl, at_mid' rfl, rfl, by decide, rfl⟩) (by intro u hu; obtain rfl := List.mem_singleton.1 hu; rfl) HKN.out ?_; intro v' l' d' H1 H2 H3; have hv1 := RowV.one H1.out; have hl1 := (H3.out (l.length + 1) (by have := HLL.out; simp; omega) (RowV.notAt HROW.out (fun h => by omega))).trans (app_some HB1.out))
        | (go_simp; go_at_call 26; refine (fill_any [] (by decide) _).mono ?_; rw [filE]; rintro e w' ⟨rfl, rfl⟩))
      all_goals
        go_wp2
        go_roundw
        case rel => exact ⟨kk + 1, _, _, v', by omega, by go_num, rfl, Lib.hid (by
          refine Ext.set ⟨by have := H2.out; have := HX.out.1; simp at *; omega, fun p hp => ?_⟩ (Nat.le_succ _) _
          rw [H3.out p (by have := HLL.out; simp; omega) (RowV.notAt HROW.out (fun h => by omega)), List.getElem?_append_left (by have := HLL.out; omega), HX.out.2 p hp]), set_other (by omega) ((H3.out l.length (by have := HLL.out; simp; omega) (RowV.notAt HROW.out (fun h => by omega))).trans (app_some HB0.out)), set_some hl1, by
          have h := H1.out
          rw [lcs_rep] at h
          exact Lib.hid (h.mono fun p hp _ => ⟨hp, List.getElem?_set_ne (by omega)⟩)⟩
        case measure => simp [intOf]; omega
    · obtain rfl : kk = n := by omega
      have HF : Hid (∀ X, RAt A w (lc.set l.length X) v (.slice none 0 0) R') := Lib.hid (fun X => by
        rw [← HR'.out]
        refine ⟨?_, .inl ⟨rfl, rfl, rfl⟩, newR_ok _⟩
        rw [show (newR kk).lasts.length = kk from List.length_replicate ..]
        exact HROW.out.mono fun p hp _ => ⟨HA.out p (by omega), List.getElem?_set_ne (by omega)⟩)
      have ho2 : (Value.slice none 0 0).oneCell' = true := rfl
      go_wp2
      refine ret_mix (i := l.length) rfl rfl ag35 (set_some hb0) rfl rfl ?_
      exact ⟨v, .slice none 0 0, _, _, by rw [← HR'.out]; rfl, rfl, HX.out.set (Nat.le_refl _) _, HF.out _⟩
end Go.Proofs.Ytafbphgfdnmilaa

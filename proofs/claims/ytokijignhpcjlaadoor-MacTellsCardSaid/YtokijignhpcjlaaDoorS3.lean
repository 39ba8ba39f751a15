/- The pressing of one block, by contract. -/
import Derived.Test.YtokijignhpcjlaaDoorS2
namespace Go.Proofs.YtokijignhpcjlaaDoor
open Go.RowKit Go.Own
attribute [local go_sem] ag47 ag50 ag56 ag45 ag5 ag3 cs47 cs50 cs56 cs45 cs5 cs3 sz47 sz50 sz56 sz45 sz5 sz3 isa45 isa5 isa3 z47 z56 bu47

set_option maxRecDepth 100000 in
set_option maxHeartbeats 1000000 in
theorem press_any (st bl : List Nat) (hst : st.length = 8) (hbl : bl.length = 64) (h8 : B8 bl) (w : World) (hR : Roots w) :
    Calls Tryd.prog 23 #[.agg (cv .u32 st), .agg (cv .u8 bl)] w fun e w' => e = .returned (.agg (cv .u32 (pressF st bl))) ∧ Grows w w' := by
  have HR := Lib.hid hR; clear hR
  have H8 := Lib.hid h8; clear h8
  have hwl := widenL_length bl
  refine calls_wd ?_
  go_enter Tryd.func23, Tryd.ntmps23
  go_wp2_with fail
  refine (widen_any bl hbl H8.out _).mono ?_
  rintro e w' ⟨rfl, g, d, rfl⟩
  rw [Wd_wd]
  obtain ⟨W, hW⟩ : ∃ W, widenL bl = W := ⟨_, rfl⟩
  rw [hW] at hwl ⊢
  have HWW := Lib.hid (show W = widenL bl from hW.symm)
  clear hW
  clear H8
  obtain ⟨tR, fR, hRt⟩ := HR.out
  have HRT := Lib.hid hRt
  clear hRt HR
  go_wp2
  refine wp_region_read (by kernel_rfl) (by kernel_rfl) ?_
  repeat still_step
  refine wpStill_nil ?_
  go_wp2
  go_loopw [6, 7, 8, 9, 10, 11, 12, 13, 37] (fun s0 s1 s2 s3 s4 s5 s6 s7 i wr => ∃ (k d : Nat) (v : List Nat), k ≤ 64 ∧ i = .int .i64 k ∧ Hid (rd W st k = v) ∧ s0 = .int .u32 (gi v 0 : Nat) ∧ s1 = .int .u32 (gi v 1 : Nat) ∧ s2 = .int .u32 (gi v 2 : Nat) ∧ s3 = .int .u32 (gi v 3 : Nat) ∧ s4 = .int .u32 (gi v 4 : Nat) ∧ s5 = .int .u32 (gi v 5 : Nat) ∧ s6 = .int .u32 (gi v 6 : Nat) ∧ s7 = .int .u32 (gi v 7 : Nat) ∧
    wr = Wd w (.cells (cv .u32 st) 47 (0, 0) :: .cells (cv .u8 bl) 50 (0, 0) :: .cells (cv .u32 (rep 8)) 47 (0, 0) :: (g ++ [.cells (cv .u32 W) 56 (0, 0)])) d) (fun _ _ _ _ _ _ _ _ i _ => 64 - (intOf i).toNat)
  case atStart => exact ⟨0, _, st, by omega, rfl, Lib.hid rfl, rfl, rfl, rfl, rfl, rfl, rfl, rfl, rfl, rfl⟩
  case round =>
    obtain ⟨k, d, v, hk, rfl, hv, rfl, rfl, rfl, rfl, rfl, rfl, rfl, rfl, rfl⟩ := hrel
    by_cases hlt : k < 64
    · have hn := Lib.hid (show rd W st (k + 1) = [add32 (add32 (add32 (add32 (add32 (gi v 7) (turnedF (gi v 4) 6 11 25)) (pickF (gi v 4) (gi v 5) (gi v 6))) (gi rootsL k)) (gi W k)) (add32 (turnedF (gi v 0) 2 13 22) (mostF (gi v 0) (gi v 1) (gi v 2))), gi v 0, gi v 1, gi v 2, add32 (gi v 3) (add32 (add32 (add32 (add32 (gi v 7) (turnedF (gi v 4) 6 11 25)) (pickF (gi v 4) (gi v 5) (gi v 6))) (gi rootsL k)) (gi W k)), gi v 4, gi v 5, gi v 6] by rw [rd, hv.out, rdF])
      have hRW : ∀ (l : List Obj) (d : Nat), blk (Wd w l d) 0 = some (.cells (cv .u32 rootsL) tR fR) := fun l d => blk_old _ _ _ _ HRT.out
      have hrl : k < rootsL.length := hlt
      have hk64 : (k : Int) < 64 := by omega
      go_wp2
      refine wp_region_tail 15 (by kernel_rfl) (by kernel_rfl) ?_
      simp only [List.take_succ_cons, List.take_zero, List.drop_succ_cons, List.drop_zero]
      repeat (first | still_step | (refine wpStill_step (fun K hK => ?_); go_simp; (with_reducible refine ⟨_, turned_same _ 6 11 25 (by decide) (by decide) (by decide) (by decide) (by decide) (by decide) _, hK _ ?_⟩); clear hK K) | (refine wpStill_step (fun K hK => ?_); go_simp; (with_reducible refine ⟨_, pick_same _ _ _ _, hK _ ?_⟩); clear hK K))
      refine wpStill_nil ?_
      go_wp2_with fail
      refine (turned_any _ 2 13 22 (by decide) (by decide) (by decide) (by decide) (by decide) (by decide) _).mono ?_
      rintro e w' ⟨rfl, rfl⟩
      go_wp2_with fail
      refine (most_any _ _ _ _).mono ?_
      rintro e w' ⟨rfl, rfl⟩
      go_wp2
      go_roundw
      case rel => exact ⟨k + 1, _, _, by omega, by go_num, hn, by rw [gi8_0], by rw [gi8_1], by rw [gi8_2], by rw [gi8_3], by rw [gi8_4], by rw [gi8_5], by rw [gi8_6], by rw [gi8_7], rfl⟩
      case measure => simp [intOf]; omega
    · obtain rfl : k = 64 := by omega
      have h8v : v.length = 8 := by rw [← hv.out]; exact rd_length W st hst 64
      have HE := Lib.hid (eight h8v)
      have HV := Lib.hid h8v
      clear h8v
      go_wp2_with fail
      refine (plus_any st [gi v 0, gi v 1, gi v 2, gi v 3, gi v 4, gi v 5, gi v 6, gi v 7] hst rfl _).mono ?_
      rintro e w' ⟨rfl, g2, d2, rfl⟩
      rw [Wd_wd, HE.out]
      have hpl := plusL_length st v
      go_wp2
      exact ret_cell (i := 2) rfl rfl ag47 rfl hpl rfl ⟨by rw [← hv.out, HWW.out]; rfl, Grows.of _ _ _⟩
end Go.Proofs.YtokijignhpcjlaaDoor

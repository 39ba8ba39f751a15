import Derived.Test.YtmhhekiliojifaaA3
import Derived.Test.YtmhhekiliojifaaStrs
namespace Go.Proofs.Ytmhhekiliojifaa
open Go.RowKit Go.Own
attribute [local go_sem] ag75 ag5 cs5 cs75 sz5 sz75 isa5 z75 ag72 ag92 ag52 ag78 cs72 cs92 sz72 sz92 isa52 z72 z92 ag83 ag76 cs83 cs76 sz83 sz76 z83 z76

set_option maxRecDepth 100000 in
set_option maxHeartbeats 400000 in
theorem boxed_any (s : List Nat) (hs : s.length = 16) (hs8 : ∀ i, gi s i < 256) (bb cb : Nat) (cs : List Nat) (w : World) (H : Held w bb cb cs) :
    Calls Try.prog 49 #[.agg (cv .u8 s), .func (.func 59) #[] #[.pointer (some ⟨bb, 0, none⟩)]] w fun e w' => e = .returned (.agg (cv .u8 (sqr (eachL cs) s))) ∧ Grows w w' := by
  have hf : ∀ i, (sqrF (eachL cs) s i).length = 4 := fun i => eachL_length _ _
  have HF := Lib.hid hf; clear hf
  have HH := Lib.hid H; clear H
  have H8 := Lib.hid hs8; clear hs8
  refine calls_wd ?_
  go_enter Try.func49, Try.ntmps49
  go_wp2
  go_loopw [6] (fun i wr => ∃ (k d : Nat) (g : List Obj), k ≤ 4 ∧ i = .int .i64 k ∧ wr = Wd w (.cells (cv .u8 (fin 4 (sqrF (eachL cs) s) k s)) 83 :: .cells (cv .u8 (rep 16)) 83 :: g) d) (fun i _ => 4 - (intOf i).toNat)
  case atStart => exact ⟨0, 0, [], by omega, rfl, by rw [fin_zero]⟩
  case round =>
    obtain ⟨k, d, g, hk, rfl, rfl⟩ := hrel
    have hl : (fin 4 (sqrF (eachL cs) s) k s).length = 16 := by rw [fin_length HF.out (by omega), hs]
    by_cases hlt : k < 4
    · have hd := fin_drop' HF.out (k := k) (s := s)
      have hb : k * 4 + 4 ≤ 16 := by omega
      have hw := wrd_length (s := s) (i := k) (by omega)
      unfold wrd at hw
      have hlm := eachL_length cs ((s.drop (k * 4)).take 4)
      go_wp2_with fail
      refine (each_any _ hw (gi_part (by decide) H8.out _ _) bb cb cs _ (HH.out.grows (Grows.of _ _ _))).mono ?_
      rintro e w' ⟨rfl, g', d', rfl⟩
      rw [Wd_wd]
      go_wp2
      go_roundw
      case rel => exact ⟨k + 1, _, _, by omega, by go_num, by rw [← fin_step' HF.out]; rfl⟩
      case measure => simp [intOf]; omega
    · obtain rfl : k = 4 := by omega
      have he := Lib.hid (fin_end (c := 4) (f := sqrF (eachL cs) s) (n := 4) (s := s) (by omega))
      go_wp2
      exact ret_cell (i := 1) rfl rfl ag83 rfl hl rfl ⟨by rw [he.out]; rfl, Grows.of _ _ _⟩

def turnF (s : List Nat) (n : Nat) : Nat := gi s ((n / 4 + n % 4) % 4 * 4 + n % 4)
def turnL (s : List Nat) : List Nat := (List.range 16).map (turnF s)
theorem turnL_length (s : List Nat) : (turnL s).length = 16 := by simp [turnL]
set_option maxRecDepth 100000 in
set_option maxHeartbeats 400000 in
theorem turn_any (s : List Nat) (hs : s.length = 16) (w : World) :
    Calls Try.prog 48 #[.agg (cv .u8 s)] w fun e w' => e = .returned (.agg (cv .u8 (turnL s))) ∧ Grows w w' := by
  refine calls_wd ?_
  go_enter Try.func48, Try.ntmps48
  go_wp2
  go_loopw [6] (fun i wr => ∃ k d : Nat, k ≤ 4 ∧ i = .int .i64 k ∧ wr = Wd w [.cells (cv .u8 s) 83, .cells (cv .u8 (rep 16)) 83, .cells (cv .u8 (fin1 (turnF s) (k * 4) (rep 16))) 83] d) (fun i _ => 4 - (intOf i).toNat)
  case atStart => exact ⟨0, 0, by omega, rfl, by rw [Nat.zero_mul, fin1_zero]⟩
  case round =>
    obtain ⟨k, d, hk, rfl, rfl⟩ := hrel
    by_cases hlt : k < 4
    · go_wp2
      go_loopw [9] (fun i wr => ∃ r d : Nat, r ≤ 4 ∧ i = .int .i64 r ∧ wr = Wd w [.cells (cv .u8 s) 83, .cells (cv .u8 (rep 16)) 83, .cells (cv .u8 (fin1 (turnF s) (k * 4 + r) (rep 16))) 83] d) (fun i _ => 4 - (intOf i).toNat)
      case atStart => exact ⟨0, d, by omega, rfl, rfl⟩
      case round =>
        obtain ⟨r, d2, hr, rfl, rfl⟩ := hrel
        have hl : (fin1 (turnF s) (k * 4 + r) (rep 16)).length = 16 := by rw [fin1_length (by simp; omega), rep_length]
        by_cases hr4 : r < 4
        · have h1 : (k + r) % 4 < 4 := by omega
          have h2 : (k + r) % 4 * 4 + r < 16 := by omega
          have h3 : k * 4 + r < 16 := by omega
          have HT := Lib.hid (show gi s ((k + r) % 4 * 4 + r) = turnF s (k * 4 + r) by
            unfold turnF
            rw [show (k * 4 + r) / 4 = k by omega, show (k * 4 + r) % 4 = r by omega])
          go_wp2
          go_region
          go_wp2
          go_roundw
          case rel => exact ⟨r + 1, _, by omega, by go_num, by rw [HT.out, fin1_step]; rfl⟩
          case measure => simp [intOf]; omega
        · obtain rfl : r = 4 := by omega
          go_wp2
          go_roundw
          case rel => exact ⟨k + 1, _, by omega, by go_num, by rw [show (k + 1) * 4 = k * 4 + 4 by omega]⟩
          case measure => simp [intOf]; omega
    · obtain rfl : k = 4 := by omega
      have he := Lib.hid (fin1_end (f := turnF s) (n := 16) (s := rep 16) (by simp))
      have hl : (fin1 (turnF s) 16 (rep 16)).length = 16 := by rw [fin1_length (by simp), rep_length]
      go_wp2
      exact ret_cell (i := 1) rfl rfl ag83 rfl hl rfl ⟨by rw [he.out]; rfl, Grows.of _ _ _⟩
end Go.Proofs.Ytmhhekiliojifaa

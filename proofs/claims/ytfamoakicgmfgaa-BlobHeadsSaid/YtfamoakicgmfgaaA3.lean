import Derived.Test.YtfamoakicgmfgaaA2
import Derived.Deep.RegionWith
namespace Go.Proofs.Ytfamoakicgmfgaa
open Go.RowKit Go.Own

theorem ag97 : aggSize Try.prog 97 = some 16 := by kernel_rfl
theorem ag90 : aggSize Try.prog 90 = some 240 := by kernel_rfl
theorem cs97 : Try.prog.cellsOf 97 = 16 := by kernel_rfl
theorem cs90 : Try.prog.cellsOf 90 = 240 := by kernel_rfl
theorem sz97 (w : World) : (sizeOf 97).run Try.prog w = .ok 16 w := by kernel_rfl
theorem sz90 (w : World) : (sizeOf 90).run Try.prog w = .ok 240 w := by kernel_rfl
theorem z97 : zeroOf Try.prog 97 = .agg (cv .u8 (rep 16)) := by kernel_rfl
theorem z90 : zeroOf Try.prog 90 = .agg (cv .u8 (rep 240)) := by kernel_rfl
attribute [local go_sem] ag89 ag5 cs5 cs89 sz5 sz89 isa5 z89 ag86 ag112 ag70 ag92 cs86 cs112 sz86 sz112 isa70 z86 z112 ag97 ag90 cs97 cs90 sz97 sz90 z97 z90

theorem double_same (a : Nat) (w : World) : Calls Try.prog 76 #[.int .u8 a] w fun e w' => e = .returned (.int .u8 (dbl a)) ∧ w' = w :=
  (double_any a w).mono fun _ _ h => ⟨h.1, h.2.symm⟩
def mixF (x : List Nat) (i : Nat) : Nat :=
  xor8 (xor8 (xor8 (xor8 (dbl (gi x i)) (dbl (gi x ((i + 1) % 4)))) (gi x ((i + 1) % 4))) (gi x ((i + 2) % 4))) (gi x ((i + 3) % 4))
def mixL (x : List Nat) : List Nat := (List.range 4).map (mixF x)
set_option maxRecDepth 100000 in
set_option maxHeartbeats 400000 in
theorem mixed_any (x : List Nat) (hx : x.length = 4) (w : World) :
    Calls Try.prog 81 #[.agg (cv .u8 x)] w fun e w' => e = .returned (.agg (cv .u8 (mixL x))) ∧ Grows w w' := by
  refine calls_wd ?_
  go_enter Try.func81, Try.ntmps81
  go_wp2
  go_loopw [8] (fun i wr => ∃ k d : Nat, k ≤ 4 ∧ i = .int .i64 k ∧ wr = Wd w [.cells (cv .u8 x) 89, .cells (cv .u8 (rep 4)) 89, .cells (cv .u8 (fin1 (mixF x) k (rep 4))) 89] d) (fun i _ => 4 - (intOf i).toNat)
  case atStart => exact ⟨0, 0, by omega, rfl, by rw [fin1_zero]⟩
  case round =>
    obtain ⟨k, d, hk, rfl, rfl⟩ := hrel
    have hl : (fin1 (mixF x) k (rep 4)).length = 4 := by rw [fin1_length (by simp; omega), rep_length]
    by_cases hlt : k < 4
    · have h4 : k = 0 ∨ k = 1 ∨ k = 2 ∨ k = 3 := by omega
      rcases h4 with rfl | rfl | rfl | rfl
      all_goals
        go_wp2
        refine wp_region_still_tail 21 (by kernel_rfl) (by kernel_rfl) ?_
        simp only [List.take_succ_cons, List.take_zero, List.drop_succ_cons, List.drop_zero]
        change wpStill _ _ (Wd _ _ (_ + 1)) _ _ _
        repeat (first | still_step | still_call (double_same _ _))
        refine wpStill_nil ?_
        change wpList _ _ _ _ _ (Wd _ _ (_ + 1))
        go_wp2
        go_roundw
        case rel => exact ⟨_, _, by decide, rfl, by rw [← fin1_step]; rfl⟩
        case measure => simp [intOf]
    · obtain rfl : k = 4 := by omega
      have he := Lib.hid (fin1_end (f := mixF x) (n := 4) (s := rep 4) (by simp))
      go_wp2
      exact ret_cell (i := 1) rfl rfl ag89 rfl hl rfl ⟨by rw [he.out]; rfl, Grows.of _ _ _⟩

/-- Four bytes by four: f of each. -/
def sqr (f : List Nat → List Nat) (s : List Nat) : List Nat := (List.range 4).flatMap fun i => f (wrd s i)
def sqrF (f : List Nat → List Nat) (s : List Nat) (i : Nat) : List Nat := f (wrd s i)
theorem mixL_length (x : List Nat) : (mixL x).length = 4 := by simp [mixL]
theorem eachL_length (cs x : List Nat) : (eachL cs x).length = 4 := by simp [eachL]
theorem xorL_length (x y : List Nat) : (xorL x y).length = 4 := by simp [xorL]

set_option maxRecDepth 100000 in
set_option maxHeartbeats 400000 in
theorem mix_any (s : List Nat) (hs : s.length = 16) (w : World) :
    Calls Try.prog 58 #[.agg (cv .u8 s)] w fun e w' => e = .returned (.agg (cv .u8 (sqr mixL s))) ∧ Grows w w' := by
  have hf : ∀ i, (sqrF mixL s i).length = 4 := fun i => mixL_length _
  have HF := Lib.hid hf; clear hf
  refine calls_wd ?_
  go_enter Try.func58, Try.ntmps58
  go_wp2
  go_loopw [4] (fun i wr => ∃ (k d : Nat) (g : List Obj), k ≤ 4 ∧ i = .int .i64 k ∧ wr = Wd w (.cells (cv .u8 (fin 4 (sqrF mixL s) k s)) 97 :: .cells (cv .u8 (rep 16)) 97 :: g) d) (fun i _ => 4 - (intOf i).toNat)
  case atStart => exact ⟨0, 0, [], by omega, rfl, by rw [fin_zero]⟩
  case round =>
    obtain ⟨k, d, g, hk, rfl, rfl⟩ := hrel
    have hl : (fin 4 (sqrF mixL s) k s).length = 16 := by rw [fin_length HF.out (by omega), hs]
    by_cases hlt : k < 4
    · have hd := fin_drop' HF.out (k := k) (s := s)
      have hb : k * 4 + 4 ≤ 16 := by omega
      have hw := wrd_length (s := s) (i := k) (by omega)
      unfold wrd at hw
      have hlm := mixL_length ((s.drop (k * 4)).take 4)
      go_wp2_with fail
      refine (mixed_any _ hw _).mono ?_
      rintro e w' ⟨rfl, g', d', rfl⟩
      rw [Wd_wd]
      go_wp2
      go_roundw
      case rel => exact ⟨k + 1, _, _, by omega, by go_num, by rw [← fin_step' HF.out]; rfl⟩
      case measure => simp [intOf]; omega
    · obtain rfl : k = 4 := by omega
      have he := Lib.hid (fin_end (c := 4) (f := sqrF mixL s) (n := 4) (s := s) (by omega))
      go_wp2
      exact ret_cell (i := 1) rfl rfl ag97 rfl hl rfl ⟨by rw [he.out]; rfl, Grows.of _ _ _⟩
end Go.Proofs.Ytfamoakicgmfgaa

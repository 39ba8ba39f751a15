import Derived.Test.YtmhhekiliojifaaA4
import Derived.Deep.RegionLaw
namespace Go.Proofs.Ytmhhekiliojifaa
open Go.RowKit Go.Own
attribute [local go_sem] ag75 ag5 cs5 cs75 sz5 sz75 isa5 z75 ag72 ag92 ag52 ag78 cs72 cs92 sz72 sz92 isa52 z72 z92 ag83 ag76 cs83 cs76 sz83 sz76 z83 z76

/-- The words of a round, added. -/
def addF (cs s : List Nat) (r i : Nat) : List Nat := xorL (wrd s i) ((cs.drop (256 + (4 * r + i) * 4)).take 4)
def addL (cs s : List Nat) (r : Nat) : List Nat := (List.range 4).flatMap (addF cs s r)
theorem addL_length (cs s : List Nat) (r : Nat) : (addL cs s r).length = 16 := flat_length (c := 4) (fun _ => xorL_length _ _) 4
set_option maxRecDepth 100000 in
set_option maxHeartbeats 400000 in
theorem add_any (cb : Nat) (cs s : List Nat) (hs : s.length = 16) (hc : cs.length = 496) (r : Nat) (hr : r ≤ 14) (w : World) (H : blk w cb = some (.cells (cv .u8 cs) 78 (0, 0))) :
    Calls Try.prog 45 #[.pointer (some ⟨cb, 0, none⟩), .agg (cv .u8 s), .int .i64 r] w fun e w' => e = .returned (.agg (cv .u8 (addL cs s r))) ∧ Grows w w' := by
  have hf : ∀ i, (addF cs s r i).length = 4 := fun i => xorL_length _ _
  have HF := Lib.hid hf; clear hf
  have HH := Lib.hid H; clear H
  refine calls_wd ?_
  go_enter Try.func45, Try.ntmps45
  go_wp2
  go_loopw [8] (fun i wr => ∃ (k d : Nat) (g : List Obj), k ≤ 4 ∧ i = .int .i64 k ∧ wr = Wd w (.cells (cv .u8 (fin 4 (addF cs s r) k s)) 83 :: .cells (cv .u8 (rep 16)) 83 :: g) d) (fun i _ => 4 - (intOf i).toNat)
  case atStart => exact ⟨0, 0, [], by omega, rfl, by rw [fin_zero]⟩
  case round =>
    obtain ⟨k, d, g, hk, rfl, rfl⟩ := hrel
    have hl : (fin 4 (addF cs s r) k s).length = 16 := by rw [fin_length HF.out (by omega), hs]
    by_cases hlt : k < 4
    · have hd := fin_drop' HF.out (k := k) (s := s)
      have hb : k * 4 + 4 ≤ 16 := by omega
      have hw := wrd_length (s := s) (i := k) (by omega)
      unfold wrd at hw
      have hw2 : ((cs.drop (256 + (4 * r + k) * 4)).take 4).length = 4 := by simp; omega
      have hxl := xorL_length ((s.drop (k * 4)).take 4) ((cs.drop (256 + (4 * r + k) * 4)).take 4)
      go_wp2
      have HC := blk_old w (.cells (cv .u8 (fin 4 (addF cs s r) k s)) 83 :: .cells (cv .u8 (rep 16)) 83 :: g) (d + 1) cb HH.out
      have hw1 : IntKind.i64.wrap (4 * (r : Int)) = 4 * (r : Int) := IntWalk.i64_in _ (by omega)
      have hw3 : IntKind.i64.wrap (4 * (r : Int) + (k : Int)) = 4 * (r : Int) + (k : Int) := IntWalk.i64_in _ (by omega)
      have b1 : 0 ≤ 4 * (r : Int) + (k : Int) := by omega
      have b2 : 4 * (r : Int) + (k : Int) < 60 := by omega
      have b3 : (4 * (r : Int) + (k : Int)).toNat = 4 * r + k := by omega
      have b4 : 256 + (4 * r + k) * 4 + 4 ≤ 496 := by omega
      go_region_law (go_simp; go_at_call 58; refine (plus_any _ _ hw hw2 _).mono ?_; rintro e w' ⟨rfl, g', d', rfl⟩; rw [Wd_wd])
      all_goals
        go_wp2
        go_roundw
        case rel => exact ⟨k + 1, _, _, by omega, by go_num, by rw [← fin_step' HF.out]; rfl⟩
        case measure => simp [intOf]; omega
    · obtain rfl : k = 4 := by omega
      have he := Lib.hid (fin_end (c := 4) (f := addF cs s r) (n := 4) (s := s) (by omega))
      go_wp2
      exact ret_cell (i := 1) rfl rfl ag83 rfl hl rfl ⟨by rw [he.out]; rfl, Grows.of _ _ _⟩


set_option maxRecDepth 100000 in
set_option maxHeartbeats 400000 in
theorem columns_any (t : ByteArray) (ht : t.size = 16) (w : World) :
    Calls Try.prog 46 #[.string t] w fun e w' => e = .returned (.agg (cv .u8 (bys t))) ∧ Grows w w' := by
  have hbt := bys_length t
  have hall := Lib.hid (pcs_all (s := bys t) (by rw [hbt, ht]))
  refine calls_wd ?_
  go_enter Try.func46, Try.ntmps46
  go_wp2
  go_loopw [5] (fun i wr => ∃ k d : Nat, k ≤ 4 ∧ i = .int .i64 k ∧ wr = Wd w [.cells (cv .u8 (rep 16)) 83, .cells (cv .u8 (fin 4 (pc (bys t)) k (rep 16))) 83] d) (fun i _ => 4 - (intOf i).toNat)
  case atStart => exact ⟨0, 0, by omega, rfl, by rw [fin_zero]⟩
  case round =>
    obtain ⟨k, d, hk, rfl, rfl⟩ := hrel
    have hl : (fin 4 (pc (bys t)) k (rep 16)).length = 16 := by rw [fin_length (pc_length _) (by simp; omega), rep_length]
    by_cases hlt : k < 4
    · have hp := Lib.hid (show (bys (t.extract (4 * k) 16)).take 4 = pc (bys t) k by
        rw [bys_extract, List.take_take, pc_wrd (by omega), Nat.min_eq_left (by omega), Nat.mul_comm]; rfl)
      have hb : k * 4 + 4 ≤ 16 := by omega
      have hb2 : 4 * (k : Int) ≤ 16 := by omega
      have hb3 : 0 ≤ 4 * (k : Int) := by omega
      have hb4 : (4 * (k : Int)).toNat = 4 * k := by omega
      have hb5 : 4 ≤ 16 - 4 * k := by omega
      have hw1 : IntKind.i64.wrap (4 * (k : Int)) = 4 * (k : Int) := IntWalk.i64_in _ (by omega)
      go_wp2
      refine wp_region_still_tail 7 (by kernel_rfl) (by kernel_rfl) ?_
      simp only [List.take_succ_cons, List.take_zero, List.drop_succ_cons, List.drop_zero]
      change wpStill _ _ (Wd _ _ (_ + 1)) _ _ _
      repeat still_step
      refine wpStill_nil ?_
      change wpList _ _ _ _ _ (Wd _ _ (_ + 1))
      go_wp2
      go_roundw
      case rel => exact ⟨k + 1, _, by omega, by go_num, by rw [hp.out, fin_step' (pc_length _)]⟩
      case measure => simp [intOf]; omega
    · obtain rfl : k = 4 := by omega
      have he := Lib.hid (fin_end (c := 4) (f := pc (bys t)) (n := 4) (s := rep 16) (by simp))
      go_wp2
      exact ret_cell (i := 0) rfl rfl ag83 rfl hl rfl ⟨by rw [he.out, hall.out], Grows.of _ _ _⟩

set_option maxRecDepth 100000 in
set_option maxHeartbeats 400000 in
theorem text_any (s : List Nat) (hs : s.length = 16) (w : World) :
    Calls Try.prog 50 #[.agg (cv .u8 s)] w fun e w' => e = .returned (.string (mkS s)) ∧ Grows w w' := by
  have hall := Lib.hid (pcs_all (s := s) hs)
  have hmk : (Try.prog.info? 5).map (fun i => (i.zero, i.size, i.bytes)) = some (some (.int .u8 0), 1, 1) := by kernel_rfl
  have hz5 : zeroOf Try.prog 5 = .int .u8 0 := by kernel_rfl
  refine calls_wd ?_
  go_enter Try.func50, Try.ntmps50
  go_wp2
  go_loopw [3, 8] (fun q i wr => ∃ (k : Nat) (g : List Obj), k ≤ 4 ∧ i = .int .i64 k ∧ q = .slice (some ⟨w.heap.size + 1, 0, none⟩) (k * 4) 16 ∧ wr = Wd w (.cells (cv .u8 s) 83 :: .cells (cv .u8 (fin 4 (pc s) k (rep 16))) 5 :: g) 0) (fun _ i _ => 4 - (intOf i).toNat)
  case atStart => exact ⟨0, [], by omega, rfl, rfl, by rw [fin_zero]⟩
  case round =>
    obtain ⟨k, g, hk, rfl, rfl, rfl⟩ := hrel
    have hl : (fin 4 (pc s) k (rep 16)).length = 16 := by rw [fin_length (pc_length _) (by simp; omega), rep_length]
    by_cases hlt : k < 4
    · have hp := Lib.hid (show (s.drop (k * 4)).take 4 = pc s k by rw [pc_wrd (by omega)]; rfl)
      have hw := wrd_length (s := s) (i := k) (by omega)
      unfold wrd at hw
      have hb : k * 4 + 4 ≤ 16 := by omega
      go_wp2
      go_roundw
      case rel => exact ⟨k + 1, _, by omega, by go_num, by rw [Nat.succ_mul], by rw [hp.out, fin_step' (pc_length _)]⟩
      case measure => simp [intOf]; omega
    · obtain rfl : k = 4 := by omega
      have he := Lib.hid (fin_end (c := 4) (f := pc s) (n := 4) (s := rep 16) (by simp))
      go_wp2
      go_ret
      exact ⟨by rw [he.out, hall.out]; rfl, Grows.of _ _ _⟩
end Go.Proofs.Ytmhhekiliojifaa

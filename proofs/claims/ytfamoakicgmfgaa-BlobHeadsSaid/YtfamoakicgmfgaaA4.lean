import Derived.Test.YtfamoakicgmfgaaA3
import Derived.Test.YtfamoakicgmfgaaStrs
import Derived.Deep.RegionLaw
import Derived.Test.YtfamoakicgmfgaaBld
namespace Go.Proofs.Ytfamoakicgmfgaa
open Go.RowKit Go.Own
attribute [local go_sem] ag89 ag5 cs5 cs89 sz5 sz89 isa5 z89 ag86 ag112 ag70 ag92 cs86 cs112 sz86 sz112 isa70 z86 z112 ag97 ag90 cs97 cs90 sz97 sz90 z97 z90

set_option maxRecDepth 100000 in
set_option maxHeartbeats 400000 in
theorem boxed_any (s : List Nat) (hs : s.length = 16) (hs8 : ∀ i, gi s i < 256) (bb cb : Nat) (cs : List Nat) (w : World) (H : Held w bb cb cs) :
    Calls Try.prog 60 #[.agg (cv .u8 s), .func (.func 80) #[] #[.pointer (some ⟨bb, 0, none⟩)]] w fun e w' => e = .returned (.agg (cv .u8 (sqr (eachL cs) s))) ∧ Grows w w' := by
  have hf : ∀ i, (sqrF (eachL cs) s i).length = 4 := fun i => eachL_length _ _
  have HF := Lib.hid hf; clear hf
  have HH := Lib.hid H; clear H
  have H8 := Lib.hid hs8; clear hs8
  refine calls_wd ?_
  go_enter Try.func60, Try.ntmps60
  go_wp2
  go_loopw [6] (fun i wr => ∃ (k d : Nat) (g : List Obj), k ≤ 4 ∧ i = .int .i64 k ∧ wr = Wd w (.cells (cv .u8 (fin 4 (sqrF (eachL cs) s) k s)) 97 :: .cells (cv .u8 (rep 16)) 97 :: g) d) (fun i _ => 4 - (intOf i).toNat)
  case atStart => exact ⟨0, 0, [], by omega, rfl, by rw [fin_zero]⟩
  case round =>
    obtain ⟨k, d, g, hk, rfl, rfl⟩ := hrel
    have hl : (fin 4 (sqrF (eachL cs) s) k s).length = 16 := by rw [fin_length HF.out (by omega), hs]
    by_cases hlt : k < 4
    · have hd := fin_drop' HF.out (k := k) (s := s)
      have hb : k * 4 + 4 ≤ 16 := by omega
      have hw := wrd_length (s := s) (i := k) (by omega)
      unfold wrd at hw
      have hlm := eachL_length cs ((s.drop (k * 4)).take 4)
      go_wp2_with fail
      refine (each_any _ hw (gi_part (by decide) H8.out _ _) bb cb cs _ (HH.out.grows (Grows.of _ _ _))).mono ?_
      rintro e w' ⟨rfl, g', d', rfl⟩
      rw [Wd_wd]
      go_wp2
      go_roundw
      case rel => exact ⟨k + 1, _, _, by omega, by go_num, by rw [← fin_step' HF.out]; rfl⟩
      case measure => simp [intOf]; omega
    · obtain rfl : k = 4 := by omega
      have he := Lib.hid (fin_end (c := 4) (f := sqrF (eachL cs) s) (n := 4) (s := s) (by omega))
      go_wp2
      exact ret_cell (i := 1) rfl rfl ag97 rfl hl rfl ⟨by rw [he.out]; rfl, Grows.of _ _ _⟩

def turnF (s : List Nat) (n : Nat) : Nat := gi s ((n / 4 + n % 4) % 4 * 4 + n % 4)
def turnL (s : List Nat) : List Nat := (List.range 16).map (turnF s)
theorem turnL_length (s : List Nat) : (turnL s).length = 16 := by simp [turnL]
set_option maxRecDepth 100000 in
set_option maxHeartbeats 400000 in
theorem turn_any (s : List Nat) (hs : s.length = 16) (w : World) :
    Calls Try.prog 59 #[.agg (cv .u8 s)] w fun e w' => e = .returned (.agg (cv .u8 (turnL s))) ∧ Grows w w' := by
  refine calls_wd ?_
  go_enter Try.func59, Try.ntmps59
  go_wp2
  go_loopw [6] (fun i wr => ∃ k d : Nat, k ≤ 4 ∧ i = .int .i64 k ∧ wr = Wd w [.cells (cv .u8 s) 97, .cells (cv .u8 (rep 16)) 97, .cells (cv .u8 (fin1 (turnF s) (k * 4) (rep 16))) 97] d) (fun i _ => 4 - (intOf i).toNat)
  case atStart => exact ⟨0, 0, by omega, rfl, by rw [Nat.zero_mul, fin1_zero]⟩
  case round =>
    obtain ⟨k, d, hk, rfl, rfl⟩ := hrel
    by_cases hlt : k < 4
    · go_wp2
      go_loopw [9] (fun i wr => ∃ r d : Nat, r ≤ 4 ∧ i = .int .i64 r ∧ wr = Wd w [.cells (cv .u8 s) 97, .cells (cv .u8 (rep 16)) 97, .cells (cv .u8 (fin1 (turnF s) (k * 4 + r) (rep 16))) 97] d) (fun i _ => 4 - (intOf i).toNat)
      case atStart => exact ⟨0, d, by omega, rfl, rfl⟩
      case round =>
        obtain ⟨r, d2, hr, rfl, rfl⟩ := hrel
        have hl : (fin1 (turnF s) (k * 4 + r) (rep 16)).length = 16 := by rw [fin1_length (by simp; omega), rep_length]
        by_cases hr4 : r < 4
        · have h1 : (k + r) % 4 < 4 := by omega
          have h2 : (k + r) % 4 * 4 + r < 16 := by omega
          have h3 : k * 4 + r < 16 := by omega
          have HT := Lib.hid (show gi s ((k + r) % 4 * 4 + r) = turnF s (k * 4 + r) by
            unfold turnF
            rw [show (k * 4 + r) / 4 = k by omega, show (k * 4 + r) % 4 = r by omega])
          go_wp2
          go_region
          go_wp2
          go_roundw
          case rel => exact ⟨r + 1, _, by omega, by go_num, by rw [HT.out, fin1_step]; rfl⟩
          case measure => simp [intOf]; omega
        · obtain rfl : r = 4 := by omega
          go_wp2
          go_roundw
          case rel => exact ⟨k + 1, _, by omega, by go_num, by rw [show (k + 1) * 4 = k * 4 + 4 by omega]⟩
          case measure => simp [intOf]; omega
    · obtain rfl : k = 4 := by omega
      have he := Lib.hid (fin1_end (f := turnF s) (n := 16) (s := rep 16) (by simp))
      have hl : (fin1 (turnF s) 16 (rep 16)).length = 16 := by rw [fin1_length (by simp), rep_length]
      go_wp2
      exact ret_cell (i := 1) rfl rfl ag97 rfl hl rfl ⟨by rw [he.out]; rfl, Grows.of _ _ _⟩
end Go.Proofs.Ytfamoakicgmfgaa
namespace Go.Proofs.Ytfamoakicgmfgaa
open Go.RowKit Go.Own
attribute [local go_sem] ag89 ag5 cs5 cs89 sz5 sz89 isa5 z89 ag86 ag112 ag70 ag92 cs86 cs112 sz86 sz112 isa70 z86 z112 ag97 ag90 cs97 cs90 sz97 sz90 z97 z90

/-- The words of a round, added. -/
def addF (cs s : List Nat) (r i : Nat) : List Nat := xorL (wrd s i) ((cs.drop (256 + (4 * r + i) * 4)).take 4)
def addL (cs s : List Nat) (r : Nat) : List Nat := (List.range 4).flatMap (addF cs s r)
theorem addL_length (cs s : List Nat) (r : Nat) : (addL cs s r).length = 16 := flat_length (c := 4) (fun _ => xorL_length _ _) 4
set_option maxRecDepth 100000 in
set_option maxHeartbeats 400000 in
theorem add_any (cb : Nat) (cs s : List Nat) (hs : s.length = 16) (hc : cs.length = 496) (r : Nat) (hr : r ≤ 14) (w : World) (H : blk w cb = some (.cells (cv .u8 cs) 92 (0, 0))) :
    Calls Try.prog 56 #[.pointer (some ⟨cb, 0, none⟩), .agg (cv .u8 s), .int .i64 r] w fun e w' => e = .returned (.agg (cv .u8 (addL cs s r))) ∧ Grows w w' := by
  have hf : ∀ i, (addF cs s r i).length = 4 := fun i => xorL_length _ _
  have HF := Lib.hid hf; clear hf
  have HH := Lib.hid H; clear H
  refine calls_wd ?_
  go_enter Try.func56, Try.ntmps56
  go_wp2
  go_loopw [8] (fun i wr => ∃ (k d : Nat) (g : List Obj), k ≤ 4 ∧ i = .int .i64 k ∧ wr = Wd w (.cells (cv .u8 (fin 4 (addF cs s r) k s)) 97 :: .cells (cv .u8 (rep 16)) 97 :: g) d) (fun i _ => 4 - (intOf i).toNat)
  case atStart => exact ⟨0, 0, [], by omega, rfl, by rw [fin_zero]⟩
  case round =>
    obtain ⟨k, d, g, hk, rfl, rfl⟩ := hrel
    have hl : (fin 4 (addF cs s r) k s).length = 16 := by rw [fin_length HF.out (by omega), hs]
    by_cases hlt : k < 4
    · have hd := fin_drop' HF.out (k := k) (s := s)
      have hb : k * 4 + 4 ≤ 16 := by omega
      have hw := wrd_length (s := s) (i := k) (by omega)
      unfold wrd at hw
      have hw2 : ((cs.drop (256 + (4 * r + k) * 4)).take 4).length = 4 := by simp; omega
      have hxl := xorL_length ((s.drop (k * 4)).take 4) ((cs.drop (256 + (4 * r + k) * 4)).take 4)
      go_wp2
      have HC := blk_old w (.cells (cv .u8 (fin 4 (addF cs s r) k s)) 97 :: .cells (cv .u8 (rep 16)) 97 :: g) (d + 1) cb HH.out
      have hw1 : IntKind.i64.wrap (4 * (r : Int)) = 4 * (r : Int) := IntWalk.i64_in _ (by omega)
      have hw3 : IntKind.i64.wrap (4 * (r : Int) + (k : Int)) = 4 * (r : Int) + (k : Int) := IntWalk.i64_in _ (by omega)
      have b1 : 0 ≤ 4 * (r : Int) + (k : Int) := by omega
      have b2 : 4 * (r : Int) + (k : Int) < 60 := by omega
      have b3 : (4 * (r : Int) + (k : Int)).toNat = 4 * r + k := by omega
      have b4 : 256 + (4 * r + k) * 4 + 4 ≤ 496 := by omega
      go_region_law (go_simp; go_at_call 79; refine (plus_any _ _ hw hw2 _).mono ?_; rintro e w' ⟨rfl, g', d', rfl⟩; rw [Wd_wd])
      all_goals
        go_wp2
        go_roundw
        case rel => exact ⟨k + 1, _, _, by omega, by go_num, by rw [← fin_step' HF.out]; rfl⟩
        case measure => simp [intOf]; omega
    · obtain rfl : k = 4 := by omega
      have he := Lib.hid (fin_end (c := 4) (f := addF cs s r) (n := 4) (s := s) (by omega))
      go_wp2
      exact ret_cell (i := 1) rfl rfl ag97 rfl hl rfl ⟨by rw [he.out]; rfl, Grows.of _ _ _⟩


set_option maxRecDepth 100000 in
set_option maxHeartbeats 400000 in
theorem columns_any (t : ByteArray) (ht : t.size = 16) (w : World) :
    Calls Try.prog 57 #[.string t] w fun e w' => e = .returned (.agg (cv .u8 (bys t))) ∧ Grows w w' := by
  have hbt := bys_length t
  have hall := Lib.hid (pcs_all (s := bys t) (by rw [hbt, ht]))
  refine calls_wd ?_
  go_enter Try.func57, Try.ntmps57
  go_wp2
  go_loopw [5] (fun i wr => ∃ k d : Nat, k ≤ 4 ∧ i = .int .i64 k ∧ wr = Wd w [.cells (cv .u8 (rep 16)) 97, .cells (cv .u8 (fin 4 (pc (bys t)) k (rep 16))) 97] d) (fun i _ => 4 - (intOf i).toNat)
  case atStart => exact ⟨0, 0, by omega, rfl, by rw [fin_zero]⟩
  case round =>
    obtain ⟨k, d, hk, rfl, rfl⟩ := hrel
    have hl : (fin 4 (pc (bys t)) k (rep 16)).length = 16 := by rw [fin_length (pc_length _) (by simp; omega), rep_length]
    by_cases hlt : k < 4
    · have hp := Lib.hid (show (bys (t.extract (4 * k) 16)).take 4 = pc (bys t) k by
        rw [bys_extract, List.take_take, pc_wrd (by omega), Nat.min_eq_left (by omega), Nat.mul_comm]; rfl)
      have hb : k * 4 + 4 ≤ 16 := by omega
      have hb2 : 4 * (k : Int) ≤ 16 := by omega
      have hb3 : 0 ≤ 4 * (k : Int) := by omega
      have hb4 : (4 * (k : Int)).toNat = 4 * k := by omega
      have hb5 : 4 ≤ 16 - 4 * k := by omega
      have hw1 : IntKind.i64.wrap (4 * (k : Int)) = 4 * (k : Int) := IntWalk.i64_in _ (by omega)
      go_wp2
      refine wp_region_still_tail 7 (by kernel_rfl) (by kernel_rfl) ?_
      simp only [List.take_succ_cons, List.take_zero, List.drop_succ_cons, List.drop_zero]
      change wpStill _ _ (Wd _ _ (_ + 1)) _ _ _
      repeat still_step
      refine wpStill_nil ?_
      change wpList _ _ _ _ _ (Wd _ _ (_ + 1))
      go_wp2
      go_roundw
      case rel => exact ⟨k + 1, _, by omega, by go_num, by rw [hp.out, fin_step' (pc_length _)]⟩
      case measure => simp [intOf]; omega
    · obtain rfl : k = 4 := by omega
      have he := Lib.hid (fin_end (c := 4) (f := pc (bys t)) (n := 4) (s := rep 16) (by simp))
      go_wp2
      exact ret_cell (i := 0) rfl rfl ag97 rfl hl rfl ⟨by rw [he.out, hall.out], Grows.of _ _ _⟩

set_option maxRecDepth 100000 in
set_option maxHeartbeats 400000 in
theorem text_any (s : List Nat) (hs : s.length = 16) (w : World) :
    Calls Try.prog 61 #[.agg (cv .u8 s)] w fun e w' => e = .returned (.string (mkS s)) ∧ Grows w w' := by
  have hall := Lib.hid (pcs_all (s := s) hs)
  have hmk : (Try.prog.info? 5).map (fun i => (i.zero, i.size, i.bytes)) = some (some (.int .u8 0), 1, 1) := by kernel_rfl
  have hz5 : zeroOf Try.prog 5 = .int .u8 0 := by kernel_rfl
  refine calls_wd ?_
  go_enter Try.func61, Try.ntmps61
  go_wp2
  go_loopw [3, 8] (fun q i wr => ∃ (k : Nat) (g : List Obj), k ≤ 4 ∧ i = .int .i64 k ∧ q = .slice (some ⟨w.heap.size + 1, 0, none⟩) (k * 4) 16 ∧ wr = Wd w (.cells (cv .u8 s) 97 :: .cells (cv .u8 (fin 4 (pc s) k (rep 16))) 5 :: g) 0) (fun _ i _ => 4 - (intOf i).toNat)
  case atStart => exact ⟨0, [], by omega, rfl, rfl, by rw [fin_zero]⟩
  case round =>
    obtain ⟨k, g, hk, rfl, rfl, rfl⟩ := hrel
    have hl : (fin 4 (pc s) k (rep 16)).length = 16 := by rw [fin_length (pc_length _) (by simp; omega), rep_length]
    by_cases hlt : k < 4
    · have hp := Lib.hid (show (s.drop (k * 4)).take 4 = pc s k by rw [pc_wrd (by omega)]; rfl)
      have hw := wrd_length (s := s) (i := k) (by omega)
      unfold wrd at hw
      have hb : k * 4 + 4 ≤ 16 := by omega
      go_wp2
      go_roundw
      case rel => exact ⟨k + 1, _, by omega, by go_num, by rw [Nat.succ_mul], by rw [hp.out, fin_step' (pc_length _)]⟩
      case measure => simp [intOf]; omega
    · obtain rfl : k = 4 := by omega
      have he := Lib.hid (fin_end (c := 4) (f := pc s) (n := 4) (s := rep 16) (by simp))
      go_wp2
      go_ret
      exact ⟨by rw [he.out, hall.out]; rfl, Grows.of _ _ _⟩
end Go.Proofs.Ytfamoakicgmfgaa
namespace Go.Proofs.Ytfamoakicgmfgaa
open Go.RowKit Go.Own
attribute [local go_sem] ag89 ag5 cs5 cs89 sz5 sz89 isa5 z89 ag86 ag112 ag70 ag92 cs86 cs112 sz86 sz112 isa70 z86 z112 ag97 ag90 cs97 cs90 sz97 sz90 z97 z90

theorem B8_xorL (x y : List Nat) : B8 (xorL x y) := B8.map (fun _ => xor8_lt _ _) _
theorem B8_eachL {cs : List Nat} (h : B8 cs) (x : List Nat) : B8 (eachL cs x) := B8.map (fun _ => h.gi _) _

/-- The word t before the round i. -/
def wTurn (t : List Nat) : List Nat := [gi t 1, gi t 2, gi t 3, gi t 0]
def wT (cs W : List Nat) (i p : Nat) : List Nat :=
  if i % 8 = 0 then spl (eachL cs (wTurn (wrd W (i - 1)))) 0 [xor8 (gi (eachL cs (wTurn (wrd W (i - 1)))) 0) p]
  else if i % 8 = 4 then eachL cs (wrd W (i - 1)) else wrd W (i - 1)
/-- The words and the power before the round 8 + n. -/
def wst (cs key : List Nat) : Nat → List Nat × Nat
  | 0 => (fin 4 (pc key) 8 (rep 240), 1)
  | n + 1 =>
    let s := wst cs key n
    (spl s.1 ((n + 8) * 4) (xorL (wrd s.1 n) (wT cs s.1 (n + 8) s.2)), if (n + 8) % 8 = 0 then dbl s.2 else s.2)
def words (cs key : List Nat) : List Nat := (wst cs key 52).1
theorem wst_length (cs key : List Nat) : ∀ n, n ≤ 52 → (wst cs key n).1.length = 240
  | 0, _ => by rw [wst, fin_length (pc_length _) (by simp), rep_length]
  | n + 1, h => by
    have := wst_length cs key n (by omega)
    simp only [wst]
    rw [spl_length _ _ _ (by rw [xorL_length]; omega), this]
theorem wst_B8 (cs key : List Nat) (hk : B8 key) : ∀ n, B8 (wst cs key n).1
  | 0 => B8.fin (fun i => hk.pc i) (B8.rep _)
  | n + 1 => (wst_B8 cs key hk n).spl (B8_xorL _ _) _

theorem bu89 (a b c d : Nat) (w : World) : (buN 89 #[(0, .int .u8 a), (1, .int .u8 b), (2, .int .u8 c), (3, .int .u8 d)]).run Try.prog w = .ok (.agg (cv .u8 [a, b, c, d])) w := by kernel_rfl
attribute [local go_sem] bu89

theorem wst_turn (cs key W : List Nat) (n p : Nat) (h1 : (wst cs key n).1 = W) (h2 : (wst cs key n).2 = p) (h : n % 8 = 0) :
    wst cs key (n + 1) = (spl W ((n + 8) * 4) (xorL (wrd W n) (spl (eachL cs (wTurn (wrd W (n + 7)))) 0 [xor8 (gi (eachL cs (wTurn (wrd W (n + 7)))) 0) p])), dbl p) := by
  have e : (n + 8) % 8 = 0 := by omega
  subst h1; subst h2
  simp only [wst, wT, e, if_true]; rfl
theorem wst_box (cs key W : List Nat) (n p : Nat) (h1 : (wst cs key n).1 = W) (h2 : (wst cs key n).2 = p) (h : n % 8 = 4) :
    wst cs key (n + 1) = (spl W ((n + 8) * 4) (xorL (wrd W n) (eachL cs (wrd W (n + 7)))), p) := by
  have e : (n + 8) % 8 = 4 := by omega
  subst h1; subst h2
  simp only [wst, wT, e, if_true]; rfl
theorem wst_plain (cs key W : List Nat) (n p : Nat) (h1 : (wst cs key n).1 = W) (h2 : (wst cs key n).2 = p) (h : n % 8 ≠ 0) (h' : n % 8 ≠ 4) :
    wst cs key (n + 1) = (spl W ((n + 8) * 4) (xorL (wrd W n) (wrd W (n + 7))), p) := by
  have e : (n + 8) % 8 ≠ 0 := by omega
  have e' : (n + 8) % 8 ≠ 4 := by omega
  subst h1; subst h2
  simp only [wst, wT, if_neg e, if_neg e']; rfl

set_option maxRecDepth 100000 in
set_option maxHeartbeats 1000000 in
theorem widen_any (key : ByteArray) (hkey : key.size = 32) (bb cb : Nat) (cs : List Nat) (w : World) (H : Held w bb cb cs) :
    Calls Try.prog 54 #[.string key, .func (.func 80) #[] #[.pointer (some ⟨bb, 0, none⟩)]] w fun e w' => e = .returned (.agg (cv .u8 (words cs (bys key)))) ∧ Grows w w' := by
  have HH := Lib.hid H; clear H
  have hbt := bys_length key
  refine calls_wd ?_
  go_enter Try.func54, Try.ntmps54
  go_wp2
  go_loopw [10] (fun i wr => ∃ k d : Nat, k ≤ 8 ∧ i = .int .i64 k ∧ wr = Wd w [.cells (cv .u8 (rep 240)) 90, .cells (cv .u8 (fin 4 (pc (bys key)) k (rep 240))) 90] d) (fun i _ => 8 - (intOf i).toNat)
  case atStart => exact ⟨0, 0, by omega, rfl, by rw [fin_zero]⟩
  case round =>
    obtain ⟨k, d, hk, rfl, rfl⟩ := hrel
    have hl : (fin 4 (pc (bys key)) k (rep 240)).length = 240 := by rw [fin_length (pc_length _) (by simp; omega), rep_length]
    by_cases hlt : k < 8
    · have hp := Lib.hid (show (bys (key.extract (4 * k) 32)).take 4 = pc (bys key) k by
        rw [bys_extract, List.take_take, pc_wrd (by omega), Nat.min_eq_left (by omega), Nat.mul_comm]; rfl)
      have hb : k * 4 + 4 ≤ 240 := by omega
      have hb2 : 4 * (k : Int) ≤ 32 := by omega
      have hb3 : 0 ≤ 4 * (k : Int) := by omega
      have hb4 : (4 * (k : Int)).toNat = 4 * k := by omega
      have hb5 : 4 ≤ 32 - 4 * k := by omega
      have hb6 : (k : Int) < 60 := by omega
      have hb7 : k < 60 := by omega
      have hw1 : IntKind.i64.wrap (4 * (k : Int)) = 4 * (k : Int) := IntWalk.i64_in _ (by omega)
      go_wp2
      refine wp_region_still_tail 7 (by kernel_rfl) (by kernel_rfl) ?_
      simp only [List.take_succ_cons, List.take_zero, List.drop_succ_cons, List.drop_zero]
      change wpStill _ _ (Wd _ _ (_ + 1)) _ _ _
      repeat still_step
      refine wpStill_nil ?_
      change wpList _ _ _ _ _ (Wd _ _ (_ + 1))
      go_wp2
      go_roundw
      case rel => exact ⟨k + 1, _, by omega, by go_num, by rw [hp.out, fin_step' (pc_length _)]⟩
      case measure => simp [intOf]; omega
    · obtain rfl : k = 8 := by omega
      go_wp2
      clear hl
      rw [show ((8 : Nat) : Int) = 8 from rfl]
      go_loopw [7, 8] (fun q i wr => ∃ (n d : Nat) (g : List Obj), n ≤ 52 ∧ i = .int .i64 ((n : Int) + 8) ∧ q = .int .u8 ((wst cs (bys key) n).2 : Nat) ∧ wr = Wd w (.cells (cv .u8 (rep 240)) 90 :: .cells (cv .u8 (wst cs (bys key) n).1) 90 :: g) d) (fun _ i _ => 60 - (intOf i).toNat)
      case atStart => exact ⟨0, d, [], by omega, rfl, rfl, rfl⟩
      case round =>
        obtain ⟨n, d, g, hn, rfl, rfl, rfl⟩ := hrel
        have hWl := wst_length cs (bys key) n hn
        have HB := Lib.hid (wst_B8 cs (bys key) (B8.bys key) n)
        generalize hW : (wst cs (bys key) n).1 = W at *
        generalize hp : (wst cs (bys key) n).2 = p at *
        by_cases hlt : n < 52
        · have hb : (n + 7) * 4 + 4 ≤ 240 := by omega
          have hb2 : n * 4 + 4 ≤ 240 := by omega
          have hb3 : (n + 8) * 4 + 4 ≤ 240 := by omega
          have hw : ((W.drop ((n + 7) * 4)).take 4).length = 4 := by simp; omega
          have hw2 : ((W.drop (n * 4)).take 4).length = 4 := by simp; omega
          by_cases h0 : n % 8 = 0
          · have HS := Lib.hid (wst_turn cs (bys key) W n p hW hp h0)
            have hm : ((n : Int) % 8 == 0) = true := by simp; omega
            clear hW hp h0
            have hel := eachL_length cs (wTurn (wrd W (n + 7)))
            have HT8 := Lib.hid (B8.four ((HB.out.drop _).take _ |>.gi 1) ((HB.out.drop _).take _ |>.gi 2) ((HB.out.drop _).take _ |>.gi 3) ((HB.out.drop _).take _ |>.gi 0) : B8 (wTurn (wrd W (n + 7))))
            have hxl := xorL_length (wrd W n) (spl (eachL cs (wTurn (wrd W (n + 7)))) 0 [xor8 (gi (eachL cs (wTurn (wrd W (n + 7)))) 0) p])
            have hsl : (spl (eachL cs (wTurn (wrd W (n + 7)))) 0 [xor8 (gi (eachL cs (wTurn (wrd W (n + 7)))) 0) p]).length = 4 := by rw [spl_length _ _ _ (by simp [hel]), hel]
            have hwn : (wrd W n).length = 4 := hw2
            go_wp2_with fail
            refine (each_any (wTurn (wrd W (n + 7))) rfl (HT8.out.gi) bb cb cs _ (HH.out.grows (Grows.of _ _ _))).mono ?_
            rintro e w' ⟨rfl, g', d', rfl⟩
            rw [Wd_wd]
            go_wp2_with fail
            refine (double_any _ _).mono ?_
            rintro e w' ⟨rfl, rfl⟩
            go_wp2
            have q1 : IntKind.i64.wrap (n : Int) = (n : Int) := wrap64_nat n (by omega)
            have q2 : (n : Int) < 60 := by omega
            have q3 : n < 60 := by omega
            have q4 : 0 ≤ (n : Int) + 8 := by omega
            have q5 : (n : Int) + 8 < 60 := by omega
            have q6 : ((n : Int) + 8).toNat = n + 8 := by omega
            go_region_law (go_simp; go_at_call 79; refine (plus_any (wrd W n) _ hwn hsl _).mono ?_; rintro e w' ⟨rfl, g'', d'', rfl⟩; rw [Wd_wd])
            all_goals
              go_wp2
              go_roundw
              case rel => exact ⟨n + 1, _, _, by omega, by go_num, by rw [HS.out], by rw [HS.out]⟩
              case measure => simp [intOf]; omega
          · by_cases h4 : n % 8 = 4
            · have HS := Lib.hid (wst_box cs (bys key) W n p hW hp h4)
              have hm0 : ((n : Int) % 8 == 0) = false := by simp; omega
              have hm4 : ((n : Int) % 8 == 4) = true := by simp; omega
              clear hW hp h0 h4
              have hel := eachL_length cs (wrd W (n + 7))
              have HT8 := Lib.hid ((HB.out.drop _).take _ : B8 (wrd W (n + 7)))
              have hxl := xorL_length (wrd W n) (eachL cs (wrd W (n + 7)))
              have hwn : (wrd W n).length = 4 := hw2
              go_wp2_with fail
              refine (each_any (wrd W (n + 7)) hw (HT8.out.gi) bb cb cs _ (HH.out.grows (Grows.of _ _ _))).mono ?_
              rintro e w' ⟨rfl, g', d', rfl⟩
              rw [Wd_wd]
              go_wp2
              have q1 : IntKind.i64.wrap (n : Int) = (n : Int) := wrap64_nat n (by omega)
              have q2 : (n : Int) < 60 := by omega
              have q3 : n < 60 := by omega
              have q4 : 0 ≤ (n : Int) + 8 := by omega
              have q5 : (n : Int) + 8 < 60 := by omega
              have q6 : ((n : Int) + 8).toNat = n + 8 := by omega
              go_region_law (go_simp; go_at_call 79; refine (plus_any (wrd W n) _ hwn hel _).mono ?_; rintro e w' ⟨rfl, g'', d'', rfl⟩; rw [Wd_wd])
              all_goals
                go_wp2
                go_roundw
                case rel => exact ⟨n + 1, _, _, by omega, by go_num, by rw [HS.out], by rw [HS.out]⟩
                case measure => simp [intOf]; omega
            · have HS := Lib.hid (wst_plain cs (bys key) W n p hW hp h0 h4)
              have hm0 : ((n : Int) % 8 == 0) = false := by simp; omega
              have hm4 : ((n : Int) % 8 == 4) = false := by simp; omega
              clear hW hp h0 h4
              have hxl := xorL_length (wrd W n) (wrd W (n + 7))
              have hwn : (wrd W n).length = 4 := hw2
              go_wp2
              have q1 : IntKind.i64.wrap (n : Int) = (n : Int) := wrap64_nat n (by omega)
              have q2 : (n : Int) < 60 := by omega
              have q3 : n < 60 := by omega
              have q4 : 0 ≤ (n : Int) + 8 := by omega
              have q5 : (n : Int) + 8 < 60 := by omega
              have q6 : ((n : Int) + 8).toNat = n + 8 := by omega
              go_region_law (go_simp; go_at_call 79; refine (plus_any (wrd W n) (wrd W (n + 7)) hwn hw _).mono ?_; rintro e w' ⟨rfl, g'', d'', rfl⟩; rw [Wd_wd])
              all_goals
                go_wp2
                go_roundw
                case rel => exact ⟨n + 1, _, _, by omega, by go_num, by rw [HS.out], by rw [HS.out]⟩
                case measure => simp [intOf]; omega
        · obtain rfl : n = 52 := by omega
          have he := Lib.hid hW
          clear hW hp
          go_wp2
          exact ret_cell (i := 0) rfl rfl ag90 rfl hWl rfl ⟨by rw [← he.out]; rfl, Grows.of _ _ _⟩
end Go.Proofs.Ytfamoakicgmfgaa
namespace Go.Proofs.Ytfamoakicgmfgaa
open Go.RowKit Go.Own
attribute [local go_sem] ag89 ag5 cs5 cs89 sz5 sz89 isa5 z89 ag86 ag112 ag70 ag92 cs86 cs112 sz86 sz112 isa70 z86 z112 ag97 ag90 cs97 cs90 sz97 sz90 z97 z90

theorem bxs_B8 : ∀ k, B8 (bxs k)
  | 0 => (B8.rep _).spl (fun x hx => by obtain rfl := List.mem_singleton.1 hx; exact xor8_lt _ _) _
  | k + 1 => (bxs_B8 k).spl (fun x hx => by obtain rfl := List.mem_singleton.1 hx; exact xor8_lt _ _) _
theorem boxes_B8 : B8 boxes := bxs_B8 255
/-- A cipher's cells. -/
def cs0 : List Nat := boxes ++ rep 240
def cipher (key : List Nat) : List Nat := boxes ++ words cs0 key
theorem words_length (cs key : List Nat) : (words cs key).length = 240 := wst_length cs key 52 (Nat.le_refl _)
theorem cipher_length (key : List Nat) : (cipher key).length = 496 := by simp [cipher, boxes_length, words_length]
theorem cs0_length : cs0.length = 496 := by simp [cs0, boxes_length]
theorem cs0_B8 : B8 cs0 := boxes_B8.append (B8.rep _)
set_option maxRecDepth 100000 in
theorem spl_cs0 (key : List Nat) : spl cs0 256 (words cs0 key) = cipher key := by
  have h := boxes_length
  have h2 := words_length cs0 key
  unfold spl cipher
  rw [h2, List.drop_of_length_le (by rw [cs0_length]; omega), List.append_nil]
  rw [cs0, List.take_append_of_le_length (by omega), List.take_of_length_le (by omega)]
noncomputable def fs49 : Array Field := match Try.prog.underlying 92 with | some (.struct fs) => fs | _ => #[]
theorem f49 : Try.prog.underlying 92 = some (.struct fs49) := by kernel_rfl
theorem p49 (W : World) : (fs49.mapM fun f => do pure (f.offset, ← sizeOf f.type) : Sem (Array (Nat × Nat))).run Try.prog W = .ok #[(0, 256), (256, 240)] W := by kernel_rfl
theorem z92 : zeroOf Try.prog 92 = .agg (cv .u8 (rep 496)) := by kernel_rfl
set_option maxRecDepth 100000 in
theorem bu92 (W : World) : (buN 92 #[(0, .agg (cv .u8 boxes))]).run Try.prog W = .ok (.agg (cv .u8 cs0)) W := by
  have hl := boxes_length
  have := build_one (x := boxes) (off := 0) z92 f49 (p49 W) (by rw [hl]; rfl) (by rw [hl, rep_length]; omega)
  rw [this]
  have e : spl (rep 496) 0 boxes = cs0 := by
    unfold spl cs0
    rw [List.take_zero, List.nil_append, hl]
    unfold rep
    rw [List.drop_replicate]
  rw [e]
set_option maxRecDepth 100000 in
theorem new_bad (key : ByteArray) (h : key.size ≠ 32) (w : World) :
    Calls Try.prog 35 #[.string key] w fun e w' => e = .returned (.tuple #[.pointer none, .int .i64 2]) ∧ w = w' := by
  have hb : ((key.size : Int) != 32) = true := by simp; omega
  clear h
  go_enter Try.func35, Try.ntmps35
  go_wp2
  go_ret2
  exact ⟨rfl, rfl⟩
attribute [local go_sem] bu92
set_option maxRecDepth 100000 in
set_option maxHeartbeats 1000000 in
theorem new_ok (key : ByteArray) (h : key.size = 32) (w : World) :
    Calls Try.prog 35 #[.string key] w fun e w' => ∃ cb, e = .returned (.tuple #[.pointer (some ⟨cb, 0, none⟩), .int .i64 0]) ∧ Grows w w' ∧ blk w' cb = some (.cells (cv .u8 (cipher (bys key))) 92 (0, 0)) := by
  have hb : ((key.size : Int) != 32) = false := by simp; omega
  have H := Lib.hid h; clear h
  have hwl := words_length cs0 (bys key)
  have hcl := cs0_length
  have hsp := spl_cs0 (bys key)
  go_enter Try.func35, Try.ntmps35
  go_wp2_with fail
  refine (allBoxes_any _).mono ?_
  rintro e w' ⟨rfl, g, d, rfl⟩
  go_wp2_with fail
  refine (asker_any _ _).mono ?_
  rintro e w' ⟨rfl, rfl⟩
  rw [Wd_wd]
  go_wp2_with fail
  have HD : Held (Wd w (g ++ [.cells (cv .u8 cs0) 92 (0, 0), .cells #[.pointer (some ⟨w.heap.size + g.length, 0, none⟩)] 70 (0, 0)]) d) (w.heap.size + (g.length + 1)) (w.heap.size + g.length) cs0 :=
    ⟨by rw [blk_at, List.getElem?_append_right (by omega)]; simp, by rw [blk_at]; exact at_mid _ _ _, by rw [cs0_length]; omega⟩
  refine (widen_any key H.out _ _ cs0 _ HD).mono ?_
  rintro e w' ⟨rfl, g', d', rfl⟩
  rw [Wd_wd]
  clear HD
  go_wp2
  go_ret2
  refine ⟨_, rfl, Grows.of _ _ _, ?_⟩
  rw [blk_at]
  exact at_mid _ _ _

theorem Held.at0 {w : World} {cb : Nat} {cs : List Nat} (h : blk w cb = some (.cells (cv .u8 cs) 92 (0, 0))) (hc : cs.length = 496) {l : List Obj} (d : Nat)
    (hl : l[0]? = some (.cells #[.pointer (some ⟨cb, 0, none⟩)] 70 (0, 0))) : Held (Wd w l d) w.heap.size cb cs :=
  ⟨by rw [blk_at0]; exact hl, blk_old _ _ _ _ h, by omega⟩
theorem press_bad (cb : Nat) (t : ByteArray) (h : t.size ≠ 16) (w : World) :
    Calls Try.prog 37 #[.pointer (some ⟨cb, 0, none⟩), .string t] w fun e w' => e = .returned (.tuple #[.string ByteArray.empty, .int .i64 2]) ∧ w = w' := by
  have hb : ((t.size : Int) != 16) = true := by simp; omega
  clear h
  go_enter Try.func37, Try.ntmps37
  go_wp2
  go_ret2
  exact ⟨rfl, rfl⟩

/-- A round but the last one. -/
def rnd (cs s : List Nat) (r : Nat) : List Nat := addL cs (sqr mixL (turnL (sqr (eachL cs) s))) r
def rndLast (cs s : List Nat) : List Nat := addL cs (turnL (sqr (eachL cs) s)) 14
/-- Before the round r + 1. -/
def sq (cs t : List Nat) : Nat → List Nat
  | 0 => addL cs t 0
  | r + 1 => rnd cs (sq cs t r) (r + 1)
def pressL (cs t : List Nat) : List Nat := rndLast cs (sq cs t 13)
theorem sqr_length {f : List Nat → List Nat} (hf : ∀ x, (f x).length = 4) (s : List Nat) : (sqr f s).length = 16 := flat_length (c := 4) (f := fun i => f (wrd s i)) (fun _ => hf _) 4
theorem sq_length (cs t : List Nat) : ∀ r, (sq cs t r).length = 16
  | 0 => addL_length _ _ _
  | _ + 1 => addL_length _ _ _
theorem addL_B8 (cs s : List Nat) (r : Nat) : B8 (addL cs s r) := B8.flat fun _ _ => B8_xorL _ _
theorem sq_B8 (cs t : List Nat) : ∀ r, B8 (sq cs t r)
  | 0 => addL_B8 _ _ _
  | _ + 1 => addL_B8 _ _ _

set_option maxRecDepth 100000 in
set_option maxHeartbeats 1000000 in
theorem press_ok (cb : Nat) (cs : List Nat) (hc : cs.length = 496) (t : ByteArray) (ht : t.size = 16) (w : World) (HB : blk w cb = some (.cells (cv .u8 cs) 92 (0, 0))) :
    Calls Try.prog 37 #[.pointer (some ⟨cb, 0, none⟩), .string t] w fun e w' => e = .returned (.tuple #[.string (mkS (pressL cs (bys t))), .int .i64 0]) ∧ Grows w w' := by
  have hb : ((t.size : Int) != 16) = false := by simp; omega
  have hbt := bys_length t
  have H := Lib.hid ht; clear ht
  have HC := Lib.hid HB; clear HB
  have HL := Lib.hid hc; clear hc
  refine calls_wd ?_
  go_enter Try.func37, Try.ntmps37
  go_wp2_with fail
  refine (asker_any _ _).mono ?_
  rintro e w' ⟨rfl, rfl⟩
  rw [Wd_wd]
  go_wp2_with fail
  refine (columns_any _ H.out _).mono ?_
  rintro e w' ⟨rfl, g, d, rfl⟩
  rw [Wd_wd]
  go_wp2_with fail
  refine (add_any cb cs (bys t) (by rw [hbt, H.out]) HL.out 0 (by omega) _ (blk_old _ _ _ _ HC.out)).mono ?_
  rintro e w' ⟨rfl, g', d', rfl⟩
  rw [Wd_wd, List.cons_append]
  generalize g ++ g' = G
  have hq0 : (addL cs (bys t) 0).length = 16 := addL_length _ _ _
  go_wp2
  clear hq0
  go_loopw [8] (fun i wr => ∃ (r d : Nat) (g : List Obj), r ≤ 13 ∧ i = .int .i64 ((r : Int) + 1) ∧ wr = Wd w (.cells #[.pointer (some ⟨cb, 0, none⟩)] 70 :: (G ++ .cells (cv .u8 (sq cs (bys t) r)) 97 :: g)) d) (fun i _ => 14 - (intOf i).toNat)
  case atStart => exact ⟨0, _, [], by omega, rfl, rfl⟩
  case round =>
    obtain ⟨r, d, g, hr, rfl, rfl⟩ := hrel
    have hl := sq_length cs (bys t) r
    have h8 := Lib.hid (sq_B8 cs (bys t) r)
    by_cases hlt : r < 13
    · have hl2 : (sq cs (bys t) (r + 1)).length = 16 := sq_length _ _ _
      have HE : Hid (sq cs (bys t) (r + 1) = rnd cs (sq cs (bys t) r) (r + 1)) := rfl
      go_wp2_with fail
      refine Calls.mono (boxed_any _ hl h8.out.gi w.heap.size cb cs _ ?hH) ?_
      case hH => exact Held.at0 HC.out HL.out _ rfl
      rintro e w' ⟨rfl, g1, d1, rfl⟩
      rw [Wd_wd]
      go_wp2_with fail
      refine (turn_any _ (sqr_length (eachL_length cs) _) _).mono ?_
      rintro e w' ⟨rfl, g2, d2, rfl⟩
      rw [Wd_wd]
      go_wp2_with fail
      refine (mix_any _ (turnL_length _) _).mono ?_
      rintro e w' ⟨rfl, g3, d3, rfl⟩
      rw [Wd_wd]
      go_wp2_with fail
      refine (add_any cb cs _ (sqr_length mixL_length _) HL.out (r + 1) (by omega) _ (blk_old _ _ _ _ HC.out)).mono ?_
      rintro e w' ⟨rfl, g4, d4, rfl⟩
      rw [Wd_wd]
      change (sq cs (bys t) (r + 1)).length = 16 at hl2
      unfold sq rnd at hl2
      go_wp2
      go_roundw
      case rel => exact ⟨r + 1, _, _, by omega, by go_num, by rw [HE.out]; rfl⟩
      case measure => simp [intOf]; omega
    · obtain rfl : r = 13 := by omega
      have hl2 : (addL cs (turnL (sqr (eachL cs) (sq cs (bys t) 13))) 14).length = 16 := addL_length _ _ _
      go_wp2_with fail
      refine Calls.mono (boxed_any _ hl h8.out.gi w.heap.size cb cs _ ?hH2) ?_
      case hH2 => exact Held.at0 HC.out HL.out _ rfl
      rintro e w' ⟨rfl, g1, d1, rfl⟩
      rw [Wd_wd]
      go_wp2_with fail
      refine (turn_any _ (sqr_length (eachL_length cs) _) _).mono ?_
      rintro e w' ⟨rfl, g2, d2, rfl⟩
      rw [Wd_wd]
      go_wp2_with fail
      refine (add_any cb cs _ (turnL_length _) HL.out 14 (by omega) _ (blk_old _ _ _ _ HC.out)).mono ?_
      rintro e w' ⟨rfl, g4, d4, rfl⟩
      rw [Wd_wd]
      go_wp2_with fail
      refine (text_any _ hl2 _).mono ?_
      rintro e w' ⟨rfl, g5, d5, rfl⟩
      rw [Wd_wd]
      go_wp2
      go_ret2
      exact ⟨rfl, Grows.of _ _ _⟩
end Go.Proofs.Ytfamoakicgmfgaa

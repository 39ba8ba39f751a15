/- The pressing of one block, by contract. -/
import Derived.Test.YtokijignhpcjlaaDoorS1
import Derived.Test.YtokijignhpcjlaaDoorReg
namespace Go.Proofs.YtokijignhpcjlaaDoor
open Go.RowKit Go.Own

theorem ag47 : aggSize Tryd.prog 47 = some 8 := by kernel_rfl
theorem ag50 : aggSize Tryd.prog 50 = some 64 := by kernel_rfl
theorem ag56 : aggSize Tryd.prog 56 = some 64 := by kernel_rfl
theorem ag45 : aggSize Tryd.prog 45 = none := by kernel_rfl
theorem ag5 : aggSize Tryd.prog 5 = none := by kernel_rfl
theorem ag3 : aggSize Tryd.prog 3 = none := by kernel_rfl
theorem cs47 : Tryd.prog.cellsOf 47 = 8 := by kernel_rfl
theorem cs50 : Tryd.prog.cellsOf 50 = 64 := by kernel_rfl
theorem cs56 : Tryd.prog.cellsOf 56 = 64 := by kernel_rfl
theorem cs45 : Tryd.prog.cellsOf 45 = 1 := by kernel_rfl
theorem cs5 : Tryd.prog.cellsOf 5 = 1 := by kernel_rfl
theorem cs3 : Tryd.prog.cellsOf 3 = 1 := by kernel_rfl
theorem sz47 (w : World) : (sizeOf 47).run Tryd.prog w = .ok 8 w := by kernel_rfl
theorem sz50 (w : World) : (sizeOf 50).run Tryd.prog w = .ok 64 w := by kernel_rfl
theorem sz56 (w : World) : (sizeOf 56).run Tryd.prog w = .ok 64 w := by kernel_rfl
theorem sz45 (w : World) : (sizeOf 45).run Tryd.prog w = .ok 1 w := by kernel_rfl
theorem sz5 (w : World) : (sizeOf 5).run Tryd.prog w = .ok 1 w := by kernel_rfl
theorem sz3 (w : World) : (sizeOf 3).run Tryd.prog w = .ok 1 w := by kernel_rfl
theorem isa45 (w : World) : (isAgg 45).run Tryd.prog w = .ok false w := by kernel_rfl
theorem isa5 (w : World) : (isAgg 5).run Tryd.prog w = .ok false w := by kernel_rfl
theorem isa3 (w : World) : (isAgg 3).run Tryd.prog w = .ok false w := by kernel_rfl
theorem z47 : zeroOf Tryd.prog 47 = .agg (cv .u32 (rep 8)) := by kernel_rfl
theorem z56 : zeroOf Tryd.prog 56 = .agg (cv .u32 (rep 64)) := by kernel_rfl
attribute [local go_sem] ag47 ag50 ag56 ag45 ag5 ag3 cs47 cs50 cs56 cs45 cs5 cs3 sz47 sz50 sz56 sz45 sz5 sz3 isa45 isa5 isa3 z47 z56

set_option maxRecDepth 100000 in
theorem shifted_any (x : Nat) (a b : Int) (c : Nat) (ha1 : 1 ≤ a) (ha : a ≤ 31) (hb1 : 1 ≤ b) (hb : b ≤ 31) (hc : c ≤ 31) (w : World) :
    Calls Tryd.prog 36 #[.int .u32 x, .int .i64 a, .int .i64 b, .int .i64 c] w fun e w' => e = .returned (.int .u32 (shiftedF x a b c)) ∧ Grows w w' := by
  have wa : IntKind.i64.wrap (-a) = -a := IntWalk.i64_in _ (by omega)
  have wb : IntKind.i64.wrap (-b) = -b := IntWalk.i64_in _ (by omega)
  have hc2 : c ≤ 32 := by omega
  refine calls_wd ?_
  go_enter Tryd.func36, Tryd.ntmps36
  go_wp2
  refine wp_region_still_tail 13 (by kernel_rfl) (by kernel_rfl) ?_
  simp only [List.take_succ_cons, List.take_zero, List.drop_succ_cons, List.drop_zero]
  change wpStill _ _ (Wd _ _ (_ + 1)) _ _ _
  repeat (first | still_step | (refine wpStill_step (fun K hK => ?_); go_simp; with_reducible refine ⟨_, rotl_same x a ha1 ha _, hK _ ?_⟩; clear hK K) | (refine wpStill_step (fun K hK => ?_); go_simp; with_reducible refine ⟨_, rotl_same x b hb1 hb _, hK _ ?_⟩; clear hK K))
  refine wpStill_nil ?_
  change wpList _ _ _ _ _ (Wd _ _ (_ + 1))
  go_wp2
  go_ret
  exact ⟨rfl, Grows.of _ _ _⟩

theorem shifted_int (x : Nat) (a b c : Int) (ha1 : 1 ≤ a) (ha : a ≤ 31) (hb1 : 1 ≤ b) (hb : b ≤ 31) (hc0 : 0 ≤ c) (hc : c ≤ 31) (w : World) :
    Calls Tryd.prog 36 #[.int .u32 x, .int .i64 a, .int .i64 b, .int .i64 c] w fun e w' => e = .returned (.int .u32 (shiftedF x a b c)) ∧ Grows w w' := by
  obtain ⟨n, rfl⟩ := Int.eq_ofNat_of_zero_le hc0
  exact shifted_any x a b n ha1 ha hb1 hb (by omega) w
def plusF (s m : List Nat) (i : Nat) : Nat := add32 (gi s i) (gi m i)
def plusL (s m : List Nat) : List Nat := (List.range 8).map (plusF s m)
theorem plusL_length (s m : List Nat) : (plusL s m).length = 8 := by simp [plusL]
set_option maxRecDepth 100000 in
set_option maxHeartbeats 400000 in
theorem plus_any (x y : List Nat) (hx : x.length = 8) (hy : y.length = 8) (w : World) :
    Calls Tryd.prog 33 #[.agg (cv .u32 x), .agg (cv .u32 y)] w fun e w' => e = .returned (.agg (cv .u32 (plusL x y))) ∧ Grows w w' := by
  refine calls_wd ?_
  go_enter Tryd.func33, Tryd.ntmps33
  go_wp2
  go_loopw [8] (fun i wr => ∃ k d : Nat, k ≤ 8 ∧ i = .int .i64 k ∧ wr = Wd w [.cells (cv .u32 (fin1 (plusF x y) k x)) 47, .cells (cv .u32 y) 47, .cells (cv .u32 (rep 8)) 47] d) (fun i _ => 8 - (intOf i).toNat)
  case atStart => exact ⟨0, 0, by omega, rfl, by rw [fin1_zero]⟩
  case round =>
    obtain ⟨k, d, hk, rfl, rfl⟩ := hrel
    by_cases hlt : k < 8
    · have hl : (fin1 (plusF x y) k x).length = 8 := by rw [fin1_length (by omega), hx]
      go_wp2
      go_roundw
      case rel => exact ⟨k + 1, _, by omega, by go_num, by rw [fin1_gi (Nat.le_refl k), show add32 (gi x k) (gi y k) = plusF x y k from rfl, fin1_step]⟩
      case measure => simp [intOf]; omega
    · obtain rfl : k = 8 := by omega
      have he := Lib.hid (fin1_end (f := plusF x y) (n := 8) (s := x) (by omega))
      have hl : (fin1 (plusF x y) 8 x).length = 8 := by rw [fin1_length (by omega), hx]
      go_wp2
      exact ret_cell (i := 2) rfl rfl ag47 rfl hl rfl ⟨by rw [he.out]; rfl, Grows.of _ _ _⟩

def wd1 (bl : List Nat) : Nat → List Nat
  | 0 => rep 64
  | k + 1 => spl (wd1 bl k) (k / 4) [or32 (shl32 (gi (wd1 bl k) (k / 4)) 8) (gi bl k)]
def wd2 (bl : List Nat) : Nat → List Nat
  | 0 => wd1 bl 64
  | n + 1 => spl (wd2 bl n) (n + 16) [add32 (add32 (add32 (shiftedF (gi (wd2 bl n) (n + 14)) 17 19 10) (gi (wd2 bl n) (n + 9))) (shiftedF (gi (wd2 bl n) (n + 1)) 7 18 3)) (gi (wd2 bl n) n)]
theorem wd1_length (bl : List Nat) : ∀ k, k ≤ 64 → (wd1 bl k).length = 64
  | 0, _ => rep_length 64
  | k + 1, h => by
    have := wd1_length bl k (by omega)
    rw [wd1, spl_length _ _ _ (by rw [this]; simp; omega), this]
theorem wd2_length (bl : List Nat) : ∀ n, n ≤ 48 → (wd2 bl n).length = 64
  | 0, _ => wd1_length bl 64 (Nat.le_refl _)
  | n + 1, h => by
    have := wd2_length bl n (by omega)
    rw [wd2, spl_length _ _ _ (by rw [this]; simp; omega), this]
theorem u32_of_u8 {n : Nat} (h : n < 256) : IntKind.u32.wrap (n : Int) = (n : Int) := by rw [wrap32n]; congr 1; omega
def widenL (bl : List Nat) : List Nat := wd2 bl 48
theorem widenL_length (bl : List Nat) : (widenL bl).length = 64 := wd2_length bl 48 (Nat.le_refl _)
set_option maxRecDepth 100000 in
set_option maxHeartbeats 1000000 in
theorem widen_any (bl : List Nat) (hbl : bl.length = 64) (h8 : B8 bl) (w : World) :
    Calls Tryd.prog 29 #[.agg (cv .u8 bl)] w fun e w' => e = .returned (.agg (cv .u32 (widenL bl))) ∧ Grows w w' := by
  have H8 := Lib.hid h8; clear h8
  refine calls_wd ?_
  go_enter Tryd.func29, Tryd.ntmps29
  go_wp2
  go_loopw [8] (fun i wr => ∃ k d : Nat, k ≤ 64 ∧ i = .int .i64 k ∧ wr = Wd w [.cells (cv .u8 bl) 50, .cells (cv .u32 (rep 64)) 56, .cells (cv .u32 (wd1 bl k)) 56] d) (fun i _ => 64 - (intOf i).toNat)
  case atStart => exact ⟨0, 0, by omega, rfl, rfl⟩
  case round =>
    obtain ⟨k, d, hk, rfl, rfl⟩ := hrel
    have hl := wd1_length bl k hk
    by_cases hlt : k < 64
    · have hst : Hid (spl (wd1 bl k) (k / 4) [or32 (shl32 (gi (wd1 bl k) (k / 4)) 8) (gi bl k)] = wd1 bl (k + 1)) := rfl
      have hw := u32_of_u8 (H8.out.gi k)
      have hq : k / 4 < 64 := by omega
      have hq2 : (k : Int) / 4 < 64 := by omega
      go_wp2
      go_roundw
      case rel => exact ⟨k + 1, _, by omega, by go_num, by rw [hst.out]⟩
      case measure => simp [intOf]; omega
    · obtain rfl : k = 64 := by omega
      clear hl hlt
      go_wp2
      rw [show ((64 : Nat) : Int) = 64 from rfl]
      go_loopw [6] (fun i wr => ∃ (n d : Nat) (g : List Obj), n ≤ 48 ∧ i = .int .i64 ((n : Int) + 16) ∧ wr = Wd w (.cells (cv .u8 bl) 50 :: .cells (cv .u32 (rep 64)) 56 :: .cells (cv .u32 (wd2 bl n)) 56 :: g) d) (fun i _ => 64 - (intOf i).toNat)
      case atStart => exact ⟨0, _, [], by omega, rfl, rfl⟩
      case round =>
        obtain ⟨n, d, g, hn, rfl, rfl⟩ := hrel
        have hl2 := wd2_length bl n hn
        by_cases hlt2 : n < 48
        · have hst : Hid (spl (wd2 bl n) (n + 16) [add32 (add32 (add32 (shiftedF (gi (wd2 bl n) (n + 14)) 17 19 10) (gi (wd2 bl n) (n + 9))) (shiftedF (gi (wd2 bl n) (n + 1)) 7 18 3)) (gi (wd2 bl n) n)] = wd2 bl (n + 1)) := rfl
          obtain ⟨R, hR⟩ : ∃ R, wd2 bl (n + 1) = R := ⟨_, rfl⟩
          rw [hR] at hst
          have HR := Lib.hid hR
          clear hR
          generalize wd2 bl n = S at *
          obtain ⟨p2, hp2⟩ : ∃ p, n + 14 = p := ⟨_, rfl⟩
          obtain ⟨p7, hp7⟩ : ∃ p, n + 9 = p := ⟨_, rfl⟩
          obtain ⟨p15, hp15⟩ : ∃ p, n + 1 = p := ⟨_, rfl⟩
          rw [hp2, hp7, hp15] at hst
          have e2 : IntKind.i64.wrap ((n : Int) + 16 - 2) = (p2 : Int) := by rw [IntWalk.i64_in _ (by omega)]; omega
          have e7 : IntKind.i64.wrap ((n : Int) + 16 - 7) = (p7 : Int) := by rw [IntWalk.i64_in _ (by omega)]; omega
          have e15 : IntKind.i64.wrap ((n : Int) + 16 - 15) = (p15 : Int) := by rw [IntWalk.i64_in _ (by omega)]; omega
          have e16 : IntKind.i64.wrap (n : Int) = (n : Int) := IntWalk.i64_in _ (by omega)
          have q2 : (p2 : Int) < 64 := by omega
          have q7 : (p7 : Int) < 64 := by omega
          have q15 : (p15 : Int) < 64 := by omega
          have q16 : (n : Int) < 64 := by omega
          have t2 : p2 < 64 := by omega
          have t7 : p7 < 64 := by omega
          have t15 : p15 < 64 := by omega
          have t16 : n < 64 := by omega
          have i0 : 0 ≤ (n : Int) + 16 := by omega
          have i1 : (n : Int) + 16 < 64 := by omega
          have i2 : ((n : Int) + 16).toNat = n + 16 := by omega
          have i3 : n + 16 < 64 := by omega
          clear hp2 hp7 hp15 hn hlt2
          go_wp2
          refine wp_region_more 23 (by kernel_rfl) (by kernel_rfl) ?_
          simp only [List.take_succ_cons, List.take_zero, List.drop_succ_cons, List.drop_zero]
          repeat (first | (refine more_step (fun K hK => ?_); go_simp; refine hK _ ?_; clear hK K) | (refine more_step (fun K hK => ?_); go_simp; (with_reducible refine ⟨_, fun g e => more_call (g := g) (e := e) (fun g m => by simp) (shifted_int (gi S p2) 17 19 10 (by decide) (by decide) (by decide) (by decide) (by decide) (by decide) _), hK _ ?_⟩); clear hK K) | (refine more_step (fun K hK => ?_); go_simp; (with_reducible refine ⟨_, fun g e => more_call (g := g) (e := e) (fun g m => by simp) (shifted_int (gi S p15) 7 18 3 (by decide) (by decide) (by decide) (by decide) (by decide) (by decide) _), hK _ ?_⟩); clear hK K))
          refine wpQuiet_nil ?_
          intro g2 e2
          go_wp2
          go_roundw
          case rel => exact ⟨n + 1, _, _, by omega, by go_num, by rw [hst.out, ← HR.out]⟩
          case measure => simp [intOf]; omega
        · obtain rfl : n = 48 := by omega
          go_wp2
          exact ret_cell (i := 1) rfl rfl ag56 rfl hl2 rfl ⟨rfl, Grows.of _ _ _⟩

/-- A round. -/
def rdF (W v : List Nat) (K : List Nat) (k : Nat) : List Nat :=
  [add32 (add32 (add32 (add32 (add32 (gi v 7) (turnedF (gi v 4) 6 11 25)) (pickF (gi v 4) (gi v 5) (gi v 6))) (gi K k)) (gi W k)) (add32 (turnedF (gi v 0) 2 13 22) (mostF (gi v 0) (gi v 1) (gi v 2))), gi v 0, gi v 1, gi v 2, add32 (gi v 3) (add32 (add32 (add32 (add32 (gi v 7) (turnedF (gi v 4) 6 11 25)) (pickF (gi v 4) (gi v 5) (gi v 6))) (gi K k)) (gi W k)), gi v 4, gi v 5, gi v 6]
theorem gi8_0 (a b c d e f g h : Nat) : gi [a, b, c, d, e, f, g, h] 0 = a := rfl
theorem gi8_1 (a b c d e f g h : Nat) : gi [a, b, c, d, e, f, g, h] 1 = b := rfl
theorem gi8_2 (a b c d e f g h : Nat) : gi [a, b, c, d, e, f, g, h] 2 = c := rfl
theorem gi8_3 (a b c d e f g h : Nat) : gi [a, b, c, d, e, f, g, h] 3 = d := rfl
theorem gi8_4 (a b c d e f g h : Nat) : gi [a, b, c, d, e, f, g, h] 4 = e := rfl
theorem gi8_5 (a b c d e f g h : Nat) : gi [a, b, c, d, e, f, g, h] 5 = f := rfl
theorem gi8_6 (a b c d e f g h : Nat) : gi [a, b, c, d, e, f, g, h] 6 = g := rfl
theorem gi8_7 (a b c d e f g h : Nat) : gi [a, b, c, d, e, f, g, h] 7 = h := rfl
def rootsL : List Nat := [1116352408, 1899447441, 3049323471, 3921009573, 961987163, 1508970993, 2453635748, 2870763221, 3624381080, 310598401, 607225278, 1426881987, 1925078388, 2162078206, 2614888103, 3248222580, 3835390401, 4022224774, 264347078, 604807628, 770255983, 1249150122, 1555081692, 1996064986, 2554220882, 2821834349, 2952996808, 3210313671, 3336571891, 3584528711, 113926993, 338241895, 666307205, 773529912, 1294757372, 1396182291, 1695183700, 1986661051, 2177026350, 2456956037, 2730485921, 2820302411, 3259730800, 3345764771, 3516065817, 3600352804, 4094571909, 275423344, 430227734, 506948616, 659060556, 883997877, 958139571, 1322822218, 1537002063, 1747873779, 1955562222, 2024104815, 2227730452, 2361852424, 2428436474, 2756734187, 3204031479, 3329325298]
theorem rootsL_length : rootsL.length = 64 := rfl
def rd (W v : List Nat) : Nat → List Nat
  | 0 => v
  | k + 1 => rdF W (rd W v k) rootsL k
def pressF (st bl : List Nat) : List Nat := plusL st (rd (widenL bl) st 64)
theorem pressF_length (st bl : List Nat) : (pressF st bl).length = 8 := plusL_length _ _
/-- The table that the rounds read. -/
def Roots (w : World) : Prop := ∃ t f, blk w 0 = some (.cells (cv .u32 rootsL) t f)
theorem Roots.grows {w w' : World} (h : Roots w) (hg : Grows w w') : Roots w' := let ⟨t, f, e⟩ := h; ⟨t, f, hg.blk e⟩
theorem Roots.wd {w : World} (h : Roots w) (l : List Obj) (d : Nat) : Roots (Wd w l d) := h.grows (Grows.of _ _ _)
theorem bu47 (a b c d e f g h : Nat) (W : World) : (buN 47 #[(0, .int .u32 a), (1, .int .u32 b), (2, .int .u32 c), (3, .int .u32 d), (4, .int .u32 e), (5, .int .u32 f), (6, .int .u32 g), (7, .int .u32 h)]).run Tryd.prog W = .ok (.agg (cv .u32 [a, b, c, d, e, f, g, h])) W := by kernel_rfl
theorem eight {v : List Nat} (h : v.length = 8) : [gi v 0, gi v 1, gi v 2, gi v 3, gi v 4, gi v 5, gi v 6, gi v 7] = v := by
  match v, h with
  | [_, _, _, _, _, _, _, _], _ => rfl
theorem rd_length (W v : List Nat) (h : v.length = 8) : ∀ k, (rd W v k).length = 8
  | 0 => h
  | k + 1 => by rw [rd, rdF]; rfl
theorem turned_same (x : Nat) (a b c : Int) (ha1 : 1 ≤ a) (ha : a ≤ 31) (hb1 : 1 ≤ b) (hb : b ≤ 31) (hc1 : 1 ≤ c) (hc : c ≤ 31) (w : World) :
    Calls Tryd.prog 30 #[.int .u32 x, .int .i64 a, .int .i64 b, .int .i64 c] w fun e w' => e = .returned (.int .u32 (turnedF x a b c)) ∧ w' = w :=
  (turned_any x a b c ha1 ha hb1 hb hc1 hc w).mono fun _ _ h => ⟨h.1, h.2.symm⟩
theorem pick_same (a b c : Nat) (w : World) : Calls Tryd.prog 31 #[.int .u32 a, .int .u32 b, .int .u32 c] w fun e w' => e = .returned (.int .u32 (pickF a b c)) ∧ w' = w :=
  (pick_any a b c w).mono fun _ _ h => ⟨h.1, h.2.symm⟩
attribute [local go_sem] bu47
end Go.Proofs.YtokijignhpcjlaaDoor

/- The document's digest, plain: it comes to the program's. -/
import Derived.Test.YtbiadmhomadflaaGreatDoorS1
import Derived.Test.YtbiadmhomadflaaGreatDoorApp
namespace Go.Proofs.YtbiadmhomadflaaGreatDoor.Sm
open Go.RowKit Go.Own

theorem turn_int (x : Nat) (n : Int) (h1 : 1 ≤ n) (h2 : n ≤ 31) (w : World) : Calls Tryz.prog 54 #[.int .u32 x, .int .u64 n] w fun e w' => e = .returned (.int .u32 (rotI x n)) ∧ w' = w := by
  obtain ⟨m, rfl⟩ := Int.eq_ofNat_of_zero_le (show 0 ≤ n by omega)
  exact (turn_any x m (by omega) (by omega) w).mono fun _ _ h => ⟨h.1, h.2.symm⟩
theorem gi_spl1 {s : List Nat} {o x : Nat} (ho : o < s.length) (j : Nat) : gi (spl s o [x]) j = if j = o then x else gi s j := by
  have e : spl s o [x] = s.set o x := by
    rw [List.set_eq_take_append_cons_drop, if_pos ho]
    simp [spl]
  rw [e]
  simp only [gi, List.getD_eq_getElem?_getD, List.getElem?_set]
  by_cases h : o = j
  · subst h; simp [ho]
  · rw [if_neg h, if_neg (fun e => h e.symm)]
/-- Four bytes as a word. -/
def be32 (a b c d : Nat) : Nat := add32 (add32 (add32 (shl32 a 24) (shl32 b 16)) (shl32 c 8)) d
theorem or_low (a b : Nat) (hb : b < 256) : a * 256 ||| b = a * 256 + b := by
  have e256 : (2 : Nat) ^ 8 = 256 := rfl
  have h := Nat.shiftLeft_add_eq_or_of_lt (show b < 2 ^ 8 by omega) a
  rw [Nat.shiftLeft_eq, e256] at h
  exact h.symm
theorem mod_small {x M : Nat} (h : x < M) : x % M = x := Nat.mod_eq_of_lt h
theorem shl_8 {a : Nat} (h : a * 256 < 4294967296) : shl32 a 8 = a * 256 := by
  have e256 : (2 : Nat) ^ 8 = 256 := rfl
  unfold shl32
  rw [e256, mod_small h]
theorem or_shl {a b : Nat} (hb : b < 256) (h : a * 256 + b < 4294967296) : or32 (shl32 a 8) b = a * 256 + b := by
  have ha : a * 256 < 4294967296 := Nat.lt_of_le_of_lt (Nat.le_add_right _ _) h
  rw [shl_8 ha]
  unfold or32
  rw [or_low _ _ hb, mod_small h]
theorem be32_or {a b c d : Nat} (ha : a < 256) (hb : b < 256) (hc : c < 256) (hd : d < 256) :
    or32 (shl32 (or32 (shl32 (or32 (shl32 (or32 (shl32 0 8) a) 8) b) 8) c) 8) d = be32 a b c d := by
  rw [or_shl ha (by omega), or_shl hb (by omega), or_shl hc (by omega), or_shl hd (by omega)]
  unfold be32 add32 shl32
  omega
theorem wd1_far (bl : List Nat) : ∀ k, k ≤ 64 → ∀ j, k ≤ 4 * j → j < 64 → gi (wd1 bl k) j = 0
  | 0, _, j, _, _ => by rw [wd1, rep_gi]
  | k + 1, h, j, hj, hj2 => by
    rw [wd1, gi_spl1 (by rw [wd1_length bl k (by omega)]; omega), if_neg (by omega), wd1_far bl k (by omega) j (by omega) hj2]
theorem wd1_keep (bl : List Nat) (j : Nat) : ∀ k, k ≤ 64 → 4 * j + 4 ≤ k → gi (wd1 bl k) j = gi (wd1 bl (4 * j + 4)) j
  | 0, _, h => by omega
  | k + 1, h, hj => by
    by_cases e : 4 * j + 4 = k + 1
    · rw [e]
    · rw [wd1, gi_spl1 (by rw [wd1_length bl k (by omega)]; omega), if_neg (by omega), wd1_keep bl j k (by omega) (by omega)]
theorem wd1_be (bl : List Nat) (h8 : B8 bl) (j : Nat) (hj : j < 16) : gi (wd1 bl 64) j = be32 (gi bl (4 * j)) (gi bl (4 * j + 1)) (gi bl (4 * j + 2)) (gi bl (4 * j + 3)) := by
  rw [wd1_keep bl j 64 (by omega) (by omega)]
  have l0 := wd1_length bl (4 * j) (by omega)
  have l1 := wd1_length bl (4 * j + 1) (by omega)
  have l2 := wd1_length bl (4 * j + 2) (by omega)
  have l3 := wd1_length bl (4 * j + 3) (by omega)
  rw [← be32_or (h8.gi _) (h8.gi _) (h8.gi _) (h8.gi _)]
  rw [show 4 * j + 4 = (4 * j + 3) + 1 by omega, wd1, gi_spl1 (by omega), if_pos (by omega), show (4 * j + 3) / 4 = j by omega]
  rw [show 4 * j + 3 = (4 * j + 2) + 1 by omega, wd1, gi_spl1 (by omega), if_pos (by omega), show (4 * j + 2) / 4 = j by omega]
  rw [show 4 * j + 2 = (4 * j + 1) + 1 by omega, wd1, gi_spl1 (by omega), if_pos (by omega), show (4 * j + 1) / 4 = j by omega]
  rw [wd1, gi_spl1 (by omega), if_pos (by omega), show 4 * j / 4 = j by omega, wd1_far bl (4 * j) (by omega) j (by omega) (by omega)]
/-- The words, as the document lays them. -/
def rwd (bl : List Nat) : Nat → List Nat
  | 0 => rep 64
  | t + 1 => spl (rwd bl t) t [if t < 16 then be32 (gi bl (4 * t)) (gi bl (4 * t + 1)) (gi bl (4 * t + 2)) (gi bl (4 * t + 3))
      else add32 (add32 (add32 (shiftedF (gi (rwd bl t) (t - 2)) 17 19 10) (gi (rwd bl t) (t - 7))) (shiftedF (gi (rwd bl t) (t - 15)) 7 18 3)) (gi (rwd bl t) (t - 16))]
theorem rwd_length (bl : List Nat) : ∀ t, t ≤ 64 → (rwd bl t).length = 64
  | 0, _ => rep_length 64
  | t + 1, h => by
    have := rwd_length bl t (by omega)
    rw [rwd, spl_length _ _ _ (by rw [this]; simp; omega), this]
theorem rwd_far (bl : List Nat) : ∀ t, t ≤ 64 → ∀ j, t ≤ j → gi (rwd bl t) j = 0
  | 0, _, j, _ => by rw [rwd, rep_gi]
  | t + 1, h, j, hj => by
    rw [rwd, gi_spl1 (by rw [rwd_length bl t (by omega)]; omega), if_neg (by omega), rwd_far bl t (by omega) j (by omega)]
theorem rwd_16 (bl : List Nat) (h8 : B8 bl) : ∀ t, t ≤ 16 → ∀ j, j < t → gi (rwd bl t) j = gi (wd1 bl 64) j
  | 0, _, j, h => by omega
  | t + 1, ht, j, h => by
    rw [rwd, gi_spl1 (by rw [rwd_length bl t (by omega)]; omega), if_pos (show t < 16 by omega)]
    by_cases e : j = t
    · subst e; rw [if_pos rfl, wd1_be bl h8 _ (by omega)]
    · rw [if_neg e, rwd_16 bl h8 t (by omega) j (by omega)]
theorem rwd_wd2 (bl : List Nat) (h8 : B8 bl) : ∀ n, n ≤ 48 → rwd bl (n + 16) = wd2 bl n
  | 0, _ => by
    refine gi_ext (by rw [rwd_length _ _ (by omega), wd2_length _ _ (by omega)]) fun j hj => ?_
    rw [rwd_length _ _ (by omega)] at hj
    by_cases h : j < 16
    · exact rwd_16 bl h8 16 (by omega) j h
    · rw [rwd_far bl 16 (by omega) j (by omega)]
      exact (wd1_far bl 64 (by omega) j (by omega) hj).symm
  | n + 1, h => by
    rw [show n + 1 + 16 = (n + 16) + 1 by omega, rwd, if_neg (by omega), rwd_wd2 bl h8 n (by omega), wd2]
    rw [show n + 16 - 2 = n + 14 by omega, show n + 16 - 7 = n + 9 by omega, show n + 16 - 15 = n + 1 by omega, show n + 16 - 16 = n by omega]
theorem rwd_widen (bl : List Nat) (h8 : B8 bl) : rwd bl 64 = widenL bl := rwd_wd2 bl h8 48 (by omega)
theorem bu76c (W : World) : (buN 76 #[(0, .int .u32 1116352408), (1, .int .u32 1899447441), (2, .int .u32 3049323471), (3, .int .u32 3921009573), (4, .int .u32 961987163), (5, .int .u32 1508970993), (6, .int .u32 2453635748), (7, .int .u32 2870763221), (8, .int .u32 3624381080), (9, .int .u32 310598401), (10, .int .u32 607225278), (11, .int .u32 1426881987), (12, .int .u32 1925078388), (13, .int .u32 2162078206), (14, .int .u32 2614888103), (15, .int .u32 3248222580), (16, .int .u32 3835390401), (17, .int .u32 4022224774), (18, .int .u32 264347078), (19, .int .u32 604807628), (20, .int .u32 770255983), (21, .int .u32 1249150122), (22, .int .u32 1555081692), (23, .int .u32 1996064986), (24, .int .u32 2554220882), (25, .int .u32 2821834349), (26, .int .u32 2952996808), (27, .int .u32 3210313671), (28, .int .u32 3336571891), (29, .int .u32 3584528711), (30, .int .u32 113926993), (31, .int .u32 338241895), (32, .int .u32 666307205), (33, .int .u32 773529912), (34, .int .u32 1294757372), (35, .int .u32 1396182291), (36, .int .u32 1695183700), (37, .int .u32 1986661051), (38, .int .u32 2177026350), (39, .int .u32 2456956037), (40, .int .u32 2730485921), (41, .int .u32 2820302411), (42, .int .u32 3259730800), (43, .int .u32 3345764771), (44, .int .u32 3516065817), (45, .int .u32 3600352804), (46, .int .u32 4094571909), (47, .int .u32 275423344), (48, .int .u32 430227734), (49, .int .u32 506948616), (50, .int .u32 659060556), (51, .int .u32 883997877), (52, .int .u32 958139571), (53, .int .u32 1322822218), (54, .int .u32 1537002063), (55, .int .u32 1747873779), (56, .int .u32 1955562222), (57, .int .u32 2024104815), (58, .int .u32 2227730452), (59, .int .u32 2361852424), (60, .int .u32 2428436474), (61, .int .u32 2756734187), (62, .int .u32 3204031479), (63, .int .u32 3329325298)]).run Tryz.prog W = .ok (.agg (cv .u32 rootsL)) W := by kernel_rfl
attribute [local go_sem] ag76 ag75 cs76 cs75 sz76 sz75 isa75 z76 bu76c
set_option maxRecDepth 100000 in
set_option maxHeartbeats 1000000 in
theorem constants_any (w : World) : Calls Tryz.prog 53 #[] w fun e w' => e = .returned (.agg (cv .u32 rootsL)) ∧ Grows w w' := by
  have hl := rootsL_length
  refine calls_wd ?_
  go_enter Tryz.func53, Tryz.ntmps53
  go_wp2
  exact ret_cell (i := 0) rfl rfl ag76 rfl rootsL_length rfl ⟨rfl, Grows.of _ _ _⟩
end Go.Proofs.YtbiadmhomadflaaGreatDoor.Sm

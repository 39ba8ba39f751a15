import Derived.Test.YtmhhekiliojifaaA5
import Derived.Test.YtmhhekiliojifaaBld
namespace Go.Proofs.Ytmhhekiliojifaa
open Go.RowKit Go.Own
attribute [local go_sem] ag75 ag5 cs5 cs75 sz5 sz75 isa5 z75 ag72 ag92 ag52 ag78 cs72 cs92 sz72 sz92 isa52 z72 z92 ag83 ag76 cs83 cs76 sz83 sz76 z83 z76

theorem B8_xorL (x y : List Nat) : B8 (xorL x y) := B8.map (fun _ => xor8_lt _ _) _
theorem B8_eachL {cs : List Nat} (h : B8 cs) (x : List Nat) : B8 (eachL cs x) := B8.map (fun _ => h.gi _) _

/-- The word t before the round i. -/
def wTurn (t : List Nat) : List Nat := [gi t 1, gi t 2, gi t 3, gi t 0]
def wT (cs W : List Nat) (i p : Nat) : List Nat :=
  if i % 8 = 0 then spl (eachL cs (wTurn (wrd W (i - 1)))) 0 [xor8 (gi (eachL cs (wTurn (wrd W (i - 1)))) 0) p]
  else if i % 8 = 4 then eachL cs (wrd W (i - 1)) else wrd W (i - 1)
/-- The words and the power before the round 8 + n. -/
def wst (cs key : List Nat) : Nat → List Nat × Nat
  | 0 => (fin 4 (pc key) 8 (rep 240), 1)
  | n + 1 =>
    let s := wst cs key n
    (spl s.1 ((n + 8) * 4) (xorL (wrd s.1 n) (wT cs s.1 (n + 8) s.2)), if (n + 8) % 8 = 0 then dbl s.2 else s.2)
def words (cs key : List Nat) : List Nat := (wst cs key 52).1
theorem wst_length (cs key : List Nat) : ∀ n, n ≤ 52 → (wst cs key n).1.length = 240
  | 0, _ => by rw [wst, fin_length (pc_length _) (by simp), rep_length]
  | n + 1, h => by
    have := wst_length cs key n (by omega)
    simp only [wst]
    rw [spl_length _ _ _ (by rw [xorL_length]; omega), this]
theorem wst_B8 (cs key : List Nat) (hk : B8 key) : ∀ n, B8 (wst cs key n).1
  | 0 => B8.fin (fun i => hk.pc i) (B8.rep _)
  | n + 1 => (wst_B8 cs key hk n).spl (B8_xorL _ _) _

theorem bu75 (a b c d : Nat) (w : World) : (buN 75 #[(0, .int .u8 a), (1, .int .u8 b), (2, .int .u8 c), (3, .int .u8 d)]).run Try.prog w = .ok (.agg (cv .u8 [a, b, c, d])) w := by kernel_rfl
attribute [local go_sem] bu75

theorem wst_turn (cs key W : List Nat) (n p : Nat) (h1 : (wst cs key n).1 = W) (h2 : (wst cs key n).2 = p) (h : n % 8 = 0) :
    wst cs key (n + 1) = (spl W ((n + 8) * 4) (xorL (wrd W n) (spl (eachL cs (wTurn (wrd W (n + 7)))) 0 [xor8 (gi (eachL cs (wTurn (wrd W (n + 7)))) 0) p])), dbl p) := by
  have e : (n + 8) % 8 = 0 := by omega
  subst h1; subst h2
  simp only [wst, wT, e, if_true]; rfl
theorem wst_box (cs key W : List Nat) (n p : Nat) (h1 : (wst cs key n).1 = W) (h2 : (wst cs key n).2 = p) (h : n % 8 = 4) :
    wst cs key (n + 1) = (spl W ((n + 8) * 4) (xorL (wrd W n) (eachL cs (wrd W (n + 7)))), p) := by
  have e : (n + 8) % 8 = 4 := by omega
  subst h1; subst h2
  simp only [wst, wT, e, if_true]; rfl
theorem wst_plain (cs key W : List Nat) (n p : Nat) (h1 : (wst cs key n).1 = W) (h2 : (wst cs key n).2 = p) (h : n % 8 ≠ 0) (h' : n % 8 ≠ 4) :
    wst cs key (n + 1) = (spl W ((n + 8) * 4) (xorL (wrd W n) (wrd W (n + 7))), p) := by
  have e : (n + 8) % 8 ≠ 0 := by omega
  have e' : (n + 8) % 8 ≠ 4 := by omega
  subst h1; subst h2
  simp only [wst, wT, if_neg e, if_neg e']; rfl

set_option maxRecDepth 100000 in
set_option maxHeartbeats 1000000 in
theorem widen_any (key : ByteArray) (hkey : key.size = 32) (bb cb : Nat) (cs : List Nat) (w : World) (H : Held w bb cb cs) :
    Calls Try.prog 43 #[.string key, .func (.func 59) #[] #[.pointer (some ⟨bb, 0, none⟩)]] w fun e w' => e = .returned (.agg (cv .u8 (words cs (bys key)))) ∧ Grows w w' := by
  have HH := Lib.hid H; clear H
  have hbt := bys_length key
  refine calls_wd ?_
  go_enter Try.func43, Try.ntmps43
  go_wp2
  go_loopw [10] (fun i wr => ∃ k d : Nat, k ≤ 8 ∧ i = .int .i64 k ∧ wr = Wd w [.cells (cv .u8 (rep 240)) 76, .cells (cv .u8 (fin 4 (pc (bys key)) k (rep 240))) 76] d) (fun i _ => 8 - (intOf i).toNat)
  case atStart => exact ⟨0, 0, by omega, rfl, by rw [fin_zero]⟩
  case round =>
    obtain ⟨k, d, hk, rfl, rfl⟩ := hrel
    have hl : (fin 4 (pc (bys key)) k (rep 240)).length = 240 := by rw [fin_length (pc_length _) (by simp; omega), rep_length]
    by_cases hlt : k < 8
    · have hp := Lib.hid (show (bys (key.extract (4 * k) 32)).take 4 = pc (bys key) k by
        rw [bys_extract, List.take_take, pc_wrd (by omega), Nat.min_eq_left (by omega), Nat.mul_comm]; rfl)
      have hb : k * 4 + 4 ≤ 240 := by omega
      have hb2 : 4 * (k : Int) ≤ 32 := by omega
      have hb3 : 0 ≤ 4 * (k : Int) := by omega
      have hb4 : (4 * (k : Int)).toNat = 4 * k := by omega
      have hb5 : 4 ≤ 32 - 4 * k := by omega
      have hb6 : (k : Int) < 60 := by omega
      have hb7 : k < 60 := by omega
      have hw1 : IntKind.i64.wrap (4 * (k : Int)) = 4 * (k : Int) := IntWalk.i64_in _ (by omega)
      go_wp2
      refine wp_region_still_tail 7 (by kernel_rfl) (by kernel_rfl) ?_
      simp only [List.take_succ_cons, List.take_zero, List.drop_succ_cons, List.drop_zero]
      change wpStill _ _ (Wd _ _ (_ + 1)) _ _ _
      repeat still_step
      refine wpStill_nil ?_
      change wpList _ _ _ _ _ (Wd _ _ (_ + 1))
      go_wp2
      go_roundw
      case rel => exact ⟨k + 1, _, by omega, by go_num, by rw [hp.out, fin_step' (pc_length _)]⟩
      case measure => simp [intOf]; omega
    · obtain rfl : k = 8 := by omega
      go_wp2
      clear hl
      rw [show ((8 : Nat) : Int) = 8 from rfl]
      go_loopw [7, 8] (fun q i wr => ∃ (n d : Nat) (g : List Obj), n ≤ 52 ∧ i = .int .i64 ((n : Int) + 8) ∧ q = .int .u8 ((wst cs (bys key) n).2 : Nat) ∧ wr = Wd w (.cells (cv .u8 (rep 240)) 76 :: .cells (cv .u8 (wst cs (bys key) n).1) 76 :: g) d) (fun _ i _ => 60 - (intOf i).toNat)
      case atStart => exact ⟨0, d, [], by omega, rfl, rfl, rfl⟩
      case round =>
        obtain ⟨n, d, g, hn, rfl, rfl, rfl⟩ := hrel
        have hWl := wst_length cs (bys key) n hn
        have HB := Lib.hid (wst_B8 cs (bys key) (B8.bys key) n)
        generalize hW : (wst cs (bys key) n).1 = W at *
        generalize hp : (wst cs (bys key) n).2 = p at *
        by_cases hlt : n < 52
        · have hb : (n + 7) * 4 + 4 ≤ 240 := by omega
          have hb2 : n * 4 + 4 ≤ 240 := by omega
          have hb3 : (n + 8) * 4 + 4 ≤ 240 := by omega
          have hw : ((W.drop ((n + 7) * 4)).take 4).length = 4 := by simp; omega
          have hw2 : ((W.drop (n * 4)).take 4).length = 4 := by simp; omega
          by_cases h0 : n % 8 = 0
          · have HS := Lib.hid (wst_turn cs (bys key) W n p hW hp h0)
            have hm : ((n : Int) % 8 == 0) = true := by simp; omega
            clear hW hp h0
            have hel := eachL_length cs (wTurn (wrd W (n + 7)))
            have HT8 := Lib.hid (B8.four ((HB.out.drop _).take _ |>.gi 1) ((HB.out.drop _).take _ |>.gi 2) ((HB.out.drop _).take _ |>.gi 3) ((HB.out.drop _).take _ |>.gi 0) : B8 (wTurn (wrd W (n + 7))))
            have hxl := xorL_length (wrd W n) (spl (eachL cs (wTurn (wrd W (n + 7)))) 0 [xor8 (gi (eachL cs (wTurn (wrd W (n + 7)))) 0) p])
            have hsl : (spl (eachL cs (wTurn (wrd W (n + 7)))) 0 [xor8 (gi (eachL cs (wTurn (wrd W (n + 7)))) 0) p]).length = 4 := by rw [spl_length _ _ _ (by simp [hel]), hel]
            have hwn : (wrd W n).length = 4 := hw2
            go_wp2_with fail
            refine (each_any (wTurn (wrd W (n + 7))) rfl (HT8.out.gi) bb cb cs _ (HH.out.grows (Grows.of _ _ _))).mono ?_
            rintro e w' ⟨rfl, g', d', rfl⟩
            rw [Wd_wd]
            go_wp2_with fail
            refine (double_any _ _).mono ?_
            rintro e w' ⟨rfl, rfl⟩
            go_wp2
            have q1 : IntKind.i64.wrap (n : Int) = (n : Int) := wrap64_nat n (by omega)
            have q2 : (n : Int) < 60 := by omega
            have q3 : n < 60 := by omega
            have q4 : 0 ≤ (n : Int) + 8 := by omega
            have q5 : (n : Int) + 8 < 60 := by omega
            have q6 : ((n : Int) + 8).toNat = n + 8 := by omega
            go_region_law (go_simp; go_at_call 58; refine (plus_any (wrd W n) _ hwn hsl _).mono ?_; rintro e w' ⟨rfl, g'', d'', rfl⟩; rw [Wd_wd])
            all_goals
              go_wp2
              go_roundw
              case rel => exact ⟨n + 1, _, _, by omega, by go_num, by rw [HS.out], by rw [HS.out]⟩
              case measure => simp [intOf]; omega
          · by_cases h4 : n % 8 = 4
            · have HS := Lib.hid (wst_box cs (bys key) W n p hW hp h4)
              have hm0 : ((n : Int) % 8 == 0) = false := by simp; omega
              have hm4 : ((n : Int) % 8 == 4) = true := by simp; omega
              clear hW hp h0 h4
              have hel := eachL_length cs (wrd W (n + 7))
              have HT8 := Lib.hid ((HB.out.drop _).take _ : B8 (wrd W (n + 7)))
              have hxl := xorL_length (wrd W n) (eachL cs (wrd W (n + 7)))
              have hwn : (wrd W n).length = 4 := hw2
              go_wp2_with fail
              refine (each_any (wrd W (n + 7)) hw (HT8.out.gi) bb cb cs _ (HH.out.grows (Grows.of _ _ _))).mono ?_
              rintro e w' ⟨rfl, g', d', rfl⟩
              rw [Wd_wd]
              go_wp2
              have q1 : IntKind.i64.wrap (n : Int) = (n : Int) := wrap64_nat n (by omega)
              have q2 : (n : Int) < 60 := by omega
              have q3 : n < 60 := by omega
              have q4 : 0 ≤ (n : Int) + 8 := by omega
              have q5 : (n : Int) + 8 < 60 := by omega
              have q6 : ((n : Int) + 8).toNat = n + 8 := by omega
              go_region_law (go_simp; go_at_call 58; refine (plus_any (wrd W n) _ hwn hel _).mono ?_; rintro e w' ⟨rfl, g'', d'', rfl⟩; rw [Wd_wd])
              all_goals
                go_wp2
                go_roundw
                case rel => exact ⟨n + 1, _, _, by omega, by go_num, by rw [HS.out], by rw [HS.out]⟩
                case measure => simp [intOf]; omega
            · have HS := Lib.hid (wst_plain cs (bys key) W n p hW hp h0 h4)
              have hm0 : ((n : Int) % 8 == 0) = false := by simp; omega
              have hm4 : ((n : Int) % 8 == 4) = false := by simp; omega
              clear hW hp h0 h4
              have hxl := xorL_length (wrd W n) (wrd W (n + 7))
              have hwn : (wrd W n).length = 4 := hw2
              go_wp2
              have q1 : IntKind.i64.wrap (n : Int) = (n : Int) := wrap64_nat n (by omega)
              have q2 : (n : Int) < 60 := by omega
              have q3 : n < 60 := by omega
              have q4 : 0 ≤ (n : Int) + 8 := by omega
              have q5 : (n : Int) + 8 < 60 := by omega
              have q6 : ((n : Int) + 8).toNat = n + 8 := by omega
              go_region_law (go_simp; go_at_call 58; refine (plus_any (wrd W n) (wrd W (n + 7)) hwn hw _).mono ?_; rintro e w' ⟨rfl, g'', d'', rfl⟩; rw [Wd_wd])
              all_goals
                go_wp2
                go_roundw
                case rel => exact ⟨n + 1, _, _, by omega, by go_num, by rw [HS.out], by rw [HS.out]⟩
                case measure => simp [intOf]; omega
        · obtain rfl : n = 52 := by omega
          have he := Lib.hid hW
          clear hW hp
          go_wp2
          exact ret_cell (i := 0) rfl rfl ag76 rfl hWl rfl ⟨by rw [← he.out]; rfl, Grows.of _ _ _⟩
end Go.Proofs.Ytmhhekiliojifaa

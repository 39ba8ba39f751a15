/- The document's own digest: it gives what the program's is. -/
import Derived.Test.YtokijignhpcjlaaDoorR9
namespace Go.Proofs.YtokijignhpcjlaaDoor
open Go.RowKit Go.Own
attribute [local go_sem] ag47 ag50 ag56 ag45 ag5 ag3 cs47 cs50 cs56 cs45 cs5 cs3 sz47 sz50 sz56 sz45 sz5 sz3 isa45 isa5 isa3 z47 z56 ag46 cs46 sz46 z46 bu46 bu46s bs4 bs128 bs0 bs1
attribute [local go_sem ↓] shr_i64
attribute [-go_sem] run_string_add_if
attribute [local go_sem] bif32
set_option maxRecDepth 1000000 in
set_option maxHeartbeats 8000000 in
theorem refSum_any (t : ByteArray) (hb : t.size ≤ 1099511600000) (w : World) :
    Calls Tryd.prog 12 #[.string t] w fun e w' => e = .returned (.string (mkS (digL (bys t)))) ∧ Grows w w' := by
  obtain ⟨x, hx⟩ : ∃ x, bys t = x := ⟨_, rfl⟩
  obtain ⟨n, hn⟩ : ∃ n, x.length = n := ⟨_, rfl⟩
  have hnb : n ≤ 1099511600000 := by rw [← hn, ← hx, bys_length]; exact hb
  have HX := Lib.hid hx
  have HN := Lib.hid hn
  have hx8 := Lib.hid (show B8 x by rw [← hx]; exact B8.bys t)
  have hz63 : zerosN n ≤ 63 := by unfold zerosN; omega
  have hzn : Hid ((n + 1 + zerosN n) % 64 = 56) := Lib.hid (by unfold zerosN; omega)
  have hzl : Hid (∀ j, j < zerosN n → (n + 1 + j) % 64 ≠ 56) := Lib.hid (fun j hj => by unfold zerosN at hj; omega)
  have HE : Hid ((128 :: rep (zerosN n)) ++ (List.range 8).map (cntF n) = endL n) := Lib.hid rfl
  obtain ⟨z, hz⟩ : ∃ z, zerosN n = z := ⟨_, rfl⟩
  rw [hz] at hz63 hzn hzl HE
  have HZJ : Hid (zerosN n = z) := Lib.hid hz
  clear hb hn hx hz
  refine calls_wd ?_
  go_enter Tryd.func12, Tryd.ntmps12
  go_wp2_with (with_reducible refine stop_conv ?_)
  unfold Stop
  refine wpList_bytes rfl (.tmp 18) 9 42 5 rfl Tryd.underlying9 Tryd.underlying42 Tryd.underlying5 t rfl ?_
  intro v0 l0 d0 H0 _
  rw [HX.out] at H0
  obtain ⟨i0, S0, t0, f0, rfl, hi0, hf0, ht0, hle0⟩ := H0.out
  rw [HN.out] at H0 ⊢
  obtain ⟨m, hm⟩ : ∃ m : Nat, n * 8 = m := ⟨_, rfl⟩
  have em : 8 * (n : Int) = (m : Int) := by omega
  have HM := Lib.hid hm
  clear hm
  clear hi0 hf0 ht0 hle0
  go_wp2_with (at_builtin; refine stop ?_)
  unfold Stop
  refine wpList_app rfl (.tmp 23) (.tmp 24) 42 5 rfl br42 (.slice (some ⟨w.heap.size + i0, 0, none⟩) n S0.length) x rfl (Or.inr (H0.out.more _)) l0.length 0 1 1 rfl [128] 5 (0, 0) (end_at1 _ _) (show 0 + 1 ≤ 1 by decide) (by decide) (by rw [HN.out]; omega) ?_
  intro v1 l1 d1 H1 _
  clear H0
  rw [show List.take 1 (List.drop 0 [128]) = [128] from rfl] at H1
  have H1' : Hid (Has w l1 v1 (x ++ (128 :: rep 0))) := H1
  clear H1
  go_wp2
  go_loopw [3] (fun v wr => ∃ (j d : Nat) (l : List Obj), j ≤ z ∧ Hid (Has w l v (x ++ (128 :: rep j))) ∧ wr = Wd w l d) (fun v _ => match v with | .slice _ k _ => n + 1 + z - k | _ => 0)
  case atStart => exact ⟨0, d1, l1, by omega, H1', rfl⟩
  case round =>
    clear H1'
    obtain ⟨j, d, l, hj, HS, rfl⟩ := hrel
    have hsl : (x ++ (128 :: rep j)).length = n + 1 + j := by
      have := HN.out
      simp only [List.length_append, List.length_cons, rep_length]; omega
    obtain ⟨k, hk⟩ : ∃ k, n + 1 + j = k := ⟨_, rfl⟩
    rw [hk] at hsl
    obtain ⟨iv, Sv, tv, fv, rfl, hi, hf, ht, hle⟩ := HS.out
    rw [hsl] at HS ⊢
    clear hi hf ht hle
    by_cases hlt : j < z
    · have hne : (((k : Int) % 64) != 56) = true := by
        have := hzl.out j hlt
        rw [hk] at this
        rw [bne_iff_ne]; omega
      have HK := Lib.hid hk
      clear hk
      go_wp2_with (at_builtin; refine stop ?_)
      unfold Stop
      refine wpList_app rfl (.tmp 30) (.tmp 31) 42 5 rfl br42 (.slice (some ⟨w.heap.size + iv, 0, none⟩) k Sv.length) (x ++ (128 :: rep j)) rfl (Or.inr (HS.out.more _)) l.length 0 1 1 rfl [0] 5 (0, 0) (end_at1 _ _) (show 0 + 1 ≤ 1 by decide) (by decide) (by have := HK.out; rw [hsl]; omega) ?_
      intro v' l' d' H1 _
      rw [show List.take 1 (List.drop 0 [0]) = [0] from rfl, List.append_assoc, List.cons_append, rep_succ] at H1
      have hsl2 : (x ++ (128 :: rep (j + 1))).length = k + 1 := by
        have := HN.out
        have := HK.out
        simp only [List.length_append, List.length_cons, rep_length]; omega
      obtain ⟨i2, S2, t2, f2, rfl, h2i, h2f, h2t, h2l⟩ := H1.out
      rw [hsl2] at H1 ⊢
      clear h2i h2f h2t h2l
      go_wp2
      go_roundw
      case rel => exact ⟨j + 1, _, _, by omega, H1, rfl⟩
      case measure =>
        have := HK.out
        show n + 1 + z - (k + 1) < n + 1 + z - k
        omega
    · obtain rfl : j = z := by omega
      have hne : (((k : Int) % 64) != 56) = false := by
        have := hzn.out
        rw [hk] at this
        rw [bne_eq_false_iff_eq]; omega
      have HK := Lib.hid hk
      have hkm : n + 8 + j + 8 ≤ 1099511627776 := by omega
      have HNZ : Hid (n + 1 + j = k) := HK
      clear hk hlt hsl
      go_wp2
      go_loopw [3, 5] (fun v i wr => ∃ (q d : Nat) (l : List Obj), q ≤ 8 ∧ i = .int .i64 (7 - (q : Int)) ∧ Hid (Has w l v (x ++ (128 :: rep j) ++ (List.range q).map (cntF n))) ∧ wr = Wd w l d) (fun _ i _ => (match i with | .int _ y => (y + 1).toNat | _ => 0))
      case atStart => exact ⟨0, d, l, by omega, rfl, Lib.hid (by rw [List.range_zero, List.map_nil, List.append_nil]; exact HS.out), rfl⟩
      case round =>
        clear HS
        obtain ⟨q, d, l, hq, rfl, HS, rfl⟩ := hrel
        by_cases hq8 : q < 8
        · obtain ⟨iv, Sv, tv, fv, rfl, hi, hf, ht, hle⟩ := HS.out
          have hsl : (x ++ (128 :: rep j) ++ (List.range q).map (cntF n)).length = k + q := by
            have := HN.out
            have := HK.out
            simp only [List.length_append, List.length_cons, rep_length, List.length_map, List.length_range]; omega
          rw [hsl] at HS ⊢
          clear hi hf ht hle hsl
          have h7 : 0 ≤ 7 - (q : Int) := by omega
          obtain ⟨s8, hs8⟩ : ∃ s8 : Nat, 8 * (7 - q) = s8 := ⟨_, rfl⟩
          have e8 : 8 * (7 - (q : Int)) = (s8 : Int) := by omega
          have e8w : IntKind.u64.wrap (s8 : Int) = (s8 : Int) := by simp only [IntKind.wrap, IntKind.bits, IntKind.signed]; simp; omega
          have hs64 : s8 ≤ 64 := by omega
          have hcn : Hid (cntF n q = shr64 m s8 % 256) := Lib.hid (by unfold cntF; rw [HM.out, hs8])
          have hwb := wrap8 (shr64 m s8)
          obtain ⟨y, hy⟩ : ∃ y, shr64 m s8 % 256 = y := ⟨_, rfl⟩
          rw [hy] at hcn hwb
          clear hs8 hy
          have hq7 : 0 ≤ 7 - (q : Int) := by omega
          go_wp2_with (at_builtin; refine stop ?_)
          unfold Stop
          refine wpList_app rfl (.tmp 37) (.tmp 44) 42 5 rfl br42 (.slice (some ⟨w.heap.size + iv, 0, none⟩) (k + q) Sv.length) _ rfl (Or.inr (HS.out.more _)) l.length 0 1 1 rfl [y] 5 (0, 0) (end_at1 _ _) (show 0 + 1 ≤ 1 by decide) (by decide) (by
            have := HN.out
            have := HK.out
            simp only [List.length_append, List.length_cons, rep_length, List.length_map, List.length_range]; omega) ?_
          intro v' l' d' H1 _
          rw [show List.take 1 (List.drop 0 [y]) = [y] from rfl, ← hcn.out, List.append_assoc, cnt_succ] at H1
          have H2 := Lib.hid H1.out
          clear H1
          go_wp2
          go_roundw
          case rel => exact ⟨q + 1, _, _, by omega, congrArg (Value.int IntKind.i64) (by omega), H2, rfl⟩
          case measure => simp; omega
        · obtain rfl : q = 8 := by omega
          have HS8 : Hid (Has w l u3 (x ++ endL n)) := Lib.hid (by rw [← HE.out, ← List.append_assoc]; exact HS.out)
          clear HS hq8
          go_wp2_with fail
          refine (constants_any _).mono ?_
          rintro e w' ⟨rfl, g, d', rfl⟩
          rw [Wd_wd]
          have hrl := rootsL_length
          have hstl := startL_length
          go_wp2
          obtain ⟨iS, S1, tS, fS, rfl, hiS, _, htS, hleS⟩ := HS8.out
          obtain ⟨S, hS⟩ : ∃ S, x ++ endL n = S := ⟨_, rfl⟩
          obtain ⟨N, hN⟩ : ∃ N, S.length = 64 * N := by
            refine ⟨(n + 1 + j + 8) / 64, ?_⟩
            rw [← hS, List.length_append, HN.out, endL_length]
            have := hzn.out
            have hzj : zerosN n = j := HZJ.out
            rw [hzj]; omega
          obtain ⟨ML, hML⟩ : ∃ ML, 64 * N = ML := ⟨_, rfl⟩
          have hMLb : ML ≤ 1099511627776 := by
            rw [← hML, ← hN, ← hS, List.length_append, HN.out, endL_length]
            have hzj : zerosN n = j := HZJ.out
            omega
          have HD : Hid (digL x = textL (chain S N)) := Lib.hid (by
            unfold digL
            rw [HN.out, hS, hN, Nat.mul_div_cancel_left _ (by decide)])
          have hS8 : Hid (B8 S) := Lib.hid (by rw [← hS]; exact hx8.out.append (endL_B8 n))
          rw [hS, hN, hML] at htS hleS ⊢
          have HTS := Lib.hid htS
          have HMN := Lib.hid hML
          obtain ⟨sb, hsb⟩ : ∃ sb, w.heap.size + iS = sb := ⟨_, rfl⟩
          obtain ⟨rb, hrb⟩ : ∃ rb, w.heap.size + (l.length + g.length) = rb := ⟨_, rfl⟩
          obtain ⟨W, hW⟩ : ∃ W, Wd w (l ++ (g ++ [.cells (cv .u32 rootsL) 56 (0, 0)])) (d + d') = W := ⟨_, rfl⟩
          have hWh : w.heap.size + (l.length + (g.length + 1)) = W.heap.size := by rw [← hW, Wd_size]; simp
          have hWW : Wd w (l ++ (g ++ [.cells (cv .u32 rootsL) 56 (0, 0), .cells (cv .u32 startL) 46 (0, 0)])) (d + d') = Wd W [.cells (cv .u32 startL) 46 (0, 0)] 0 := by
            rw [← hW, Wd_wd]; simp
          have HSB : Hid (blk W sb = some (.cells (cv .u8 S1) tS fS)) := Lib.hid (by
            rw [← hW, ← hsb, blk_at, List.getElem?_append_left (List.getElem?_eq_some_iff.1 hiS).1]; exact hiS)
          have HRB : Hid (blk W rb = some (.cells (cv .u32 rootsL) 56 (0, 0))) := Lib.hid (by
            rw [← hW, ← hrb, blk_at, ← List.append_assoc, ← List.length_append]; exact end_at1 _ _)
          have HGW : Hid (Grows w W) := Lib.hid (hW ▸ Grows.of _ _ _)
          rw [hsb, hrb, hWh, hWW]
          clear hsb hrb hWh hWW hW hiS htS hS hN hML HS8 em HM hkm HNZ HK hnb hrl hstl
          refine main_loop W S S1 sb rb ML N 0 [] tS fS HMN hMLb HTS hleS hS8 HSB HRB _ _ _ _ _ _ _ _ _ _ _ _ _ _ _ _ _ _ _ _ _ _ _ _ _ _ _ _ _ _ _ _ _ _ _ _ _ _ _ _ _ _ _ _ _ _ _ _ _ _ _ _ _ _ _ _ _ _ _ _ _ _ _ _ _ _ _ _ _ _ _ _ _ _ _ _ _ _ _ _ _ _ _ _ _ _ _ _ _ _ _ _ _ _ _ _ _ _ _ _ _ _ _ _ _ _ _ _ _ _ _ _ _ _ _ _ _ _ _ _ _ _ _ _ _ _ _ _ _ _ _ _ _ _ _ _ _ _ _ _ _ _ _ _ _ _ _ _ _ _ _ _ _ _ _ _ _ _ _ _ _ _ _ _ _ _ _ _ _ _ _ _ _ _ _ _ _ _ _ _ _ _ _ _ _ _ _ _ _ _ _ _ _ _ _ _ _ _ _ _ _ _ _ _ _ _ _ _ _ _ _ _ _ _ _ _ _ _ _ _ _ _ _ _ _ _ _ _ _ _ _ _ _ _ _ _ _ _ _ _ _ _ _ _ _ _ _ _ _ _ _ _ _ _ _ _ _ _ _ _ _ _ _ _ _ _ _ _ _ _ _ _ _ _ _ _ _ ?_
          intro _ _ _ _ _ _ _ _ _ _ _ _ _ _ _ _ _ _ _ _ _ _ _ _ _ _ _ _ _ _ _ _ _ _ _ _ _ _ _ _ _ _ _ _ _ _ _ _ _ _ _ _ _ _ _ _ _ _ _ _ _ _ _ _ _ _ _ _ _ _ _ _ _ _ _ _ _ _ _ _ _ _ _ _ _ _ _ _ _ _ _ _ _ _ _ _ _ _ _ _ _ _ _ _ _ _ _ _ _ _ _ _ _ _ _ _ _ _ _ _ _ _ _ _ _ _ _ _ _ _ _ _ _ _ _ _ _ _ _ _ _ _ _ _ _ _ _ _ _ _ _ _ _ _ _ _ _ _ _ _ _ _ _ _ _ _ _ _ _ _ _ _ _ _ _ _ _ _ _ _ _ _ _ _ _ _ _ _ _ _ _ _ _ _ _ _ _ _ _ _ _ _ _ _ _ _ _ _ _ _ _ _ gm dm
          obtain ⟨h, hh⟩ : ∃ h, chain S N = h := ⟨_, rfl⟩
          have hcl : h.length = 8 := by rw [← hh]; exact chain_length S N
          rw [hh] at HD ⊢
          clear hh
          go_wp2
          refine text_loop W h gm _ hcl _ _ _ _ _ _ _ _ _ _ _ _ _ _ _ _ _ _ _ _ _ _ _ _ _ _ _ _ _ _ _ _ _ _ _ _ _ _ _ _ _ _ _ _ _ _ _ _ _ _ _ _ _ _ _ _ _ _ _ _ _ _ _ _ _ _ _ _ _ _ _ _ _ _ _ _ _ _ _ _ _ _ _ _ _ _ _ _ _ _ _ _ _ _ _ _ _ _ _ _ _ _ _ _ _ _ _ _ _ _ _ _ _ _ _ _ _ _ _ _ _ _ _ _ _ _ _ _ _ _ _ _ _ _ _ _ _ _ _ _ _ _ _ _ _ _ _ _ _ _ _ _ _ _ _ _ _ _ _ _ _ _ _ _ _ _ _ _ _ _ _ _ _ _ _ _ _ _ _ _ _ _ _ _ _ _ _ _ _ _ _ _ _ _ _ _ _ _ _ _ _ _ _ _ _ _ _ _ _ _ _ _ _ _ _ _ _ _ _ _ _ _ _ _ _ _ _ _ _ _ _ _ _ _ _ _ _ _ _ _ _ _ _ _ _ _ _ _ _ _ _ _ _ _ _ _ _ _ _ _ _ _ _ _ _ _ _ _ _ _ _ _ _ _ _ _ _ _ (fun c a w o v hh => by cases o <;> exact hh) ?_
          intro _ _ _ _ _ _ _ _ _ _ _ _ _ _ _ _ _ _ _ _ _ _ _ _ _ _ _ _ gt dt
          go_wp2
          go_ret
          exact ⟨by rw [HX.out, HD.out]; rfl, HGW.out.trans (Grows.of _ _ _)⟩
end Go.Proofs.YtokijignhpcjlaaDoor

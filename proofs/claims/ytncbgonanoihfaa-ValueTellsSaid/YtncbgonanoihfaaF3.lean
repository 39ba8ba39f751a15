/- The document's parse of numbers and texts: by contract. No condition but the text's length. -/
import Derived.Test.YtncbgonanoihfaaF2
namespace Go.Proofs.Ytncbgonanoihfaa
open Go.RowKit Go.Own
set_option maxRecDepth 100000 in
set_option maxHeartbeats 1000000 in
theorem rp_short (L : List Nat) (hb : ∀ c ∈ L, c < 256) (hL : L.length ≤ 3000) (a : Nat) (ha : a < L.length) (d : Int) (hc : (gi L a = 105 ∧ L.length < a + 9) ∨ (gi L a = 115 ∧ L.length < a + 3)) (w : World) : Calls Try.prog 29 #[.string (mkS L), .int .i64 (a : Int), .int .i64 d] w (RP L none w) := by
  obtain ⟨q, hq⟩ : ∃ q, mkS L = q := ⟨_, rfl⟩
  have hix := idx L hb q hq a ha (a : Int) rfl
  have hz : q.size = L.length := by rw [← hq, mkS_size]
  obtain ⟨n, hn⟩ : ∃ n, L.length = n := ⟨_, rfl⟩
  rw [hn] at hz hL ha hc
  rw [hq]
  have hai : (a : Int) < (n : Int) := by omega
  have HBR : Hid (Blk (w.alloc (.cells #[.int .i64 0, .int .i64 0, .string { data := #[] }, .bool false, .slice none 0 0] 24)) w.heap.size #[.int .i64 0, .int .i64 0, .string { data := #[] }, .bool false, .slice none 0 0]) := Lib.hid (blk_new w _)
  clear hq hn hb
  rcases hc with ⟨hc, h2⟩ | ⟨hc, h2⟩
  all_goals
    rw [hc] at hix
    clear hc
    go_enter Try.func29, Try.ntmps29
    go_wp2_with (with_reducible refine wpList_put5 w.heap.size _ _ _ _ _ _ _ _ _ _ rfl rfl HBR.out ones_zero ?_)
    intro w2 hr2 hg2
    have HB2 := Lib.hid (below_blk ((Below.refl _ w).alloc (Nat.le_refl _) _) hg2 (by simp) (Nat.le_refl _))
    have y0 := hr2.cell 0
    have y1 := hr2.cell 1
    have y2 := hr2.cell 2
    have y3 := hr2.cell 3
    have y4 := hr2.cell 4
    simp at y0 y1 y2 y3 y4
    clear hr2 hg2
    go_wp2
    refine bodyPost_ret (v := .tuple #[.agg #[.int .i64 0, .int .i64 0, .string { data := #[] }, .bool false, .slice none 0 0], .int .i64 (-1)]) (by simp [results, Try.results29, go_sem, y0, y1, y2, y3, y4]) rfl ?_
    exact RP.no HB2.out
theorem ext_mid (L : List Nat) (a n : Nat) : (mkS L).extract (a + 3) (a + 3 + n) = mkS (((L.drop (a + 1)).drop 2).take n) := by
  apply ByteArray.ext
  simp [mkS, List.map_take, List.map_drop]
theorem s64_small {n : Nat} (h : n < 72057594037927936) : s64 n = (n : Int) := by
  unfold s64 two63
  rw [if_pos (by omega)]
set_option maxRecDepth 100000 in
set_option maxHeartbeats 1000000 in
theorem rp_num (L : List Nat) (hb : ∀ c ∈ L, c < 256) (hL : L.length ≤ 3000) (a : Nat) (ha : a + 9 ≤ L.length) (d : Int) (hc : gi L a = 105) (w : World) :
    Calls Try.prog 29 #[.string (mkS L), .int .i64 (a : Int), .int .i64 d] w (RP L (some (.num (s64 (val ((L.drop (a + 1)).take 8))), (L.drop (a + 1)).drop 8)) w) := by
  obtain ⟨q, hq⟩ : ∃ q, mkS L = q := ⟨_, rfl⟩
  have hix := idx L hb q hq a (by omega) (a : Int) rfl
  have HIX := Lib.hid (fun i hi z hz W => idx L hb q hq i hi z hz W)
  have hz : q.size = L.length := by rw [← hq, mkS_size]
  have HLN : Hid ((((L.length - ((L.drop (a + 1)).drop 8).length : Nat)) : Int) = (a : Int) + 9) := Lib.hid (by rw [List.length_drop, List.length_drop]; omega)
  obtain ⟨n, hn⟩ : ∃ n, L.length = n := ⟨_, rfl⟩
  rw [hn] at hz hL ha
  have HN := Lib.hid hn
  rw [hc] at hix
  rw [hq]
  have hai : (a : Int) < (n : Int) := by omega
  have HBR : Hid (Blk (w.alloc (.cells #[.int .i64 0, .int .i64 0, .string { data := #[] }, .bool false, .slice none 0 0] 24)) w.heap.size #[.int .i64 0, .int .i64 0, .string { data := #[] }, .bool false, .slice none 0 0]) := Lib.hid (blk_new w _)
  have HBB := Lib.hid hb
  have HVB : Hid (∀ k, k ≤ 8 → val ((L.drop (a + 1)).take k) < 256 ^ k) := Lib.hid (fun k hk => by
    have h1 := val_lt ((L.drop (a + 1)).take k) (fun c hc => hb c (List.mem_of_mem_drop (List.mem_of_mem_take hc)))
    rw [show ((L.drop (a + 1)).take k).length = k by rw [List.length_take, List.length_drop]; omega] at h1
    exact h1)
  clear hq hn hc hb
  go_enter Try.func29, Try.ntmps29
  go_wp2
  go_loop [8, 9] (fun x i => ∃ (k : Nat) (z : Int), 1 ≤ k ∧ k ≤ 9 ∧ i = .int .i64 (k : Int) ∧ x = .int .i64 z ∧ Hid (z = s64 (val ((L.drop (a + 1)).take (k - 1))))) (fun _ i => 9 - (intOf i).toNat)
  case atStart => exact ⟨1, 0, by omega, by omega, rfl, rfl, Lib.hid (by simp [val, s64, two63])⟩
  case round =>
    obtain ⟨k, z, hk1, hk9, rfl, rfl, HZ⟩ := hrel
    by_cases hlt : k < 9
    · have hv : val ((L.drop (a + 1)).take (k - 1)) < 72057594037927936 := Nat.lt_of_lt_of_le (HVB.out (k - 1) (by omega)) (Nat.pow_le_pow_right (by omega) (by omega : k - 1 ≤ 7))
      have hzz : z = ((val ((L.drop (a + 1)).take (k - 1)) : Nat) : Int) := by rw [HZ.out, s64_small hv]
      have hgb : gi L (a + k) < 256 := by
        have hlt2 : a + k < L.length := by rw [HN.out]; omega
        have : gi L (a + k) = L[a + k] := by simp [gi, hlt2]
        rw [this]; exact HBB.out _ (List.getElem_mem _)
      have HO := Lib.hid (or_i64 _ _ hv hgb)
      have hvs := val_step (L.drop (a + 1)) (k - 1) (by rw [List.length_drop, HN.out]; omega)
      rw [gi_drop, show a + 1 + (k - 1) = a + k by omega, show k - 1 + 1 = k by omega] at hvs
      have HS := Lib.hid hvs
      have hix2 := HIX.out (a + k) (by rw [HN.out]; omega) ((a : Int) + (k : Int)) (by simp)
      obtain ⟨V, hV⟩ : ∃ V, val ((L.drop (a + 1)).take (k - 1)) = V := ⟨_, rfl⟩
      obtain ⟨G, hG⟩ : ∃ G, gi L (a + k) = G := ⟨_, rfl⟩
      rw [hV, hG] at HO HS
      rw [hV] at hzz
      rw [hG] at hix2 hgb
      subst hzz
      have HOW : Hid (bits BinOp.or IntKind.i64 (wrap64 ((V : Int) * 256)) (wrap64 (G : Int)) = s64 (V * 256 + G)) := Lib.hid (by
        have hg : wrap64 (G : Int) = G := by unfold wrap64; omega
        rw [← HO.out, hg]
        exact congrArg (fun y => bits BinOp.or IntKind.i64 y (G : Int)) (by rw [IntKind.wrap_i64]; simp only [wrap64]))
      have HZ2 : Hid (s64 (V * 256 + G) = s64 (val ((L.drop (a + 1)).take (k + 1 - 1)))) := Lib.hid (by rw [Nat.add_sub_cancel, HS.out])
      clear hv hV hG hvs hgb
      go_wp2
      go_round
      case rel => exact ⟨k + 1, _, by omega, by omega, by go_num, rfl, Lib.hid (by rw [HOW.out]; exact HZ2.out)⟩
      case measure => simp [intOf]; omega
    · obtain rfl : k = 9 := by omega
      have HZ9 : Hid (z = s64 (val ((L.drop (a + 1)).take 8))) := HZ
      have HIN : Hid (In64 z) := Lib.hid (by
        rw [HZ9.out]
        have h := HVB.out 8 (by omega)
        exact s64_in (by rw [p8] at h; exact h))
      go_wp2_with (with_reducible refine wpList_put5 w.heap.size _ _ _ _ _ _ _ _ _ _ rfl rfl HBR.out (ones_of 1 z _ _ _ _ _) ?_)
      intro w2 hr2 hg2
      have HB2 := Lib.hid (below_blk ((Below.refl _ w).alloc (Nat.le_refl _) _) hg2 (by simp) (Nat.le_refl _))
      have y0 := hr2.cell 0
      have y1 := hr2.cell 1
      have y2 := hr2.cell 2
      have y3 := hr2.cell 3
      have y4 := hr2.cell 4
      simp at y0 y1 y2 y3 y4
      clear hr2 hg2
      go_wp2
      refine bodyPost_ret (v := .tuple #[.agg #[.int .i64 1, .int .i64 z, .string { data := #[] }, .bool false, .slice none 0 0], .int .i64 ((a : Int) + 9)]) (by simp [results, Try.results29, go_sem, y0, y1, y2, y3, y4]) rfl ?_
      rw [← HZ9.out]
      exact RP.ok HLN.out (.nil 1 z _ false (in_small 1 (by omega) (by omega)) HIN.out (by decide)) HB2.out
set_option maxRecDepth 100000 in
set_option maxHeartbeats 1000000 in
theorem rp_text (L : List Nat) (hb : ∀ c ∈ L, c < 256) (hL : L.length ≤ 3000) (a : Nat) (ha : a + 3 ≤ L.length) (d : Int) (hc : gi L a = 115) (w : World) :
    Calls Try.prog 29 #[.string (mkS L), .int .i64 (a : Int), .int .i64 d] w (RP L (textR (L.drop (a + 1))) w) := by
  obtain ⟨q, hq⟩ : ∃ q, mkS L = q := ⟨_, rfl⟩
  have hix := idx L hb q hq a (by omega) (a : Int) rfl
  have hix1 := idx L hb q hq (a + 1) (by omega) ((a : Int) + 1) (by simp)
  have hix2 := idx L hb q hq (a + 2) (by omega) ((a : Int) + 2) (by simp)
  have hz : q.size = L.length := by rw [← hq, mkS_size]
  have hv : val ((L.drop (a + 1)).take 2) = gi L (a + 1) * 256 + gi L (a + 2) := by
    rw [drop_at (by omega), drop_at (by omega)]
    simp [val]
  have hl1 : (L.drop (a + 1)).length = L.length - a - 1 := by rw [List.length_drop]; omega
  have g1 : gi L (a + 1) < 256 := by
    have : gi L (a + 1) = L[a + 1]'(by omega) := by simp [gi, show a + 1 < L.length by omega]
    rw [this]; exact hb _ (List.getElem_mem _)
  have g2 : gi L (a + 2) < 256 := by
    have : gi L (a + 2) = L[a + 2]'(by omega) := by simp [gi, show a + 2 < L.length by omega]
    rw [this]; exact hb _ (List.getElem_mem _)
  have HE : Hid (textR (L.drop (a + 1)) = if L.length - a - 1 - 2 < gi L (a + 1) * 256 + gi L (a + 2) then none else some (.str (mkS (((L.drop (a + 1)).drop 2).take (gi L (a + 1) * 256 + gi L (a + 2)))), ((L.drop (a + 1)).drop 2).drop (gi L (a + 1) * 256 + gi L (a + 2)))) := Lib.hid (by
    rw [textR, if_neg (by omega), hv, hl1])
  obtain ⟨x1, hx1⟩ : ∃ x, gi L (a + 1) = x := ⟨_, rfl⟩
  obtain ⟨x2, hx2⟩ : ∃ x, gi L (a + 2) = x := ⟨_, rfl⟩
  rw [hx1] at hix1 g1 HE
  rw [hx2] at hix2 g2 HE
  have HQ := Lib.hid hq
  obtain ⟨n, hn⟩ : ∃ n, L.length = n := ⟨_, rfl⟩
  rw [hn] at hz hL ha HE
  have HN := Lib.hid hn
  rw [hc] at hix
  rw [hq]
  have hai : (a : Int) < (n : Int) := by omega
  have HBR : Hid (Blk (w.alloc (.cells #[.int .i64 0, .int .i64 0, .string { data := #[] }, .bool false, .slice none 0 0] 24)) w.heap.size #[.int .i64 0, .int .i64 0, .string { data := #[] }, .bool false, .slice none 0 0]) := Lib.hid (blk_new w _)
  clear hq hn hc hb hv hl1 hx1 hx2
  go_enter Try.func29, Try.ntmps29
  go_wp2
  refine wp_region_grew (by kernel_rfl) (by kernel_rfl) ?_
  repeat (go_big_quiet_step (fail))
  refine wpQuiet_nil ?_
  intro gg
  have hgg := gg.2
  obtain ⟨w1, hw1⟩ : ∃ w1, gg.1 = w1 := ⟨_, rfl⟩
  rw [hw1] at hgg ⊢
  clear hw1 gg
  have HG := Lib.hid hgg
  have HB1 : Hid (Blk w1 w.heap.size #[.int .i64 0, .int .i64 0, .string { data := #[] }, .bool false, .slice none 0 0]) := Lib.hid (by
    have h := HBR.out
    unfold Blk at h ⊢
    rw [hgg.block _ (by simp), h])
  have hws : w.heap.size < w1.heap.size := by have := hgg.size; simp at this; omega
  have HGB : Hid (Below w.heap.size w w1) := Lib.hid (by
    refine Below.trans ((Below.refl _ w).alloc (Nat.le_refl _) _) (hgg.mono ?_)
    simp)
  clear hgg
  by_cases h2 : n - a - 1 - 2 < x1 * 256 + x2
  · have HE2 : Hid (textR (L.drop (a + 1)) = none) := Lib.hid (by rw [HE.out, if_pos h2])
    go_wp2_with (with_reducible refine wpList_put5 w.heap.size _ _ _ _ _ _ _ _ _ _ rfl rfl HB1.out ones_zero ?_)
    intro w2 hr2 hg2
    have HB2 := Lib.hid (below_blk HGB.out hg2 (by omega) (Nat.le_refl _))
    have y0 := hr2.cell 0
    have y1 := hr2.cell 1
    have y2 := hr2.cell 2
    have y3 := hr2.cell 3
    have y4 := hr2.cell 4
    simp at y0 y1 y2 y3 y4
    clear hr2 hg2
    go_wp2
    rw [HE2.out]
    refine bodyPost_ret (v := .tuple #[.agg #[.int .i64 0, .int .i64 0, .string { data := #[] }, .bool false, .slice none 0 0], .int .i64 (-1)]) (by simp [results, Try.results29, go_sem, y0, y1, y2, y3, y4]) rfl ?_
    exact RP.no HB2.out
  · have HE2 : Hid (textR (L.drop (a + 1)) = some (.str (mkS (((L.drop (a + 1)).drop 2).take (x1 * 256 + x2))), ((L.drop (a + 1)).drop 2).drop (x1 * 256 + x2))) := Lib.hid (by rw [HE.out, if_neg h2])
    have HEX : Hid (q.extract (a + 3) (a + 3 + (x1 * 256 + x2)) = mkS (((L.drop (a + 1)).drop 2).take (x1 * 256 + x2))) := Lib.hid (by rw [← HQ.out]; exact ext_mid L a _)
    have HLN : Hid ((((L.length - (((L.drop (a + 1)).drop 2).drop (x1 * 256 + x2)).length : Nat)) : Int) = (a : Int) + 3 + ((x1 : Int) * 256 + (x2 : Int))) := Lib.hid (by rw [List.length_drop, List.length_drop, List.length_drop, HN.out]; omega)
    have HSZ : Hid ((mkS (((L.drop (a + 1)).drop 2).take (x1 * 256 + x2))).size ≤ 9223372036854775807) := Lib.hid (by rw [mkS_size, List.length_take]; omega)
    obtain ⟨y, hy⟩ : ∃ y, q.extract (a + 3) (a + 3 + (x1 * 256 + x2)) = y := ⟨_, rfl⟩
    rw [hy] at HEX
    rw [← HEX.out] at HE2 HSZ
    go_wp2_with (with_reducible refine wpList_put5 w.heap.size _ _ _ _ _ _ _ _ _ _ rfl rfl HB1.out (ones_of 2 0 _ _ _ _ _) ?_)
    intro w2 hr2 hg2
    have HB2 := Lib.hid (below_blk HGB.out hg2 (by omega) (Nat.le_refl _))
    have y0 := hr2.cell 0
    have y1 := hr2.cell 1
    have y2 := hr2.cell 2
    have y3 := hr2.cell 3
    have y4 := hr2.cell 4
    simp at y0 y1 y2 y3 y4
    clear hr2 hg2
    go_wp2
    rw [HE2.out]
    refine bodyPost_ret (v := .tuple #[.agg #[.int .i64 2, .int .i64 0, .string y, .bool false, .slice none 0 0], .int .i64 ((a : Int) + 3 + ((x1 : Int) * 256 + (x2 : Int)))]) (by simp [results, Try.results29, go_sem, y0, y1, y2, y3, y4]) rfl ?_
    exact RP.ok HLN.out (.nil 2 0 _ false (in_small 2 (by omega) (by omega)) (in_small 0 (by omega) (by omega)) HSZ.out) HB2.out
end Go.Proofs.Ytncbgonanoihfaa

/- The document's parse of lists; of any text: by contract. No condition but the text's length. -/
import Derived.Test.YtncbgonanoihfaaF3
namespace Go.Proofs.Ytncbgonanoihfaa
open Go.RowKit Go.Own
theorem tail_drop {L t' p : List Nat} {a : Nat} (ha : a ≤ L.length) (h : L.drop a = p ++ t') : t' = L.drop (L.length - t'.length) ∧ L.length - t'.length ≤ L.length := by
  have hl : L.length - a = p.length + t'.length := by rw [← List.length_drop, h, List.length_append]
  have e : L.length - t'.length = a + p.length := by omega
  rw [e]
  refine ⟨?_, by omega⟩
  rw [← List.drop_drop, h, List.drop_left]
theorem toVs_map : ∀ l : List A, toVs l = l.map toV
  | [] => rfl
  | x :: r => by rw [toVs, toVs_map r]; rfl
/-- The document's parse, where so many lists may stand within one another. -/
def RPs (L : List Nat) (m : Nat) : Prop := ∀ (a : Nat) (d : Int) (w : World), a ≤ L.length → d + m = 8 → Calls Try.prog 29 #[.string (mkS L), .int .i64 (a : Int), .int .i64 d] w (RP L (rd m (L.drop a)) w)
set_option maxRecDepth 100000 in
set_option maxHeartbeats 1000000 in
theorem rp_flat (L : List Nat) (hb : ∀ c ∈ L, c < 256) (hL : L.length ≤ 3000) (a : Nat) (ha : a < L.length) (d : Int) (hd0 : 0 ≤ d) (hd9 : d ≤ 8) (hc : gi L a = 108) (h : L.length < a + 2 ∨ d = 8) (w : World) : Calls Try.prog 29 #[.string (mkS L), .int .i64 (a : Int), .int .i64 d] w (RP L none w) := by
  obtain ⟨q, hq⟩ : ∃ q, mkS L = q := ⟨_, rfl⟩
  have hix := idx L hb q hq a ha (a : Int) rfl
  have hz : q.size = L.length := by rw [← hq, mkS_size]
  obtain ⟨n, hn⟩ : ∃ n, L.length = n := ⟨_, rfl⟩
  rw [hn] at hz hL ha h
  rw [hc] at hix
  rw [hq]
  have hai : (a : Int) < (n : Int) := by omega
  have HBR : Hid (Blk (w.alloc (.cells #[.int .i64 0, .int .i64 0, .string { data := #[] }, .bool false, .slice none 0 0] 24)) w.heap.size #[.int .i64 0, .int .i64 0, .string { data := #[] }, .bool false, .slice none 0 0]) := Lib.hid (blk_new w _)
  clear hq hn hb hc
  have hcs : (n < a + 2) ∨ (a + 2 ≤ n ∧ d = 8) := by omega
  clear h
  rcases hcs with h | ⟨h, rfl⟩
  all_goals
    go_enter Try.func29, Try.ntmps29
    go_wp2_with (with_reducible refine wpList_put5 w.heap.size _ _ _ _ _ _ _ _ _ _ rfl rfl HBR.out ones_zero ?_)
    intro w2 hr2 hg2
    have HB2 := Lib.hid (below_blk ((Below.refl _ w).alloc (Nat.le_refl _) _) hg2 (by simp) (Nat.le_refl _))
    have y0 := hr2.cell 0
    have y1 := hr2.cell 1
    have y2 := hr2.cell 2
    have y3 := hr2.cell 3
    have y4 := hr2.cell 4
    simp at y0 y1 y2 y3 y4
    clear hr2 hg2
    go_wp2
    refine bodyPost_ret (v := .tuple #[.agg #[.int .i64 0, .int .i64 0, .string { data := #[] }, .bool false, .slice none 0 0], .int .i64 (-1)]) (by simp [results, Try.results29, go_sem, y0, y1, y2, y3, y4]) rfl ?_
    exact RP.no HB2.out
set_option maxRecDepth 100000 in
set_option maxHeartbeats 2000000 in
theorem rp_list (L : List Nat) (hb : ∀ c ∈ L, c < 256) (hL : L.length ≤ 3000) (m : Nat) (hm : m ≤ 7) (ih : RPs L m) (a : Nat) (ha : a + 2 ≤ L.length) (d : Int) (hd : d + m = 7) (hc : gi L a = 108) (w : World) :
    Calls Try.prog 29 #[.string (mkS L), .int .i64 (a : Int), .int .i64 d] w (RP L (listR (some (rd m)) (L.drop (a + 1))) w) := by
  obtain ⟨q, hq⟩ : ∃ q, mkS L = q := ⟨_, rfl⟩
  have hix := idx L hb q hq a (by omega) (a : Int) rfl
  have hix1 := idx L hb q hq (a + 1) (by omega) ((a : Int) + 1) (by simp)
  have hz : q.size = L.length := by rw [← hq, mkS_size]
  have g1 : gi L (a + 1) < 256 := by
    have : gi L (a + 1) = L[a + 1]'(by omega) := by simp [gi, show a + 1 < L.length by omega]
    rw [this]; exact hb _ (List.getElem_mem _)
  obtain ⟨n, hn⟩ : ∃ x, gi L (a + 1) = x := ⟨_, rfl⟩
  rw [hn] at hix1 g1
  have HE0 : Hid (listR (some (rd m)) (L.drop (a + 1)) = match rdL (rd m) n (L.drop (a + 2)) with | none => none | some (l, t'') => some (.list l, t'')) := Lib.hid (by
    rw [drop_at (by omega), hn]; rfl)
  have HIH : Hid (∀ (b : Nat) (w : World), b ≤ L.length → Calls Try.prog 29 #[.string q, .int .i64 (b : Int), .int .i64 (d + 1)] w (RP L (rd m (L.drop b)) w)) := Lib.hid (fun b w hb => by
    rw [← hq]; exact ih b (d + 1) w hb (by omega))
  obtain ⟨N, hN⟩ : ∃ n, L.length = n := ⟨_, rfl⟩
  rw [hN] at hz hL ha
  have HN := Lib.hid hN
  rw [hc] at hix
  rw [hq]
  have hai : (a : Int) < (N : Int) := by omega
  have hd1 : 0 ≤ d := by omega
  have hd2 : d ≤ 7 := by omega
  have HM : Hid (m ≤ 8) := Lib.hid (by omega)
  have HBB := Lib.hid hb
  have HBR : Hid (Blk (w.alloc (.cells #[.int .i64 0, .int .i64 0, .string { data := #[] }, .bool false, .slice none 0 0] 24)) w.heap.size #[.int .i64 0, .int .i64 0, .string { data := #[] }, .bool false, .slice none 0 0]) := Lib.hid (blk_new w _)
  clear hq hn hN hc hb hd hm ih
  go_enter Try.func29, Try.ntmps29
  go_wp2
  have HB0 : Hid (Below w.heap.size w ((w.alloc (.cells #[.int .i64 0, .int .i64 0, .string { data := #[] }, .bool false, .slice none 0 0] 24)).alloc (.cells #[.int .i64 4, .int .i64 0, .string { data := #[] }, .bool false, .slice none 0 0] 24))) := Lib.hid (((Below.refl _ w).alloc (Nat.le_refl _) _).alloc (by simp) _)
  have HR0 : Hid (Blk ((w.alloc (.cells #[.int .i64 0, .int .i64 0, .string { data := #[] }, .bool false, .slice none 0 0] 24)).alloc (.cells #[.int .i64 4, .int .i64 0, .string { data := #[] }, .bool false, .slice none 0 0] 24)) w.heap.size #[.int .i64 0, .int .i64 0, .string { data := #[] }, .bool false, .slice none 0 0]) := Lib.hid (HBR.out.past ((Below.refl _ _).alloc (Nat.le_refl _) _))
  have HT0 : Hid (Blk ((w.alloc (.cells #[.int .i64 0, .int .i64 0, .string { data := #[] }, .bool false, .slice none 0 0] 24)).alloc (.cells #[.int .i64 4, .int .i64 0, .string { data := #[] }, .bool false, .slice none 0 0] 24)) (w.heap.size + 1) #[.int .i64 4, .int .i64 0, .string { data := #[] }, .bool false, .slice none 0 0]) := Lib.hid (by
    have h := blk_new (w.alloc (.cells #[.int .i64 0, .int .i64 0, .string { data := #[] }, .bool false, .slice none 0 0] 24)) #[.int .i64 4, .int .i64 0, .string { data := #[] }, .bool false, .slice none 0 0]
    rw [show (w.alloc (.cells #[.int .i64 0, .int .i64 0, .string { data := #[] }, .bool false, .slice none 0 0] 24)).heap.size = w.heap.size + 1 by simp] at h
    exact h)
  go_loopw [1, 13] (fun t i wr => ∃ (j b : Nat) (xs : List A) (v : Value), j ≤ n ∧ b ≤ N ∧ i = .int .i64 (j : Int) ∧ t = .int .i64 (b : Int) ∧ Hid (Blk wr w.heap.size #[.int .i64 0, .int .i64 0, .string { data := #[] }, .bool false, .slice none 0 0]) ∧
    Hid (Blk wr (w.heap.size + 1) #[.int .i64 4, .int .i64 0, .string { data := #[] }, .bool false, v]) ∧ Hid (RowV wr (w.heap.size + 2) v (xs.map toV)) ∧ Hid (xs.length = j) ∧ Hid (Below w.heap.size w wr) ∧
    Hid (rdL (rd m) n (L.drop (a + 2)) = (rdL (rd m) (n - j) (L.drop b)).map fun q => (xs ++ q.1, q.2))) (fun _ i _ => n - (intOf i).toNat)
  case atStart => exact ⟨0, a + 2, [], .slice none 0 0, Nat.zero_le _, ha, rfl, by go_num, HR0, HT0, Lib.hid (RowV.nil _ _), Lib.hid rfl, HB0, Lib.hid (by simp)⟩
  case round =>
    obtain ⟨j, b, xs, v, hj, hbN, rfl, rfl, HR, HT, HV, HXL, HB, HE⟩ := hrel
    have hsz : w.heap.size + 2 ≤ wr.heap.size := by have := HT.out.lt; omega
    by_cases hlt : j < n
    · have HC := Lib.hid (HIH.out b wr (by rw [HN.out]; exact hbN))
      obtain ⟨r, hr⟩ : ∃ r, rd m (L.drop b) = r := ⟨_, rfl⟩
      have HRR := Lib.hid hr
      rw [hr] at HC
      clear hr
      go_wp2_with (go_at_call 29; fail)
      refine HC.out.mono ?_
      intro e w3 hrq
      rcases hrq with ⟨x, t', v3, rfl, rfl, hv, hb3⟩ | ⟨rfl, rfl, hb3⟩
      · have hw := pr_rd m HM.out (L.drop b) (fun c hc => HBB.out c (List.mem_of_mem_drop hc)) x t' HRR.out
        obtain ⟨htd, htl⟩ := tail_drop (by rw [HN.out]; exact hbN) hw.text
        obtain ⟨K, hK⟩ : ∃ K, L.length - t'.length = K := ⟨_, rfl⟩
        rw [hK] at htd htl ⊢
        rw [HN.out] at htl
        have HE2 : Hid (rdL (rd m) n (L.drop (a + 2)) = (rdL (rd m) (n - (j + 1)) (L.drop K)).map fun q => ((xs ++ [x]) ++ q.1, q.2)) := Lib.hid (by rw [HE.out, ← htd]; exact rdL_go HRR.out hlt xs)
        obtain ⟨y, hy⟩ : ∃ y, toV x = y := ⟨_, rfl⟩
        have HY := Lib.hid hy
        rw [hy] at hv
        obtain ⟨k, m', s, bb, l⟩ := y
        obtain ⟨p2, cap2, hp2⟩ := VAt.parts hv
        obtain ⟨rfl, _⟩ := hp2
        have HVV := Lib.hid hv
        have HB3 := Lib.hid hb3
        have hs3 := hb3.size
        have dK : decide ((K : Int) < 0) = false := by simp
        have hown := HV.out.lt
        have HRW4 := Lib.hid ((HV.out.below hb3).below ((Below.refl _ w3).alloc (Nat.le_refl _) (.cells #[.int .i64 k, .int .i64 m', .string s, .bool bb, .slice p2 l.length cap2] 24)))
        have HVW4 : Hid (VAt (w3.alloc (.cells #[.int .i64 k, .int .i64 m', .string s, .bool bb, .slice p2 l.length cap2] 24)) (fun b => w.heap.size + 2 ≤ b ∧ v.ownBlock ≠ some b) (.agg #[.int .i64 k, .int .i64 m', .string s, .bool bb, .slice p2 l.length cap2]) (.mk k m' s bb l)) := Lib.hid
          ((hv.fresh ((Below.refl _ w3).alloc (Nat.le_refl _) _)).keep (fun b hb _ => ⟨by omega, fun e => by have := (hown b e).2; omega⟩) (Nat.le_refl _) (fun _ _ _ => rfl))
        have HT4 := Lib.hid ((HT.out.past hb3).past ((Below.refl _ w3).alloc (Nat.le_refl _) (.cells #[.int .i64 k, .int .i64 m', .string s, .bool bb, .slice p2 l.length cap2] 24)))
        have HR4 := Lib.hid ((HR.out.past hb3).past ((Below.refl _ w3).alloc (Nat.le_refl _) (.cells #[.int .i64 k, .int .i64 m', .string s, .bool bb, .slice p2 l.length cap2] 24)))
        have HB4 := Lib.hid ((HB.out.trans (hb3.mono (by omega))).alloc (by omega : w.heap.size ≤ w3.heap.size) (.cells #[.int .i64 k, .int .i64 m', .string s, .bool bb, .slice p2 l.length cap2] 24))
        have t4 := HT4.out.cell 4
        simp only [List.getElem?_toArray, List.getElem?_cons_succ, List.getElem?_cons_zero] at t4
        have HXB : Hid ((xs.map toV).length ≤ 1000000) := Lib.hid (by rw [List.length_map, HXL.out]; omega)
        have hw34 : w.heap.size + 2 ≤ (w3.alloc (.cells #[.int .i64 k, .int .i64 m', .string s, .bool bb, .slice p2 l.length cap2] 24)).heap.size := by simp; omega
        have hsz4 : (w3.alloc (.cells #[.int .i64 k, .int .i64 m', .string s, .bool bb, .slice p2 l.length cap2] 24)).heap.size = w3.heap.size + 1 := by simp
        clear hw htd hK hy hv hb3 hown
        go_wp2_with (at_builtin; go_loud (refine wpList_pushV rfl (.tmp 137) (.tmp 139) rfl (w3.alloc (.cells #[.int .i64 k, .int .i64 m', .string s, .bool bb, .slice p2 l.length cap2] 24)) (w.heap.size + 2) _ _ (.mk k m' s bb l) _ _ _ _ _ rfl rfl HRW4.out HVW4.out (by rw [hsz4]; rfl) HXB.out hw34 ?_))
        intro v5 w5 hr5 hb5
        obtain ⟨p5, c5, rfl⟩ := hr5.shape
        have hlen : (xs.map toV ++ [V.mk k m' s bb l]).length = j + 1 := by rw [List.length_append, List.length_map, HXL.out]; rfl
        rw [hlen] at hr5 ⊢
        have HT5 : Hid (Blk w5 (w.heap.size + 1) #[.int .i64 4, .int .i64 0, .string { data := #[] }, .bool false, v]) := Lib.hid ((hb5.block _ (by omega)).trans HT4.out)
        have HR5 : Hid (Blk w5 w.heap.size #[.int .i64 0, .int .i64 0, .string { data := #[] }, .bool false, .slice none 0 0]) := Lib.hid ((hb5.block _ (by omega)).trans HR4.out)
        have HG6 : Hid (w5.grownBy (w5.setCell ⟨w.heap.size + 1, 4, none⟩ (.slice p5 (j + 1) c5)) (some (w.heap.size + 1))) := Lib.hid ⟨rfl, rfl, rfl, by simp, fun k hk hne => by
          rw [Below.heap_setCell _ _ _ _ (fun e => hne (by rw [e]))]⟩
        have hs5 := hb5.size
        have HB6 : Hid (Below w.heap.size w (w5.setCell ⟨w.heap.size + 1, 4, none⟩ (.slice p5 (j + 1) c5))) := Lib.hid (below_blk (HB4.out.trans (hb5.mono (by omega))) HG6.out (by omega) (by omega))
        have HV6 : Hid (RowV (w5.setCell ⟨w.heap.size + 1, 4, none⟩ (.slice p5 (j + 1) c5)) (w.heap.size + 2) (.slice p5 (j + 1) c5) ((xs ++ [x]).map toV)) := Lib.hid (by
          have h := hr5.past HG6.out (by omega)
          rw [List.map_append, List.map_cons, HY.out]
          exact h)
        have HT6 := Lib.hid (HT5.out.set4 (.slice p5 (j + 1) c5))
        have HR6 := Lib.hid (HR5.out.grown HG6.out (by omega))
        have HXL6 : Hid ((xs ++ [x]).length = j + 1) := Lib.hid (by rw [List.length_append, HXL.out]; rfl)
        have t5 := HT5.out.cell 4
        have f5 := HT5.out.free 4
        simp only [List.getElem?_toArray, List.getElem?_cons_succ, List.getElem?_cons_zero] at t5
        clear hr5 hb5 hlen t4
        go_wp2
        go_roundw
        case rel => exact ⟨j + 1, K, xs ++ [x], _, by omega, by omega, by go_num, rfl, HR6, HT6, HV6, HXL6, HB6, HE2⟩
        case measure => simp [intOf]; omega
      · have HE2 : Hid (listR (some (rd m)) (L.drop (a + 1)) = none) := Lib.hid (by
          have h : rdL (rd m) n (L.drop (a + 2)) = none := by rw [HE.out, rdL_stop HRR.out hlt]; rfl
          rw [HE0.out, h])
        have hs3 := hb3.size
        have HR4 := Lib.hid ((HR.out.past hb3).past ((Below.refl _ w3).alloc (Nat.le_refl _) (.cells #[.int .i64 0, .int .i64 0, .string { data := #[] }, .bool false, .slice none 0 0] 24)))
        have HB4 := Lib.hid ((HB.out.trans (hb3.mono (by omega))).alloc (by omega : w.heap.size ≤ w3.heap.size) (.cells #[.int .i64 0, .int .i64 0, .string { data := #[] }, .bool false, .slice none 0 0] 24))
        clear hb3
        go_wp2_with (with_reducible refine wpList_put5 w.heap.size _ _ _ _ _ _ _ _ _ _ rfl rfl HR4.out ones_zero ?_)
        intro w5 hr5 hg5
        have HB5 := Lib.hid (below_blk HB4.out hg5 (by simp; omega) (Nat.le_refl _))
        have y0 := hr5.cell 0
        have y1 := hr5.cell 1
        have y2 := hr5.cell 2
        have y3 := hr5.cell 3
        have y4 := hr5.cell 4
        simp at y0 y1 y2 y3 y4
        clear hr5 hg5
        go_wp2
        rw [HE2.out]
        refine bodyPost_ret (v := .tuple #[.agg #[.int .i64 0, .int .i64 0, .string { data := #[] }, .bool false, .slice none 0 0], .int .i64 (-1)]) (by simp [results, Try.results29, go_sem, y0, y1, y2, y3, y4]) rfl ?_
        exact RP.no HB5.out
    · obtain rfl : j = n := by omega
      obtain ⟨p, cap, rfl⟩ := HV.out.shape
      rw [List.length_map, HXL.out] at HT HV
      have z0 := HT.out.cell 0
      have z1 := HT.out.cell 1
      have z2 := HT.out.cell 2
      have z3 := HT.out.cell 3
      have z4 := HT.out.cell 4
      simp at z0 z1 z2 z3 z4
      have HE2 : Hid (listR (some (rd m)) (L.drop (a + 1)) = some (.list xs, L.drop b)) := Lib.hid (by
        have h : rdL (rd m) j (L.drop (a + 2)) = some (xs, L.drop b) := by rw [HE.out, Nat.sub_self]; simp [rdL]
        rw [HE0.out, h])
      have HLN : Hid ((((L.length - (L.drop b).length : Nat)) : Int) = (b : Int)) := Lib.hid (by rw [List.length_drop, HN.out]; omega)
      go_wp2_with (with_reducible refine wpList_put5 w.heap.size _ _ _ _ _ _ _ _ _ _ rfl rfl HR.out (ones_of 4 0 _ _ _ _ _) ?_)
      intro w5 hr5 hg5
      have HB5 := Lib.hid (below_blk HB.out hg5 (by omega) (Nat.le_refl _))
      have HV5 : Hid (VAt w5 (fun b => w.heap.size ≤ b) (.agg #[.int .i64 4, .int .i64 0, .string { data := #[] }, .bool false, .slice p j cap]) (toV (.list xs))) := Lib.hid (by
        rw [toV, toVs_map]
        exact ((HV.out.past hg5 (by omega)).val (by rw [List.length_map, HXL.out]; omega)).keep (fun b hb _ => Nat.le_trans (by omega) hb) (Nat.le_refl _) (fun _ _ _ => rfl))
      have y0 := hr5.cell 0
      have y1 := hr5.cell 1
      have y2 := hr5.cell 2
      have y3 := hr5.cell 3
      have y4 := hr5.cell 4
      simp at y0 y1 y2 y3 y4
      clear hr5 hg5
      go_wp2
      rw [HE2.out]
      refine bodyPost_ret (v := .tuple #[.agg #[.int .i64 4, .int .i64 0, .string { data := #[] }, .bool false, .slice p j cap], .int .i64 (b : Int)]) (by simp [results, Try.results29, go_sem, y0, y1, y2, y3, y4]) rfl ?_
      exact RP.ok HLN.out HV5.out HB5.out
theorem rp_some (L : List Nat) (hb : ∀ c ∈ L, c < 256) (hL : L.length ≤ 3000) (m : Nat) (hm : m ≤ 8) (ih : ∀ k, m = k + 1 → RPs L k) (a : Nat) (ha : a < L.length) (d : Int) (hd : d + m = 8) (w : World) :
    Calls Try.prog 29 #[.string (mkS L), .int .i64 (a : Int), .int .i64 d] w (RP L (rd m (L.drop a)) w) := by
  obtain ⟨g, hg, hgm⟩ := rd_body m
  have hl1 : (L.drop (a + 1)).length = L.length - (a + 1) := List.length_drop
  rw [hg, drop_at ha]
  rcases body_cases g (gi L a) (L.drop (a + 1)) with ⟨hc, he⟩ | ⟨hc, he⟩ | ⟨hc, he⟩ | ⟨hc, he⟩ | ⟨hc, he⟩ | ⟨n1, n2, n3, n4, n5, he⟩
  · rw [he]
    by_cases h : (L.drop (a + 1)).length < 8
    · rw [if_pos h]
      exact rp_short L hb hL a ha d (Or.inl ⟨hc, by omega⟩) w
    · rw [if_neg h]
      exact rp_num L hb hL a (by omega) d hc w
  · rw [he]
    by_cases h : (L.drop (a + 1)).length < 2
    · rw [show textR (L.drop (a + 1)) = none by rw [textR, if_pos h]]
      exact rp_short L hb hL a ha d (Or.inr ⟨hc, by omega⟩) w
    · exact rp_text L hb hL a (by omega) d hc w
  · rw [he]
    exact rp_bool L hb hL a ha d true (by rw [hc]; rfl) w
  · rw [he]
    exact rp_bool L hb hL a ha d false (by rw [hc]; rfl) w
  · rw [he]
    rcases hgm with ⟨rfl, hm0⟩ | ⟨k, hk, rfl⟩
    · exact rp_flat L hb hL a ha d (by omega) (by omega) hc (Or.inr (by omega)) w
    · by_cases h : L.length < a + 2
      · have e : L.drop (a + 1) = [] := List.drop_eq_nil_of_le (by omega)
        rw [e]
        exact rp_flat L hb hL a ha d (by omega) (by omega) hc (Or.inl h) w
      · exact rp_list L hb hL k (by omega) (ih k hk) a (by omega) d (by omega) hc w
  · rw [he]
    exact rp_other L hb a ha d ⟨n1, n2, n3, n4, n5⟩ w
theorem rp_any (L : List Nat) (hb : ∀ c ∈ L, c < 256) (hL : L.length ≤ 3000) : ∀ m, m ≤ 8 → RPs L m := by
  have go : ∀ m, m ≤ 8 → (∀ k, m = k + 1 → RPs L k) → RPs L m := fun m hm ih a d w ha hd => by
    by_cases h : a < L.length
    · exact rp_some L hb hL m hm ih a h d hd w
    · obtain rfl : a = L.length := by omega
      obtain ⟨g, hg, _⟩ := rd_body m
      rw [hg, List.drop_length]
      exact rp_end L d w
  intro m
  induction m with
  | zero => exact fun hm => go 0 hm (fun k hk => by omega)
  | succ k ihk => exact fun hm => go (k + 1) hm (fun j hj => by
      obtain rfl : k = j := by omega
      exact ihk (by omega))
end Go.Proofs.Ytncbgonanoihfaa

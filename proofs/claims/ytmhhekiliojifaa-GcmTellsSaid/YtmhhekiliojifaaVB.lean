/- Open: by contract. No condition. -/
import Derived.Test.YtmhhekiliojifaaVA
import Derived.Deep.RegionLaw
namespace Go.Proofs.Ytmhhekiliojifaa
open Go.RowKit Go.Own
attribute [local go_sem] z5 ag5 cs5 sz5 isa5 ag40 cs40 sz40 z40 isa9 ag9 ag56 cs56 sz56 isa56 set_same List.getElem?_set_ne
attribute [-go_sem] run_string_add_if
set_option maxRecDepth 100000 in
theorem popen_bad (key nonce bes sl : ByteArray) (h : sl.size < 16 ∨ refN key.size nonce.size bes.size (sl.size - 16) ≠ 0) (hm : sl.size ≤ 1099511627776) (w : World) :
    Calls Try.prog 9 #[.string key, .string nonce, .string bes, .string sl] w fun e w' => e = .returned (.tuple #[.string (mkS []), .int .i64 ((if sl.size < 16 then 2 else refN key.size nonce.size bes.size (sl.size - 16) : Nat) : Int)]) ∧ w = w' := by
  by_cases h16 : sl.size < 16
  · rw [if_pos h16]
    have h1 : (sl.size : Int) - 16 < 0 := by omega
    clear h h16
    go_enter Try.func9, Try.ntmps9
    go_wp2
    go_ret2
    exact ⟨rfl, rfl⟩
  · rw [if_neg h16]
    obtain ⟨L, hL⟩ : ∃ L, sl.size - 16 = L := ⟨_, rfl⟩
    rw [hL] at h ⊢
    have h1 : (sl.size : Int) - 16 = (L : Int) := by omega
    have h2 : ¬ (L : Int) < 0 := by omega
    have hLb : L ≤ 1099511627776 := by omega
    have HR := Lib.hid fun W => refused_any key nonce bes L W
    have h3 := h.resolve_left h16
    generalize refN key.size nonce.size bes.size L = r at *
    have hb : ((r : Int) != 0) = true := by simp; omega
    clear h h16 h3 hL
    go_enter Try.func9, Try.ntmps9
    go_wp2_with fail
    refine (HR.out _).mono ?_
    rintro e w' ⟨rfl, rfl⟩
    go_wp2
    go_ret2
    exact ⟨rfl, rfl⟩
set_option maxRecDepth 100000 in
set_option maxHeartbeats 2000000 in
theorem popen_ok (key nonce bes sl : ByteArray) (hk : key.size = 32) (hn : nonce.size = 12) (hb : bes.size ≤ 65536) (h16 : 16 ≤ sl.size) (ht : sl.size ≤ 65552) (w : World) :
    Calls Try.prog 9 #[.string key, .string nonce, .string bes, .string sl] w fun e w' => e = .returned (.tuple (if sameB (sl.extract (sl.size - 16) sl.size) (mkS (macP key nonce bes (sl.extract 0 (sl.size - 16)))) = true then
      #[.string (mkS (turnP key nonce (sl.extract 0 (sl.size - 16)))), .int .i64 0] else #[.string (mkS []), .int .i64 8])) ∧ Below w.heap.size w w' := by
  obtain ⟨L, hL⟩ : ∃ L, sl.size - 16 = L := ⟨_, rfl⟩
  rw [hL]
  have h1 : (sl.size : Int) - 16 = (L : Int) := by omega
  have h2 : ¬ (L : Int) < 0 := by omega
  have h3 : (L : Int) ≤ (sl.size : Int) := by omega
  have hLn : L ≤ sl.size := by omega
  have hLb : L ≤ 65536 := by omega
  obtain ⟨B, hB⟩ : ∃ B, sl.extract 0 L = B := ⟨_, rfl⟩
  obtain ⟨E, hE⟩ : ∃ E, sl.extract L sl.size = E := ⟨_, rfl⟩
  rw [hB, hE]
  obtain ⟨ANS, hANS⟩ : ∃ A, (if sameB E (mkS (macP key nonce bes B)) = true then #[Value.string (mkS (turnP key nonce B)), .int .i64 0] else #[Value.string (mkS []), .int .i64 8]) = A := ⟨_, rfl⟩
  rw [hANS]
  have HANS := Lib.hid hANS
  clear hANS
  have hBs : B.size ≤ 65536 := by rw [← hB, ByteArray.size_extract]; omega
  have hEs : E.size ≤ 16 := by rw [← hE, ByteArray.size_extract]; omega
  have HR : Hid (∀ W, Calls Try.prog 13 #[.string key, .string nonce, .string bes, .int .i64 L] W fun e w' => e = .returned (.int .i64 0) ∧ W = w') := Lib.hid fun W => by
    have := refused_any key nonce bes L W
    rwa [show refN key.size nonce.size bes.size L = 0 by unfold refN; rw [if_neg (by omega), if_neg (by omega)]] at this
  have HP := Lib.hid fun W => presser_any key hk W
  have HN := Lib.hid hn
  have HB := Lib.hid hb
  have HBS := Lib.hid hBs
  have HES := Lib.hid hEs
  clear hk hn hb ht h16 hBs hL hEs
  go_enter Try.func9, Try.ntmps9
  go_wp2_with fail
  refine (HR.out _).mono ?_
  rintro e w' ⟨rfl, rfl⟩
  go_wp2_with fail
  refine (HP.out _).mono ?_
  rintro e W0 ⟨vb, cb, rfl, hG, hPr⟩
  have hvb : vb < W0.heap.size := by
    have := hPr.var
    unfold blk at this
    rcases Nat.lt_or_ge vb W0.heap.size with h' | h'
    · exact h'
    · simp [Array.getElem?_eq_none h'] at this
  have hcb : cb < W0.heap.size := by
    have := hPr.cip
    unfold blk at this
    rcases Nat.lt_or_ge cb W0.heap.size with h' | h'
    · exact h'
    · simp [Array.getElem?_eq_none h'] at this
  have HW0 : Hid (Below w.heap.size w W0) := Lib.hid hG.below
  have HPR := Lib.hid hPr
  have HVC := Lib.hid (And.intro hvb hcb)
  clear hG hPr hvb hcb
  go_wp2_with fail
  refine (counter_any nonce _ ⟨_, _, _, rfl⟩ W0).mono ?_
  rintro e w' ⟨rfl, rfl⟩
  go_wp2_with fail
  refine (next_any W0 _ 0 2 1 0 vb cb (cipher (bys key)) nonce 0 rfl rfl rfl ⟨blk_old _ _ _ _ HPR.out.var, blk_old _ _ _ _ HPR.out.cip, HPR.out.len⟩ HN.out (by decide)).mono ?_
  rintro e w' ⟨rfl, g, d, rfl⟩
  have hml : (pressL (cipher (bys key)) (bys nonce ++ hfL (0 + 1) 4)).length = 16 := pressL_len _ _
  go_wp2_with fail
  have e1 : pressL (cipher (bys key)) (bys nonce ++ hfL 1 4) = maskP key nonce := rfl
  rw [e1]
  clear hml e1
  obtain ⟨mask, hmask⟩ : ∃ mask, maskP key nonce = mask := ⟨_, rfl⟩
  have hmaskl : mask.length = 16 := by rw [← hmask]; exact maskP_length _ _
  obtain ⟨M, hM⟩ : ∃ M, (Obj.cells #[Value.string nonce] 9 (0, 0) :: Obj.cells #[.func (.func 26) #[] #[.pointer (some ⟨vb, 0, none⟩)]] 35 (0, 0) :: Obj.cells #[Value.int .u64 1] 56 (0, 0) :: (g ++ [Obj.cells (cv .u8 mask) 40 (0, 0)])) = M := ⟨_, rfl⟩
  have m0 : M[0]? = some (.cells #[.string nonce] 9 (0, 0)) := by rw [← hM]; rfl
  have m1 : M[1]? = some (.cells #[.func (.func 26) #[] #[.pointer (some ⟨vb, 0, none⟩)]] 35 (0, 0)) := by rw [← hM]; rfl
  have m2 : M[2]? = some (.cells #[.int .u64 ((1 : Nat) : Int)] 56 (0, 0)) := by rw [← hM]; rfl
  obtain ⟨km, hkm⟩ : ∃ km, g.length + 1 + 1 + 1 = km := ⟨_, rfl⟩
  have mk : M[km]? = some (.cells (cv .u8 mask) 40 (0, 0)) := by
    rw [← hM, ← hkm]
    simp only [List.getElem?_cons_succ]
    rw [List.getElem?_append_right (by omega), Nat.sub_self]; rfl
  rw [hmask, hM, hkm]
  obtain ⟨mm, hmm⟩ : ∃ mm, W0.heap.size + km = mm := ⟨_, rfl⟩
  have hblk : ∀ d, blk (Wd W0 M d) mm = some (.cells (cv .u8 mask) 40 (0, 0)) := fun d => by rw [← hmm, blk_at, mk]
  obtain ⟨T, hT⟩ : ∃ T, macP key nonce bes B = T := ⟨_, rfl⟩
  have hTl : T.length = 16 := by rw [← hT]; exact macP_length _ _ _ _
  have HTT := Lib.hid hT
  have HTG : Hid (∀ dd, Calls Try.prog 17 #[.func (.func 26) #[] #[.pointer (some ⟨vb, 0, none⟩)], .agg (cv .u8 mask), .string bes, .string B] (Wd W0 M dd) fun e w' => e = .returned (.string (mkS T)) ∧ ∃ w3 g', Same W0 w3 ∧ w' = Wd w3 (M ++ g') 0) := Lib.hid fun dd => by
    refine (gtag_any vb cb (cipher (bys key)) mask bes B hmaskl HB.out HBS.out (Wd W0 M dd) ⟨blk_old _ _ _ _ HPR.out.var, blk_old _ _ _ _ HPR.out.cip, HPR.out.len⟩).mono ?_
    rintro e w' ⟨rfl, hbel⟩
    obtain ⟨w3, g', hs3, rfl⟩ := below_lay (w1 := { W0 with drawn := W0.drawn + dd }) (M := M) rfl (by have e2 : (Wd W0 M dd).heap.size = W0.heap.size + M.length := Wd_size _ _ _; rw [e2] at hbel; exact hbel)
    refine ⟨by rw [← hT]; unfold macP; rw [hmask], w3, g', ⟨hs3.1, hs3.2.1, hs3.2.2.1, hs3.2.2.2⟩, rfl⟩
  have HEQ : Hid (∀ W, Calls Try.prog 21 #[.string E, .string (mkS T)] W fun e w' => e = .returned (.bool (sameB E (mkS T))) ∧ Grows W w') := Lib.hid fun W => equal_any E (mkS T) (by have := HES.out; omega) W
  obtain ⟨NX, hNX⟩ : ∃ NX, Value.func (.func 28) #[] #[.pointer (some ⟨W0.heap.size + 2, 0, none⟩), .pointer (some ⟨W0.heap.size + 1, 0, none⟩), .pointer (some ⟨W0.heap.size, 0, none⟩)] = NX := ⟨_, rfl⟩
  rw [hmm, hNX]
  rename_i Q1 K1 hK1 K hK
  have hpost : ∀ (w3 : World) (G : List Obj) (e : Nat), Same W0 w3 → K { tmps := #[.string key, .string nonce, .string bes, .string sl, undef, undef, undef, undef, .string ByteArray.empty, .int .i64 0, .int .i64 L, .int .i64 0, .string B, .func (.func 26) #[] #[.pointer (some ⟨vb, 0, none⟩)], NX, .pointer (some ⟨mm, 0, none⟩), .string sl, .int .i64 sl.size, .int .i64 L, .int .i64 L, .bool false, .string key, .string nonce, .string bes, .int .i64 L, .int .i64 0, .int .i64 0, .bool false, undef, .string sl, .int .i64 L, .string B, .string key, .func (.func 26) #[] #[.pointer (some ⟨vb, 0, none⟩)], .string nonce, .func (.func 26) #[] #[.pointer (some ⟨vb, 0, none⟩)], NX, NX, .agg (cv .u8 mask), .string sl, .int .i64 L, .string E, .func (.func 26) #[] #[.pointer (some ⟨vb, 0, none⟩)], .agg (cv .u8 mask), .string bes, .string B, .string (mkS T), .bool (sameB E (mkS T)), .bool (!sameB E (mkS T)), undef, undef, undef], defers := [] } (Wd w3 (M ++ G) e) := by
    intro w3 G e hs3
    refine hK _ _ ?_
    have hsz : W0.heap.size = w3.heap.size := hs3.size.symm
    have hbel : ∀ w', Below w3.heap.size w3 w' → Below w.heap.size w w' := fun w' hw => by
      have h1 : Below W0.heap.size W0 w3 := by have := hs3.below [] 0; rwa [Wd_nil] at this
      exact HW0.out.trans ((h1.trans (hw.mono (Nat.le_of_eq hsz))).mono HW0.out.size)
    have HBEL := Lib.hid hbel
    have hl : ∀ k o, M[k]? = some o → (M ++ G)[k]? = some o := fun k o hk => by rw [List.getElem?_append_left (List.getElem?_eq_some_iff.1 hk).1, hk]
    have HPR3 : Hid (Prs (Wd w3 (M ++ G) e) vb cb (cipher (bys key))) := Lib.hid ⟨blk_app_same hs3 (d := 0) (blk_old _ _ _ _ HPR.out.var), blk_app_same hs3 (d := 0) (blk_old _ _ _ _ HPR.out.cip), HPR.out.len⟩
    have HGT : Hid (Calls Try.prog 16 #[.string B, NX] (Wd w3 (M ++ G) e) fun r w' => r = .returned (.string (mkS (turnP key nonce B))) ∧ Below w3.heap.size w3 w') := Lib.hid (by
      rw [← hNX, hsz]
      refine (gturn_any w3 (M ++ G) e 2 1 0 vb cb (cipher (bys key)) nonce B 1 (hl _ _ m2) (hl _ _ m1) (hl _ _ m0) HPR3.out HN.out (by have := HBS.out; omega) (by decide)).mono ?_
      rintro r w' ⟨rfl, hb, _⟩
      exact ⟨rfl, hb⟩)
    by_cases hsame : sameB E (mkS T) = true
    · have HS := Lib.hid hsame
      have hs2 : (!sameB E (mkS T)) = false := by rw [hsame]; rfl
      rw [hs2, hsame]
      clear hsame hs2 hbel hblk hK
      go_wp2_with fail
      refine HGT.out.mono ?_
      rintro r w' ⟨rfl, hb⟩
      rw [← Wd_nil w']
      go_wp2
      go_ret2
      refine ⟨?_, HBEL.out _ hb⟩
      rw [← HANS.out, HTT.out, if_pos HS.out]
      rfl
    · have hs1 : sameB E (mkS T) = false := by
        cases h : sameB E (mkS T) with
        | false => rfl
        | true => exact absurd h hsame
      have HS := Lib.hid hs1
      have hs2 : (!sameB E (mkS T)) = true := by rw [hs1]; rfl
      have hW3 : Below w3.heap.size w3 (Wd w3 (M ++ G) e) := (Same.refl w3).below _ _
      rw [hs2, hs1]
      clear hsame hs1 hs2 hbel hblk hK
      go_wp2
      go_ret2
      refine ⟨?_, HBEL.out _ hW3⟩
      rw [← HANS.out, HTT.out, if_neg (by rw [HS.out]; decide)]
      rfl
  go_region_law (first
    | (go_simp; go_at_call 17; refine (HTG.out _).mono ?_; rintro e w' ⟨rfl, w3, g', hs3, rfl⟩)
    | (go_simp; go_at_call 21; refine (HEQ.out _).mono ?_; rintro e w' ⟨rfl, g4, d4, rfl⟩; rw [Wd_wd, List.append_assoc]))
  all_goals exact hpost _ _ _ hs3
end Go.Proofs.Ytmhhekiliojifaa

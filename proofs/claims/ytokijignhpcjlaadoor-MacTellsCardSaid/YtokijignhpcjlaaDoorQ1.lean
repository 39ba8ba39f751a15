/- MacTells' own walk. -/
import Derived.Test.YtokijignhpcjlaaDoorN2
namespace Go.Proofs.YtokijignhpcjlaaDoor
open Go.RowKit Go.Own
attribute [local go_sem] isa9 ag9 ldX_some bs22
attribute [-go_sem] run_string_add_if
set_option maxRecDepth 100000 in
set_option maxHeartbeats 4000000 in
theorem mtells_short (k tag info : ByteArray) (p : Option Addr) (m cap : Nat) (n : Int) (h : 500 < k.size ∨ 20 < m ∨ 200 < tag.size ∨ 500 < info.size ∨ (400 < n ∧ n ≤ 8160)) (w : World) (hR : Roots w) :
    Calls Tryd.prog 5 #[.string k, .slice p m cap, .string tag, .string info, .int .i64 n] w fun e w' => e = .returned (.bool true) ∧ Grows w w' := by
  have h' : 500 < (k.size : Int) ∨ (¬ 500 < (k.size : Int) ∧ 20 < (m : Int)) ∨ (¬ 500 < (k.size : Int) ∧ ¬ 20 < (m : Int) ∧ 200 < (tag.size : Int)) ∨ (¬ 500 < (k.size : Int) ∧ ¬ 20 < (m : Int) ∧ ¬ 200 < (tag.size : Int) ∧ 500 < (info.size : Int))
      ∨ (¬ 500 < (k.size : Int) ∧ ¬ 20 < (m : Int) ∧ ¬ 200 < (tag.size : Int) ∧ ¬ 500 < (info.size : Int) ∧ 400 < n ∧ n ≤ 8160) := by omega
  clear h
  rcases h' with z | ⟨z1, z2⟩ | ⟨z1, z2, z3⟩ | ⟨z1, z2, z3, z4⟩ | ⟨z1, z2, z3, z4, z5, z6⟩
  all_goals
    go_enter Tryd.func5, Tryd.ntmps5
    go_wp2_with fail
    refine (awake3_any _ hR).mono ?_
    rintro e w' ⟨rfl, hg⟩
    go_wp2
    go_ret
    exact ⟨rfl, hg⟩
/-- What is derived, whatever the number: both answer the same. -/
theorem derives (salt secret info : ByteArray) (n : Int) (h1 : salt.size ≤ 1099511600000) (h2 : secret.size ≤ 1099511500000) (h3 : info.size ≤ 1099511400000) :
    ∃ (D : ByteArray) (c : Int), (∀ W, Roots W → Calls Tryd.prog 17 #[.string salt, .string secret, .string info, .int .i64 n] W fun e w' => e = .returned (.tuple #[.string D, .int .i64 c]) ∧ Grows W w') ∧
      (∀ W, Calls Tryd.prog 18 #[.string salt, .string secret, .string info, .int .i64 n] W fun e w' => e = .returned (.tuple #[.string D, .int .i64 c]) ∧ Grows W w') := by
  by_cases h : n < 0 ∨ 8160 < n
  · exact ⟨_, _, fun W _ => derive_bad salt secret info n h W, fun W => refDerive_bad salt secret info n h W⟩
  · obtain ⟨m, rfl⟩ := Int.eq_ofNat_of_zero_le (show 0 ≤ n by omega)
    exact ⟨_, _, fun W hR => derive_any salt secret info m (by omega) h1 h2 h3 W hR, fun W => refDerive_any salt secret info m (by omega) h1 h2 h3 W⟩
set_option maxRecDepth 100000 in
set_option maxHeartbeats 8000000 in
theorem mtells_long (k tag info : ByteArray) (p : Option Addr) (cap : Nat) (ss : List ByteArray) (n : Int) (w : World) (hP : PartsO w p ss) (hS : ∀ s ∈ ss, s.size ≤ 140737488355328) (hk : k.size ≤ 500) (hl : ss.length ≤ 20) (ht : tag.size ≤ 200) (hi : info.size ≤ 500) (hn : n ≤ 400 ∨ 8160 < n) (hR : Roots w) :
    Calls Tryd.prog 5 #[.string k, .slice p ss.length cap, .string tag, .string info, .int .i64 n] w fun e w' => e = .returned (.bool true) ∧ Grows w w' := by
  have HP := Lib.hid hP; clear hP
  have HS := Lib.hid hS; clear hS
  have HR := Lib.hid hR; clear hR
  have HK := Lib.hid hk
  have HTG := Lib.hid ht
  have HI := Lib.hid hi
  obtain ⟨q, hq⟩ : ∃ q, ss.length = q := ⟨_, rfl⟩
  have HN := Lib.hid hq
  rw [hq] at hl ⊢
  clear hq
  have z1 : ¬ 500 < (k.size : Int) := by omega
  have z2 : ¬ 20 < (q : Int) := by omega
  have z3 : ¬ 200 < (tag.size : Int) := by omega
  have z4 : ¬ 500 < (info.size : Int) := by omega
  have z5 : n ≤ 400 ∨ (¬ n ≤ 400 ∧ ¬ n ≤ 8160) := by omega
  clear hk ht hi hn
  refine calls_wd ?_
  go_enter Tryd.func5, Tryd.ntmps5
  go_wp2_with fail
  refine (awake3_any _ (HR.out.wd _ _)).mono ?_
  rintro e w' ⟨rfl, g, d, rfl⟩
  rw [Wd_wd]
  rcases z5 with z5 | ⟨z5, z6⟩
  all_goals
    go_wp2
    go_loopw [11, 12] (fun o i wr => ∃ (j d : Nat) (X : List Nat) (g : List Obj), j ≤ q ∧ i = .int .i64 j ∧ o = .string (mkS X) ∧ Hid (allB (ss.take j) = X) ∧ Hid (X.length ≤ 3000) ∧ wr = Wd w g d) (fun _ i _ => q - (intOf i).toNat)
    case atStart => exact ⟨0, d, [], g, by omega, rfl, rfl, Lib.hid rfl, Lib.hid (by decide), rfl⟩
    case round =>
      obtain ⟨j, d, X, g, hj, rfl, rfl, hX, hXb, rfl⟩ := hrel
      by_cases hlt : j < q
      · obtain ⟨s, hs⟩ : ∃ s, ss[j]? = some s := ⟨_, List.getElem?_eq_getElem (by rw [HN.out]; exact hlt)⟩
        have hsz : Hid (s.size ≤ 140737488355328) := Lib.hid (HS.out s (List.mem_of_getElem? hs))
        obtain ⟨b, o, c, t, f, rfl, hblk, hc⟩ := HP.out j s hs
        have HSS := Lib.hid (allB_succ ss j s hs)
        clear hs
        have hW : ∀ (l : List Obj) (d : Nat), blk (Wd w l d) b = some (.cells c t f) := fun l d => blk_old _ _ _ _ hblk
        clear hblk
        have hji : (j : Int) < q := by omega
        obtain ⟨Y, hY⟩ : ∃ Y, X ++ bys s = Y := ⟨_, rfl⟩
        have HY : Hid (allB (ss.take (j + 1)) = Y) := Lib.hid (by rw [HSS.out, hX.out, hY])
        have hadd : ∀ W, (Op.stringOp .add (mkS X) s).run Tryd.prog W = .ok (.string (mkS Y)) W := fun W => by
          rw [run_string_add_sum W _ _ (by rw [mkS_size]; have := hXb.out; have := hsz.out; omega), bys_cat, hY]
        obtain ⟨y, hy⟩ : ∃ y, Y.length = y := ⟨_, rfl⟩
        have HYL := Lib.hid hy
        have hys : (mkS Y).size = y := by rw [mkS_size, hy]
        clear hY hy
        by_cases hyb : (3000 : Int) < (y : Int)
        · go_wp2
          go_ret
          exact ⟨rfl, Grows.of _ _ _⟩
        · go_wp2
          go_roundw
          case rel => exact ⟨j + 1, _, Y, _, by omega, by go_num, rfl, HY, Lib.hid (by rw [HYL.out]; omega), rfl⟩
          case measure => simp [intOf]; omega
      · obtain rfl : j = q := by omega
        have HXA : Hid (X = allB ss) := Lib.hid (by rw [← hX.out, List.take_of_length_le (by rw [HN.out]; exact Nat.le_refl _)])
        have hX8 : Hid (B8 X) := Lib.hid (by rw [HXA.out]; exact allB_B8 _)
        obtain ⟨R, hR⟩ : ∃ R, mkS (tagL (bys k) X) = R := ⟨_, rfl⟩
        have HRS : Hid (R.size = 32) := Lib.hid (by rw [← hR, mkS_size, tagL_length])
        have HREF : ∀ W, Calls Tryd.prog 16 #[.string k, .string (mkS X)] W fun e w' => e = .returned (.string R) ∧ Grows W w' := fun W => by
          have := refTag_any k (mkS X) (by have := HK.out; omega) (by rw [mkS_size]; have := hXb.out; omega) W
          rwa [bys_mkS X hX8.out, hR] at this
        obtain ⟨D, c, HD1, HD2⟩ := derives k (mkS X) info n (by have := HK.out; omega) (by rw [mkS_size]; have := hXb.out; omega) (by have := HI.out; omega)
        have HTAG : ∀ (W : World) (v' : Option Addr) (c' : Nat), Roots W → PartsO W v' ss → Calls Tryd.prog 19 #[.string k, .slice v' j c'] W fun e w' => e = .returned (.string R) ∧ Grows W w' := fun W v' c' hRW hP => by
          have := tag_any k (by have := HK.out; omega) W hRW v' c' ss hP (by rw [← HXA.out]; have := hXb.out; omega) (by rw [HN.out]; omega)
          rwa [HN.out, ← HXA.out, hR] at this
        have HCHK : ∀ (z : ByteArray) (W : World) (v' : Option Addr) (c' : Nat), z.size ≤ 1099511627776 → Roots W → PartsO W v' ss → Calls Tryd.prog 20 #[.string k, .string z, .slice v' j c'] W fun e w' => e = .returned (.bool (sameB z R)) ∧ Grows W w' := fun z W v' c' hz hRW hP => by
          have := check_any k z (by have := HK.out; omega) hz W hRW v' c' ss hP (by rw [← HXA.out]; have := hXb.out; omega) (by rw [HN.out]; omega)
          rwa [HN.out, ← HXA.out, hR] at this
        have hsame : sameB R R = true := by unfold sameB; exact decide_eq_true rfl
        clear hR
        go_wp2_with fail
        refine (HREF _).mono ?_
        rintro e w' ⟨rfl, g2, d2, rfl⟩
        rw [Wd_wd]
        go_wp2_with (at_builtin; refine stop ?_)
        unfold Stop
        refine wpList_strs (by rfl) (.tmp 65) (.tmp 66) rfl _ rfl p ss cap (by rw [HN.out]; rfl) HP.out (by rw [HN.out]; omega) ?_
        intro v' c' l' d' hv
        have HPV := Lib.hid hv.o
        rw [HN.out]
        obtain ⟨W, hW⟩ : ∃ W, Wd w l' d' = W := ⟨_, rfl⟩
        have HGW : Hid (Grows w W) := Lib.hid (hW ▸ Grows.of _ _ _)
        have HRW : Hid (Roots W) := Lib.hid (HR.out.grows HGW.out)
        rw [hW] at HPV ⊢
        clear hv hW
        rw [← Wd_nil W]
        go_wp2_with fail
        refine (HD1 _ (HRW.out.wd _ _)).mono ?_
        rintro e w' ⟨rfl, g3, d3, rfl⟩
        rw [Wd_wd]
        go_wp2_with fail
        refine (HD2 _).mono ?_
        rintro e w' ⟨rfl, g4, d4, rfl⟩
        rw [Wd_wd]
        go_wp2_with fail
        refine (HTAG _ _ _ (HRW.out.wd _ _) (HPV.out.wd _ _)).mono ?_
        rintro e w' ⟨rfl, g5, d5, rfl⟩
        rw [Wd_wd]
        go_wp2_with fail
        refine (HCHK _ _ _ _ (by rw [HRS.out]; decide) (HRW.out.wd _ _) (HPV.out.wd _ _)).mono ?_
        rintro e w' ⟨rfl, g6, d6, rfl⟩
        rw [Wd_wd, hsame]
        go_wp2_with fail
        refine (HCHK _ _ _ _ (by have := HTG.out; omega) (HRW.out.wd _ _) (HPV.out.wd _ _)).mono ?_
        rintro e w' ⟨rfl, g7, d7, rfl⟩
        rw [Wd_wd]
        by_cases htr : tag = R
        · subst htr
          rw [hsame]
          go_wp2
          go_ret
          exact ⟨rfl, HGW.out.trans (Grows.of _ _ _)⟩
        · have hsf : sameB tag R = false := by unfold sameB; exact decide_eq_false htr
          have htl : ¬ tag.toList = R.toList := fun e => htr (by
            rw [ByteArray.toList_eq, ByteArray.toList_eq] at e
            exact ByteArray.ext (Array.toList_inj.1 e))
          have htb : (tag.toList == R.toList) = false := by simpa using htl
          rw [hsf]
          go_wp2
          go_ret
          exact ⟨rfl, HGW.out.trans (Grows.of _ _ _)⟩
end Go.Proofs.YtokijignhpcjlaaDoor

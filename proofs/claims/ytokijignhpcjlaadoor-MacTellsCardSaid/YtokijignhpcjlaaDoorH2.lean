/- A tag, and its check: by contract. -/
import Derived.Test.YtokijignhpcjlaaDoorH1
import Derived.Test.YtokijignhpcjlaaDoorR3
namespace Go.Proofs.YtokijignhpcjlaaDoor
open Go.RowKit Go.Own

theorem Parts.o {w : World} {p : Option Addr} {ss : List ByteArray} (h : Parts w p ss) : PartsO w p ss := fun j s hs => by
  obtain ⟨b, c, t, f, h1, h2, h3⟩ := h j s hs
  exact ⟨b, 0, c, t, f, h1, h2, by rw [Nat.zero_add]; exact h3⟩
theorem at_end3 (L g g2 : List Obj) (X : Obj) : (L ++ (g ++ (g2 ++ [X])))[L.length + (g.length + g2.length)]? = some X := by
  rw [← List.append_assoc g, ← List.length_append, at_end2]
attribute [local go_sem] ag49 cs49 sz49 z49 bsS1 bsS2 cpX_short ag5 cs5 sz5 isa5 isa9 ag9 ldX_some
set_option maxRecDepth 100000 in
set_option maxHeartbeats 2000000 in
theorem tag_any (k : ByteArray) (hk : k.size ≤ 1099511600000) (w : World) (hR : Roots w) (p : Option Addr) (cap : Nat) (ss : List ByteArray) (hP : PartsO w p ss) (hb : (allB ss).length ≤ 1099511500000) (hl : ss.length ≤ 1099511627776) :
    Calls Tryd.prog 19 #[.string k, .slice p ss.length cap] w fun e w' => e = .returned (.string (mkS (tagL (bys k) (allB ss)))) ∧ Grows w w' := by
  have HB := Lib.hid hb; clear hb
  obtain ⟨n, hn⟩ : ∃ n, ss.length = n := ⟨_, rfl⟩
  have HN := Lib.hid hn
  rw [hn] at hl ⊢
  clear hn
  have HR0 := Lib.hid hR
  have HP0 := Lib.hid hP
  have HK := Lib.hid hk
  clear hR hP hk
  refine calls_wd ?_
  go_enter Tryd.func19, Tryd.ntmps19
  go_wp2_with fail
  refine (turner_any k HK.out w HR0.out [] 0).mono ?_
  rintro e w' ⟨g, d, rfl, rfl⟩
  obtain ⟨pb, hpb⟩ : ∃ pb, w.heap.size + (([] : List Obj).length + g.length) = pb := ⟨_, rfl⟩
  obtain ⟨W, hW⟩ : ∃ W, Wd w ([] ++ (g ++ [.cells (cv .u8 (blockL (bys k))) 49 (0, 0)])) d = W := ⟨_, rfl⟩
  have hGW : Grows w W := hW ▸ Grows.of _ _ _
  have HPB : Hid (blk W pb = some (.cells (cv .u8 (blockL (bys k))) 49 (0, 0))) := Lib.hid (by
    rw [← hW, ← hpb, blk_at]; simp)
  have HR := Lib.hid (HR0.out.grows hGW)
  have HP := Lib.hid (HP0.out.grows hGW)
  have HGW := Lib.hid hGW
  rw [hpb, hW]
  clear hpb hW hGW
  obtain ⟨A, hA⟩ : ∃ A, turnL (blockL (bys k)) 54 = A := ⟨_, rfl⟩
  obtain ⟨B, hB⟩ : ∃ B, turnL (blockL (bys k)) 92 = B := ⟨_, rfl⟩
  have hAl : Hid (A.length = 64) := Lib.hid (by rw [← hA]; exact turnL_length _ _)
  have hBl : Hid (B.length = 64) := Lib.hid (by rw [← hB]; exact turnL_length _ _)
  have hA8 : Hid (B8 A) := Lib.hid (by rw [← hA]; exact turnL_B8 _ _)
  have hB8 : Hid (B8 B) := Lib.hid (by rw [← hB]; exact turnL_B8 _ _)
  have HC1 : ∀ (l : List Obj) (d : Nat), Calls Tryd.prog 35 #[.int .u8 54, .pointer (some ⟨pb, 0, none⟩)] (Wd W l d) fun e w' => e = .returned (.string (mkS A)) ∧ Grows (Wd W l d) w' := fun l d => by
    have := closed_any 54 pb (blockL (bys k)) (blockL_length _) (Wd W l d) (blk_old _ _ _ _ HPB.out)
    rwa [hA] at this
  have HC2 : ∀ (l : List Obj) (d : Nat), Calls Tryd.prog 35 #[.int .u8 92, .pointer (some ⟨pb, 0, none⟩)] (Wd W l d) fun e w' => e = .returned (.string (mkS B)) ∧ Grows (Wd W l d) w' := fun l d => by
    have := closed_any 92 pb (blockL (bys k)) (blockL_length _) (Wd W l d) (blk_old _ _ _ _ HPB.out)
    rwa [hB] at this
  have HT : Hid (tagL (bys k) (allB ss) = digL (B ++ digL (A ++ allB ss))) := Lib.hid (by unfold tagL; rw [hA, hB])
  clear hA hB
  rw [← Wd_nil W]
  go_wp2_with fail
  refine (new_any W [] 0).mono ?_
  rintro e w' ⟨g, d, rfl, rfl⟩
  obtain ⟨j, hj⟩ : ∃ j, ([] : List Obj).length + g.length = j := ⟨_, rfl⟩
  have hget : ([] ++ g ++ [Obj.cells (tc startL (rep 64) 0) 52 (0, 0)])[j]? = some (.cells (tc startL (rep 64) 0) 52 (0, 0)) := by
    rw [← hj]; simp
  have HG := Lib.hid hget
  rw [hj]
  clear hget hj
  generalize [] ++ g ++ [Obj.cells (tc startL (rep 64) 0) 52 (0, 0)] = L0 at *
  go_wp2_with fail
  refine (HC1 _ _).mono ?_
  rintro e w' ⟨rfl, g, d, rfl⟩
  rw [Wd_wd]
  go_wp2_with fail
  refine (add_any W HR.out _ _ j [] startL (rep 64) (mkS A) Tal.start (app_at HG.out) (by rw [mkS_size, hAl.out]; decide)).mono ?_
  rintro e w' ⟨rfl, st, bl, L, d, hT, hL, rfl⟩
  rw [List.nil_append, bys_mkS A hA8.out] at hT hL
  have HT1 := Lib.hid hT
  have HL1 := Lib.hid hL.get
  clear hT hL HG
  go_wp2
  go_loopw [17] (fun i wr => ∃ (k d : Nat) (st bl X : List Nat) (L : List Obj), k ≤ n ∧ i = .int .i64 k ∧ Hid (A ++ allB (ss.take k) = X) ∧ Hid (Tal X st bl) ∧ Hid (L[j]? = some (.cells (tc st bl X.length) 52 (0, 0))) ∧ wr = Wd W L d) (fun i _ => n - (intOf i).toNat)
  case atStart => exact ⟨0, d, st, bl, A, L, by omega, rfl, Lib.hid (by simp [allB]), HT1, HL1, rfl⟩
  case round =>
    clear HT1 HL1
    obtain ⟨k, d, st, bl, X, L, hk, rfl, hX, hT, hL, rfl⟩ := hrel
    by_cases hlt : k < n
    · obtain ⟨s, hs⟩ : ∃ s, ss[k]? = some s := ⟨_, List.getElem?_eq_getElem (by rw [HN.out]; exact hlt)⟩
      obtain ⟨b, o, c, t, f, rfl, hblk, hc⟩ := HP.out k s hs
      have HS := Lib.hid (allB_succ ss k s hs)
      have HKL := Lib.hid (allB_le ss (k + 1))
      clear hs
      have hWb : ∀ (l : List Obj) (d : Nat), blk (Wd W l d) b = some (.cells c t f) := fun l d => blk_old _ _ _ _ hblk
      clear hblk
      have hki : (k : Int) < n := by omega
      go_wp2_with fail
      refine (add_any W HR.out L d j X st bl s hT.out hL.out ?hl).mono ?_
      case hl =>
        have h1 := HKL.out
        have h2 := HB.out
        have h3 := hAl.out
        rw [HS.out, List.length_append, bys_length] at h1
        rw [← hX.out, List.length_append]
        omega
      rintro e w' ⟨rfl, st2, bl2, L2, d2, hT2, hL2, rfl⟩
      have HX2 : Hid (A ++ allB (ss.take (k + 1)) = X ++ bys s) := Lib.hid (by rw [HS.out, ← hX.out, List.append_assoc])
      have HT2 := Lib.hid hT2
      have HL2 := Lib.hid hL2.get
      clear hT2 hL2
      go_wp2
      go_roundw
      case rel => exact ⟨k + 1, _, st2, bl2, _, _, by omega, by go_num, HX2, HT2, HL2, rfl⟩
      case measure => simp [intOf]; omega
    · obtain rfl : k = n := by omega
      have HXA : Hid (X = A ++ allB ss) := Lib.hid (by rw [← hX.out, List.take_of_length_le (by rw [HN.out]; exact Nat.le_refl _)])
      go_wp2_with fail
      refine (HC2 _ _).mono ?_
      rintro e w' ⟨rfl, g, d, rfl⟩
      rw [Wd_wd]
      go_wp2_with fail
      refine (sum_any W HR.out _ _ j X st bl hT.out (app_at hL.out) (by rw [HXA.out, List.length_append, hAl.out]; have := HB.out; omega)).mono ?_
      rintro e w' ⟨rfl, g2, d2, rfl⟩
      go_wp2_with fail
      refine (of_any _ (HR.out.wd _ _) _ 2 [mkS B, mkS (digL X)] (parts2 (i := L.length + (g.length + g2.length)) (t := 9) (f := (0, 0)) ?hp) ?hq (by simp)).mono ?_
      case hp => exact at_end3 _ _ _ _
      case hq => rw [allB2, bys_mkS B hB8.out, bys_mkS _ (digL_B8 _), List.length_append, hBl.out, digL_length]; decide
      rintro e w' ⟨rfl, g3, d3, rfl⟩
      rw [allB2, bys_mkS B hB8.out, bys_mkS _ (digL_B8 _), HXA.out, ← HT.out]
      go_wp2
      go_ret
      exact ⟨rfl, HGW.out.trans ((Grows.of _ _ _).trans (Grows.of _ _ _))⟩
theorem tagL_length (k x : List Nat) : (tagL k x).length = 32 := digL_length _
theorem tagL_B8 (k x : List Nat) : B8 (tagL k x) := digL_B8 _
set_option maxRecDepth 100000 in
set_option maxHeartbeats 1000000 in
theorem check_any (k t : ByteArray) (hk : k.size ≤ 1099511600000) (ht : t.size ≤ 1099511627776) (w : World) (hR : Roots w) (p : Option Addr) (cap : Nat) (ss : List ByteArray) (hP : PartsO w p ss) (hb : (allB ss).length ≤ 1099511500000) (hl : ss.length ≤ 1099511627776) :
    Calls Tryd.prog 20 #[.string k, .string t, .slice p ss.length cap] w fun e w' => e = .returned (.bool (sameB t (mkS (tagL (bys k) (allB ss))))) ∧ Grows w w' := by
  have hc := fun (l : List Obj) (d : Nat) => tag_any k hk (Wd w l d) (hR.wd l d) p cap ss (hP.wd l d) hb hl
  have HC := Lib.hid hc
  clear hc hR hP hb hl
  obtain ⟨n, hn⟩ : ∃ n, ss.length = n := ⟨_, rfl⟩
  obtain ⟨z, hz⟩ : ∃ z, mkS (tagL (bys k) (allB ss)) = z := ⟨_, rfl⟩
  have hzs : z.size ≤ 1099511627776 := by rw [← hz, mkS_size, tagL_length]; decide
  rw [hn, hz] at HC
  rw [hn, hz]
  clear hn hz
  have HT := Lib.hid ht
  have HZ := Lib.hid hzs
  clear ht hzs hk
  refine calls_wd ?_
  go_enter Tryd.func20, Tryd.ntmps20
  go_wp2_with fail
  refine (HC.out _ _).mono ?_
  rintro e w' ⟨rfl, g, d, rfl⟩
  rw [Wd_wd]
  go_wp2_with fail
  refine (equal_any t z HT.out _).mono ?_
  rintro e w' ⟨rfl, g2, d2, rfl⟩
  rw [Wd_wd]
  go_wp2
  go_ret
  exact ⟨rfl, Grows.of _ _ _⟩
end Go.Proofs.YtokijignhpcjlaaDoor

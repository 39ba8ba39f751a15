/- The law's own example: it is true. No condition. | Two rows of texts that are the same; writes and a flush of a disk; rows of texts wherever they lie. No condition but the sizes. -/
import Derived.Test.YtjgfljckmckhcaaDoorZ42
import Derived.LaidEqlPtr
namespace Go.Proofs.YtjgfljckmckhcaaDoor
open Go Go.RowKit Go.Own
theorem St.turned {w : World} {P : Nat → Prop} {l l' : List Obj} {i s q jo : Nat} {J : Jn} {M' : Dk} {vw' : Value} {O A : Nat → Prop} {vt : Value} (h2 : JAt w l jo i A J vt) (h3 : ∀ p, O p → p < l.length) (h4 : O jo) (h5 : ∀ p, A p → O p) (h6 : ∀ p, P p → O p ∧ ¬ A p ∧ p ≠ jo) (hD : DAt w l' i s q vw' O M') (hK : Kp O l l') : St w P l' i s q jo J M' ∧ Up l l' P :=
  ⟨⟨vw', O, A, vt, hD, ⟨(hK.2 jo h4 (h3 jo h4)).trans h2.cells, h2.row.mono fun p hp hlt => ⟨hp, hK.2 p (h5 p hp) hlt⟩, h2.jA, h2.ok⟩, fun p hp => Nat.lt_of_lt_of_le (h3 p hp) hK.1, h4, h5, h6⟩, hK.1, fun p hp => hK.2 p (h6 p hp).1 (h3 p (h6 p hp).1)⟩
theorem arm_st {w : World} {P : Nat → Prop} {l : List Obj} {i s q jo : Nat} {J : Jn} {M : Dk} (h : St w P l i s q jo J M) (a : Int) (k : Nat) (t : Int) (ha : a ≤ 9223372036854775807) (d : Nat) :
    Calls Tryd.prog 21 #[.pointer (some ⟨w.heap.size + i, 0, none⟩), .agg (kc a k t)] (Wd w l d) fun e w' => ∃ l' d', e = .returned (.tuple #[]) ∧ w' = Wd w l' d' ∧ St w P l' i s q jo J (M.arm a k t) ∧ Up l l' P := by
  obtain ⟨vw, O, A, vt, h1, h2, h3, h4, h5, h6⟩ := h
  refine (armS_any w l d i s q vw O M a k t h1 ha).mono ?_
  rintro e w' ⟨he, l', d', vw', rfl, hD, hK⟩
  exact ⟨l', d', he, rfl, St.turned h2 h3 h4 h5 h6 hD hK⟩
theorem start_st {w : World} {P : Nat → Prop} {l : List Obj} {i s q jo : Nat} {J : Jn} {M : Dk} (h : St w P l i s q jo J M) (d : Nat) :
    Calls Tryd.prog 22 #[.pointer (some ⟨w.heap.size + i, 0, none⟩)] (Wd w l d) fun e w' => ∃ l' d', e = .returned (.tuple #[]) ∧ w' = Wd w l' d' ∧ St w P l' i s q jo J M.start ∧ Up l l' P := by
  obtain ⟨vw, O, A, vt, h1, h2, h3, h4, h5, h6⟩ := h
  refine (startS_any w l d i s q vw O M h1).mono ?_
  rintro e w' ⟨he, l', d', vw', rfl, hD, hK⟩
  exact ⟨l', d', he, rfl, St.turned h2 h3 h4 h5 h6 hD hK⟩
theorem newK_live {n : Nat} (h1 : 1 ≤ n) (h2 : n ≤ 4096) : Live (newK n) := ⟨rfl, rfl, newK_ok h1 h2⟩
def J0 : Jn := ⟨⟨0, 8, 0, 0, []⟩, false⟩
def awkC : Bool := decide (awk1.2.1.count < 1000) && decide (awk2.2.1.count < 1000) && decide (awk3.2.1.count < 1000) && decide (awk2.1.now.first ≤ awk2.1.now.size) && decide (awk4.2.1.start.off = false) && decide (awk4.2.1.start.cat = 0) && decide (awk4.2.1.start.n = 16)
set_option maxRecDepth 100000 in
theorem awk_all : (awkB && awkC) = true := by decide +kernel
theorem awk_new : openJ (newK 16) = (some J0, 0) ∧ J0.now.room = 462 := by
  have h := awk_all
  rw [Bool.and_eq_true] at h
  have h1 := h.1
  unfold awkB at h1
  simp only [Bool.and_eq_true] at h1
  have h2 := h1.1.1.1.1.1.1.1.1
  have h3 := of_decide_eq_true h1.1.1.1.1.1.1.1.2
  generalize openJ (newK 16) = rc at h2 h3 ⊢
  obtain ⟨r, c⟩ := rc
  cases r with
  | none => simp at h2
  | some j =>
    simp only [decide_eq_true_eq] at h2
    obtain ⟨⟨fi, n, g, u, ts⟩, off⟩ := j
    obtain ⟨e1, e2, e3, e4, e5, e6, e7⟩ := h2
    simp only at e1 e2 e3 e4 e5 e6 e7 h3
    subst e1; subst e3; subst e4; subst e5; subst e6; subst e7; subst h3
    exact ⟨rfl, e2⟩
theorem awk_facts : awk1.2.2 = 0 ∧ awk2.2.2 = 0 ∧ awk3.2.2 = 0 ∧ awk4.2.2 = 7 ∧ awk4.1.now.texts = [] ∧ ∃ K, openJ awk4.2.1.start = (some K, 0) ∧ K.now.texts = [all3] := by
  have h := awk_all
  rw [Bool.and_eq_true] at h
  have h1 := h.1
  unfold awkB at h1
  simp only [Bool.and_eq_true] at h1
  obtain ⟨⟨⟨⟨⟨⟨⟨_, k1⟩, k2⟩, k3⟩, k4⟩, k5⟩, k6⟩, k7⟩ := h1
  refine ⟨of_decide_eq_true k1, of_decide_eq_true k2, of_decide_eq_true k3, of_decide_eq_true k4, of_decide_eq_true k5, ?_⟩
  have k6' := of_decide_eq_true k6
  generalize openJ awk4.2.1.start = rc at k7 k6' ⊢
  obtain ⟨r, c⟩ := rc
  cases r with
  | none => simp at k7
  | some j =>
    simp only at k6'
    subst k6'
    exact ⟨j, rfl, of_decide_eq_true k7⟩
theorem awk_small : awk1.2.1.count < 1000 ∧ awk2.2.1.count < 1000 ∧ awk3.2.1.count < 1000 ∧ awk2.1.now.first ≤ awk2.1.now.size ∧ awk4.2.1.start.off = false ∧ awk4.2.1.start.cat = 0 ∧ awk4.2.1.start.n = 16 := by
  have h := awk_all
  rw [Bool.and_eq_true] at h
  have h1 := h.2
  unfold awkC at h1
  simp only [Bool.and_eq_true, decide_eq_true_eq] at h1
  obtain ⟨⟨⟨⟨⟨⟨k1, k2⟩, k3⟩, k4⟩, k5⟩, k6⟩, k7⟩ := h1
  exact ⟨k1, k2, k3, k4, k5, k6, k7⟩
attribute [-go_sem] Sm.execOp_bs run_string_add_if
attribute [local go_sem] agj61 csj61 szj61 agj64 csj64 szj64 agj25 isaj25 csj25 szj25 agj9 isaj9 csj9 szj9 agj32 isaj32 csj32 szj32 bsj32s ldX_mix1
theorem buj40 (W : World) : (buN 40 #[(0, .int .i64 2)]).run Tryd.prog W = .ok (.agg (kc 2 0 0)) W := by kernel_rfl
attribute [local go_sem] buj40
theorem bys_one : bys { data := #[111, 110, 101] } = one3 := rfl
theorem bys_two : bys { data := #[116, 119, 111] } = two3 := rfl
theorem bys_all : bys { data := #[97, 108, 108] } = all3 := rfl
theorem bys_lost : bys { data := #[108, 111, 115, 116] } = lost4 := rfl
set_option maxRecDepth 100000 in
set_option maxHeartbeats 4000000 in
theorem awake_any (w : World) (hR : Sm.Roots w) (l : List Obj) (d : Nat) : Calls Tryd.prog 6 #[] (Wd w l d) fun e w' => e = .returned (.bool true) ∧ ∃ g' d', w' = Wd w (l ++ g') d' := by
  have HF := Lib.hid awk_facts
  have HM := Lib.hid awk_small
  go_enter Tryd.func6, Tryd.ntmps6
  go_wp2_with fail
  refine (new_st w l d 16 (by decide) (by decide)).mono ?_
  rintro e w' ⟨i, s, q, g1, d1, rfl, rfl, hs⟩
  have HS := Lib.hid hs
  have HG1 : Hid (Up l (l ++ g1) fun p => p < l.length) := Lib.hid (Up.app l g1 fun p hp => hp)
  obtain ⟨L1, hL1⟩ : ∃ L1, l ++ g1 = L1 := ⟨_, rfl⟩
  rw [hL1] at HS HG1 ⊢
  clear hs hL1
  go_wp2_with fail
  refine (open_st hR HS.out (newK_live (by decide) (by decide)) (by decide) (by decide) awk_new.1 d1).mono ?_
  rintro e w' ⟨jo, g2, d2, rfl, rfl, hs⟩
  have HT := Lib.hid hs
  have HG2 : Hid (Up l (L1 ++ g2) fun p => p < l.length) := Lib.hid (HG1.out.trans (Up.app L1 g2 fun p hp => HS.out.lt p hp))
  obtain ⟨L2, hL2⟩ : ∃ L2, L1 ++ g2 = L2 := ⟨_, rfl⟩
  rw [hL2] at HT HG2 ⊢
  clear hs hL2 HS HG1
  go_wp2_with fail
  refine (room_st HT.out d2).mono ?_
  rintro e w' ⟨rfl, g3, d3, rfl⟩
  rw [awk_new.2]
  have HG3 : Hid (Up l (L2 ++ g3) fun p => p < l.length) := Lib.hid (HG2.out.trans (Up.app L2 g3 fun p hp => HT.out.disk.lt p hp))
  have HT3 := Lib.hid ((HT.out.app g3).mono fun p hp => .inl hp)
  obtain ⟨L3, hL3⟩ : ∃ L3, L2 ++ g3 = L3 := ⟨_, rfl⟩
  rw [hL3] at HT3 HG3 ⊢
  clear hL3 HT HG2
  go_wp2_with fail
  refine (append_st hR HT3.out { data := #[111, 110, 101] } (by decide) d3).mono ?_
  rintro e w' ⟨L4, d4, rfl, rfl, hs, hu⟩
  rw [bys_one] at hs ⊢
  have HT4 : Hid (St w (fun p => p < l.length) L4 i s q jo awk1.1 awk1.2.1) := Lib.hid hs
  have HG4 : Hid (Up l L4 fun p => p < l.length) := Lib.hid (HG3.out.trans hu)
  rw [show (J0.append (newK 16) one3).2.2 = 0 from HF.out.1]
  clear hs hu HT3 HG3
  go_wp2_with fail
  refine (append_st hR HT4.out { data := #[116, 119, 111] } (by have := HM.out.1; omega) d4).mono ?_
  rintro e w' ⟨L5, d5, rfl, rfl, hs, hu⟩
  rw [bys_two] at hs ⊢
  have HT5 : Hid (St w (fun p => p < l.length) L5 i s q jo awk2.1 awk2.2.1) := Lib.hid hs
  have HG5 : Hid (Up l L5 fun p => p < l.length) := Lib.hid (HG4.out.trans hu)
  rw [show (awk1.1.append awk1.2.1 two3).2.2 = 0 from HF.out.2.1]
  clear hs hu HT4 HG4
  go_wp2_with fail
  have HT6 := Lib.hid ((HT5.out.app [Obj.cells #[.string { data := #[97, 108, 108] }] 9 (0, 0)]).mono fun p hp => .inl hp)
  have HG6 : Hid (Up l (L5 ++ [Obj.cells #[.string { data := #[97, 108, 108] }] 9 (0, 0)]) fun p => p < l.length) := Lib.hid (HG5.out.trans (Up.app L5 _ fun p hp => HT5.out.disk.lt p hp))
  refine (anew_st hR HT6.out HM.out.2.2.2.1 _ [{ data := #[97, 108, 108] }] ⟨_, _, rfl, fun _ => ⟨w.heap.size + L5.length, 0, #[.string { data := #[97, 108, 108] }], 9, (0, 0), rfl, fun L d hL => by rw [blk_at, hL _ (by rw [List.length_append]; exact Nat.lt_succ_self _)]; simp, fun k s hs => by
    match k, hs with
    | 0, hs => simp at hs; subst hs; rfl
    | k + 1, hs => simp at hs⟩⟩ (by decide) (by have := HM.out.2.1; omega) d5).mono ?_
  rintro e w' ⟨L7, d7, rfl, rfl, hs, hu⟩
  rw [show ([{ data := #[97, 108, 108] }] : List ByteArray).map bys = [all3] from rfl] at hs ⊢
  have HT7 : Hid (St w (fun p => p < l.length) L7 i s q jo awk3.1 awk3.2.1) := Lib.hid hs
  have HG7 : Hid (Up l L7 fun p => p < l.length) := Lib.hid (HG6.out.trans hu)
  rw [show (awk2.1.anew awk2.2.1 [all3]).2.2 = 0 from HF.out.2.2.1]
  clear hs hu HT5 HG5 HT6 HG6
  go_wp2_with fail
  refine (arm_st HT7.out 2 0 0 (by decide) d7).mono ?_
  rintro e w' ⟨L8, d8, rfl, rfl, hs, hu⟩
  have HT8 := Lib.hid hs
  have HG8 : Hid (Up l L8 fun p => p < l.length) := Lib.hid (HG7.out.trans hu)
  clear hs hu HT7 HG7
  go_wp2_with fail
  refine (append_st hR HT8.out { data := #[108, 111, 115, 116] } (by have := HM.out.2.2.1; show awk3.2.1.count < _; omega) d8).mono ?_
  rintro e w' ⟨L9, d9, rfl, rfl, hs, hu⟩
  rw [bys_lost] at hs ⊢
  have HT9 : Hid (St w (fun p => p < l.length) L9 i s q jo awk4.1 awk4.2.1) := Lib.hid hs
  have HG9 : Hid (Up l L9 fun p => p < l.length) := Lib.hid (HG8.out.trans hu)
  rw [show (awk3.1.append (awk3.2.1.arm 2 0 0) lost4).2.2 = 7 from HF.out.2.2.2.1]
  clear hs hu HT8 HG8
  go_wp2_with fail
  refine (start_st HT9.out d9).mono ?_
  rintro e w' ⟨LA, dA, rfl, rfl, hs, hu⟩
  have HTA := Lib.hid hs
  have HGA : Hid (Up l LA fun p => p < l.length) := Lib.hid (HG9.out.trans hu)
  clear hs hu HT9 HG9
  obtain ⟨K, hK, hKt⟩ := HF.out.2.2.2.2.2
  have HK := Lib.hid (And.intro hK hKt)
  have HLV : Hid (Live awk4.2.1.start) := Lib.hid ⟨HM.out.2.2.2.2.1, HM.out.2.2.2.2.2.1, HTA.out.disk.ok⟩
  clear hK hKt
  go_wp2_with fail
  refine (open_st hR HTA.out.disk HLV.out (by rw [HM.out.2.2.2.2.2.2]; decide) (by rw [HM.out.2.2.2.2.2.2]) HK.out.1 dA).mono ?_
  rintro e w' ⟨ko, gB, dB, rfl, rfl, hs⟩
  have HTK := Lib.hid hs
  have HTB := Lib.hid ((HTA.out.app gB).mono (P' := fun p => p < l.length) fun p hp => .inl hp)
  have HGB : Hid (Up l (LA ++ gB) fun p => p < l.length) := Lib.hid (HGA.out.trans (Up.app LA _ fun p hp => HTA.out.disk.lt p hp))
  obtain ⟨LB, hLB⟩ : ∃ LB, LA ++ gB = LB := ⟨_, rfl⟩
  rw [hLB] at HTK HTB HGB ⊢
  clear hs hLB HTA HGA HLV
  go_wp2_with fail
  refine (texts_st HTK.out (by rw [HK.out.2]; intro t ht; obtain rfl := List.mem_singleton.1 ht; exact ⟨by decide, fun x hx => by simp [all3] at hx; omega⟩) dB).mono ?_
  rintro e w' ⟨vK, gC, dC, rfl, rfl, hr⟩
  rw [HK.out.2] at hr
  rcases hr with ⟨_, h0, _⟩ | ⟨jC, cC, XC, tC, _, rfl, hjC, hXC, hnC, hXv⟩
  · cases h0
  have hx0 : XC.toArray[0]? = some (.string (mkS all3)) := by
    have e : (XC.take (1 * 1))[0]? = some (.string (mkS all3)) := by
      have h2 : XC.take ([all3].length * 1) = strs [all3] := hXv
      rw [show (1 * 1 : Nat) = [all3].length * 1 from rfl, h2]; rfl
    rw [List.getElem?_take_of_lt (by decide)] at e
    rw [List.getElem?_toArray]; exact e
  have HTC := Lib.hid ((HTB.out.app gC).mono (P' := fun p => p < l.length) fun p hp => .inl hp)
  have HPC := Lib.hid (HTB.out.app gC)
  have HGC : Hid (Up l (LB ++ gC) fun p => p < l.length) := Lib.hid (HGB.out.trans (Up.app LB _ fun p hp => HTB.out.disk.lt p hp))
  obtain ⟨LC, hLC⟩ : ∃ LC, LB ++ gC = LC := ⟨_, rfl⟩
  rw [hLC] at HTC HGC hjC ⊢
  have HJC := Lib.hid hjC
  clear hLC HTB HGB HTK HPC hjC hXC hnC hXv
  go_wp2_with fail
  refine (new_st w LC dC 7 (by decide) (by decide)).mono ?_
  rintro e w' ⟨i7, s7, q7, gD, dD, rfl, rfl, hs⟩
  have HSD := Lib.hid hs
  have HTD := Lib.hid ((HTC.out.app gD).mono (P' := fun p => p < l.length) fun p hp => .inl hp)
  have HJD : Hid ((LC ++ gD)[jC]? = some (.cells XC.toArray tC (0, 0))) := Lib.hid (app_some HJC.out)
  have HGD : Hid (Up l (LC ++ gD) fun p => p < l.length) := Lib.hid (HGC.out.trans (Up.app LC _ fun p hp => HTC.out.disk.lt p hp))
  obtain ⟨LD, hLD⟩ : ∃ LD, LC ++ gD = LD := ⟨_, rfl⟩
  rw [hLD] at HSD HTD HJD HGD ⊢
  clear hs hLD HTC HGC HJC
  go_wp2_with fail
  obtain ⟨vw7, O7, h7, _, _⟩ := HSD.out
  refine (open_bad w LD dD i7 s7 q7 vw7 O7 (newK 7) h7 (.inl (by decide))).mono ?_
  rintro e w' ⟨rfl, rfl⟩
  have hjt := HF.out.2.2.2.2.1
  have HTX := Lib.hid fun d => texts_st HTD.out (by rw [hjt]; intro t ht; cases ht) d
  rw [hjt] at HTX
  have hjd := HJD.out
  have hjg : ∀ g, (LD ++ g)[jC]? = some (.cells XC.toArray tC (0, 0)) := fun g => app_some hjd
  clear h7 HSD hjt hjd
  go_wp2_with fail
  refine (HTX.out _).mono ?_
  rintro e w' ⟨vE, gE, dE, rfl, rfl, hr⟩
  obtain ⟨qE, cE, rfl⟩ := hr.form
  clear hr
  have hms : mkS all3 = { data := #[97, 108, 108] } := rfl
  rw [hms] at hx0
  have hblk : ∀ g d, blk (Wd w (LD ++ g) d) (w.heap.size + jC) = some (.cells XC.toArray tC (0, 0)) := fun g d => by rw [blk_at]; exact hjg g
  go_wp2
  go_ret
  have hfin : ∀ p, p < l.length → (LD ++ gE)[p]? = l[p]? := fun p hp => by rw [List.getElem?_append_left (by have := HGD.out.1; omega)]; exact HGD.out.2 p hp
  obtain ⟨gF, hgF⟩ := prefix_of hfin
  exact ⟨rfl, gF, dE, by rw [hgF]⟩
end Go.Proofs.YtjgfljckmckhcaaDoor
namespace Go.Proofs.YtjgfljckmckhcaaDoor
open Go Go.RowKit Go.Own
theorem TxAt.more {w : World} {l l' : List Obj} {v : Value} {bs : List ByteArray} (h : TxAt w l v bs) (hl : l.length ≤ l'.length) (hs : ∀ p, p < l.length → l'[p]? = l[p]?) : TxAt w l' v bs := by
  obtain ⟨q, c, hv, h⟩ := h
  refine ⟨q, c, hv, fun hb => ?_⟩
  obtain ⟨b, o, X, T, f, h1, h2, h3⟩ := h hb
  exact ⟨b, o, X, T, f, h1, fun L d hL => h2 L d fun p hp => (hL p (by omega)).trans (hs p hp), h3⟩
/-- A row of the call's own, as a row of texts. -/
theorem TxAt.row {A : Nat → Prop} {w : World} {l : List Obj} {n : Nat} {v : Value} {ts : List (List Nat)} (h : RowV A w l 1 n v (strs ts)) : TxAt w l v (ts.map mkS) := by
  have hn : n = ts.length := by have := h.length; rw [strs_length] at this; omega
  rcases h with ⟨rfl, h0, hC⟩ | ⟨i, c, X, t, _, rfl, hi, hX, hnc, hXt⟩
  · have : ts = [] := by
      cases ts with
      | nil => rfl
      | cons a r => simp [strs] at hC
    subst this
    exact ⟨none, 0, rfl, fun h => absurd rfl h⟩
  · refine ⟨some ⟨w.heap.size + i, 0, none⟩, c, by rw [List.length_map, ← hn], fun _ => ⟨w.heap.size + i, 0, X.toArray, t, (0, 0), rfl, fun L d hL => by rw [blk_at, hL i (List.getElem?_eq_some_iff.1 hi).1]; exact hi, fun k s hs => ?_⟩⟩
    have hk := (List.getElem?_eq_some_iff.1 hs).1
    rw [List.length_map] at hk
    have h2 : (strs ts)[k]? = some (.string s) := by
      unfold strs
      rw [List.getElem?_map] at hs ⊢
      cases hc : ts[k]? with
      | none => rw [hc] at hs; cases hs
      | some t => rw [hc] at hs; simp at hs; subst hs; rfl
    rw [← hXt, List.getElem?_take_of_lt (by omega)] at h2
    rw [Nat.zero_add, List.getElem?_toArray]; exact h2
/-- A journal stays, where only others' blocks change. -/
theorem St.other {w : World} {P : Nat → Prop} {l l' : List Obj} {i s q jo : Nat} {J : Jn} {M : Dk} (h : St w P l i s q jo J M) (hl : l.length ≤ l'.length) (hs : ∀ p, p < l.length → ¬ P p → l'[p]? = l[p]?) : St w P l' i s q jo J M := by
  obtain ⟨vw, O, A, vt, h1, h2, h3, h4, h5, h6⟩ := h
  have hj := (List.getElem?_eq_some_iff.1 h2.cells).1
  refine ⟨vw, O, A, vt, h1.keep fun p hp hlt => ⟨hp, hs p hlt fun h' => hp (h6 p h').1⟩, ⟨(hs jo hj fun h' => (h6 jo h').2.2 rfl).trans h2.cells, h2.row.mono fun p hp hlt => ⟨hp, hs p hlt fun h' => (h6 p h').2.1 hp⟩, h2.jA, h2.ok⟩, fun p hp => Nat.lt_of_lt_of_le (h3 p hp) hl, h4, h5, h6⟩
theorem write_sd {w : World} {P : Nat → Prop} {l : List Obj} {i s q : Nat} {M : Dk} (h : Sd w P l i s q M) (x : Int) (y : ByteArray) (hc : M.count < 1099511627776) (d : Nat) :
    Calls Tryd.prog 17 #[.pointer (some ⟨w.heap.size + i, 0, none⟩), .int .i64 x, .string y] (Wd w l d) fun e w' => ∃ l' d', e = .returned (.int .i64 (((M.write x (bys y)).2 : Nat) : Int)) ∧ w' = Wd w l' d' ∧ Sd w P l' i s q (M.write x (bys y)).1 ∧ Up l l' P := by
  obtain ⟨vw, O, h1, h2, h3⟩ := h
  refine (write_any w l d i s q vw O M x y h1 hc h2).mono ?_
  rintro e w' ⟨he, l', d', vw', rfl, hD, hK⟩
  exact ⟨l', d', he, rfl, ⟨vw', O, hD, fun p hp => Nat.lt_of_lt_of_le (h2 p hp) hK.1, h3⟩, hK.1, fun p hp => hK.2 p (h3 p hp) (h2 p (h3 p hp))⟩
theorem flush_sd {w : World} {P : Nat → Prop} {l : List Obj} {i s q : Nat} {M : Dk} (h : Sd w P l i s q M) (hc : M.count ≤ 1099511627776) (d : Nat) :
    Calls Tryd.prog 18 #[.pointer (some ⟨w.heap.size + i, 0, none⟩)] (Wd w l d) fun e w' => ∃ l' d', e = .returned (.int .i64 (((M.flush).2 : Nat) : Int)) ∧ w' = Wd w l' d' ∧ Sd w P l' i s q (M.flush).1 ∧ Up l l' P := by
  obtain ⟨vw, O, h1, h2, h3⟩ := h
  refine (flush_any w l d i s q vw O M h1 hc h2).mono ?_
  rintro e w' ⟨he, l', d', vw', rfl, hD, hK⟩
  exact ⟨l', d', he, rfl, ⟨vw', O, hD, fun p hp => Nat.lt_of_lt_of_le (h2 p hp) hK.1, h3⟩, hK.1, fun p hp => hK.2 p (h3 p hp) (h2 p (h3 p hp))⟩
attribute [-go_sem] Sm.execOp_bs run_string_add_if
attribute [local go_sem] agj9 isaj9 csj9 szj9 agj32 isaj32 csj32 szj32 ldX_mix1
set_option maxRecDepth 100000 in
theorem same_any (w : World) (l : List Obj) (d : Nat) (v1 v2 : Value) (bs : List ByteArray) (h1 : TxAt w l v1 bs) (h2 : TxAt w l v2 bs) (hn : bs.length ≤ 100000) :
    Calls Tryd.prog 13 #[v1, v2] (Wd w l d) fun e w' => e = .returned (.bool true) ∧ ∃ d', w' = Wd w l d' := by
  obtain ⟨q1, c1, rfl, h1⟩ := h1
  obtain ⟨q2, c2, rfl, h2⟩ := h2
  obtain ⟨n, hN⟩ : ∃ n, bs.length = n := ⟨_, rfl⟩
  rw [hN] at hn ⊢
  have H1 := Lib.hid h1
  have H2 := Lib.hid h2
  have HN := Lib.hid hN
  clear h1 h2 hN
  go_enter Tryd.func13, Tryd.ntmps13
  go_wp2_with fail
  go_loopw [5] (fun ix wr => ∃ (k d : Nat), k ≤ n ∧ ix = .int .i64 (k : Int) ∧ wr = Wd w l d) (fun ix _ => n - (intOf ix).toNat)
  case atStart => exact ⟨0, d, Nat.zero_le _, rfl, rfl⟩
  case round =>
    obtain ⟨k, d2, hk, rfl, rfl⟩ := hrel
    by_cases hlt : k < n
    · obtain ⟨s, hs⟩ : ∃ s, bs[k]? = some s := ⟨_, List.getElem?_eq_getElem (by rw [HN.out]; exact hlt)⟩
      have hne : bs ≠ [] := fun e => by rw [e] at hs; simp at hs
      obtain ⟨b1, o1, X1, T1, f1, rfl, k1, k2⟩ := H1.out hne
      obtain ⟨b2, o2, X2, T2, f2, rfl, k3, k4⟩ := H2.out hne
      have hx1 := k2 k s hs
      have hx2 := k4 k s hs
      have hb1 : ∀ d, blk (Wd w l d) b1 = some (.cells X1 T1 f1) := fun d => k1 l d fun _ _ => rfl
      have hb2 : ∀ d, blk (Wd w l d) b2 = some (.cells X2 T2 f2) := fun d => k3 l d fun _ _ => rfl
      have hki : (k : Int) < n := by omega
      clear k1 k2 k3 k4 hs hne H1 H2
      go_wp2_with fail
      go_region
      go_wp2
      go_roundw
      case rel => exact ⟨k + 1, _, by omega, by go_num, rfl⟩
      case measure => simp [intOf]; omega
    · obtain rfl : k = n := by omega
      go_wp2
      go_ret
      exact ⟨rfl, _, rfl⟩
end Go.Proofs.YtjgfljckmckhcaaDoor

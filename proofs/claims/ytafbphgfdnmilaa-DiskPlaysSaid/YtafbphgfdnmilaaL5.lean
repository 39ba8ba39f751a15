/- The walk of DiskPlays: the main way. No condition. -/
import Derived.Test.YtafbphgfdnmilaaL4
namespace Go.Proofs.Ytafbphgfdnmilaa
open Go.RowKit Go.Own
attribute [local go_sem] ldA ldA0 ldA1 ldA2 ldA3 ldA4 ldA5 stA z38 al38 ldR ldR0 ldR1 ldR2 ldR3 ldR4 ldR5 ldR6 stR stR6 z35 al35 set_same app_left set_left at_mid' set_mid'
set_option maxRecDepth 100000 in
set_option maxHeartbeats 4000000 in
theorem plays_any (A : List Ac) (va : Value) (n : Nat) (w : World) (hA : Acts w va A) (hfA : FewOk A) (hn1 : 1 ≤ n) (hn60 : n ≤ 60) :
    Calls Try.prog 3 #[.int .i64 (n : Int), va] w fun e w' => e = .returned (.bool true) ∧ Grows w w' := by
  have HA := Lib.hid hA
  obtain ⟨pa, capa, rfl, hPA⟩ := hA
  obtain ⟨na, hna⟩ : ∃ n, A.length = n := ⟨_, rfl⟩
  rw [hna]
  rw [hna] at HA
  have HFA := Lib.hid hfA
  have HPA := Lib.hid hPA
  have ha200 : na ≤ 200 := by rw [← hna]; exact hfA.1
  have HNA := Lib.hid hna
  have hn1i : ¬ (n : Int) < 1 := by omega
  have hn2i : ¬ 60 < (n : Int) := by omega
  have hn3i : ¬ 4096 < (n : Int) := by omega
  clear hfA hPA hna
  refine calls_wd ?_
  go_enter Try.func3, Try.ntmps3
  go_wp2_with fail
  refine (awake_any _).mono ?_
  rintro e w' ⟨rfl, g, d, rfl⟩
  rw [Wd_wd]
  go_wp2_with fail
  refine (few_yes A _ w _ _ HA.out HFA.out.1 HFA.out.2).mono ?_
  rintro e w' ⟨rfl, rfl⟩
  clear HA
  go_wp2_with fail
  refine (new_any w _ _ n hn1 (by omega) none0 (no0 _)).mono ?_
  rintro e w' ⟨i, s, q, l1, d1, v1, rfl, rfl, hA, -⟩
  have HA1 := Lib.hid hA
  clear hA
  go_wp2_with fail
  refine (newR_any w l1 _ n (by omega) (fun p => l1.length ≤ p) (fun _ h => h)).mono ?_
  rintro e w' ⟨vl1, vr1, l2, d2, rfl, rfl, hX, hR⟩
  have ho1 := RowV.one hR.lasts
  have ho2 := RowV.one hR.wait
  have HS : Hid (Play w (l2 ++ [Obj.cells (rc vl1 vr1 (newR n)) 35 (0, 0)]) i s q v1 (Omore none0 l1 (l2 ++ [Obj.cells (rc vl1 vr1 (newR n)) 35 (0, 0)])) (newK n) l2.length vl1 vr1 (newR n) n 0) := Lib.hid (by
    refine ⟨Omore_lt (no0 _) (by have := hX.1; simp; omega), HA1.out.keep fun p hp hlt => ⟨fun hO => hO.elim hp (fun h => by omega), ?_⟩, .inr ⟨hX.1, by simp⟩, at_mid' rfl, hR.mono fun p hp hlt => ⟨⟨.inr ⟨hp, by simp; omega⟩, by omega⟩, List.getElem?_append_left hlt⟩, Rel.new n, Bnd.new n, List.length_replicate ..⟩
    rw [List.getElem?_append_left (by have := hX.1; omega), hX.2 p hlt])
  generalize newR n = R1 at *
  obtain ⟨mb, hmb⟩ : ∃ m, l2.length = m := ⟨_, rfl⟩
  rw [hmb] at HS
  clear hX hR HA1
  go_wp2
  clear hmb
  generalize l2 ++ [Obj.cells (rc vl1 vr1 R1) 35 (0, 0)] = l3 at *
  generalize Omore none0 l1 l3 = O3 at *
  generalize newK n = M1 at *
  go_loopw [8] (fun x wr => ∃ (kk : Nat) (l : List Obj) (d : Nat) (vw : Value) (O : Nat → Prop) (M : Dk) (vl vr : Value) (R : Rk), kk ≤ na ∧ x = .int .i64 kk ∧ wr = Wd w l d ∧ Hid (Play w l i s q vw O M mb vl vr R n kk)) (fun x _ => na - (intOf x).toNat)
  case atStart => exact ⟨0, l3, _, v1, O3, M1, vl1, vr1, R1, by omega, rfl, rfl, HS⟩
  case round =>
    clear HS ho1 ho2
    obtain ⟨kk, l, d, vw, O, M, vl, vr, R, hkk, rfl, rfl, HP⟩ := hrel
    by_cases hlt : kk < na
    · obtain ⟨x, hx⟩ : ∃ x, A[kk]? = some x := ⟨A[kk]'(by rw [HNA.out]; exact hlt), List.getElem?_eq_getElem _⟩
      obtain ⟨hca, _, ga, oa, C, tt, f, rfl, hb, hs, hE⟩ := HPA.out kk x hx
      have hR := Reads.mk' hb hs hE
      have r1 := hR.blk
      have r2 := hR.all
      clear hx hb hs hE hR
      have HP1 := Lib.hid (HP.out.app [Obj.cells (ac x) 38 (0, 0)])
      have HX1 : Hid ((l ++ [Obj.cells (ac x) 38 (0, 0)])[l.length]? = some (.cells (ac x) 38 (0, 0))) := Lib.hid (at_mid' rfl)
      have HOX : Hid (Omore O l (l ++ [Obj.cells (ac x) 38 (0, 0)]) l.length) := Lib.hid (.inr ⟨Nat.le_refl _, by simp⟩)
      have HPO := Lib.hid HP.out.rel.1.off
      by_cases hk0 : x.kind = 0
      · have hk0' : (x.kind == 0) = true := by rw [beq_iff_eq]; exact hk0
        clear hk0
        go_wp2_with fail
        refine (write_any w _ _ i s q vw _ M x.at_ x.data HP1.out.dk (by have := HP1.out.rel.1.count; have := HP1.out.bnd.2; omega) HP1.out.lt).mono ?_
        rintro e w' ⟨rfl, l2, d2, v2, rfl, hA, hK⟩
        have HH := Lib.hid (HP1.out.half hA hK)
        have HX2 : Hid (l2[l.length]? = some (.cells (ac x) 38 (0, 0))) := Lib.hid (by rw [hK.2 _ HOX.out (List.getElem?_eq_some_iff.1 HX1.out).1]; exact HX1.out)
        have HREL := Lib.hid (HP1.out.rel.write HP1.out.ref.ok x.at_ (B8.bys x.data))
        have HBND := Lib.hid (HP1.out.bnd.put x.at_ (bys x.data))
        have HLEN := Lib.hid ((put_len R x.at_ (bys x.data)).trans HP1.out.len)
        have HR1 := Lib.hid HP1.out.bnd
        have HLN := Lib.hid HP1.out.len
        rw [HREL.out.2]
        generalize Omore O l (l ++ [Obj.cells (ac x) 38 (0, 0)]) = O1 at *
        clear hA hK HP1 HX1 HOX
        generalize (M.write x.at_ (bys x.data)).1 = M2 at *
        have hX2 := HX2.out
        have hb2 := HH.out.blk
        go_wp2_with fail
        refine (putB_any w l2 _ _ vl vr R HH.out.ref HH.out.new (by rw [HLN.out]; omega) (by have := HR1.out.2; omega) (by have := HR1.out.1; omega) x.at_ x.data).mono ?_
        rintro e w' ⟨vl3, vr3, l3, d3, rfl, rfl, hX, hR⟩
        have ho1 := RowV.one hR.lasts
        have ho2 := RowV.one hR.wait
        have hb3 := (hX.2 mb (HH.out.lt mb HH.out.own)).trans hb2
        have hX3 := (hX.2 l.length (List.getElem?_eq_some_iff.1 hX2).1).trans hX2
        have HP9 := Lib.hid (HH.out.close hX hR HREL.out.1 HBND.out HLEN.out)
        clear hX2 hb2 hX hR
        generalize R.put x.at_ (bys x.data) = R2 at *
        have hb9 := HP9.out.blk
        have HB1 := Lib.hid fun g e => HP9.out.down g e
        have HB2 := Lib.hid fun g e => HP9.out.size g e
        have HB3 := Lib.hid fun g e => HP9.out.image g e
        have HB4 := Lib.hid fun g e => HP9.out.imageR (by omega) g e
        go_wp2
        refine wp_region_big_all (by kernel_rfl) (by kernel_rfl) ?_
        repeat (go_big_quiet_step ((intro _; first | (with_reducible exact HB1.out _ _) | (with_reducible exact HB2.out _ _) | (with_reducible exact HB3.out _ _) | (with_reducible exact HB4.out _ _))))
        refine wpQuiet_nil ?_
        intro gR eR
        go_wp2
        go_roundw
        case rel => exact ⟨kk + 1, _, _, _, _, _, _, _, _, by omega, by go_num, rfl, Lib.hid (HP9.out.app gR)⟩
        case measure => simp [intOf]; omega
      · have hk0' : (x.kind == 0) = false := by rw [beq_eq_false_iff_ne]; exact hk0
        clear hk0
        by_cases hk1 : x.kind = 1
        · have hk1' : (x.kind == 1) = true := by rw [beq_iff_eq]; exact hk1
          clear hk1
          have hX2 := HX1.out
          have hb2 := HP1.out.blk
          have HR1 := Lib.hid HP1.out.bnd
          have HREAD := Lib.hid (HP1.out.rel.read HP1.out.ref.ok x.at_)
          have HH := Lib.hid (HP1.out.half HP1.out.dk (Kp.refl _ _))
          generalize Omore O l (l ++ [Obj.cells (ac x) 38 (0, 0)]) = O1 at *
          go_wp2_with fail
          refine (read_any w _ _ i s q vw _ M x.at_ HP1.out.dk).mono ?_
          rintro e w' ⟨rfl, rfl⟩
          rw [HREAD.out]
          go_wp2_with fail
          refine (readR_any w _ _ _ vl vr R HP1.out.ref (by have := HR1.out.2; omega) x.at_).mono ?_
          rintro e w' ⟨rfl, l3, d3, rfl, hX⟩
          have HP9 := Lib.hid (HH.out.same hX HP1.out.rel HP1.out.bnd.next HP1.out.len)
          clear hX2 hb2 hX HREAD
          generalize R.read x.at_ = rr at *
          have hb9 := HP9.out.blk
          have HB1 := Lib.hid fun g e => HP9.out.down g e
          have HB2 := Lib.hid fun g e => HP9.out.size g e
          have HB3 := Lib.hid fun g e => HP9.out.image g e
          have HB4 := Lib.hid fun g e => HP9.out.imageR (by omega) g e
          go_wp2
          refine wp_region_big_all (by kernel_rfl) (by kernel_rfl) ?_
          repeat (go_big_quiet_step ((intro _; first | (with_reducible exact HB1.out _ _) | (with_reducible exact HB2.out _ _) | (with_reducible exact HB3.out _ _) | (with_reducible exact HB4.out _ _))))
          refine wpQuiet_nil ?_
          intro gR eR
          go_wp2
          go_roundw
          case rel => exact ⟨kk + 1, _, _, _, _, _, _, _, _, by omega, by go_num, rfl, Lib.hid (HP9.out.app gR)⟩
          case measure => simp [intOf]; omega
        · have hk1' : (x.kind == 1) = false := by rw [beq_eq_false_iff_ne]; exact hk1
          clear hk1
          by_cases hk2 : x.kind = 2
          · have hk2' : (x.kind == 2) = true := by rw [beq_iff_eq]; exact hk2
            clear hk2
            go_wp2_with fail
            refine (flush_any w _ _ i s q vw _ M HP1.out.dk (by have := HP1.out.rel.1.count; have := HP1.out.bnd.2; omega) HP1.out.lt).mono ?_
            rintro e w' ⟨rfl, l2, d2, v2, rfl, hA, hK⟩
            have HH := Lib.hid (HP1.out.half hA hK)
            have HX2 : Hid (l2[l.length]? = some (.cells (ac x) 38 (0, 0))) := Lib.hid (by rw [hK.2 _ HOX.out (List.getElem?_eq_some_iff.1 HX1.out).1]; exact HX1.out)
            have HREL := Lib.hid (HP1.out.rel.flush HP1.out.ref.ok)
            have HBND := Lib.hid (HP1.out.bnd.flush)
            have HLEN := Lib.hid ((flush_len R).trans HP1.out.len)
            have HR1 := Lib.hid HP1.out.bnd
            have HLN := Lib.hid HP1.out.len
            rw [HREL.out.2]
            generalize Omore O l (l ++ [Obj.cells (ac x) 38 (0, 0)]) = O1 at *
            clear hA hK HP1 HX1 HOX
            generalize M.flush.1 = M2 at *
            have hX2 := HX2.out
            have hb2 := HH.out.blk
            go_wp2_with fail
            refine (flushR_any w l2 _ _ vl vr R HH.out.ref HH.out.new (by rw [HLN.out]; omega) (by have := HR1.out.2; omega) (by have := HR1.out.1; omega)).mono ?_
            rintro e w' ⟨vl3, vr3, l3, d3, rfl, rfl, hX, hR⟩
            have ho1 := RowV.one hR.lasts
            have ho2 := RowV.one hR.wait
            have hb3 := (hX.2 mb (HH.out.lt mb HH.out.own)).trans hb2
            have hX3 := (hX.2 l.length (List.getElem?_eq_some_iff.1 hX2).1).trans hX2
            have HP9 := Lib.hid (HH.out.close hX hR HREL.out.1 HBND.out HLEN.out)
            clear hX2 hb2 hX hR
            generalize R.flush = R2 at *
            have hb9 := HP9.out.blk
            have HB1 := Lib.hid fun g e => HP9.out.down g e
            have HB2 := Lib.hid fun g e => HP9.out.size g e
            have HB3 := Lib.hid fun g e => HP9.out.image g e
            have HB4 := Lib.hid fun g e => HP9.out.imageR (by omega) g e
            go_wp2
            refine wp_region_big_all (by kernel_rfl) (by kernel_rfl) ?_
            repeat (go_big_quiet_step ((intro _; first | (with_reducible exact HB1.out _ _) | (with_reducible exact HB2.out _ _) | (with_reducible exact HB3.out _ _) | (with_reducible exact HB4.out _ _))))
            refine wpQuiet_nil ?_
            intro gR eR
            go_wp2
            go_roundw
            case rel => exact ⟨kk + 1, _, _, _, _, _, _, _, _, by omega, by go_num, rfl, Lib.hid (HP9.out.app gR)⟩
            case measure => simp [intOf]; omega
          · have hk2' : (x.kind == 2) = false := by rw [beq_eq_false_iff_ne]; exact hk2
            clear hk2
            by_cases hk3 : x.kind = 3
            · have hk3' : (x.kind == 3) = true := by rw [beq_iff_eq]; exact hk3
              clear hk3
              go_wp2_with fail
              refine (armS_any w _ _ i s q vw _ M x.ca x.ck x.ct HP1.out.dk hca).mono ?_
              rintro e w' ⟨rfl, l2, d2, v2, rfl, hA, hK⟩
              have HH := Lib.hid (HP1.out.half hA hK)
              have HX2 : Hid (l2[l.length]? = some (.cells (ac x) 38 (0, 0))) := Lib.hid (by rw [hK.2 _ HOX.out (List.getElem?_eq_some_iff.1 HX1.out).1]; exact HX1.out)
              have HREL := Lib.hid (HP1.out.rel.arm x.ca x.ck x.ct)
              have HBND := Lib.hid (HP1.out.bnd.arm x.ca x.ck x.ct)
              have HLEN : Hid ((R.arm x.ca x.ck x.ct).lasts.length = n) := Lib.hid HP1.out.len
              have HR1 := Lib.hid HP1.out.bnd
              have HLN := Lib.hid HP1.out.len
              generalize Omore O l (l ++ [Obj.cells (ac x) 38 (0, 0)]) = O1 at *
              clear hA hK HP1 HX1 HOX
              generalize M.arm x.ca x.ck x.ct = M2 at *
              have hX2 := HX2.out
              have hb2 := HH.out.blk
              go_wp2_with fail
              refine (armR_any w l2 _ _ vl vr R HH.out.ref x.ca x.ck x.ct).mono ?_
              rintro e w' ⟨vl3, vr3, l3, d3, rfl, rfl, hX, hR⟩
              have ho1 := RowV.one hR.lasts
              have ho2 := RowV.one hR.wait
              have hb3 := (hX.2 mb (HH.out.lt mb HH.out.own)).trans hb2
              have hX3 := (hX.2 l.length (List.getElem?_eq_some_iff.1 hX2).1).trans hX2
              have HP9 := Lib.hid (HH.out.close hX hR HREL.out HBND.out HLEN.out)
              clear hX2 hb2 hX hR
              generalize R.arm x.ca x.ck x.ct = R2 at *
              have hb9 := HP9.out.blk
              have HB1 := Lib.hid fun g e => HP9.out.down g e
              have HB2 := Lib.hid fun g e => HP9.out.size g e
              have HB3 := Lib.hid fun g e => HP9.out.image g e
              have HB4 := Lib.hid fun g e => HP9.out.imageR (by omega) g e
              go_wp2
              refine wp_region_big_all (by kernel_rfl) (by kernel_rfl) ?_
              repeat (go_big_quiet_step ((intro _; first | (with_reducible exact HB1.out _ _) | (with_reducible exact HB2.out _ _) | (with_reducible exact HB3.out _ _) | (with_reducible exact HB4.out _ _))))
              refine wpQuiet_nil ?_
              intro gR eR
              go_wp2
              go_roundw
              case rel => exact ⟨kk + 1, _, _, _, _, _, _, _, _, by omega, by go_num, rfl, Lib.hid (HP9.out.app gR)⟩
              case measure => simp [intOf]; omega
            · have hk3' : (x.kind == 3) = false := by rw [beq_eq_false_iff_ne]; exact hk3
              clear hk3
              by_cases hk4 : x.kind = 4
              · have hk4' : (x.kind == 4) = true := by rw [beq_iff_eq]; exact hk4
                clear hk4
                go_wp2_with fail
                refine (crash_any w _ _ i s q vw _ M x.ck x.ct HP1.out.dk (by have := HP1.out.rel.1.count; have := HP1.out.bnd.2; omega) HP1.out.lt).mono ?_
                rintro e w' ⟨rfl, l2, d2, v2, rfl, hA, hK⟩
                have HH := Lib.hid (HP1.out.half hA hK)
                have HX2 : Hid (l2[l.length]? = some (.cells (ac x) 38 (0, 0))) := Lib.hid (by rw [hK.2 _ HOX.out (List.getElem?_eq_some_iff.1 HX1.out).1]; exact HX1.out)
                have HREL := Lib.hid (HP1.out.rel.crash HP1.out.ref.ok x.ck x.ct)
                have HBND := Lib.hid (HP1.out.bnd.crash x.ck x.ct)
                have HLEN := Lib.hid ((crash_len R x.ck x.ct).trans HP1.out.len)
                have HR1 := Lib.hid HP1.out.bnd
                have HLN := Lib.hid HP1.out.len
                generalize Omore O l (l ++ [Obj.cells (ac x) 38 (0, 0)]) = O1 at *
                clear hA hK HP1 HX1 HOX
                generalize M.crash x.ck x.ct = M2 at *
                have hX2 := HX2.out
                have hb2 := HH.out.blk
                go_wp2_with fail
                refine (crashR_any w l2 _ _ vl vr R HH.out.ref HH.out.new (by rw [HLN.out]; omega) (by have := HR1.out.2; omega) x.ck x.ct).mono ?_
                rintro e w' ⟨vl3, vr3, l3, d3, rfl, rfl, hX, hR⟩
                have ho1 := RowV.one hR.lasts
                have ho2 := RowV.one hR.wait
                have hb3 := (hX.2 mb (HH.out.lt mb HH.out.own)).trans hb2
                have hX3 := (hX.2 l.length (List.getElem?_eq_some_iff.1 hX2).1).trans hX2
                have HP9 := Lib.hid (HH.out.close hX hR HREL.out HBND.out HLEN.out)
                clear hX2 hb2 hX hR
                generalize R.crash x.ck x.ct = R2 at *
                have hb9 := HP9.out.blk
                have HB1 := Lib.hid fun g e => HP9.out.down g e
                have HB2 := Lib.hid fun g e => HP9.out.size g e
                have HB3 := Lib.hid fun g e => HP9.out.image g e
                have HB4 := Lib.hid fun g e => HP9.out.imageR (by omega) g e
                go_wp2
                refine wp_region_big_all (by kernel_rfl) (by kernel_rfl) ?_
                repeat (go_big_quiet_step ((intro _; first | (with_reducible exact HB1.out _ _) | (with_reducible exact HB2.out _ _) | (with_reducible exact HB3.out _ _) | (with_reducible exact HB4.out _ _))))
                refine wpQuiet_nil ?_
                intro gR eR
                go_wp2
                go_roundw
                case rel => exact ⟨kk + 1, _, _, _, _, _, _, _, _, by omega, by go_num, rfl, Lib.hid (HP9.out.app gR)⟩
                case measure => simp [intOf]; omega
              · have hk4' : (x.kind == 4) = false := by rw [beq_eq_false_iff_ne]; exact hk4
                clear hk4
                by_cases hk5 : x.kind = 5
                · have hk5' : (x.kind == 5) = true := by rw [beq_iff_eq]; exact hk5
                  clear hk5
                  go_wp2_with fail
                  refine (startS_any w _ _ i s q vw _ M HP1.out.dk).mono ?_
                  rintro e w' ⟨rfl, l2, d2, v2, rfl, hA, hK⟩
                  have HH := Lib.hid (HP1.out.half hA hK)
                  have HP9 := Lib.hid (show Play w (l2.set mb (.cells (rc vl vr { R with off := false }) 35 (0, 0))) i s q v2 (Omore (Omore O l (l ++ [Obj.cells (ac x) 38 (0, 0)])) l2 l2) M.start mb vl vr { R with off := false } n (kk + 1) from HH.out.close (Ext.refl _) (HH.out.ref.with _ rfl rfl) HP1.out.rel.start HP1.out.bnd.start HP1.out.len)
                  have hb2 := HH.out.blk
                  generalize Omore O l (l ++ [Obj.cells (ac x) 38 (0, 0)]) = O1 at *
                  clear hA hK HP1 HX1 HOX
                  go_wp2
                  generalize ({ R with off := false } : Rk) = R2 at *
                  clear hb2 HH
                  have hb9 := HP9.out.blk
                  have HB1 := Lib.hid fun g e => HP9.out.down g e
                  have HB2 := Lib.hid fun g e => HP9.out.size g e
                  have HB3 := Lib.hid fun g e => HP9.out.image g e
                  have HB4 := Lib.hid fun g e => HP9.out.imageR (by omega) g e
                  refine wp_region_big_all (by kernel_rfl) (by kernel_rfl) ?_
                  repeat (go_big_quiet_step ((intro _; first | (with_reducible exact HB1.out _ _) | (with_reducible exact HB2.out _ _) | (with_reducible exact HB3.out _ _) | (with_reducible exact HB4.out _ _))))
                  refine wpQuiet_nil ?_
                  intro gR eR
                  go_wp2
                  go_roundw
                  case rel => exact ⟨kk + 1, _, _, _, _, _, _, _, _, by omega, by go_num, rfl, Lib.hid (HP9.out.app gR)⟩
                  case measure => simp [intOf]; omega
                · have hk5' : (x.kind == 5) = false := by rw [beq_eq_false_iff_ne]; exact hk5
                  clear hk5
                  have HP9 := Lib.hid HP1.out.next
                  have hb9 := HP9.out.blk
                  clear HP1 HX1 HOX
                  go_wp2
                  generalize Omore O l (l ++ [Obj.cells (ac x) 38 (0, 0)]) = O1 at *
                  generalize l ++ [Obj.cells (ac x) 38 (0, 0)] = l2 at *
                  have HB1 := Lib.hid fun g e => HP9.out.down g e
                  have HB2 := Lib.hid fun g e => HP9.out.size g e
                  have HB3 := Lib.hid fun g e => HP9.out.image g e
                  have HB4 := Lib.hid fun g e => HP9.out.imageR (by omega) g e
                  refine wp_region_big_all (by kernel_rfl) (by kernel_rfl) ?_
                  repeat (go_big_quiet_step ((intro _; first | (with_reducible exact HB1.out _ _) | (with_reducible exact HB2.out _ _) | (with_reducible exact HB3.out _ _) | (with_reducible exact HB4.out _ _))))
                  refine wpQuiet_nil ?_
                  intro gR eR
                  go_wp2
                  go_roundw
                  case rel => exact ⟨kk + 1, _, _, _, _, _, _, _, _, by omega, by go_num, rfl, Lib.hid (HP9.out.app gR)⟩
                  case measure => simp [intOf]; omega
    · obtain rfl : kk = na := by omega
      go_wp2
      go_ret
      exact ⟨rfl, Grows.of _ _ _⟩
end Go.Proofs.Ytafbphgfdnmilaa

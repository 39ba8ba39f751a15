/- The document's product of two blocks: by contract. -/
import Derived.Test.YtmhhekiliojifaaT1
namespace Go.Own
open Go.RowKit
/-- A string as bytes of the call's own, the last block. -/
theorem bytes_at {P : Program} {S T E : TypeId} (hS : P.underlying S = some .string) (hT : P.underlying T = some (.slice E)) (hE : P.underlying E = some (.int .u8)) {w : World} {l : List Obj} {d : Nat} (s : ByteArray) :
    ∃ C e, s.size ≤ C ∧ (convert S T (.string s)).run P (Wd w l d) = .ok (.slice (some ⟨w.heap.size + l.length, 0, none⟩) s.size C) (Wd w (l ++ [.cells (cv .u8 (bys s ++ rep (C - s.size))) E (C, C + 1)]) e) := by
  have hr := run_bytes_of_string (P := P) (Wd w l d) S T E s hS hT hE
  have hge := grownCap_ge (Wd w l d) s.size 0 E
  generalize grownCap (Wd w l d) s.size 0 E = C at *
  have hrow : bytesRow s C = cv .u8 (bys s ++ rep (C - s.size)) := by
    unfold bytesRow
    rw [cells_bys]
    apply Array.ext'
    simp [cv, rep]
  have hlen : (bys s ++ rep (C - s.size)).length = C := by simp [bys_length]; omega
  rw [hrow, cv_size, hlen, Wd_drew, Wd_alloc, Wd_size] at hr
  exact ⟨C, _, hge, hr⟩
theorem wpList_bytes_at {P : Program} {ops : Array Oper} {rest : List Oper} {o : Oper} {a : Act} {Q : Exit → Act → World → Prop} {w : World} {l : List Obj} {d : Nat} (hgd : o.guard = none) (x : Operand) (S T E : TypeId)
    (ho : o.op = .convert S T x) (hS : P.underlying S = some .string) (hT : P.underlying T = some (.slice E)) (hE : P.underlying E = some (.int .u8)) (s : ByteArray) (hx : a.eval x = .string s)
    (hK : ∀ C e, s.size ≤ C → wpList P ops Q rest (a.put o.dst (.slice (some ⟨w.heap.size + l.length, 0, none⟩) s.size C)) (Wd w (l ++ [.cells (cv .u8 (bys s ++ rep (C - s.size))) E (C, C + 1)]) e)) : wpList P ops Q (o :: rest) a (Wd w l d) := by
  refine wpList_plain hgd fun K hk => ?_
  obtain ⟨C, e, h1, hr⟩ := bytes_at (P := P) hS hT hE (w := w) (l := l) (d := d) s
  unfold Oper.wp
  simp [execOp, ho, hx, hr, Result.andThen]
  exact hk _ _ (hK C e h1)
end Go.Own
namespace Go.Proofs.Ytmhhekiliojifaa
open Go.RowKit Go.Own
theorem ag92t : aggSize Try.prog 92 = some 255 := by kernel_rfl
theorem cs92t : Try.prog.cellsOf 92 = 255 := by kernel_rfl
theorem sz92t (w : World) : (sizeOf 92).run Try.prog w = .ok 255 w := by kernel_rfl
theorem z92t : zeroOf Try.prog 92 = .agg (cv .u8 (rep 255)) := by kernel_rfl
theorem ag39 : aggSize Try.prog 39 = some 16 := by kernel_rfl
theorem cs39 : Try.prog.cellsOf 39 = 16 := by kernel_rfl
theorem sz39 (w : World) : (sizeOf 39).run Try.prog w = .ok 16 w := by kernel_rfl
theorem z39 : zeroOf Try.prog 39 = .agg (cv .u8 (rep 16)) := by kernel_rfl
attribute [local go_sem] ag5t cs5t sz5t isa5t ag92t cs92t sz92t z92t ag39 cs39 sz39 z39
theorem xb_app (x r : List Nat) (i : Nat) (h : i / 8 < x.length) : xb (x ++ r) i = xb x i := by
  unfold xb gi
  rw [List.getD_eq_getElem?_getD, List.getElem?_append_left h, ← List.getD_eq_getElem?_getD]
set_option maxRecDepth 100000 in
set_option maxHeartbeats 1000000 in
theorem product_bad (a b : ByteArray) (h : a.size ≠ 16 ∨ b.size ≠ 16) (w : World) :
    Calls Try.prog 40 #[.string a, .string b] w fun e w' => e = .returned (.tuple #[.string (mkS []), .int .i64 2]) ∧ Grows w w' := by
  have h' : ¬ (a.size : Int) = 16 ∨ ((a.size : Int) = 16 ∧ ¬ (b.size : Int) = 16) := by omega
  clear h
  refine calls_wd ?_
  rcases h' with z | ⟨z1, z2⟩
  all_goals
    go_enter Try.func40, Try.ntmps40
    go_wp2
    go_ret2
    exact ⟨rfl, Grows.of _ _ _⟩
set_option maxRecDepth 100000 in
set_option maxHeartbeats 4000000 in
theorem product_any (a b : ByteArray) (ha : a.size = 16) (hb : b.size = 16) (w : World) :
    Calls Try.prog 40 #[.string a, .string b] w fun e w' => e = .returned (.tuple #[.string (mkS (prodL (bys a) (bys b))), .int .i64 0]) ∧ Grows w w' := by
  have hai : (a.size : Int) = 16 := by omega
  have hbi : (b.size : Int) = 16 := by omega
  refine calls_wd ?_
  go_enter Try.func40, Try.ntmps40
  go_wp2_with (with_reducible refine stop_conv ?_)
  unfold Stop
  refine wpList_bytes_at rfl (.tmp 22) 9 30 5 rfl Try.underlying9 Try.underlying30 Try.underlying5 a rfl ?_
  intro C d1 hC
  go_wp2_with (with_reducible refine stop_conv ?_)
  unfold Stop
  refine wpList_bytes_at rfl (.tmp 24) 9 30 5 rfl Try.underlying9 Try.underlying30 Try.underlying5 b rfl ?_
  intro D d2 hD
  obtain ⟨x, hx⟩ : ∃ x, bys a = x := ⟨_, rfl⟩
  obtain ⟨y, hy⟩ : ∃ y, bys b = y := ⟨_, rfl⟩
  go_wp2
  have HX := Lib.hid hx
  have HY := Lib.hid hy
  have hxl : x.length = 16 := by rw [← hx, bys_length, ha]
  have hyl : y.length = 16 := by rw [← hy, bys_length, hb]
  clear hx hy
  obtain ⟨X, hX⟩ : ∃ X, x ++ rep (C - 16) = X := ⟨_, rfl⟩
  obtain ⟨Y, hY⟩ : ∃ Y, y ++ rep (D - 16) = Y := ⟨_, rfl⟩
  have hXl : Hid (16 ≤ X.length) := Lib.hid (by rw [← hX, List.length_append]; omega)
  have hYl : Hid (16 ≤ Y.length) := Lib.hid (by rw [← hY, List.length_append]; omega)
  have hXx : Hid (∀ i, i < 128 → xb X i = xb x i) := Lib.hid fun i hi => by rw [← hX]; exact xb_app _ _ _ (by omega)
  have hYy : Hid (∀ i, i < 128 → xb Y i = xb y i) := Lib.hid fun i hi => by rw [← hY]; exact xb_app _ _ _ (by omega)
  rw [hX, hY]
  clear hX hY hxl hyl hC hD
  have HBX : Hid (∀ (i : Nat) (p : List Nat) (g : List Obj) (d : Nat), i < 128 → Calls Try.prog 54 #[.slice (some ⟨w.heap.size + 1, 0, none⟩) 16 C, .int .i64 (i : Int)] (Wd w (.cells (cv .u8 p) 92 (0, 0) :: .cells (cv .u8 X) 5 (C, C + 1) :: g) d) fun e w' => e = .returned (.int .u8 (xb x i : Nat)) ∧ w' = Wd w (.cells (cv .u8 p) 92 (0, 0) :: .cells (cv .u8 X) 5 (C, C + 1) :: g) d) := Lib.hid fun i p g d hi => by
    have := bit_any X (w.heap.size + 1) 16 C i hXl.out (by omega) (by omega) (Wd w (.cells (cv .u8 p) 92 (0, 0) :: .cells (cv .u8 X) 5 (C, C + 1) :: g) d) 5 (C, C + 1) (by rw [blk_at]; rfl)
    rwa [hXx.out i hi] at this
  have HBY : Hid (∀ (i : Nat) (p : List Nat) (d : Nat), i < 128 → Calls Try.prog 54 #[.slice (some ⟨w.heap.size + 2, 0, none⟩) 16 D, .int .i64 (i : Int)] (Wd w [.cells (cv .u8 p) 92 (0, 0), .cells (cv .u8 X) 5 (C, C + 1), .cells (cv .u8 Y) 5 (D, D + 1)] d) fun e w' => e = .returned (.int .u8 (xb y i : Nat)) ∧ w' = Wd w [.cells (cv .u8 p) 92 (0, 0), .cells (cv .u8 X) 5 (C, C + 1), .cells (cv .u8 Y) 5 (D, D + 1)] d) := Lib.hid fun i p d hi => by
    have := bit_any Y (w.heap.size + 2) 16 D i hYl.out (by omega) (by omega) (Wd w [.cells (cv .u8 p) 92 (0, 0), .cells (cv .u8 X) 5 (C, C + 1), .cells (cv .u8 Y) 5 (D, D + 1)] d) 5 (D, D + 1) (by rw [blk_at]; rfl)
    rwa [hYy.out i hi] at this
  go_loopw [9] (fun i wr => ∃ j d : Nat, j ≤ 128 ∧ i = .int .i64 j ∧ wr = Wd w [.cells (cv .u8 (outp x y j)) 92 (0, 0), .cells (cv .u8 X) 5 (C, C + 1), .cells (cv .u8 Y) 5 (D, D + 1)] d) (fun i _ => 128 - (intOf i).toNat)
  case atStart => exact ⟨0, _, by omega, rfl, rfl⟩
  case round =>
    obtain ⟨j, d, hj, rfl, rfl⟩ := hrel
    obtain ⟨hp1, hp2, _⟩ := outp_good x y j hj
    have HP1 := Lib.hid hp1
    clear hp1
    by_cases hlt : j < 128
    · have hji : (j : Int) < 128 := by omega
      have hst : Hid (outp x y (j + 1) = if xb x j = 0 then outp x y j else inn y j 128 (outp x y j)) := Lib.hid rfl
      obtain ⟨p, hp⟩ : ∃ p, outp x y j = p := ⟨_, rfl⟩
      rw [hp] at hp2 HP1 hst ⊢
      clear hp
      obtain ⟨v, hv⟩ : ∃ v, xb x j = v := ⟨_, rfl⟩
      have hv2 : v < 2 := by rw [← hv]; exact xb_lt _ _
      have hbx := HBX.out j p [.cells (cv .u8 Y) 5 (D, D + 1)] d hlt
      rw [hv] at hbx hst
      clear hv
      have hv01 : v = 0 ∨ v = 1 := by omega
      clear hv2
      rcases hv01 with rfl | rfl
      · go_wp2_with fail
        refine hbx.mono ?_
        rintro e w' ⟨rfl, rfl⟩
        clear hbx
        go_wp2
        go_roundw
        case rel => exact ⟨j + 1, _, by omega, by go_num, by rw [hst.out]; rfl⟩
        case measure => simp [intOf]; omega
      · go_wp2_with fail
        refine hbx.mono ?_
        rintro e w' ⟨rfl, rfl⟩
        clear hbx
        go_wp2
        go_loopw [10] (fun i wr => ∃ k d : Nat, k ≤ 128 ∧ i = .int .i64 k ∧ wr = Wd w [.cells (cv .u8 (inn y j k p)) 92 (0, 0), .cells (cv .u8 X) 5 (C, C + 1), .cells (cv .u8 Y) 5 (D, D + 1)] d) (fun i _ => 128 - (intOf i).toNat)
        case atStart => exact ⟨0, _, by omega, rfl, rfl⟩
        case round =>
          obtain ⟨k, d, hk, rfl, rfl⟩ := hrel
          obtain ⟨_, hq2, _⟩ := inn_good y j p HP1.out hp2 hlt k hk
          by_cases hlt2 : k < 128
          · have hki : (k : Int) < 128 := by omega
            obtain ⟨jk, hjk⟩ : ∃ jk, j + k = jk := ⟨_, rfl⟩
            have hjki : (j : Int) + (k : Int) = (jk : Int) := by omega
            have hjkb : jk < 255 := by omega
            have hjkb2 : (jk : Int) < 255 := by omega
            have hst2 : Hid (inn y j (k + 1) p = spl (inn y j k p) jk [xor8 (gi (inn y j k p) jk) (xb y k)]) := Lib.hid (by rw [inn, tog, hjk])
            obtain ⟨q, hq⟩ : ∃ q, inn y j k p = q := ⟨_, rfl⟩
            rw [hq] at hq2 hst2 ⊢
            have hby := Lib.hid fun d => HBY.out k q d hlt2
            obtain ⟨u, hu⟩ : ∃ u, xb y k = u := ⟨_, rfl⟩
            rw [hu] at hby hst2
            clear hq hu hjk
            go_wp2
            refine wp_region_drew 13 (by kernel_rfl) (by kernel_rfl) ?_
            simp only [List.take_succ_cons, List.take_zero, List.drop_succ_cons, List.drop_zero]
            repeat (go_big_quiet_step (with_reducible exact drew_same (hby.out _)))
            refine wpQuiet_nil ?_
            intro eR
            go_wp2
            go_roundw
            case rel => exact ⟨k + 1, _, by omega, by go_num, by rw [hst2.out]⟩
            case measure => simp [intOf]; omega
          · obtain rfl : k = 128 := by omega
            go_wp2
            go_roundw
            case rel => exact ⟨j + 1, _, by omega, by go_num, by rw [hst.out]; rfl⟩
            case measure => simp [intOf]; omega
    · obtain rfl : j = 128 := by omega
      obtain ⟨p, hp⟩ : ∃ p, outp x y 128 = p := ⟨_, rfl⟩
      have HPP : Hid (prodL x y = pack (down p 127) 128) := Lib.hid (by rw [prodL, hp])
      rw [hp] at hp2 HP1 ⊢
      clear hp
      go_wp2
      go_loopw [11] (fun i wr => ∃ j n d : Nat, j ≤ 127 ∧ j + n = 254 ∧ i = .int .i64 (n : Nat) ∧ wr = Wd w [.cells (cv .u8 (down p j)) 92 (0, 0), .cells (cv .u8 X) 5 (C, C + 1), .cells (cv .u8 Y) 5 (D, D + 1)] d) (fun i _ => (intOf i).toNat)
      case atStart => exact ⟨0, 254, _, by omega, rfl, rfl, rfl⟩
      case round =>
        obtain ⟨j, n, d, hj, hn, rfl, rfl⟩ := hrel
        obtain ⟨hq1, hq2, _⟩ := down_good HP1.out hp2 j hj
        have HQ1 := Lib.hid hq1
        clear hq1
        by_cases hlt : j < 127
        · have hni : 128 ≤ (n : Int) := by omega
          have hnb : n < 255 := by omega
          have hnbi : (n : Int) < 255 := by omega
          have hst : Hid (down p (j + 1) = downS (down p j) n) := Lib.hid (by rw [down, show 254 - j = n by omega])
          obtain ⟨q, hq⟩ : ∃ q, down p j = q := ⟨_, rfl⟩
          rw [hq] at hq2 HQ1 hst ⊢
          clear hq
          obtain ⟨n1, hn1⟩ : ∃ n1, n - 1 = n1 := ⟨_, rfl⟩
          have hn1i : (n : Int) - 1 = (n1 : Int) := by omega
          have hjn : j + 1 + n1 = 254 := by omega
          obtain ⟨a0, ha0⟩ : ∃ a, n - 128 = a := ⟨_, rfl⟩
          obtain ⟨a1, ha1⟩ : ∃ a, n - 127 = a := ⟨_, rfl⟩
          obtain ⟨a2, ha2⟩ : ∃ a, n - 126 = a := ⟨_, rfl⟩
          obtain ⟨a7, ha7⟩ : ∃ a, n - 121 = a := ⟨_, rfl⟩
          have e0 : (n : Int) - 128 = (a0 : Int) := by omega
          have e1 : (n : Int) - 127 = (a1 : Int) := by omega
          have e2 : (n : Int) - 126 = (a2 : Int) := by omega
          have e7 : (n : Int) - 121 = (a7 : Int) := by omega
          have b0 : a0 < 255 := by omega
          have b1 : a1 < 255 := by omega
          have b2 : a2 < 255 := by omega
          have b7 : a7 < 255 := by omega
          have b0i : (a0 : Int) < 255 := by omega
          have b1i : (a1 : Int) < 255 := by omega
          have b2i : (a2 : Int) < 255 := by omega
          have b7i : (a7 : Int) < 255 := by omega
          have hjb : n1 < n := by omega
          by_cases h1 : gi q n = 1
          · have hst2 : Hid (down p (j + 1) = tog (tog (tog (tog q a0 1) a1 1) a2 1) a7 1) := Lib.hid (by rw [hst.out, downS, if_pos h1, ha0, ha1, ha2, ha7])
            have l1 : (tog q a0 1).length = 255 := by rw [tog_length (by omega), hq2]
            have l2 : (tog (tog q a0 1) a1 1).length = 255 := by rw [tog_length (by omega), l1]
            have l3 : (tog (tog (tog q a0 1) a1 1) a2 1).length = 255 := by rw [tog_length (by omega), l2]
            have t0 : spl q a0 [xor8 (gi q a0) 1] = tog q a0 1 := rfl
            have t1 : spl (tog q a0 1) a1 [xor8 (gi (tog q a0 1) a1) 1] = tog (tog q a0 1) a1 1 := rfl
            have t2 : spl (tog (tog q a0 1) a1 1) a2 [xor8 (gi (tog (tog q a0 1) a1 1) a2) 1] = tog (tog (tog q a0 1) a1 1) a2 1 := rfl
            have h1i : ((gi q n : Nat) : Int) = 1 := by omega
            clear hst hn hn1 ha0 ha1 ha2 ha7
            go_wp2
            go_roundw
            case rel => exact ⟨j + 1, n1, _, by omega, hjn, by go_num, by rw [hst2.out]; rfl⟩
            case measure => simp [intOf]; omega
          · have hst2 : Hid (down p (j + 1) = q) := Lib.hid (by rw [hst.out, downS, if_neg h1])
            have h0 : gi q n = 0 := by have := HQ1.out n; omega
            clear h1 hst hn hn1 ha0 ha1 ha2 ha7
            go_wp2
            go_roundw
            case rel => exact ⟨j + 1, n1, _, by omega, hjn, by go_num, by rw [hst2.out]⟩
            case measure => simp [intOf]; omega
        · obtain rfl : j = 127 := by omega
          have hni : ¬ 128 ≤ (n : Int) := by omega
          obtain ⟨q, hq⟩ : ∃ q, down p 127 = q := ⟨_, rfl⟩
          rw [hq] at hq2 HQ1 HPP ⊢
          clear hq hn
          go_wp2
          go_loopw [13] (fun i wr => ∃ j d : Nat, j ≤ 128 ∧ i = .int .i64 j ∧ wr = Wd w [.cells (cv .u8 q) 92 (0, 0), .cells (cv .u8 X) 5 (C, C + 1), .cells (cv .u8 Y) 5 (D, D + 1), .cells (cv .u8 (pack q j)) 39 (0, 0)] d) (fun i _ => 128 - (intOf i).toNat)
          case atStart => exact ⟨0, _, by omega, rfl, rfl⟩
          case round =>
            obtain ⟨j, d, hj, rfl, rfl⟩ := hrel
            obtain ⟨ho, _, _⟩ := pack_good HQ1.out j hj
            by_cases hlt : j < 128
            · have hji : (j : Int) < 128 := by omega
              have hj255 : j < 255 := by omega
              have hj255i : (j : Int) < 255 := by omega
              obtain ⟨m, hm⟩ : ∃ m, j / 8 = m := ⟨_, rfl⟩
              obtain ⟨r, hr⟩ : ∃ r, j % 8 = r := ⟨_, rfl⟩
              obtain ⟨t, ht⟩ : ∃ t, 7 - r = t := ⟨_, rfl⟩
              have hmi : (j : Int).tdiv 8 = (m : Int) := by rw [Int.tdiv_eq_ediv_of_nonneg (by omega)]; omega
              have hri : (j : Int).tmod 8 = (r : Int) := by rw [Int.tmod_eq_emod_of_nonneg (by omega)]; omega
              have hmi2 : (j : Int) / 8 = (m : Int) := by omega
              have hri2 : (j : Int) % 8 = (r : Int) := by omega
              have hti : 7 - (r : Int) = (t : Int) := by omega
              have ht7 : (t : Int) ≤ 7 := by omega
              have hm16 : m < 16 := by omega
              have hm16i : (m : Int) < 16 := by omega
              have hB1 : -9223372036854775808 ≤ (m : Int) ∧ (m : Int) ≤ 9223372036854775807 := by omega
              have hB2 : -9223372036854775808 ≤ (t : Int) ∧ (t : Int) ≤ 9223372036854775807 := by omega
              have hB3 : 0 ≤ (t : Int) ∧ (t : Int) ≤ 18446744073709551615 := by omega
              have hwm : wrap64 (m : Int) = m := IntWalk.wrap64_in _ hB1
              have htu : IntKind.u64.wrap (t : Int) = t := IntWalk.u64_in _ hB3
              have hti2 : IntKind.i64.wrap (t : Int) = t := IntWalk.i64_in _ hB2
              have hwm2 : IntKind.i64.wrap (m : Int) = m := IntWalk.i64_in _ hB1
              clear hB1 hB2 hB3
              have hst : Hid (pack q (j + 1) = spl (pack q j) m [or8 (gi (pack q j) m) (shl8 (gi q j) t)]) := Lib.hid (by rw [pack, hm, hr, ht])
              generalize pack q j = O at *
              clear hm hr ht
              go_wp2
              refine wp_region_drew 16 (by kernel_rfl) (by kernel_rfl) ?_
              simp only [List.take_succ_cons, List.take_zero, List.drop_succ_cons, List.drop_zero]
              repeat (go_big_quiet_step (fail))
              refine wpQuiet_nil ?_
              intro eR
              clear hmi hri hmi2 hri2 hti hti2 hwm hwm2 htu
              go_wp2
              go_roundw
              case rel => exact ⟨j + 1, _, by omega, by go_num, by rw [hst.out]⟩
              case measure => simp [intOf]; omega
            · obtain rfl : j = 128 := by omega
              rw [← HPP.out] at ho ⊢
              go_wp2
              go_ret2
              exact ⟨by rw [HX.out, HY.out]; rfl, Grows.of _ _ _⟩
end Go.Proofs.Ytmhhekiliojifaa

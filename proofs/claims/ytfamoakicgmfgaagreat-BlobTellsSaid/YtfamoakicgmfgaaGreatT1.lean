/- Layer 4 of the document: its bits, bytes, fillings: by contract. | The document's product of two blocks: by contract. | Layer 4 of the document: a number's bytes, texts by others, fillings: by contract. | Layer 4 of the document: a text turned, by what the cipher gives: by contract (the cipher's own contract is asked). | Layer 4 of the document: the tag: by contract (the cipher's own contract is asked). | Layer 4 of the document: Seal and Open: by contract (the cipher's own contracts are asked). -/
import Derived.Test.YtfamoakicgmfgaaGreatChecked
import Derived.Test.YtfamoakicgmfgaaGreatG1
import Derived.Test.YtfamoakicgmfgaaGreatApp
import Derived.Test.YtfamoakicgmfgaaGreatReg3
import Derived.Laws.Concat
import Derived.Deep.RegionLaw
namespace Go.Proofs.YtfamoakicgmfgaaGreat
open Go.RowKit Go.Own

theorem ag5t : aggSize Tryz.prog 5 = none := by kernel_rfl
theorem cs5t : Tryz.prog.cellsOf 5 = 1 := by kernel_rfl
theorem sz5t (w : World) : (sizeOf 5).run Tryz.prog w = .ok 1 w := by kernel_rfl
theorem isa5t (w : World) : (isAgg 5).run Tryz.prog w = .ok false w := by kernel_rfl
attribute [local go_sem] ag5t cs5t sz5t isa5t
set_option maxRecDepth 100000 in
set_option maxHeartbeats 1000000 in
theorem bit_any (S : List Nat) (b n cap i : Nat) (hn : n ≤ S.length) (hi : i / 8 < n) (hib : i < 1000000) (w : World) (t : TypeId) (f : Nat × Nat) (hb : blk w b = some (.cells (cv .u8 S) t f)) :
    Calls Tryz.prog 87 #[.slice (some ⟨b, 0, none⟩) n cap, .int .i64 (i : Int)] w fun e w' => e = .returned (.int .u8 (xb S i : Nat)) ∧ w' = w := by
  obtain ⟨q, hq⟩ : ∃ q, i / 8 = q := ⟨_, rfl⟩
  obtain ⟨r, hr⟩ : ∃ r, i % 8 = r := ⟨_, rfl⟩
  obtain ⟨m, hm⟩ : ∃ m, 7 - r = m := ⟨_, rfl⟩
  have hqi : (i : Int).tdiv 8 = (q : Int) := by rw [Int.tdiv_eq_ediv_of_nonneg (by omega)]; omega
  have hri : (i : Int).tmod 8 = (r : Int) := by rw [Int.tmod_eq_emod_of_nonneg (by omega)]; omega
  have hri2 : (i : Int) % 8 = (r : Int) := by omega
  have hqi2 : (i : Int) / 8 = (q : Int) := by omega
  have hmi : 7 - (r : Int) = (m : Int) := by omega
  have hX : Hid (xb S i = gi S q / 2 ^ m % 2) := Lib.hid (by unfold xb; rw [hq, hr, hm])
  have hqb : (q : Int) ≤ 125000 := by omega
  have hm8 : m ≤ 8 := by omega
  have hm7 : (m : Int) ≤ 7 := by omega
  have hqn : q < n := by omega
  have hqS : q < S.length := by omega
  have hqni : (q : Int) < n := by omega
  have hwq : wrap64 (q : Int) = q := IntWalk.wrap64_in _ (by omega)
  clear hq hr hm hib hi
  go_enter Tryz.func87, Tryz.ntmps87
  go_wp2
  go_ret
  exact ⟨by rw [hX.out]; rfl, rfl⟩
end Go.Proofs.YtfamoakicgmfgaaGreat
namespace Go.Own
open Go.RowKit
/-- A string as bytes of the call's own, the last block. -/
theorem bytes_at {P : Program} {S T E : TypeId} (hS : P.underlying S = some .string) (hT : P.underlying T = some (.slice E)) (hE : P.underlying E = some (.int .u8)) {w : World} {l : List Obj} {d : Nat} (s : ByteArray) :
    ∃ C e, s.size ≤ C ∧ (convert S T (.string s)).run P (Wd w l d) = .ok (.slice (some ⟨w.heap.size + l.length, 0, none⟩) s.size C) (Wd w (l ++ [.cells (cv .u8 (bys s ++ rep (C - s.size))) E (C, C + 1)]) e) := by
  have hr := run_bytes_of_string (P := P) (Wd w l d) S T E s hS hT hE
  have hge := grownCap_ge (Wd w l d) s.size 0 E
  generalize grownCap (Wd w l d) s.size 0 E = C at *
  have hrow : bytesRow s C = cv .u8 (bys s ++ rep (C - s.size)) := by
    unfold bytesRow
    rw [cells_bys]
    apply Array.ext'
    simp [cv, rep]
  have hlen : (bys s ++ rep (C - s.size)).length = C := by simp [bys_length]; omega
  rw [hrow, cv_size, hlen, Wd_drew, Wd_alloc, Wd_size] at hr
  exact ⟨C, _, hge, hr⟩
theorem wpList_bytes_at {P : Program} {ops : Array Oper} {rest : List Oper} {o : Oper} {a : Act} {Q : Exit → Act → World → Prop} {w : World} {l : List Obj} {d : Nat} (hgd : o.guard = none) (x : Operand) (S T E : TypeId)
    (ho : o.op = .convert S T x) (hS : P.underlying S = some .string) (hT : P.underlying T = some (.slice E)) (hE : P.underlying E = some (.int .u8)) (s : ByteArray) (hx : a.eval x = .string s)
    (hK : ∀ C e, s.size ≤ C → wpList P ops Q rest (a.put o.dst (.slice (some ⟨w.heap.size + l.length, 0, none⟩) s.size C)) (Wd w (l ++ [.cells (cv .u8 (bys s ++ rep (C - s.size))) E (C, C + 1)]) e)) : wpList P ops Q (o :: rest) a (Wd w l d) := by
  refine wpList_plain hgd fun K hk => ?_
  obtain ⟨C, e, h1, hr⟩ := bytes_at (P := P) hS hT hE (w := w) (l := l) (d := d) s
  unfold Oper.wp
  simp [execOp, ho, hx, hr, Result.andThen]
  exact hk _ _ (hK C e h1)
end Go.Own
namespace Go.Proofs.YtfamoakicgmfgaaGreat
open Go.RowKit Go.Own
theorem ag92t : aggSize Tryz.prog 126 = some 255 := by kernel_rfl
theorem cs92t : Tryz.prog.cellsOf 126 = 255 := by kernel_rfl
theorem sz92t (w : World) : (sizeOf 126).run Tryz.prog w = .ok 255 w := by kernel_rfl
theorem z92t : zeroOf Tryz.prog 126 = .agg (cv .u8 (rep 255)) := by kernel_rfl
theorem ag69 : aggSize Tryz.prog 69 = some 16 := by kernel_rfl
theorem cs69 : Tryz.prog.cellsOf 69 = 16 := by kernel_rfl
theorem sz69 (w : World) : (sizeOf 69).run Tryz.prog w = .ok 16 w := by kernel_rfl
theorem z69 : zeroOf Tryz.prog 69 = .agg (cv .u8 (rep 16)) := by kernel_rfl
attribute [local go_sem] ag5t cs5t sz5t isa5t ag92t cs92t sz92t z92t ag69 cs69 sz69 z69
theorem xb_app (x r : List Nat) (i : Nat) (h : i / 8 < x.length) : xb (x ++ r) i = xb x i := by
  unfold xb gi
  rw [List.getD_eq_getElem?_getD, List.getElem?_append_left h, ← List.getD_eq_getElem?_getD]
set_option maxRecDepth 100000 in
set_option maxHeartbeats 1000000 in
theorem product_bad (a b : ByteArray) (h : a.size ≠ 16 ∨ b.size ≠ 16) (w : World) :
    Calls Tryz.prog 66 #[.string a, .string b] w fun e w' => e = .returned (.tuple #[.string (mkS []), .int .i64 2]) ∧ Grows w w' := by
  have h' : ¬ (a.size : Int) = 16 ∨ ((a.size : Int) = 16 ∧ ¬ (b.size : Int) = 16) := by omega
  clear h
  refine calls_wd ?_
  rcases h' with z | ⟨z1, z2⟩
  all_goals
    go_enter Tryz.func66, Tryz.ntmps66
    go_wp2
    go_ret2
    exact ⟨rfl, Grows.of _ _ _⟩
set_option maxRecDepth 100000 in
set_option maxHeartbeats 4000000 in
theorem product_any (a b : ByteArray) (ha : a.size = 16) (hb : b.size = 16) (w : World) :
    Calls Tryz.prog 66 #[.string a, .string b] w fun e w' => e = .returned (.tuple #[.string (mkS (prodL (bys a) (bys b))), .int .i64 0]) ∧ Grows w w' := by
  have hai : (a.size : Int) = 16 := by omega
  have hbi : (b.size : Int) = 16 := by omega
  refine calls_wd ?_
  go_enter Tryz.func66, Tryz.ntmps66
  go_wp2_with (with_reducible refine stop_conv ?_)
  unfold Stop
  refine wpList_bytes_at rfl (.tmp 22) 9 52 5 rfl Tryz.underlying9 Tryz.underlying52 Tryz.underlying5 a rfl ?_
  intro C d1 hC
  go_wp2_with (with_reducible refine stop_conv ?_)
  unfold Stop
  refine wpList_bytes_at rfl (.tmp 24) 9 52 5 rfl Tryz.underlying9 Tryz.underlying52 Tryz.underlying5 b rfl ?_
  intro D d2 hD
  obtain ⟨x, hx⟩ : ∃ x, bys a = x := ⟨_, rfl⟩
  obtain ⟨y, hy⟩ : ∃ y, bys b = y := ⟨_, rfl⟩
  go_wp2
  have HX := Lib.hid hx
  have HY := Lib.hid hy
  have hxl : x.length = 16 := by rw [← hx, bys_length, ha]
  have hyl : y.length = 16 := by rw [← hy, bys_length, hb]
  clear hx hy
  obtain ⟨X, hX⟩ : ∃ X, x ++ rep (C - 16) = X := ⟨_, rfl⟩
  obtain ⟨Y, hY⟩ : ∃ Y, y ++ rep (D - 16) = Y := ⟨_, rfl⟩
  have hXl : Hid (16 ≤ X.length) := Lib.hid (by rw [← hX, List.length_append]; omega)
  have hYl : Hid (16 ≤ Y.length) := Lib.hid (by rw [← hY, List.length_append]; omega)
  have hXx : Hid (∀ i, i < 128 → xb X i = xb x i) := Lib.hid fun i hi => by rw [← hX]; exact xb_app _ _ _ (by omega)
  have hYy : Hid (∀ i, i < 128 → xb Y i = xb y i) := Lib.hid fun i hi => by rw [← hY]; exact xb_app _ _ _ (by omega)
  rw [hX, hY]
  clear hX hY hxl hyl hC hD
  have HBX : Hid (∀ (i : Nat) (p : List Nat) (g : List Obj) (d : Nat), i < 128 → Calls Tryz.prog 87 #[.slice (some ⟨w.heap.size + 1, 0, none⟩) 16 C, .int .i64 (i : Int)] (Wd w (.cells (cv .u8 p) 126 (0, 0) :: .cells (cv .u8 X) 5 (C, C + 1) :: g) d) fun e w' => e = .returned (.int .u8 (xb x i : Nat)) ∧ w' = Wd w (.cells (cv .u8 p) 126 (0, 0) :: .cells (cv .u8 X) 5 (C, C + 1) :: g) d) := Lib.hid fun i p g d hi => by
    have := bit_any X (w.heap.size + 1) 16 C i hXl.out (by omega) (by omega) (Wd w (.cells (cv .u8 p) 126 (0, 0) :: .cells (cv .u8 X) 5 (C, C + 1) :: g) d) 5 (C, C + 1) (by rw [blk_at]; rfl)
    rwa [hXx.out i hi] at this
  have HBY : Hid (∀ (i : Nat) (p : List Nat) (d : Nat), i < 128 → Calls Tryz.prog 87 #[.slice (some ⟨w.heap.size + 2, 0, none⟩) 16 D, .int .i64 (i : Int)] (Wd w [.cells (cv .u8 p) 126 (0, 0), .cells (cv .u8 X) 5 (C, C + 1), .cells (cv .u8 Y) 5 (D, D + 1)] d) fun e w' => e = .returned (.int .u8 (xb y i : Nat)) ∧ w' = Wd w [.cells (cv .u8 p) 126 (0, 0), .cells (cv .u8 X) 5 (C, C + 1), .cells (cv .u8 Y) 5 (D, D + 1)] d) := Lib.hid fun i p d hi => by
    have := bit_any Y (w.heap.size + 2) 16 D i hYl.out (by omega) (by omega) (Wd w [.cells (cv .u8 p) 126 (0, 0), .cells (cv .u8 X) 5 (C, C + 1), .cells (cv .u8 Y) 5 (D, D + 1)] d) 5 (D, D + 1) (by rw [blk_at]; rfl)
    rwa [hYy.out i hi] at this
  go_loopw [9] (fun i wr => ∃ j d : Nat, j ≤ 128 ∧ i = .int .i64 j ∧ wr = Wd w [.cells (cv .u8 (outp x y j)) 126 (0, 0), .cells (cv .u8 X) 5 (C, C + 1), .cells (cv .u8 Y) 5 (D, D + 1)] d) (fun i _ => 128 - (intOf i).toNat)
  case atStart => exact ⟨0, _, by omega, rfl, rfl⟩
  case round =>
    obtain ⟨j, d, hj, rfl, rfl⟩ := hrel
    obtain ⟨hp1, hp2, _⟩ := outp_good x y j hj
    have HP1 := Lib.hid hp1
    clear hp1
    by_cases hlt : j < 128
    · have hji : (j : Int) < 128 := by omega
      have hst : Hid (outp x y (j + 1) = if xb x j = 0 then outp x y j else inn y j 128 (outp x y j)) := Lib.hid rfl
      obtain ⟨p, hp⟩ : ∃ p, outp x y j = p := ⟨_, rfl⟩
      rw [hp] at hp2 HP1 hst ⊢
      clear hp
      obtain ⟨v, hv⟩ : ∃ v, xb x j = v := ⟨_, rfl⟩
      have hv2 : v < 2 := by rw [← hv]; exact xb_lt _ _
      have hbx := HBX.out j p [.cells (cv .u8 Y) 5 (D, D + 1)] d hlt
      rw [hv] at hbx hst
      clear hv
      have hv01 : v = 0 ∨ v = 1 := by omega
      clear hv2
      rcases hv01 with rfl | rfl
      · go_wp2_with fail
        refine hbx.mono ?_
        rintro e w' ⟨rfl, rfl⟩
        clear hbx
        go_wp2
        go_roundw
        case rel => exact ⟨j + 1, _, by omega, by go_num, by rw [hst.out]; rfl⟩
        case measure => simp [intOf]; omega
      · go_wp2_with fail
        refine hbx.mono ?_
        rintro e w' ⟨rfl, rfl⟩
        clear hbx
        go_wp2
        go_loopw [10] (fun i wr => ∃ k d : Nat, k ≤ 128 ∧ i = .int .i64 k ∧ wr = Wd w [.cells (cv .u8 (inn y j k p)) 126 (0, 0), .cells (cv .u8 X) 5 (C, C + 1), .cells (cv .u8 Y) 5 (D, D + 1)] d) (fun i _ => 128 - (intOf i).toNat)
        case atStart => exact ⟨0, _, by omega, rfl, rfl⟩
        case round =>
          obtain ⟨k, d, hk, rfl, rfl⟩ := hrel
          obtain ⟨_, hq2, _⟩ := inn_good y j p HP1.out hp2 hlt k hk
          by_cases hlt2 : k < 128
          · have hki : (k : Int) < 128 := by omega
            obtain ⟨jk, hjk⟩ : ∃ jk, j + k = jk := ⟨_, rfl⟩
            have hjki : (j : Int) + (k : Int) = (jk : Int) := by omega
            have hjkb : jk < 255 := by omega
            have hjkb2 : (jk : Int) < 255 := by omega
            have hst2 : Hid (inn y j (k + 1) p = spl (inn y j k p) jk [xor8 (gi (inn y j k p) jk) (xb y k)]) := Lib.hid (by rw [inn, tog, hjk])
            obtain ⟨q, hq⟩ : ∃ q, inn y j k p = q := ⟨_, rfl⟩
            rw [hq] at hq2 hst2 ⊢
            have hby := Lib.hid fun d => HBY.out k q d hlt2
            obtain ⟨u, hu⟩ : ∃ u, xb y k = u := ⟨_, rfl⟩
            rw [hu] at hby hst2
            clear hq hu hjk
            go_wp2
            refine wp_region_drew 13 (by kernel_rfl) (by kernel_rfl) ?_
            simp only [List.take_succ_cons, List.take_zero, List.drop_succ_cons, List.drop_zero]
            repeat (go_big_quiet_step (with_reducible exact drew_same (hby.out _)))
            refine wpQuiet_nil ?_
            intro eR
            go_wp2
            go_roundw
            case rel => exact ⟨k + 1, _, by omega, by go_num, by rw [hst2.out]⟩
            case measure => simp [intOf]; omega
          · obtain rfl : k = 128 := by omega
            go_wp2
            go_roundw
            case rel => exact ⟨j + 1, _, by omega, by go_num, by rw [hst.out]; rfl⟩
            case measure => simp [intOf]; omega
    · obtain rfl : j = 128 := by omega
      obtain ⟨p, hp⟩ : ∃ p, outp x y 128 = p := ⟨_, rfl⟩
      have HPP : Hid (prodL x y = pack (down p 127) 128) := Lib.hid (by rw [prodL, hp])
      rw [hp] at hp2 HP1 ⊢
      clear hp
      go_wp2
      go_loopw [11] (fun i wr => ∃ j n d : Nat, j ≤ 127 ∧ j + n = 254 ∧ i = .int .i64 (n : Nat) ∧ wr = Wd w [.cells (cv .u8 (down p j)) 126 (0, 0), .cells (cv .u8 X) 5 (C, C + 1), .cells (cv .u8 Y) 5 (D, D + 1)] d) (fun i _ => (intOf i).toNat)
      case atStart => exact ⟨0, 254, _, by omega, rfl, rfl, rfl⟩
      case round =>
        obtain ⟨j, n, d, hj, hn, rfl, rfl⟩ := hrel
        obtain ⟨hq1, hq2, _⟩ := down_good HP1.out hp2 j hj
        have HQ1 := Lib.hid hq1
        clear hq1
        by_cases hlt : j < 127
        · have hni : 128 ≤ (n : Int) := by omega
          have hnb : n < 255 := by omega
          have hnbi : (n : Int) < 255 := by omega
          have hst : Hid (down p (j + 1) = downS (down p j) n) := Lib.hid (by rw [down, show 254 - j = n by omega])
          obtain ⟨q, hq⟩ : ∃ q, down p j = q := ⟨_, rfl⟩
          rw [hq] at hq2 HQ1 hst ⊢
          clear hq
          obtain ⟨n1, hn1⟩ : ∃ n1, n - 1 = n1 := ⟨_, rfl⟩
          have hn1i : (n : Int) - 1 = (n1 : Int) := by omega
          have hjn : j + 1 + n1 = 254 := by omega
          obtain ⟨a0, ha0⟩ : ∃ a, n - 128 = a := ⟨_, rfl⟩
          obtain ⟨a1, ha1⟩ : ∃ a, n - 127 = a := ⟨_, rfl⟩
          obtain ⟨a2, ha2⟩ : ∃ a, n - 126 = a := ⟨_, rfl⟩
          obtain ⟨a7, ha7⟩ : ∃ a, n - 121 = a := ⟨_, rfl⟩
          have e0 : (n : Int) - 128 = (a0 : Int) := by omega
          have e1 : (n : Int) - 127 = (a1 : Int) := by omega
          have e2 : (n : Int) - 126 = (a2 : Int) := by omega
          have e7 : (n : Int) - 121 = (a7 : Int) := by omega
          have b0 : a0 < 255 := by omega
          have b1 : a1 < 255 := by omega
          have b2 : a2 < 255 := by omega
          have b7 : a7 < 255 := by omega
          have b0i : (a0 : Int) < 255 := by omega
          have b1i : (a1 : Int) < 255 := by omega
          have b2i : (a2 : Int) < 255 := by omega
          have b7i : (a7 : Int) < 255 := by omega
          have hjb : n1 < n := by omega
          by_cases h1 : gi q n = 1
          · have hst2 : Hid (down p (j + 1) = tog (tog (tog (tog q a0 1) a1 1) a2 1) a7 1) := Lib.hid (by rw [hst.out, downS, if_pos h1, ha0, ha1, ha2, ha7])
            have l1 : (tog q a0 1).length = 255 := by rw [tog_length (by omega), hq2]
            have l2 : (tog (tog q a0 1) a1 1).length = 255 := by rw [tog_length (by omega), l1]
            have l3 : (tog (tog (tog q a0 1) a1 1) a2 1).length = 255 := by rw [tog_length (by omega), l2]
            have t0 : spl q a0 [xor8 (gi q a0) 1] = tog q a0 1 := rfl
            have t1 : spl (tog q a0 1) a1 [xor8 (gi (tog q a0 1) a1) 1] = tog (tog q a0 1) a1 1 := rfl
            have t2 : spl (tog (tog q a0 1) a1 1) a2 [xor8 (gi (tog (tog q a0 1) a1 1) a2) 1] = tog (tog (tog q a0 1) a1 1) a2 1 := rfl
            have h1i : ((gi q n : Nat) : Int) = 1 := by omega
            clear hst hn hn1 ha0 ha1 ha2 ha7
            go_wp2
            go_roundw
            case rel => exact ⟨j + 1, n1, _, by omega, hjn, by go_num, by rw [hst2.out]; rfl⟩
            case measure => simp [intOf]; omega
          · have hst2 : Hid (down p (j + 1) = q) := Lib.hid (by rw [hst.out, downS, if_neg h1])
            have h0 : gi q n = 0 := by have := HQ1.out n; omega
            clear h1 hst hn hn1 ha0 ha1 ha2 ha7
            go_wp2
            go_roundw
            case rel => exact ⟨j + 1, n1, _, by omega, hjn, by go_num, by rw [hst2.out]⟩
            case measure => simp [intOf]; omega
        · obtain rfl : j = 127 := by omega
          have hni : ¬ 128 ≤ (n : Int) := by omega
          obtain ⟨q, hq⟩ : ∃ q, down p 127 = q := ⟨_, rfl⟩
          rw [hq] at hq2 HQ1 HPP ⊢
          clear hq hn
          go_wp2
          go_loopw [13] (fun i wr => ∃ j d : Nat, j ≤ 128 ∧ i = .int .i64 j ∧ wr = Wd w [.cells (cv .u8 q) 126 (0, 0), .cells (cv .u8 X) 5 (C, C + 1), .cells (cv .u8 Y) 5 (D, D + 1), .cells (cv .u8 (pack q j)) 69 (0, 0)] d) (fun i _ => 128 - (intOf i).toNat)
          case atStart => exact ⟨0, _, by omega, rfl, rfl⟩
          case round =>
            obtain ⟨j, d, hj, rfl, rfl⟩ := hrel
            obtain ⟨ho, _, _⟩ := pack_good HQ1.out j hj
            by_cases hlt : j < 128
            · have hji : (j : Int) < 128 := by omega
              have hj255 : j < 255 := by omega
              have hj255i : (j : Int) < 255 := by omega
              obtain ⟨m, hm⟩ : ∃ m, j / 8 = m := ⟨_, rfl⟩
              obtain ⟨r, hr⟩ : ∃ r, j % 8 = r := ⟨_, rfl⟩
              obtain ⟨t, ht⟩ : ∃ t, 7 - r = t := ⟨_, rfl⟩
              have hmi : (j : Int).tdiv 8 = (m : Int) := by rw [Int.tdiv_eq_ediv_of_nonneg (by omega)]; omega
              have hri : (j : Int).tmod 8 = (r : Int) := by rw [Int.tmod_eq_emod_of_nonneg (by omega)]; omega
              have hmi2 : (j : Int) / 8 = (m : Int) := by omega
              have hri2 : (j : Int) % 8 = (r : Int) := by omega
              have hti : 7 - (r : Int) = (t : Int) := by omega
              have ht7 : (t : Int) ≤ 7 := by omega
              have hm16 : m < 16 := by omega
              have hm16i : (m : Int) < 16 := by omega
              have hB1 : -9223372036854775808 ≤ (m : Int) ∧ (m : Int) ≤ 9223372036854775807 := by omega
              have hB2 : -9223372036854775808 ≤ (t : Int) ∧ (t : Int) ≤ 9223372036854775807 := by omega
              have hB3 : 0 ≤ (t : Int) ∧ (t : Int) ≤ 18446744073709551615 := by omega
              have hwm : wrap64 (m : Int) = m := IntWalk.wrap64_in _ hB1
              have htu : IntKind.u64.wrap (t : Int) = t := IntWalk.u64_in _ hB3
              have hti2 : IntKind.i64.wrap (t : Int) = t := IntWalk.i64_in _ hB2
              have hwm2 : IntKind.i64.wrap (m : Int) = m := IntWalk.i64_in _ hB1
              clear hB1 hB2 hB3
              have hst : Hid (pack q (j + 1) = spl (pack q j) m [or8 (gi (pack q j) m) (shl8 (gi q j) t)]) := Lib.hid (by rw [pack, hm, hr, ht])
              generalize pack q j = O at *
              clear hm hr ht
              go_wp2
              refine wp_region_drew 16 (by kernel_rfl) (by kernel_rfl) ?_
              simp only [List.take_succ_cons, List.take_zero, List.drop_succ_cons, List.drop_zero]
              repeat (go_big_quiet_step (fail))
              refine wpQuiet_nil ?_
              intro eR
              clear hmi hri hmi2 hri2 hti hti2 hwm hwm2 htu
              go_wp2
              go_roundw
              case rel => exact ⟨j + 1, _, by omega, by go_num, by rw [hst.out]⟩
              case measure => simp [intOf]; omega
            · obtain rfl : j = 128 := by omega
              rw [← HPP.out] at ho ⊢
              go_wp2
              go_ret2
              exact ⟨by rw [HX.out, HY.out]; rfl, Grows.of _ _ _⟩
end Go.Proofs.YtfamoakicgmfgaaGreat
namespace Go.Own
open Go.RowKit
theorem mkS_append (a b : List Nat) : mkS a ++ mkS b = mkS (a ++ b) := by
  apply ByteArray.ext
  simp [mkS, ByteArray.data_append]
theorem bys_cat (x : List Nat) (s : ByteArray) : mkS x ++ s = mkS (x ++ bys s) := by
  rw [← mkS_append, mkS_bys]
theorem cat_bys (x y : ByteArray) : x ++ y = mkS (bys x ++ bys y) := by
  rw [← mkS_append, mkS_bys, mkS_bys]
theorem rep_succ (j : Nat) : rep j ++ [0] = rep (j + 1) := by
  unfold rep
  rw [List.replicate_succ']
def bsN (T : TypeId) (n : Nat) (parts : Array (Nat × Value)) : Sem Value := Instr.buildSlice T n parts
@[go_sem ↓] theorem execOp_bs (ρ : Operand → Value) (dst : Option Tmp) (T : TypeId) (n : Nat) (parts : Array (Nat × Operand)) (ty : TypeId) (pos : String) (after : Array Edge) (guard : Option (Nat × Bool)) :
    execOp ρ { dst, op := .buildSlice T n parts, type := ty, pos, after, guard } = (bsN T n (parts.map fun (i, x) => (i, ρ x)) >>= fun v => pure (.value v)) := rfl
/-- A number's four bytes. -/
def fourL (n : Nat) : List Nat := [n / 16777216 % 256, n / 65536 % 256, n / 256 % 256, n % 256]
/-- Bytes by others. -/
def xorL (x y : List Nat) : List Nat := (List.range x.length).map fun i => xor8 (gi x i) (gi y i)
/-- Filled up. -/
def fillN (n : Nat) : Nat := (16 - n % 16) % 16
def wholeL (x : List Nat) : List Nat := x ++ rep (fillN x.length)
theorem xorL_length (x y : List Nat) : (xorL x y).length = x.length := by simp [xorL]
theorem xorL_B8 (x y : List Nat) : B8 (xorL x y) := fun n hn => by
  obtain ⟨i, _, rfl⟩ := List.mem_map.1 hn
  exact Nat.mod_lt _ (by decide)
theorem fourL_B8 (n : Nat) : B8 (fourL n) := fun k hk => by
  simp only [fourL, List.mem_cons, List.not_mem_nil, or_false] at hk
  rcases hk with rfl | rfl | rfl | rfl <;> exact Nat.mod_lt _ (by decide)
end Go.Own
namespace Go.Proofs.YtfamoakicgmfgaaGreat
open Go.RowKit Go.Own
theorem bs4t (a b c e : Nat) (w : World) (l : List Obj) (d : Nat) : (bsN 52 4 #[(0, .int .u8 a), (1, .int .u8 b), (2, .int .u8 c), (3, .int .u8 e)]).run Tryz.prog (Wd w l d) =
    .ok (.slice (some ⟨w.heap.size + l.length, 0, none⟩) 4 4) (Wd w (l ++ [.cells (cv .u8 [a, b, c, e]) 5 (0, 0)]) d) := by
  rw [← Wd_alloc, ← Wd_size w l d]
  generalize Wd w l d = W
  kernel_rfl
theorem bs1t (a : Nat) (w : World) (l : List Obj) (d : Nat) : (bsN 52 1 #[(0, .int .u8 a)]).run Tryz.prog (Wd w l d) =
    .ok (.slice (some ⟨w.heap.size + l.length, 0, none⟩) 1 1) (Wd w (l ++ [.cells (cv .u8 [a]) 5 (0, 0)]) d) := by
  rw [← Wd_alloc, ← Wd_size w l d]
  generalize Wd w l d = W
  kernel_rfl
theorem br30t : ByteRow Tryz.prog 52 5 := by
  have h : (Tryz.prog.info? 5).map (fun i => (i.zero, i.size, i.bytes)) = some (some (.int .u8 0), 1, 1) := by kernel_rfl
  refine ⟨Tryz.underlying52, ?_⟩
  cases hi : Tryz.prog.info? 5 with
  | none => rw [hi] at h; cases h
  | some i =>
    rw [hi] at h
    simp at h
    exact ⟨i, rfl, h.1, h.2.1, h.2.2⟩
theorem gi_att {t : ByteArray} {i : Nat} (h : i < t.size) : gi (bys t) i = t[i].toNat := by
  have h3 : i < t.data.size := h
  simp only [gi, bys, List.getD_eq_getElem?_getD, List.getElem?_map]
  rw [List.getElem?_eq_getElem (by simpa using h3)]
  rfl
theorem ixSt (t : ByteArray) (k : IntKind) (i : Nat) (W : World) (h1 : i < t.size) :
    (ixN 9 (.string t) (.int k (i : Int))).run Tryz.prog W = .ok (.int .u8 ((gi (bys t) i : Nat) : Int)) W := by
  rw [gi_att h1]
  unfold ixN
  rw [run_index_string W 9 t k i Tryz.underlying9, dif_pos ⟨by omega, by omega⟩]
  simp
theorem cnil (W : World) : (convert 52 9 (.slice none 0 0)).run Tryz.prog W = .ok (.string (mkS [])) W := by kernel_rfl
attribute [local go_sem] ag5t cs5t sz5t isa5t bs4t bs1t ixSt cnil
attribute [-go_sem] run_string_add_if
set_option maxRecDepth 100000 in
theorem four_any (n : Nat) (hn : n < 4294967296) (w : World) :
    Calls Tryz.prog 63 #[.int .i64 (n : Int)] w fun e w' => e = .returned (.string (mkS (fourL n))) ∧ Grows w w' := by
  obtain ⟨a, ha⟩ : ∃ a, n / 16777216 = a := ⟨_, rfl⟩
  obtain ⟨b, hb⟩ : ∃ b, n / 65536 = b := ⟨_, rfl⟩
  obtain ⟨c, hc⟩ : ∃ c, n / 256 = c := ⟨_, rfl⟩
  have e1 : (n : Int).tdiv 16777216 = (a : Int) := by rw [Int.tdiv_eq_ediv_of_nonneg (by omega)]; omega
  have e2 : (n : Int).tdiv 65536 = (b : Int) := by rw [Int.tdiv_eq_ediv_of_nonneg (by omega)]; omega
  have e3 : (n : Int).tdiv 256 = (c : Int) := by rw [Int.tdiv_eq_ediv_of_nonneg (by omega)]; omega
  have f1 : (n : Int) / 16777216 = (a : Int) := by omega
  have f2 : (n : Int) / 65536 = (b : Int) := by omega
  have f3 : (n : Int) / 256 = (c : Int) := by omega
  have hF : Hid (fourL n = [a % 256, b % 256, c % 256, n % 256]) := Lib.hid (by rw [fourL, ha, hb, hc])
  have g1 : -9223372036854775808 ≤ (a : Int) ∧ (a : Int) ≤ 9223372036854775807 := by omega
  have g2 : -9223372036854775808 ≤ (b : Int) ∧ (b : Int) ≤ 9223372036854775807 := by omega
  have g3 : -9223372036854775808 ≤ (c : Int) ∧ (c : Int) ≤ 9223372036854775807 := by omega
  have h1 : wrap64 (a : Int) = a := IntWalk.wrap64_in _ g1
  have h2 : wrap64 (b : Int) = b := IntWalk.wrap64_in _ g2
  have h3 : wrap64 (c : Int) = c := IntWalk.wrap64_in _ g3
  have w1 := wrap8 a
  have w2 := wrap8 b
  have w3 := wrap8 c
  have w4 := wrap8 n
  generalize a % 256 = a' at *
  generalize b % 256 = b' at *
  generalize c % 256 = c' at *
  generalize n % 256 = n' at *
  clear ha hb hc g1 g2 g3 hn
  refine calls_wd ?_
  go_enter Tryz.func63, Tryz.ntmps63
  go_wp2
  go_ret
  exact ⟨by rw [hF.out]; rfl, Grows.of _ _ _⟩
set_option maxRecDepth 100000 in
set_option maxHeartbeats 1000000 in
theorem whole_any (s : ByteArray) (hs : s.size ≤ 1099511627776) (w : World) :
    Calls Tryz.prog 65 #[.string s] w fun e w' => e = .returned (.string (mkS (wholeL (bys s)))) ∧ Grows w w' := by
  obtain ⟨x, hx⟩ : ∃ x, bys s = x := ⟨_, rfl⟩
  have hsx : s = mkS x := by rw [← hx, mkS_bys]
  have hxl : Hid (x.length ≤ 1099511627776) := Lib.hid (by rw [← hx, bys_length]; exact hs)
  subst hsx
  obtain ⟨n, hn⟩ : ∃ n, x.length = n := ⟨_, rfl⟩
  obtain ⟨z, hz⟩ : ∃ z, fillN n = z := ⟨_, rfl⟩
  have HN := Lib.hid hn
  have hz15 : z ≤ 15 := by rw [← hz]; unfold fillN; omega
  have hzn : Hid ((n + z) % 16 = 0) := Lib.hid (by rw [← hz]; unfold fillN; omega)
  have hzl : Hid (∀ j, j < z → (n + j) % 16 ≠ 0) := Lib.hid (fun j hj => by rw [← hz] at hj; unfold fillN at hj; omega)
  have hW : Hid (wholeL (bys (mkS x)) = x ++ rep z) := Lib.hid (by rw [hx, wholeL, hn, hz])
  clear hx hn hz hs
  refine calls_wd ?_
  go_enter Tryz.func65, Tryz.ntmps65
  go_wp2
  go_loopw [0] (fun o wr => ∃ (j m d : Nat), j ≤ z ∧ n + j = m ∧ o = .string (mkS (x ++ rep j)) ∧ (mkS (x ++ rep j)).size = m ∧ wr = Wd w [] d) (fun o _ => match o with | .string y => n + z - y.size | _ => 0)
  case atStart => exact ⟨0, n, 0, by omega, rfl, by simp [rep], by rw [mkS_size, List.length_append, HN.out, rep_length]; rfl, rfl⟩
  case round =>
    obtain ⟨j, m, d, hj, hm, rfl, hsz, rfl⟩ := hrel
    obtain ⟨S, hS⟩ : ∃ S, mkS (x ++ rep j) = S := ⟨_, rfl⟩
    rw [hS] at hsz ⊢
    have HM := Lib.hid hm
    clear hm
    by_cases hlt : j < z
    · have hne : (((m : Int) % 16) != 0) = true := by
        have := hzl.out j hlt
        rw [HM.out] at this
        rw [bne_iff_ne]; omega
      obtain ⟨S2, hS2⟩ : ∃ S2, mkS (x ++ rep (j + 1)) = S2 := ⟨_, rfl⟩
      have hadd : ∀ W, (Op.stringOp .add S { data := #[0] }).run Tryz.prog W = .ok (.string S2) W := fun W => by
        rw [run_string_add_sum W _ _ (by rw [hsz]; show m + 1 ≤ _; have := HM.out; have := hxl.out; have := HN.out; omega), ← hS, bys_cat, ← hS2, ← rep_succ, ← List.append_assoc]
        rfl
      have hsz2 : S2.size = m + 1 := by rw [← hS2, mkS_size, List.length_append, rep_length, HN.out, ← HM.out]; rfl
      have HS2 := Lib.hid hS2
      clear hS hS2
      go_wp2
      go_roundw
      case rel => exact ⟨j + 1, m + 1, _, by omega, by have := HM.out; omega, by rw [HS2.out], by rw [HS2.out]; exact hsz2, rfl⟩
      case measure => have := HM.out; show n + z - S2.size < n + z - S.size; rw [hsz2, hsz]; omega
    · obtain rfl : j = z := by omega
      have hne : (((m : Int) % 16) != 0) = false := by
        have := hzn.out
        rw [HM.out] at this
        rw [bne_eq_false_iff_eq]; omega
      have HSS := Lib.hid hS
      clear hS
      go_wp2
      go_ret
      exact ⟨by rw [hW.out, HSS.out]; rfl, Grows.of _ _ _⟩
theorem xorL_step (x y : List Nat) (k : Nat) : (List.range k).map (fun i => xor8 (gi x i) (gi y i)) ++ [xor8 (gi x k) (gi y k)] = (List.range (k + 1)).map (fun i => xor8 (gi x i) (gi y i)) := by simp [List.range_succ]
def xorS (x y : List Nat) (k : Nat) : List Nat := (List.range k).map fun i => xor8 (gi x i) (gi y i)
set_option maxRecDepth 100000 in
set_option maxHeartbeats 1000000 in
theorem xor_any (a b : ByteArray) (hl : a.size ≤ b.size) (ha : a.size ≤ 1099511627776) (w : World) :
    Calls Tryz.prog 64 #[.string a, .string b] w fun e w' => e = .returned (.string (mkS (xorL (bys a) (bys b)))) ∧ Grows w w' := by
  obtain ⟨n, hn⟩ : ∃ n, a.size = n := ⟨_, rfl⟩
  have HN := Lib.hid hn
  have HL := Lib.hid hl
  have HR : Hid (xorL (bys a) (bys b) = xorS (bys a) (bys b) n) := Lib.hid (by unfold xorL xorS; rw [bys_length, hn])
  rw [hn] at ha
  clear hl
  refine calls_wd ?_
  go_enter Tryz.func64, Tryz.ntmps64
  go_wp2
  go_loopw [5, 6] (fun v i wr => ∃ (k d : Nat) (l : List Obj), k ≤ n ∧ i = .int .i64 k ∧ Hid (Has0 w l v (xorS (bys a) (bys b) k)) ∧ wr = Wd w l d) (fun _ i _ => n - (intOf i).toNat)
  case atStart => exact ⟨0, 0, [], by omega, rfl, Lib.hid (Or.inl ⟨rfl, rfl⟩), rfl⟩
  case round =>
    obtain ⟨k, d, l, hk, rfl, hH, rfl⟩ := hrel
    by_cases hlt : k < n
    · have hki : (k : Int) < n := by omega
      have hka : k < a.size := by omega
      have hkb : k < b.size := by have := HL.out; omega
      have hst : Hid (xorS (bys a) (bys b) k ++ [xor8 (gi (bys a) k) (gi (bys b) k)] = xorS (bys a) (bys b) (k + 1)) := Lib.hid (xorL_step _ _ k)
      obtain ⟨X, hX⟩ : ∃ X, xorS (bys a) (bys b) k = X := ⟨_, rfl⟩
      have hXl : Hid (X.length ≤ 1099511627775) := Lib.hid (by rw [← hX]; unfold xorS; simp; omega)
      rw [hX] at hH hst
      clear hX
      go_wp2
      refine wp_region_drew0 (v := u5) 8 (by kernel_rfl) (by kernel_rfl) (fun _ _ _ hh => hh) (Or.inl ⟨rfl, fun w => rfl⟩) ?_
      simp only [List.take_succ_cons, List.take_zero, List.drop_succ_cons, List.drop_zero, Nat.reduceSub, Act.put]
      go_simp
      repeat (go_big_quiet_step (fail))
      refine wpQuiet_nil ?_
      intro eR
      go_wp2_with (at_builtin; refine stop ?_)
      unfold Stop
      refine wpList_app rfl (.tmp 13) (.tmp 21) 52 5 rfl br30t u5 X rfl (hH.out.more _) l.length 0 1 1 rfl [xor8 (gi (bys a) k) (gi (bys b) k)] 5 (0, 0) List.getElem?_concat_length (show 0 + 1 ≤ 1 by decide) (by decide) (by have := hXl.out; omega) ?_
      intro v' l' d' H1 _
      rw [show List.take 1 (List.drop 0 [xor8 (gi (bys a) k) (gi (bys b) k)]) = [xor8 (gi (bys a) k) (gi (bys b) k)] from rfl, hst.out] at H1
      have H2 : Hid (Has0 w l' v' (xorS (bys a) (bys b) (k + 1))) := Lib.hid (Or.inr H1.out)
      obtain ⟨i2, S2, t2, f2, rfl, h2⟩ := H1.out
      clear h2 H1
      generalize (xorS (bys a) (bys b) (k + 1)).length = z at *
      go_wp2
      go_roundw
      case rel => exact ⟨k + 1, _, _, by omega, by go_num, H2, rfl⟩
      case measure => simp [intOf]; omega
    · obtain rfl : k = n := by omega
      rcases hH.out with ⟨rfl, he⟩ | hh
      · have hE : Hid (xorL (bys a) (bys b) = []) := Lib.hid (by rw [HR.out, he])
        clear he
        go_wp2
        go_ret
        exact ⟨by rw [hE.out]; rfl, Grows.of _ _ _⟩
      · obtain ⟨i2, S2, t2, f2, rfl, hi2, hf2, ht2, hle2⟩ := hh
        have hE : Hid (S2.take (xorS (bys a) (bys b) k).length = xorL (bys a) (bys b)) := Lib.hid (by rw [HR.out]; exact ht2)
        clear ht2 hH
        generalize (xorS (bys a) (bys b) k).length = z at *
        go_wp2
        go_ret
        exact ⟨by rw [← hE.out]; rfl, Grows.of _ _ _⟩
end Go.Proofs.YtfamoakicgmfgaaGreat
namespace Go.Own
open Go.RowKit
theorem wp_region_big_all {P : Program} {id : Nat} {Q : Exit → Act → World → Prop} {a : Act} {w : World} {l0 : List Obj} {d : Nat} {l : List Oper} (hm : P.follows .mixedOrders = true) (hB : Region.lexB .any l.toArray = true)
    (h : wpQuiet P l.toArray (More w l0) (fun a' => ∀ g e, Q .normal a' (Wd w (l0 ++ g) e)) l a) : (Code.region id l.toArray true).wp P Q a (Wd w l0 d) := by
  refine wp_region_quiet (C := More w l0) hm hB ⟨[], d + 1, by rw [List.append_nil]; rfl⟩ ?_
  have e : (fun a' => ∀ w', More w l0 w' → Q .normal a' w') = fun a' => ∀ g e, Q .normal a' (Wd w (l0 ++ g) e) := by
    funext a'
    exact propext all_more
  rw [e]
  exact h
def bxN (T : TypeId) (v : Value) : Sem Value := Instr.box T v
@[go_sem ↓] theorem execOp_box (ρ : Operand → Value) (dst : Option Tmp) (T : TypeId) (x : Operand) (ty : TypeId) (pos : String) (after : Array Edge) (guard : Option (Nat × Bool)) :
    execOp ρ { dst, op := .box T x, type := ty, pos, after, guard } = (bxN T (ρ x) >>= fun v => pure (.value v)) := rfl
theorem bxN_two {P : Program} {T : TypeId} {x y : Value} {w : World} {l : List Obj} {d : Nat} :
    (bxN T (.agg #[x, y])).run P (Wd w l d) = .ok (.pointer (some ⟨w.heap.size + l.length, 0, none⟩)) (Wd w (l ++ [.cells #[x, y] T (0, 0)]) d) := by
  simp [bxN, Instr.box, newVar, newRow, Value.cells, Wd_size, Wd_alloc]
/-- The piece of 16 bytes of number c, turned. -/
def pieceF (cip : List Nat → List Nat) (nonce x : List Nat) (c : Nat) : List Nat := xorL ((x.drop (16 * c)).take 16) (cip (nonce ++ fourL (2 + c)))
def bodyS (cip : List Nat → List Nat) (nonce x : List Nat) (c : Nat) : List Nat := (List.range c).flatMap (pieceF cip nonce x)
theorem bodyS_succ (cip : List Nat → List Nat) (nonce x : List Nat) (c : Nat) : bodyS cip nonce x (c + 1) = bodyS cip nonce x c ++ pieceF cip nonce x c := by simp [bodyS, List.range_succ]
/-- The body. -/
def bodyL (cip : List Nat → List Nat) (nonce x : List Nat) : List Nat := bodyS cip nonce x ((x.length + 15) / 16)
end Go.Own
namespace Go.Proofs.YtfamoakicgmfgaaGreat
open Go.RowKit Go.Own
theorem ag44t : aggSize Tryz.prog 76 = some 2 := by kernel_rfl
theorem ld32 {W : World} {b : Nat} {x y : Value} {t : TypeId} {f : Nat × Nat} (h : blk W b = some (.cells #[x, y] t f)) : (loadVar 76 ⟨b, 0, none⟩).run Tryz.prog W = .ok (.agg #[x, y]) W := by
  obtain ⟨ha, _⟩ := isAgg_of ag44t W
  have hl := run_loadCells_list (P := Tryz.prog) W ⟨b, 0, none⟩ [x, y] (fun j v hv => by
    have hadd : (⟨b, 0, none⟩ : Addr).add j = ⟨b, j, none⟩ := by unfold Addr.add; split <;> simp_all
    rw [hadd]
    simp only [World.cell?, show W.heap[b]? = _ from h, Option.isSome_none, Bool.false_eq_true, if_false]
    simpa using hv)
  have hl2 : (loadCells ⟨b, 0, none⟩ 2).run Tryz.prog W = .ok #[x, y] W := hl
  simp [loadVar, ha, hl2]
theorem ldX32 {W : World} {b : Nat} {x y : Value} {t : TypeId} {f : Nat × Nat} (h : blk W b = some (.cells #[x, y] t f)) :
    ldX Tryz.prog 76 (some 2) (some (.cells #[x, y] t f)) b 0 W = .ok (.agg #[x, y]) W := by
  have hl := ld32 h
  simpa [ldX, ldN, Instr.loadAt, Instr.sureAddr] using hl
attribute [local go_sem] ag5t cs5t sz5t isa5t ag44t ldX32 bxN_two
attribute [-go_sem] run_string_add_if
set_option maxRecDepth 100000 in
set_option maxHeartbeats 2000000 in
theorem body_any (kx ky : Value) (cip : List Nat → List Nat) (hcl : ∀ t, (cip t).length = 16) (hc8 : ∀ t, B8 (cip t)) (Rdy : World → Prop) (hrdy : ∀ w w' : World, Rdy w → Grows w w' → Rdy w')
    (HP : ∀ (W : World) (t : ByteArray), Rdy W → t.size = 16 → Calls Tryz.prog 62 #[.agg #[kx, ky], .string t] W fun e w' => e = .returned (.tuple #[.string (mkS (cip (bys t))), .int .i64 0]) ∧ Grows W w')
    (nonce text : ByteArray) (hn : nonce.size = 12) (ht : text.size ≤ 1000000) (w : World) (hR : Rdy w) :
    Calls Tryz.prog 39 #[.agg #[kx, ky], .string nonce, .string text] w fun e w' => e = .returned (.string (mkS (bodyL cip (bys nonce) (bys text)))) ∧ Grows w w' := by
  obtain ⟨x, hx⟩ : ∃ x, bys text = x := ⟨_, rfl⟩
  obtain ⟨n, hnn⟩ : ∃ n, text.size = n := ⟨_, rfl⟩
  have hxl : Hid (x.length = n) := Lib.hid (by rw [← hx, bys_length, hnn])
  have HX := Lib.hid hx
  have HTS := Lib.hid hnn
  obtain ⟨N, hN⟩ : ∃ N, (n + 15) / 16 = N := ⟨_, rfl⟩
  have hNB : Hid (bodyL cip (bys nonce) (bys text) = bodyS cip (bys nonce) x N) := Lib.hid (by rw [bodyL, hx, hxl.out, hN])
  have hNn : Hid (16 * N < n + 16 ∧ n ≤ 16 * N) := Lib.hid (by omega)
  have HRD := Lib.hid hR
  have HCL := Lib.hid hcl
  have HC8 := Lib.hid hc8
  have HPP := Lib.hid HP
  have HRR := Lib.hid hrdy
  have hNS := Lib.hid hn
  rw [hnn] at ht
  clear hx hN hR hcl hc8 HP hrdy hn
  refine calls_wd ?_
  go_enter Tryz.func39, Tryz.ntmps39
  go_wp2
  go_loopw [7, 8] (fun o i wr => ∃ (c at' d : Nat) (O : List Nat) (g : List Obj), c ≤ N ∧ 16 * c = at' ∧ i = .int .i64 at' ∧ o = .string (mkS O) ∧ Hid (bodyS cip (bys nonce) x c = O) ∧ Hid (O.length ≤ 16 * c) ∧ wr = Wd w (.cells #[kx, ky] 76 (0, 0) :: g) d) (fun _ i _ => n + 16 - (intOf i).toNat)
  case atStart => exact ⟨0, 0, _, [], [], by omega, rfl, rfl, rfl, Lib.hid rfl, Lib.hid (Nat.le_refl _), rfl⟩
  case round =>
    obtain ⟨c, p, d, O, g, hc, hp, rfl, rfl, hO, hOl, rfl⟩ := hrel
    have HPc := Lib.hid hp
    clear hp
    by_cases hlt : p < n
    · have hpi : (p : Int) < n := by omega
      obtain ⟨p2, hp2⟩ : ∃ p2, p + 16 = p2 := ⟨_, rfl⟩
      have hp2i : (p : Int) + 16 = p2 := by omega
      obtain ⟨en, hen⟩ : ∃ en, min p2 n = en := ⟨_, rfl⟩
      have HEN := Lib.hid hen
      have hcase : (n < p2 ∧ en = n) ∨ (¬ n < p2 ∧ en = p2) := by omega
      have hq : (p : Int).tdiv 16 = (c : Int) := by rw [Int.tdiv_eq_ediv_of_nonneg (by omega)]; have := HPc.out; omega
      have hq2 : (p : Int) / 16 = (c : Int) := by have := HPc.out; omega
      have hep : p < en := by omega
      have hen2 : en ≤ n := by omega
      have hepi : (p : Int) ≤ (en : Int) := by omega
      have heni : (en : Int) ≤ (n : Int) := by omega
      have hcN : c < N := by have := hNn.out; have := HPc.out; omega
      obtain ⟨m, hm⟩ : ∃ m, 2 + c = m := ⟨_, rfl⟩
      have hmi : 2 + (c : Int) = m := by omega
      have hmb : m < 4294967296 := by have := HPc.out; omega
      have H16 := Lib.hid (four_any m hmb)
      obtain ⟨t, hT⟩ : ∃ t, nonce ++ mkS (fourL m) = t := ⟨_, rfl⟩
      have htb : Hid (bys t = bys nonce ++ fourL m) := Lib.hid (by rw [← hT, cat_bys, bys_mkS _ (fourL_B8 m), bys_mkS _ ((B8.bys nonce).append (fourL_B8 m))])
      have hts : Hid (t.size = 16) := Lib.hid (by rw [← bys_length, htb.out, List.length_append, bys_length, hNS.out]; rfl)
      have hadd1 : ∀ W, (Op.stringOp .add nonce (mkS (fourL m))).run Tryz.prog W = .ok (.string t) W := fun W => by
        rw [run_string_add_sum W _ _ (by rw [hNS.out, mkS_size]; show 12 + 4 ≤ _; decide), hT]
      obtain ⟨S, hS⟩ : ∃ S, cip (bys t) = S := ⟨_, rfl⟩
      have hSl : Hid (S.length = 16) := Lib.hid (by rw [← hS]; exact HCL.out _)
      have hS8 : Hid (B8 S) := Lib.hid (by rw [← hS]; exact HC8.out _)
      have HPR : Hid (∀ W : World, Rdy W → Calls Tryz.prog 62 #[.agg #[kx, ky], .string t] W fun e w' => e = .returned (.tuple #[.string (mkS S), .int .i64 0]) ∧ Grows W w') := Lib.hid fun W hW => by
        have := HPP.out W t hW hts.out
        rwa [hS] at this
      obtain ⟨E, hE⟩ : ∃ E, text.extract p en = E := ⟨_, rfl⟩
      have hEb : Hid (bys E = (x.drop (16 * c)).take 16) := Lib.hid (by
        rw [← hE, bys_extract, HX.out, HPc.out]
        have hl : (x.drop p).length = n - p := by rw [List.length_drop, hxl.out]
        rcases hcase with ⟨h1, h2⟩ | ⟨h1, h2⟩
        · rw [List.take_of_length_le (by omega), List.take_of_length_le (by omega)]
        · rw [show en - p = 16 by omega])
      have hEs : Hid (E.size ≤ 16) := Lib.hid (by rw [← bys_length, hEb.out, List.length_take]; omega)
      have hXR := Lib.hid (xor_any E (mkS S) (by rw [mkS_size, hSl.out]; exact hEs.out) (by have := hEs.out; omega))
      have hPF : Hid (xorL (bys E) (bys (mkS S)) = pieceF cip (bys nonce) x c) := Lib.hid (by rw [pieceF, hEb.out, bys_mkS S hS8.out, ← hS, htb.out, hm])
      rw [hPF.out] at hXR
      obtain ⟨F, hF⟩ : ∃ F, pieceF cip (bys nonce) x c = F := ⟨_, rfl⟩
      rw [hF] at hXR
      have hFl : Hid (F.length ≤ 16) := Lib.hid (by rw [← hF, ← hPF.out, xorL_length, bys_length]; exact hEs.out)
      have hO2 : Hid (bodyS cip (bys nonce) x (c + 1) = O ++ F) := Lib.hid (by rw [bodyS_succ, hO.out, hF])
      have hadd2 : ∀ W, (Op.stringOp .add (mkS O) (mkS F)).run Tryz.prog W = .ok (.string (mkS (O ++ F))) W := fun W => by
        rw [run_string_add_sum W _ _ (by rw [mkS_size, mkS_size]; have := hOl.out; have := hFl.out; have := HPc.out; omega), mkS_append]
      obtain ⟨O2, hO2e⟩ : ∃ O2, O ++ F = O2 := ⟨_, rfl⟩
      rw [hO2e] at hadd2 hO2
      have hO2l : Hid (O2.length ≤ 16 * (c + 1)) := Lib.hid (by rw [← hO2e, List.length_append]; have := hOl.out; have := hFl.out; omega)
      have HB1 := Lib.hid fun (g' : List Obj) (e : Nat) => big_call (L := fun g' => Obj.cells #[kx, ky] 76 (0, 0) :: (g ++ g')) (g := g') (e := e) (w := w) (l0 := Obj.cells #[kx, ky] 76 (0, 0) :: g) (fun _ _ => by simp) (fun _ => rfl) (H16.out _)
      have HB2 := Lib.hid fun (g' : List Obj) (e : Nat) => big_call (L := fun g' => Obj.cells #[kx, ky] 76 (0, 0) :: (g ++ g')) (g := g') (e := e) (w := w) (l0 := Obj.cells #[kx, ky] 76 (0, 0) :: g) (fun _ _ => by simp) (fun _ => rfl) (HPR.out _ (HRR.out _ _ HRD.out (Grows.of _ _ _)))
      clear hm hT hS hF hO2e hmb
      have key : True := trivial
      have HP2 := Lib.hid hp2
      rcases hcase with ⟨hc1, hen3⟩ | ⟨hc1, hen3⟩
      · have hc1i : (n : Int) < (p2 : Int) := by omega
        subst hen3
        clear hp2 hen hepi
        have hepi : (p : Int) ≤ (en : Int) := by omega
        go_wp2
        refine wp_region_big_all (by kernel_rfl) (by kernel_rfl) ?_
        repeat (go_big_quiet_step ((intro _; first | (with_reducible exact HB1.out _ _) | (with_reducible exact HB2.out _ _))))
        refine wpQuiet_nil ?_
        intro gR eR
        go_wp2_with fail
        refine (hXR.out _).mono ?_
        rintro e w' ⟨rfl, g2, d2, rfl⟩
        rw [Wd_wd]
        go_wp2
        go_roundw
        case rel => exact ⟨c + 1, p2, _, O2, _, hcN, by have := HPc.out; have := HP2.out; omega, by go_num, rfl, hO2, hO2l, rfl⟩
        case measure => have := HP2.out; simp [intOf]; omega
      · have hc1i : ¬ (n : Int) < (p2 : Int) := by omega
        subst hen3
        clear hp2 hen
        go_wp2
        refine wp_region_big_all (by kernel_rfl) (by kernel_rfl) ?_
        repeat (go_big_quiet_step ((intro _; first | (with_reducible exact HB1.out _ _) | (with_reducible exact HB2.out _ _))))
        refine wpQuiet_nil ?_
        intro gR eR
        go_wp2_with fail
        refine (hXR.out _).mono ?_
        rintro e w' ⟨rfl, g2, d2, rfl⟩
        rw [Wd_wd]
        go_wp2
        go_roundw
        case rel => exact ⟨c + 1, en, _, O2, _, hcN, by have := HPc.out; have := HP2.out; omega, by go_num, rfl, hO2, hO2l, rfl⟩
        case measure => have := HP2.out; simp [intOf]; omega
    · have hpi : ¬ (p : Int) < n := by omega
      obtain rfl : c = N := by have := hNn.out; have := HPc.out; omega
      go_wp2
      go_ret
      exact ⟨by rw [hNB.out, hO.out]; rfl, Grows.of _ _ _⟩
end Go.Proofs.YtfamoakicgmfgaaGreat
namespace Go.Own
open Go.RowKit
/-- What is hashed. -/
def hashedL (bes b : List Nat) : List Nat := wholeL bes ++ wholeL b ++ fourL 0 ++ fourL (8 * bes.length) ++ fourL 0 ++ fourL (8 * b.length)
/-- The hash, so many blocks of it. -/
def hashS (h all : List Nat) : Nat → List Nat
  | 0 => rep 16
  | c + 1 => prodL (xorL (hashS h all c) ((all.drop (16 * c)).take 16)) h
/-- The tag. -/
def tagG (cip : List Nat → List Nat) (nonce bes b : List Nat) : List Nat := xorL (hashS (cip (rep 16)) (hashedL bes b) ((hashedL bes b).length / 16)) (cip (nonce ++ fourL 1))
theorem wholeL_length (x : List Nat) : (wholeL x).length = x.length + fillN x.length := by rw [wholeL, List.length_append, rep_length]
theorem hashedL_length (bes b : List Nat) : (hashedL bes b).length % 16 = 0 ∧ (hashedL bes b).length ≤ bes.length + b.length + 48 := by
  unfold hashedL
  simp only [List.length_append, wholeL_length]
  show (bes.length + fillN bes.length + (b.length + fillN b.length) + 4 + 4 + 4 + 4) % 16 = 0 ∧ bes.length + fillN bes.length + (b.length + fillN b.length) + 4 + 4 + 4 + 4 ≤ bes.length + b.length + 48
  unfold fillN
  omega
theorem hashS_length (h all : List Nat) : ∀ c, (hashS h all c).length = 16
  | 0 => rep_length 16
  | _ + 1 => prodL_length _ _
theorem hashS_B8 (h all : List Nat) : ∀ c, B8 (hashS h all c)
  | 0 => B8.rep 16
  | _ + 1 => prodL_B8 _ _
theorem B8.whole {x : List Nat} (h : B8 x) : B8 (wholeL x) := h.append (B8.rep _)
end Go.Own
namespace Go.Proofs.YtfamoakicgmfgaaGreat
open Go.RowKit Go.Own
attribute [local go_sem] ag5t cs5t sz5t isa5t ag44t ldX32 bxN_two
attribute [-go_sem] run_string_add_if
/-- Two texts, one behind the other. -/
theorem add_mkS (a b : List Nat) (h : a.length + b.length ≤ 1000000000) (W : World) : (Op.stringOp .add (mkS a) (mkS b)).run Tryz.prog W = .ok (.string (mkS (a ++ b))) W := by
  rw [run_string_add_sum W _ _ (by rw [mkS_size, mkS_size]; omega), mkS_append]
set_option maxRecDepth 100000 in
set_option maxHeartbeats 4000000 in
theorem tag_any (kx ky : Value) (cip : List Nat → List Nat) (hcl : ∀ t, (cip t).length = 16) (hc8 : ∀ t, B8 (cip t)) (Rdy : World → Prop) (hrdy : ∀ w w' : World, Rdy w → Grows w w' → Rdy w')
    (HP : ∀ (W : World) (t : ByteArray), Rdy W → t.size = 16 → Calls Tryz.prog 62 #[.agg #[kx, ky], .string t] W fun e w' => e = .returned (.tuple #[.string (mkS (cip (bys t))), .int .i64 0]) ∧ Grows W w')
    (nonce bes bo : ByteArray) (hn : nonce.size = 12) (hb1 : bes.size ≤ 1000000) (hb2 : bo.size ≤ 1000000) (w : World) (hR : Rdy w) :
    Calls Tryz.prog 40 #[.agg #[kx, ky], .string nonce, .string bes, .string bo] w fun e w' => e = .returned (.string (mkS (tagG cip (bys nonce) (bys bes) (bys bo)))) ∧ Grows w w' := by
  have hmk : (Tryz.prog.info? 5).map (fun i => (i.zero, i.size, i.bytes)) = some (some (.int .u8 0), 1, 1) := by kernel_rfl
  have hz5 : zeroOf Tryz.prog 5 = .int .u8 0 := by kernel_rfl
  obtain ⟨x, hx⟩ : ∃ x, bys bes = x := ⟨_, rfl⟩
  obtain ⟨y, hy⟩ : ∃ y, bys bo = y := ⟨_, rfl⟩
  have hxl : Hid (x.length ≤ 1000000) := Lib.hid (by rw [← hx, bys_length]; exact hb1)
  have hyl : Hid (y.length ≤ 1000000) := Lib.hid (by rw [← hy, bys_length]; exact hb2)
  obtain ⟨nx, hnx⟩ : ∃ n, 8 * bes.size = n := ⟨_, rfl⟩
  obtain ⟨ny, hny⟩ : ∃ n, 8 * bo.size = n := ⟨_, rfl⟩
  have hnxi : 8 * (bes.size : Int) = nx := by omega
  have hnyi : 8 * (bo.size : Int) = ny := by omega
  have hnxb : (nx : Int) ≤ 8000000 := by omega
  have hnyb : (ny : Int) ≤ 8000000 := by omega
  obtain ⟨h, hh⟩ : ∃ h, cip (rep 16) = h := ⟨_, rfl⟩
  have hhl : Hid (h.length = 16) := Lib.hid (by rw [← hh]; exact hcl _)
  have hh8 : Hid (B8 h) := Lib.hid (by rw [← hh]; exact hc8 _)
  have H0 : ∀ W, Rdy W → Calls Tryz.prog 62 #[.agg #[kx, ky], .string (mkS (rep 16))] W fun e w' => e = .returned (.tuple #[.string (mkS h), .int .i64 0]) ∧ Grows W w' := fun W hW => by
    have := HP W (mkS (rep 16)) hW (by rw [mkS_size, rep_length])
    rwa [bys_mkS _ (B8.rep 16), hh] at this
  have HH0 := Lib.hid H0
  obtain ⟨t, hT⟩ : ∃ t, nonce ++ mkS (fourL 1) = t := ⟨_, rfl⟩
  have htb : bys t = bys nonce ++ fourL 1 := by rw [← hT, cat_bys, bys_mkS _ (fourL_B8 1), bys_mkS _ ((B8.bys nonce).append (fourL_B8 1))]
  have hts : t.size = 16 := by rw [← bys_length, htb, List.length_append, bys_length, hn]; rfl
  have hadd1 : ∀ W, (Op.stringOp .add nonce (mkS (fourL 1))).run Tryz.prog W = .ok (.string t) W := fun W => by
    rw [run_string_add_sum W _ _ (by rw [hn, mkS_size]; show 12 + 4 ≤ _; decide), hT]
  obtain ⟨s1, hs1⟩ : ∃ s1, cip (bys t) = s1 := ⟨_, rfl⟩
  have hs1l : Hid (s1.length = 16) := Lib.hid (by rw [← hs1]; exact hcl _)
  have hs18 : Hid (B8 s1) := Lib.hid (by rw [← hs1]; exact hc8 _)
  have H1 : ∀ W, Rdy W → Calls Tryz.prog 62 #[.agg #[kx, ky], .string t] W fun e w' => e = .returned (.tuple #[.string (mkS s1), .int .i64 0]) ∧ Grows W w' := fun W hW => by
    have := HP W t hW hts
    rwa [hs1] at this
  have HH1 := Lib.hid H1
  have HW1 := Lib.hid (whole_any bes (by omega))
  have HW2 := Lib.hid (whole_any bo (by omega))
  rw [hx] at HW1
  rw [hy] at HW2
  have HF0 : Hid (∀ W : World, Calls Tryz.prog 63 #[.int .i64 0] W fun e w' => e = .returned (.string (mkS (fourL 0))) ∧ Grows W w') := Lib.hid fun W => four_any 0 (by decide) W
  have HF1 : Hid (∀ W : World, Calls Tryz.prog 63 #[.int .i64 1] W fun e w' => e = .returned (.string (mkS (fourL 1))) ∧ Grows W w') := Lib.hid fun W => four_any 1 (by decide) W
  have HFx := Lib.hid (four_any nx (by omega))
  have HFy := Lib.hid (four_any ny (by omega))
  have hwx : Hid ((wholeL x).length ≤ 1000016) := Lib.hid (by rw [wholeL_length]; have := hxl.out; unfold fillN; omega)
  have hwy : Hid ((wholeL y).length ≤ 1000016) := Lib.hid (by rw [wholeL_length]; have := hyl.out; unfold fillN; omega)
  obtain ⟨A, hA⟩ : ∃ A, hashedL x y = A := ⟨_, rfl⟩
  have hAe : Hid (wholeL x ++ wholeL y ++ fourL 0 ++ fourL nx ++ fourL 0 ++ fourL ny = A) := Lib.hid (by
    rw [← hA, hashedL, ← hnx, ← hny, ← bys_length bes, ← bys_length bo, hx, hy])
  obtain ⟨N, hN⟩ : ∃ N, A.length / 16 = N := ⟨_, rfl⟩
  have hAl : Hid (A.length = 16 * N ∧ A.length ≤ 2000048) := Lib.hid (by
    have := hashedL_length x y
    rw [hA] at this
    have h1 := hxl.out
    have h2 := hyl.out
    omega)
  have hA8 : Hid (B8 A) := Lib.hid (by
    rw [← hA, hashedL]
    have bx : B8 x := by rw [← hx]; exact B8.bys bes
    have by' : B8 y := by rw [← hy]; exact B8.bys bo
    exact (((((B8.whole bx).append (B8.whole by')).append (fourL_B8 _)).append (fourL_B8 _)).append (fourL_B8 _)).append (fourL_B8 _))
  have hTG : Hid (tagG cip (bys nonce) (bys bes) (bys bo) = xorL (hashS h A N) s1) := Lib.hid (by
    rw [tagG, hx, hy, hA, hN, hh, ← hs1, htb])
  have l4 : ∀ n, (fourL n).length = 4 := fun _ => rfl
  have L4 := Lib.hid l4
  have a1 : ∀ W, (Op.stringOp .add (mkS (wholeL x)) (mkS (wholeL y))).run Tryz.prog W = .ok (.string (mkS (wholeL x ++ wholeL y))) W := fun W => add_mkS _ _ (by have := hwx.out; have := hwy.out; omega) W
  have a2 : ∀ W, (Op.stringOp .add (mkS (wholeL x ++ wholeL y)) (mkS (fourL 0))).run Tryz.prog W = .ok (.string (mkS (wholeL x ++ wholeL y ++ fourL 0))) W := fun W => add_mkS _ _ (by simp only [List.length_append, L4.out]; have := hwx.out; have := hwy.out; omega) W
  have a3 : ∀ W, (Op.stringOp .add (mkS (wholeL x ++ wholeL y ++ fourL 0)) (mkS (fourL nx))).run Tryz.prog W = .ok (.string (mkS (wholeL x ++ wholeL y ++ fourL 0 ++ fourL nx))) W := fun W => add_mkS _ _ (by simp only [List.length_append, L4.out]; have := hwx.out; have := hwy.out; omega) W
  have a4 : ∀ W, (Op.stringOp .add (mkS (wholeL x ++ wholeL y ++ fourL 0 ++ fourL nx)) (mkS (fourL 0))).run Tryz.prog W = .ok (.string (mkS (wholeL x ++ wholeL y ++ fourL 0 ++ fourL nx ++ fourL 0))) W := fun W => add_mkS _ _ (by simp only [List.length_append, L4.out]; have := hwx.out; have := hwy.out; omega) W
  have a5 : ∀ W, (Op.stringOp .add (mkS (wholeL x ++ wholeL y ++ fourL 0 ++ fourL nx ++ fourL 0)) (mkS (fourL ny))).run Tryz.prog W = .ok (.string (mkS A)) W := fun W => by
    rw [← hAe.out]; exact add_mkS _ _ (by simp only [List.length_append, L4.out]; have := hwx.out; have := hwy.out; omega) W
  generalize wholeL x ++ wholeL y ++ fourL 0 ++ fourL nx ++ fourL 0 = s5 at *
  generalize wholeL x ++ wholeL y ++ fourL 0 ++ fourL nx = s4 at *
  generalize wholeL x ++ wholeL y ++ fourL 0 = s3 at *
  generalize wholeL x ++ wholeL y = s2 at *
  have HRD := Lib.hid hR
  have HRR := Lib.hid hrdy
  have hnb : Hid (N ≤ 125003) := Lib.hid (by have := hAl.out; omega)
  clear hh hT htb hts hs1 H0 H1 hx hy hA hN hcl hc8 hrdy HP hR hb1 hb2 hnx hny hn l4
  refine calls_wd ?_
  go_enter Tryz.func40, Tryz.ntmps40
  go_wp2
  go_region_law (go_simp; go_at_call 62; refine (HH0.out _ (HRR.out _ _ HRD.out (Grows.of _ _ _))).mono ?_; rintro e w' ⟨rfl, g, d, rfl⟩; rw [Wd_wd])
  all_goals
    go_wp2_with fail
    refine (HW1.out _).mono ?_
    rintro e w' ⟨rfl, g2, d2, rfl⟩
    rw [Wd_wd]
    go_wp2_with fail
    refine (HW2.out _).mono ?_
    rintro e w' ⟨rfl, g3, d3, rfl⟩
    rw [Wd_wd]
    go_wp2_with fail
    refine (HF0.out _).mono ?_
    rintro e w' ⟨rfl, g4, d4, rfl⟩
    rw [Wd_wd]
    go_wp2_with fail
    refine (HFx.out _).mono ?_
    rintro e w' ⟨rfl, g5, d5, rfl⟩
    rw [Wd_wd]
    go_wp2_with fail
    refine (HF0.out _).mono ?_
    rintro e w' ⟨rfl, g6, d6, rfl⟩
    rw [Wd_wd]
    go_wp2_with fail
    refine (HFy.out _).mono ?_
    rintro e w' ⟨rfl, g7, d7, rfl⟩
    rw [Wd_wd]
    go_wp2
    go_loopw [12, 13] (fun o i wr => ∃ (c p d : Nat) (Y : List Nat) (g : List Obj), c ≤ N ∧ 16 * c = p ∧ i = .int .i64 p ∧ o = .string (mkS Y) ∧ Hid (hashS h A c = Y) ∧ wr = Wd w (.cells #[kx, ky] 76 (0, 0) :: g) d) (fun _ i _ => 16 * N + 16 - (intOf i).toNat)
    case atStart => exact ⟨0, 0, _, rep 16, _, by omega, rfl, rfl, rfl, Lib.hid rfl, rfl⟩
    case round =>
      obtain ⟨c, p, d, Y, g, hc, hp, rfl, rfl, hY, rfl⟩ := hrel
      have HPc := Lib.hid hp
      have hAs : (mkS A).size = 16 * N := by rw [mkS_size]; exact hAl.out.1
      have hYl : Hid (Y.length = 16) := Lib.hid (by rw [← hY.out]; exact hashS_length _ _ _)
      have hY8 : Hid (B8 Y) := Lib.hid (by rw [← hY.out]; exact hashS_B8 _ _ _)
      obtain ⟨M, hM⟩ : ∃ M, 16 * N = M := ⟨_, rfl⟩
      have HM := Lib.hid hM
      rw [hM] at hAs
      clear hp hM
      by_cases hlt : p < M
      · have hpi : (p : Int) < M := by omega
        obtain ⟨p2, hp2⟩ : ∃ p2, p + 16 = p2 := ⟨_, rfl⟩
        have hp2i : (p : Int) + 16 = p2 := by omega
        have hp2M : p2 ≤ M := by have := HPc.out; have := HM.out; omega
        have hpp2 : (p : Int) ≤ (p2 : Int) := by omega
        have hp2Mi : (p2 : Int) ≤ (M : Int) := by omega
        have hcN : c < N := by have := HPc.out; have := HM.out; omega
        have HP2 := Lib.hid hp2
        have hMb : (M : Int) ≤ 2000048 := by have := HM.out; have := hAl.out.2; have := hAl.out.1; omega
        obtain ⟨E, hE⟩ : ∃ E, (mkS A).extract p p2 = E := ⟨_, rfl⟩
        have hEb : Hid (bys E = (A.drop (16 * c)).take 16) := Lib.hid (by
          rw [← hE, bys_extract, bys_mkS A hA8.out, HPc.out, ← HP2.out, Nat.add_sub_cancel_left])
        have hEs : Hid (E.size = 16) := Lib.hid (by
          rw [← bys_length, hEb.out, List.length_take, List.length_drop]
          have := hAl.out.1
          omega)
        have hXR := Lib.hid (xor_any (mkS Y) E (by rw [mkS_size, hYl.out, hEs.out]; exact Nat.le_refl _) (by rw [mkS_size, hYl.out]; decide))
        obtain ⟨Z, hZ⟩ : ∃ Z, xorL (bys (mkS Y)) (bys E) = Z := ⟨_, rfl⟩
        rw [hZ] at hXR
        have hZl : Hid (Z.length = 16) := Lib.hid (by rw [← hZ, xorL_length, bys_mkS Y hY8.out]; exact hYl.out)
        have hZ8 : Hid (B8 Z) := Lib.hid (by rw [← hZ]; exact xorL_B8 _ _)
        have hPR := Lib.hid (product_any (mkS Z) (mkS h) (by rw [mkS_size]; exact hZl.out) (by rw [mkS_size]; exact hhl.out))
        have hNX : Hid (prodL (bys (mkS Z)) (bys (mkS h)) = hashS h A (c + 1)) := Lib.hid (by
          rw [bys_mkS Z hZ8.out, bys_mkS h hh8.out, hashS, ← hZ, bys_mkS Y hY8.out, hY.out, hEb.out])
        rw [hNX.out] at hPR
        obtain ⟨Y2, hY2⟩ : ∃ Y2, hashS h A (c + 1) = Y2 := ⟨_, rfl⟩
        rw [hY2] at hPR
        have HY2 := Lib.hid hY2
        clear hY2 hZ hNX hp2
        go_wp2_with fail
        refine (hXR.out _).mono ?_
        rintro e w' ⟨rfl, g8, d8, rfl⟩
        rw [Wd_wd]
        go_wp2_with fail
        refine (hPR.out _).mono ?_
        rintro e w' ⟨rfl, g9, d9, rfl⟩
        rw [Wd_wd]
        go_wp2
        go_roundw
        case rel => exact ⟨c + 1, p2, _, Y2, _, hcN, by have := HPc.out; have := HP2.out; omega, by go_num, rfl, HY2, rfl⟩
        case measure => have := HP2.out; have := HM.out; simp [intOf]; omega
      · have hpi : ¬ (p : Int) < M := by omega
        obtain rfl : c = N := by have := HPc.out; have := HM.out; omega
        have hXR := Lib.hid (xor_any (mkS Y) (mkS s1) (by rw [mkS_size, hYl.out, mkS_size, hs1l.out]; exact Nat.le_refl _) (by rw [mkS_size, hYl.out]; decide))
        rw [bys_mkS Y hY8.out, bys_mkS s1 hs18.out, ← hY.out, ← hTG.out] at hXR
        have HB1 := Lib.hid fun (g' : List Obj) (e : Nat) => big_call (L := fun g' => Obj.cells #[kx, ky] 76 (0, 0) :: (g ++ g')) (g := g') (e := e) (w := w) (l0 := Obj.cells #[kx, ky] 76 (0, 0) :: g) (fun _ _ => by simp) (fun _ => rfl) (HF1.out _)
        have HB2 := Lib.hid fun (g' : List Obj) (e : Nat) => big_call (L := fun g' => Obj.cells #[kx, ky] 76 (0, 0) :: (g ++ g')) (g := g') (e := e) (w := w) (l0 := Obj.cells #[kx, ky] 76 (0, 0) :: g) (fun _ _ => by simp) (fun _ => rfl) (HH1.out _ (HRR.out _ _ HRD.out (Grows.of _ _ _)))
        go_wp2
        refine wp_region_big_all (by kernel_rfl) (by kernel_rfl) ?_
        repeat (go_big_quiet_step ((intro _; first | (with_reducible exact HB1.out _ _) | (with_reducible exact HB2.out _ _))))
        refine wpQuiet_nil ?_
        intro gR eR
        go_wp2_with fail
        rw [hY.out] at hXR
        refine (hXR.out _).mono ?_
        rintro e w' ⟨rfl, g9, d9, rfl⟩
        rw [Wd_wd]
        go_wp2
        go_ret
        exact ⟨rfl, Grows.of _ _ _⟩
end Go.Proofs.YtfamoakicgmfgaaGreat
namespace Go.Own
open Go.RowKit
theorem alX_twot {P : Program} {T : TypeId} {w : World} {l : List Obj} {d : Nat} {a b : Value} (h : zeroOf P T = .agg #[a, b]) :
    alX P T (.agg #[a, b]) w l d = .ok (.pointer (some ⟨w.heap.size + l.length, 0, none⟩)) (Wd w (l ++ [.cells #[a, b] T (0, 0)]) d) := by
  simp [alX, alN, Instr.alloc, run_zeroOf h, newVar, newRow, Value.cells, Wd_size, Wd_alloc]
theorem stX_twot {P : Program} {T : TypeId} {w : World} {l : List Obj} {d i : Nat} {a b a' b' : Value} {t : TypeId}
    (h1 : (sizeOf T).run P (Wd w l d) = .ok 2 (Wd w l d)) (h2 : l[i]? = some (.cells #[a, b] t (0, 0))) (ha : a'.oneCell' = true) (hb : b'.oneCell' = true) :
    stX P T 2 (some (.cells #[a, b] t (0, 0))) w l d i 0 (.agg #[a', b']) = .ok () (Wd w (l.set i (.cells #[a', b'] t (0, 0))) d) := by
  have hr := run_storeCells_at P (w.heap.size + i) 0 t [a', b'] 0 #[a, b] (Wd w l d) (by rw [Wd_at]; exact h2) (by simp) (by simp [ha, hb])
  rw [Nat.add_zero] at hr
  simp only [List.take_zero, List.nil_append, List.length_cons, List.length_nil, Nat.zero_add, List.drop_of_length_le (show [a, b].length ≤ 1 + 1 by simp), List.append_nil] at hr
  rw [Wd_setRow _ _ _ _ _ _ _ _ h2] at hr
  simp [stX, stN, Instr.storeAt, Instr.sureAddr, storeVar, Value.cells, h1, hr]
theorem stX_sl {P : Program} {T : TypeId} {w : World} {l : List Obj} {d i : Nat} {a b : Value} {p q : Option Addr} {n c m e : Nat} {t : TypeId}
    (h1 : (sizeOf T).run P (Wd w l d) = .ok 2 (Wd w l d)) (h2 : l[i]? = some (.cells #[a, b] t (0, 0))) :
    stX P T 2 (some (.cells #[a, b] t (0, 0))) w l d i 0 (.agg #[.slice p n c, .slice q m e]) = .ok () (Wd w (l.set i (.cells #[.slice p n c, .slice q m e] t (0, 0))) d) := stX_twot h1 h2 rfl rfl
theorem bodyS_length (cip : List Nat → List Nat) (nonce x : List Nat) : ∀ c, (bodyS cip nonce x c).length = min (16 * c) x.length
  | 0 => by simp [bodyS]
  | c + 1 => by
    rw [bodyS_succ, List.length_append, bodyS_length cip nonce x c, pieceF, xorL_length, List.length_take, List.length_drop]
    omega
theorem bodyL_length (cip : List Nat → List Nat) (nonce x : List Nat) : (bodyL cip nonce x).length = x.length := by
  rw [bodyL, bodyS_length]; omega
theorem bodyL_B8 (cip : List Nat → List Nat) (nonce x : List Nat) : B8 (bodyL cip nonce x) := fun n hn => by
  unfold bodyL bodyS at hn
  obtain ⟨c, _, h⟩ := List.mem_flatMap.1 hn
  exact xorL_B8 _ _ n h
theorem tagG_length (cip : List Nat → List Nat) (nonce bes b : List Nat) : (tagG cip nonce bes b).length = 16 := by
  rw [tagG, xorL_length, hashS_length]
end Go.Own
namespace Go.Proofs.YtfamoakicgmfgaaGreat
open Go.RowKit Go.Own
theorem sz44t (w : World) : (sizeOf 76).run Tryz.prog w = .ok 2 w := by kernel_rfl
theorem cs44t : Tryz.prog.cellsOf 76 = 2 := by kernel_rfl
theorem z44t : zeroOf Tryz.prog 76 = .agg #[.slice none 0 0, .slice none 0 0] := by kernel_rfl
attribute [local go_sem] ag5t cs5t sz5t isa5t ag44t sz44t cs44t z44t ldX32 alX_twot stX_sl
attribute [-go_sem] run_string_add_if
/-- What is asked of the cipher. -/
structure Cip (cip : List Nat → List Nat → List Nat) (Rdy : List Nat → Value → Value → World → Prop) : Prop where
  len : ∀ k t, (cip k t).length = 16
  b8 : ∀ k t, B8 (cip k t)
  keep : ∀ k x y (w w' : World), Rdy k x y w → Grows w w' → Rdy k x y w'
  new : ∀ (key : ByteArray) (W : World), key.size = 32 → Calls Tryz.prog 38 #[.string key] W fun e w' => ∃ p n c q m d, e = .returned (.tuple #[.agg #[.slice p n c, .slice q m d], .int .i64 0]) ∧ Grows W w' ∧ Rdy (bys key) (.slice p n c) (.slice q m d) w'
  bad : ∀ (key : ByteArray) (W : World), key.size ≠ 32 → Calls Tryz.prog 38 #[.string key] W fun e w' => e = .returned (.tuple #[.agg #[.slice none 0 0, .slice none 0 0], .int .i64 2]) ∧ Grows W w'
  press : ∀ k x y (W : World) (t : ByteArray), Rdy k x y W → t.size = 16 → Calls Tryz.prog 62 #[.agg #[x, y], .string t] W fun e w' => e = .returned (.tuple #[.string (mkS (cip k (bys t))), .int .i64 0]) ∧ Grows W w'
section
variable {cip : List Nat → List Nat → List Nat} {Rdy : List Nat → Value → Value → World → Prop}
set_option maxRecDepth 100000 in
set_option maxHeartbeats 1000000 in
theorem seal_key (H : Cip cip Rdy) (key nonce bes text : ByteArray) (h : key.size ≠ 32) (w : World) :
    Calls Tryz.prog 19 #[.string key, .string nonce, .string bes, .string text] w fun e w' => e = .returned (.tuple #[.string (mkS []), .int .i64 2]) ∧ Grows w w' := by
  have HB := Lib.hid fun W => H.bad key W h
  clear H h
  refine calls_wd ?_
  go_enter Tryz.func19, Tryz.ntmps19
  go_wp2_with fail
  refine (HB.out _).mono ?_
  rintro e w' ⟨rfl, g, d, rfl⟩
  rw [Wd_wd]
  go_wp2
  go_ret2
  exact ⟨rfl, Grows.of _ _ _⟩
set_option maxRecDepth 100000 in
set_option maxHeartbeats 1000000 in
theorem seal_bad (H : Cip cip Rdy) (key nonce bes text : ByteArray) (h : key.size = 32) (h2 : nonce.size ≠ 12 ∨ 65536 < bes.size ∨ 65536 < text.size) (w : World) :
    Calls Tryz.prog 19 #[.string key, .string nonce, .string bes, .string text] w fun e w' => e = .returned (.tuple #[.string (mkS []), .int .i64 (if nonce.size ≠ 12 then 2 else 3)]) ∧ Grows w w' := by
  have h' : (¬ (nonce.size : Int) = 12 ∧ nonce.size ≠ 12) ∨ ((nonce.size : Int) = 12 ∧ nonce.size = 12 ∧ 65536 < (bes.size : Int)) ∨ ((nonce.size : Int) = 12 ∧ nonce.size = 12 ∧ ¬ 65536 < (bes.size : Int) ∧ 65536 < (text.size : Int)) := by omega
  have HN := Lib.hid fun W => H.new key W h
  clear H h h2
  refine calls_wd ?_
  rcases h' with ⟨z, hz⟩ | ⟨z, hz, z2⟩ | ⟨z, hz, z2, z3⟩
  · rw [if_pos hz]
    go_enter Tryz.func19, Tryz.ntmps19
    go_wp2_with fail
    refine (HN.out _).mono ?_
    rintro e w' ⟨p, n, c, q, m, dd, rfl, ⟨g, d, rfl⟩, _⟩
    rw [Wd_wd]
    go_wp2
    go_ret2
    exact ⟨rfl, Grows.of _ _ _⟩
  all_goals
    rw [if_neg (by rw [hz]; decide)]
    go_enter Tryz.func19, Tryz.ntmps19
    go_wp2_with fail
    refine (HN.out _).mono ?_
    rintro e w' ⟨p, n, c, q, m, dd, rfl, ⟨g, d, rfl⟩, _⟩
    rw [Wd_wd]
    go_wp2
    go_ret2
    exact ⟨rfl, Grows.of _ _ _⟩
/-- What is sealed. -/
def sealL (cip : List Nat → List Nat) (nonce bes x : List Nat) : List Nat := bodyL cip nonce x ++ tagG cip nonce bes (bodyL cip nonce x)
set_option maxRecDepth 100000 in
set_option maxHeartbeats 2000000 in
theorem seal_ok (H : Cip cip Rdy) (key nonce bes text : ByteArray) (h : key.size = 32) (hn : nonce.size = 12) (hb : bes.size ≤ 65536) (ht : text.size ≤ 65536) (w : World) :
    Calls Tryz.prog 19 #[.string key, .string nonce, .string bes, .string text] w fun e w' => e = .returned (.tuple #[.string (mkS (sealL (cip (bys key)) (bys nonce) (bys bes) (bys text))), .int .i64 0]) ∧ Grows w w' := by
  have hni : (nonce.size : Int) = 12 := by omega
  have z2 : ¬ 65536 < (bes.size : Int) := by omega
  have z3 : ¬ 65536 < (text.size : Int) := by omega
  have HN := Lib.hid fun W => H.new key W h
  have HBODY : Hid (∀ x y (W : World), Rdy (bys key) x y W → Calls Tryz.prog 39 #[.agg #[x, y], .string nonce, .string text] W fun e w' => e = .returned (.string (mkS (bodyL (cip (bys key)) (bys nonce) (bys text)))) ∧ Grows W w') := Lib.hid fun x y W hW =>
    body_any x y (cip (bys key)) (H.len _) (H.b8 _) (Rdy (bys key) x y) (fun w w' => H.keep _ _ _ w w') (fun W t hW ht => H.press _ _ _ W t hW ht) nonce text hn (by omega) W hW
  have HTAG : Hid (∀ x y (W : World), Rdy (bys key) x y W → Calls Tryz.prog 40 #[.agg #[x, y], .string nonce, .string bes, .string (mkS (bodyL (cip (bys key)) (bys nonce) (bys text)))] W fun e w' => e = .returned (.string (mkS (tagG (cip (bys key)) (bys nonce) (bys bes) (bodyL (cip (bys key)) (bys nonce) (bys text))))) ∧ Grows W w') := Lib.hid fun x y W hW => by
    have := tag_any x y (cip (bys key)) (H.len _) (H.b8 _) (Rdy (bys key) x y) (fun w w' => H.keep _ _ _ w w') (fun W t hW ht => H.press _ _ _ W t hW ht) nonce bes (mkS (bodyL (cip (bys key)) (bys nonce) (bys text))) hn (by omega) (by rw [mkS_size, bodyL_length, bys_length]; omega) W hW
    rwa [bys_mkS _ (bodyL_B8 _ _ _)] at this
  have HK := Lib.hid H.keep
  have hS : Hid (sealL (cip (bys key)) (bys nonce) (bys bes) (bys text) = bodyL (cip (bys key)) (bys nonce) (bys text) ++ tagG (cip (bys key)) (bys nonce) (bys bes) (bodyL (cip (bys key)) (bys nonce) (bys text))) := rfl
  have hbl : (bodyL (cip (bys key)) (bys nonce) (bys text)).length ≤ 65536 := by rw [bodyL_length, bys_length]; exact ht
  have htl := tagG_length (cip (bys key)) (bys nonce) (bys bes) (bodyL (cip (bys key)) (bys nonce) (bys text))
  generalize bodyL (cip (bys key)) (bys nonce) (bys text) = B at *
  generalize tagG (cip (bys key)) (bys nonce) (bys bes) B = T at *
  have hadd : ∀ W, (Op.stringOp .add (mkS B) (mkS T)).run Tryz.prog W = .ok (.string (mkS (B ++ T))) W := fun W => add_mkS _ _ (by omega) W
  have HW := Lib.hid (Grows.refl w)
  clear H h hn hb ht hbl htl
  refine calls_wd ?_
  go_enter Tryz.func19, Tryz.ntmps19
  go_wp2_with fail
  refine (HN.out _).mono ?_
  rintro e w' ⟨p, n, c, q, m, dd, rfl, ⟨g, d, rfl⟩, hR⟩
  have HR := Lib.hid hR
  rw [Wd_wd] at HR ⊢
  clear hR
  go_wp2_with fail
  have HR2 := Lib.hid (HK.out _ _ _ _ _ HR.out (show Grows _ (Wd w (g ++ [Obj.cells #[Value.slice p n c, Value.slice q m dd] 76 (0, 0)]) d) from ⟨[Obj.cells #[Value.slice p n c, Value.slice q m dd] 76 (0, 0)], 0, by rw [Wd_wd]; simp⟩))
  refine (HBODY.out _ _ _ HR2.out).mono ?_
  rintro e w' ⟨rfl, g2, d2, rfl⟩
  have HR3 := Lib.hid (HK.out _ _ _ _ _ HR2.out (Grows.of _ g2 d2))
  rw [Wd_wd] at HR3 ⊢
  go_wp2_with fail
  refine (HTAG.out _ _ _ ?hr).mono ?_
  case hr => simpa using HR3.out
  rintro e w' ⟨rfl, g3, d3, rfl⟩
  rw [Wd_wd]
  go_wp2
  go_ret2
  exact ⟨by rw [hS.out]; rfl, Grows.of _ _ _⟩
set_option maxRecDepth 100000 in
set_option maxHeartbeats 1000000 in
theorem open_key (H : Cip cip Rdy) (key nonce bes sl : ByteArray) (h : key.size ≠ 32) (w : World) :
    Calls Tryz.prog 23 #[.string key, .string nonce, .string bes, .string sl] w fun e w' => e = .returned (.tuple #[.string (mkS []), .int .i64 2]) ∧ Grows w w' := by
  have HB := Lib.hid fun W => H.bad key W h
  clear H h
  refine calls_wd ?_
  go_enter Tryz.func23, Tryz.ntmps23
  go_wp2_with fail
  refine (HB.out _).mono ?_
  rintro e w' ⟨rfl, g, d, rfl⟩
  rw [Wd_wd]
  go_wp2
  go_ret2
  exact ⟨rfl, Grows.of _ _ _⟩
set_option maxRecDepth 100000 in
set_option maxHeartbeats 2000000 in
theorem open_bad (H : Cip cip Rdy) (key nonce bes sl : ByteArray) (h : key.size = 32) (h2 : nonce.size ≠ 12 ∨ sl.size < 16 ∨ 65536 < bes.size ∨ 65552 < sl.size) (hb : sl.size ≤ 1099511627776) (w : World) :
    Calls Tryz.prog 23 #[.string key, .string nonce, .string bes, .string sl] w fun e w' => e = .returned (.tuple #[.string (mkS []), .int .i64 (if nonce.size ≠ 12 ∨ sl.size < 16 then 2 else 3)]) ∧ Grows w w' := by
  obtain ⟨L, hL⟩ : ∃ L, sl.size - 16 = L := ⟨_, rfl⟩
  obtain ⟨B, hB⟩ : ∃ B, sl.extract 0 L = B := ⟨_, rfl⟩
  have hBs : L ≤ sl.size → B.size = L := fun h => by rw [← hB, ByteArray.size_extract]; omega
  have h' : (¬ (nonce.size : Int) = 12 ∧ nonce.size ≠ 12) ∨ ((nonce.size : Int) = 12 ∧ nonce.size = 12 ∧ (sl.size : Int) < 16 ∧ sl.size < 16) ∨ ((nonce.size : Int) = 12 ∧ nonce.size = 12 ∧ ¬ (sl.size : Int) < 16 ∧ ¬ sl.size < 16 ∧ 65536 < (bes.size : Int)) ∨ ((nonce.size : Int) = 12 ∧ nonce.size = 12 ∧ ¬ (sl.size : Int) < 16 ∧ ¬ sl.size < 16 ∧ ¬ 65536 < (bes.size : Int) ∧ 65536 < (L : Int)) := by omega
  have HN := Lib.hid fun W => H.new key W h
  clear H h h2
  refine calls_wd ?_
  rcases h' with ⟨z, hz⟩ | ⟨z, hz, z1, hz1⟩ | ⟨z, hz, z1, hz1, z2⟩ | ⟨z, hz, z1, hz1, z2, z3⟩
  · rw [if_pos (Or.inl hz)]
    clear hBs hL hB
    go_enter Tryz.func23, Tryz.ntmps23
    go_wp2_with fail
    refine (HN.out _).mono ?_
    rintro e w' ⟨p, n, c, q, m, dd, rfl, ⟨g, d, rfl⟩, _⟩
    rw [Wd_wd]
    go_wp2
    go_ret2
    exact ⟨rfl, Grows.of _ _ _⟩
  · rw [if_pos (Or.inr hz1)]
    clear hBs hL hB
    go_enter Tryz.func23, Tryz.ntmps23
    go_wp2_with fail
    refine (HN.out _).mono ?_
    rintro e w' ⟨p, n, c, q, m, dd, rfl, ⟨g, d, rfl⟩, _⟩
    rw [Wd_wd]
    go_wp2
    go_ret2
    exact ⟨rfl, Grows.of _ _ _⟩
  all_goals
    rw [if_neg (by omega)]
    have hLi : (sl.size : Int) - 16 = L := by omega
    have hLs : (L : Int) ≤ (sl.size : Int) := by omega
    have hBL := hBs (by omega)
    clear hBs hL
    go_enter Tryz.func23, Tryz.ntmps23
    go_wp2_with fail
    refine (HN.out _).mono ?_
    rintro e w' ⟨p, n, c, q, m, dd, rfl, ⟨g, d, rfl⟩, _⟩
    rw [Wd_wd]
    go_wp2
    go_ret2
    exact ⟨rfl, Grows.of _ _ _⟩
set_option maxRecDepth 100000 in
set_option maxHeartbeats 4000000 in
theorem open_any (H : Cip cip Rdy) (key nonce bes sl : ByteArray) (h : key.size = 32) (hn : nonce.size = 12) (hs : 16 ≤ sl.size) (hb : bes.size ≤ 65536) (hl : sl.size ≤ 65552) (w : World) :
    Calls Tryz.prog 23 #[.string key, .string nonce, .string bes, .string sl] w fun e w' => e = .returned (.tuple (
      if tagG (cip (bys key)) (bys nonce) (bys bes) ((bys sl).take (sl.size - 16)) = (bys sl).drop (sl.size - 16) then #[.string (mkS (bodyL (cip (bys key)) (bys nonce) ((bys sl).take (sl.size - 16)))), .int .i64 0] else #[.string (mkS []), .int .i64 8])) ∧ Grows w w' := by
  have hni : (nonce.size : Int) = 12 := by omega
  have z1 : ¬ (sl.size : Int) < 16 := by omega
  have z2 : ¬ 65536 < (bes.size : Int) := by omega
  obtain ⟨L, hL⟩ : ∃ L, sl.size - 16 = L := ⟨_, rfl⟩
  have hLi : (sl.size : Int) - 16 = L := by omega
  have hLs : (L : Int) ≤ (sl.size : Int) := by omega
  have hLn : L ≤ sl.size := by omega
  have z3 : ¬ 65536 < (L : Int) := by omega
  rw [hL]
  obtain ⟨B, hB⟩ : ∃ B, sl.extract 0 L = B := ⟨_, rfl⟩
  obtain ⟨E, hE⟩ : ∃ E, sl.extract L sl.size = E := ⟨_, rfl⟩
  have hBs : B.size = L := by rw [← hB, ByteArray.size_extract]; omega
  have hBb : bys B = (bys sl).take L := by rw [← hB, bys_extract]; simp
  have hEb : bys E = (bys sl).drop L := by rw [← hE, bys_extract, List.take_of_length_le (by rw [List.length_drop, bys_length]; exact Nat.le_refl _)]
  rw [← hBb, ← hEb]
  have HN := Lib.hid fun W => H.new key W h
  have HBODY : Hid (∀ x y (W : World), Rdy (bys key) x y W → Calls Tryz.prog 39 #[.agg #[x, y], .string nonce, .string B] W fun e w' => e = .returned (.string (mkS (bodyL (cip (bys key)) (bys nonce) (bys B)))) ∧ Grows W w') := Lib.hid fun x y W hW =>
    body_any x y (cip (bys key)) (H.len _) (H.b8 _) (Rdy (bys key) x y) (fun w w' => H.keep _ _ _ w w') (fun W t hW ht => H.press _ _ _ W t hW ht) nonce B hn (by omega) W hW
  have HTAG : Hid (∀ x y (W : World), Rdy (bys key) x y W → Calls Tryz.prog 40 #[.agg #[x, y], .string nonce, .string bes, .string B] W fun e w' => e = .returned (.string (mkS (tagG (cip (bys key)) (bys nonce) (bys bes) (bys B)))) ∧ Grows W w') := Lib.hid fun x y W hW =>
    tag_any x y (cip (bys key)) (H.len _) (H.b8 _) (Rdy (bys key) x y) (fun w w' => H.keep _ _ _ w w') (fun W t hW ht => H.press _ _ _ W t hW ht) nonce bes B hn (by omega) (by omega) W hW
  have HK := Lib.hid H.keep
  have hT8 : Hid (B8 (tagG (cip (bys key)) (bys nonce) (bys bes) (bys B))) := Lib.hid (xorL_B8 _ _)
  generalize bodyL (cip (bys key)) (bys nonce) (bys B) = D at *
  generalize tagG (cip (bys key)) (bys nonce) (bys bes) (bys B) = T at *
  have hcase : (T = bys E ∧ E = mkS T) ∨ (¬ T = bys E ∧ ((mkS T).toList == E.toList) = false ∧ ¬ (mkS T).toList = E.toList) := by
    by_cases e : T = bys E
    · exact Or.inl ⟨e, by rw [e, mkS_bys]⟩
    · refine Or.inr ⟨e, ?_⟩
      refine (fun hx => ⟨beq_eq_false_iff_ne.2 hx, hx⟩) ?_
      intro h2
      rw [ByteArray.toList_eq, ByteArray.toList_eq] at h2
      have h3 : mkS T = E := ByteArray.ext (Array.toList_inj.1 h2)
      exact e (by rw [← h3, bys_mkS _ hT8.out])
  obtain ⟨ANS, hANS⟩ : ∃ A, (if T = bys E then #[Value.string (mkS D), .int .i64 0] else #[Value.string (mkS []), .int .i64 8]) = A := ⟨_, rfl⟩
  rw [hANS]
  have HANS := Lib.hid hANS
  clear H h hn hs hb hl hBb hEb hL hANS
  refine calls_wd ?_
  go_enter Tryz.func23, Tryz.ntmps23
  go_wp2_with fail
  refine (HN.out _).mono ?_
  rintro e w' ⟨p, n, c, q, m, dd, rfl, ⟨g, d, rfl⟩, hR⟩
  have HR := Lib.hid hR
  rw [Wd_wd] at HR ⊢
  clear hR
  go_wp2
  obtain ⟨W, hW⟩ : ∃ W, Wd w g d = W := ⟨_, rfl⟩
  have hWs : w.heap.size + g.length = W.heap.size := by rw [← hW, Wd_size]
  have hWW : Wd w (g ++ [Obj.cells #[Value.slice p n c, Value.slice q m dd] 76 (0, 0)]) d = Wd W [Obj.cells #[Value.slice p n c, Value.slice q m dd] 76 (0, 0)] 0 := by rw [← hW, Wd_wd]; rfl
  have HGW : Hid (Grows w W) := Lib.hid (hW ▸ Grows.of _ _ _)
  have HRW : Hid (Rdy (bys key) (Value.slice p n c) (Value.slice q m dd) W) := Lib.hid (hW ▸ (by simpa using HR.out))
  rw [hWs, hWW]
  clear hWs hWW hW HR
  have HB1 := Lib.hid fun (g' : List Obj) (e : Nat) => big_call (L := fun g' => Obj.cells #[Value.slice p n c, Value.slice q m dd] 76 (0, 0) :: g') (g := g') (e := e) (w := W) (l0 := [Obj.cells #[Value.slice p n c, Value.slice q m dd] 76 (0, 0)]) (fun _ _ => rfl) (fun _ => rfl) (HTAG.out _ _ _ (HK.out _ _ _ _ _ HRW.out (Grows.of _ _ _)))
  refine wp_region_big_all (by kernel_rfl) (by kernel_rfl) ?_
  repeat (go_big_quiet_step ((intro _; with_reducible exact HB1.out _ _)))
  refine wpQuiet_nil ?_
  intro gR eR
  rcases hcase with ⟨h1, h2⟩ | ⟨h1, h2, h3⟩
  · have HA : Hid (ANS = #[Value.string (mkS D), .int .i64 0]) := Lib.hid (by rw [← HANS.out, if_pos h1])
    subst h2
    rw [show ((mkS T).toList == (mkS T).toList) = true from beq_self_eq_true _]
    have HBD := Lib.hid (HBODY.out _ _ _ (HK.out _ _ _ _ _ HRW.out (Grows.of W ([Obj.cells #[Value.slice p n c, Value.slice q m dd] 76 (0, 0)] ++ gR) eR)))
    clear h1
    go_wp2_with fail
    refine HBD.out.mono ?_
    rintro e w' ⟨rfl, g3, d3, rfl⟩
    rw [Wd_wd]
    go_wp2
    go_ret2
    exact ⟨by rw [HA.out]; rfl, HGW.out.trans (Grows.of _ _ _)⟩
  · have HA : Hid (ANS = #[Value.string (mkS []), .int .i64 8]) := Lib.hid (by rw [← HANS.out, if_neg h1])
    rw [h2]
    clear h1 h2 h3
    go_wp2
    go_ret2
    exact ⟨by rw [HA.out]; rfl, HGW.out.trans (Grows.of _ _ _)⟩
end
end Go.Proofs.YtfamoakicgmfgaaGreat

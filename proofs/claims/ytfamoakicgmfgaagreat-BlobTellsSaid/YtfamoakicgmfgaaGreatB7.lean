/- The document's own press. -/
import Derived.Test.YtfamoakicgmfgaaGreatB6
import Derived.Laws.Concat
namespace Go.Proofs.YtfamoakicgmfgaaGreat
open Go.RowKit Go.Own
attribute [local go_sem] ag5 cs5 sz5 isa5
set_option maxRecDepth 100000 in
theorem refPress_bad (v b : Value) (t : ByteArray) (h : t.size ≠ 16) (w : World) :
    Calls Tryz.prog 62 #[.agg #[v, b], .string t] w fun e w' => e = .returned (.tuple #[.string ByteArray.empty, .int .i64 2]) ∧ Grows w w' := by
  have hb : ((t.size : Int) != 16) = true := by simp; omega
  clear h
  refine calls_wd ?_
  go_enter Tryz.func62, Tryz.ntmps62
  go_wp2
  go_ret2
  exact ⟨rfl, Grows.of _ _ _⟩
theorem ag125 : aggSize Tryz.prog 125 = some 16 := by kernel_rfl
theorem ag110 : aggSize Tryz.prog 110 = some 4 := by kernel_rfl
theorem ag52 : aggSize Tryz.prog 52 = none := by kernel_rfl
theorem isa52 (W : World) : (isAgg 52).run Tryz.prog W = .ok false W := by kernel_rfl
theorem cs125 : Tryz.prog.cellsOf 125 = 16 := by kernel_rfl
theorem sz125 (W : World) : (sizeOf 125).run Tryz.prog W = .ok 16 W := by kernel_rfl
theorem sz110 (W : World) : (sizeOf 110).run Tryz.prog W = .ok 4 W := by kernel_rfl
theorem z125 : zeroOf Tryz.prog 125 = .agg (cv .u8 (rep 16)) := by kernel_rfl
theorem un62 : Tryz.prog.underlying 125 = some (.array 4 110) := by kernel_rfl
theorem un45 : Tryz.prog.underlying 110 = some (.array 4 5) := by kernel_rfl
theorem xa62 (b o : Nat) (k : IntKind) (i : Int) (W : World) (h0 : 0 ≤ i) (h1 : i < 4) :
    (xaN 125 (.pointer (some ⟨b, o, none⟩)) (.int k i)).run Tryz.prog W = .ok (.pointer (some ⟨b, o + i.toNat * 4, none⟩)) W := by
  simp [xaN, Instr.indexAt, run_underlying un62, Instr.sureAddr, asIntOf, h0, h1, Addr.add]
theorem xa45 (b o : Nat) (k : IntKind) (i : Int) (W : World) (h0 : 0 ≤ i) (h1 : i < 4) :
    (xaN 110 (.pointer (some ⟨b, o, none⟩)) (.int k i)).run Tryz.prog W = .ok (.pointer (some ⟨b, o + i.toNat, none⟩)) W := by
  simp [xaN, Instr.indexAt, run_underlying un45, Instr.sureAddr, asIntOf, h0, h1, Addr.add]
theorem ldX_fst {P : Program} {T : TypeId} {b : Nat} {W : World} {x y : Value} {t : TypeId} {f : Nat × Nat} (ha : (isAgg T).run P W = .ok false W)
    (h2 : blk W b = some (.cells #[x, y] t f)) : ldX P T none (some (.cells #[x, y] t f)) b 0 W = .ok x W := by
  have hc : W.cell? ⟨b, 0, none⟩ = some x := by simp [World.cell?, show W.heap[b]? = _ from h2]
  simp [ldX, ldN, Instr.loadAt, Instr.sureAddr, loadVar, ha, hc]
theorem ldX_snd {P : Program} {T : TypeId} {b : Nat} {W : World} {x y : Value} {t : TypeId} {f : Nat × Nat} (ha : (isAgg T).run P W = .ok false W)
    (h2 : blk W b = some (.cells #[x, y] t f)) : ldX P T none (some (.cells #[x, y] t f)) b 1 W = .ok y W := by
  have hc : W.cell? ⟨b, 1, none⟩ = some y := by simp [World.cell?, show W.heap[b]? = _ from h2]
  simp [ldX, ldN, Instr.loadAt, Instr.sureAddr, loadVar, ha, hc]
theorem ixS (t : ByteArray) (k : IntKind) (i : Int) (W : World) (h0 : 0 ≤ i) (h1 : i < t.size) :
    (ixN 9 (.string t) (.int k i)).run Tryz.prog W = .ok (.int .u8 ((gi (bys t) i.toNat : Nat) : Int)) W := by
  have h2 : i.toNat < t.size := by omega
  have hg : gi (bys t) i.toNat = (t[i.toNat]'h2).toNat := by
    have h3 : i.toNat < t.data.size := h2
    simp only [gi, bys, List.getD_eq_getElem?_getD, List.getElem?_map]
    rw [List.getElem?_eq_getElem (by simpa using h3)]
    rfl
  rw [hg]
  unfold ixN
  rw [run_index_string W 9 t k i Tryz.underlying9, dif_pos ⟨h0, h1⟩]
theorem refMul_two (b : Nat) (hb : b < 256) (w : World) : Calls Tryz.prog 86 #[.int .u8 2, .int .u8 b] w fun e w' => e = .returned (.int .u8 (mul 2 b)) ∧ w' = w :=
  (refMul_any 2 b (by decide) hb w).mono fun _ _ h => ⟨h.1, h.2.symm⟩
theorem refMul_three (b : Nat) (hb : b < 256) (w : World) : Calls Tryz.prog 86 #[.int .u8 3, .int .u8 b] w fun e w' => e = .returned (.int .u8 (mul 3 b)) ∧ w' = w :=
  (refMul_any 3 b (by decide) hb w).mono fun _ _ h => ⟨h.1, h.2.symm⟩
theorem refMul_same (a b : Nat) (ha : a < 256) (hb : b < 256) (w : World) : Calls Tryz.prog 86 #[.int .u8 a, .int .u8 b] w fun e w' => e = .returned (.int .u8 (mul a b)) ∧ w' = w :=
  (refMul_any a b ha hb w).mono fun _ _ h => ⟨h.1, h.2.symm⟩
/-- A place, turned by some places, of four. -/
theorem rot (q n : Nat) (j : Int) (hj : j = n) (h : q + n < 1000) : ∃ m : Nat, IntKind.i64.wrap ((q : Int) + j) = (q : Int) + j ∧ ((q : Int) + j).tmod 4 = (m : Int) ∧ ((m : Int) < 4 ∧ m < 4) ∧ m = (q + n) % 4 := by
  refine ⟨(q + n) % 4, IntWalk.i64_in _ (by omega), ?_, by omega, rfl⟩
  rw [Int.tmod_eq_emod_of_nonneg (by omega)]
  omega
theorem parts (k : Nat) (h : k < 1000) : ∃ m d : Nat, (k : Int).tmod 4 = (m : Int) ∧ IntKind.i64.wrap ((k : Int) / 4) = (d : Int) ∧ ((m : Int) < 4 ∧ m < 4) ∧ m = k % 4 ∧ d = k / 4 := by
  refine ⟨k % 4, k / 4, ?_, ?_, by omega, rfl, rfl⟩
  · rw [Int.tmod_eq_emod_of_nonneg (by omega)]; omega
  · rw [IntWalk.i64_in _ (by omega)]; omega
/-- The square's cells, row by row, after k bytes. -/
def lay (t V : List Nat) : Nat → List Nat
  | 0 => rep 16
  | k + 1 => spl (lay t V k) ((k % 4) * 4 + k / 4) [xor8 (gi t k) (gi V k)]
theorem lay_length (t V : List Nat) : ∀ k, k ≤ 16 → (lay t V k).length = 16
  | 0, _ => rep_length 16
  | k + 1, h => by
    have := lay_length t V k (by omega)
    rw [lay, spl_length _ _ _ (by rw [this]; simp; omega), this]
/-- The square boxed and turned, cell by cell, row by row. -/
def bxF (s : List Nat) (j : Nat) : Nat := gi boxes (gi s (j / 4 * 4 + (j % 4 + j / 4) % 4))
/-- The same, mixed, after k cells, column by column. -/
def mxF (s : List Nat) (k : Nat) : Nat :=
  xor8 (xor8 (xor8 (mul 2 (gi s (k % 4 * 4 + k / 4))) (mul 3 (gi s ((k % 4 + 1) % 4 * 4 + k / 4)))) (gi s ((k % 4 + 2) % 4 * 4 + k / 4))) (gi s ((k % 4 + 3) % 4 * 4 + k / 4))
def layF (f : Nat → Nat) : Nat → List Nat
  | 0 => rep 16
  | k + 1 => spl (layF f k) (k % 4 * 4 + k / 4) [f k]
/-- The words of the round r added, the first k bytes. -/
def adR (V s : List Nat) (r : Nat) : Nat → List Nat
  | 0 => s
  | k + 1 => spl (adR V s r k) (k % 4 * 4 + k / 4) [xor8 (gi (adR V s r k) (k % 4 * 4 + k / 4)) (gi V (16 * r + k))]
/-- The square before the round r + 1. -/
def rs (t V : List Nat) : Nat → List Nat
  | 0 => lay t V 16
  | r + 1 =>
    let b := fin1 (bxF (rs t V r)) 16 (rep 16)
    adR V (if r + 1 < 14 then layF (mxF b) 16 else b) (r + 1) 16
theorem layF_length (f : Nat → Nat) : ∀ k, k ≤ 16 → (layF f k).length = 16
  | 0, _ => rep_length 16
  | k + 1, h => by
    have := layF_length f k (by omega)
    rw [layF, spl_length _ _ _ (by rw [this]; simp; omega), this]
theorem adR_length (V s : List Nat) (r : Nat) (hs : s.length = 16) : ∀ k, k ≤ 16 → (adR V s r k).length = 16
  | 0, _ => hs
  | k + 1, h => by
    have := adR_length V s r hs k (by omega)
    rw [adR, spl_length _ _ _ (by rw [this]; simp; omega), this]
theorem rs_length (t V : List Nat) : ∀ r, (rs t V r).length = 16
  | 0 => lay_length t V 16 (Nat.le_refl _)
  | r + 1 => by
    refine adR_length V _ _ ?_ 16 (Nat.le_refl _)
    split
    · exact layF_length _ 16 (Nat.le_refl _)
    · rw [fin1_length (by simp), rep_length]
theorem lay_B8 (t V : List Nat) : ∀ k, B8 (lay t V k)
  | 0 => B8.rep _
  | k + 1 => (lay_B8 t V k).spl (fun x hx => by obtain rfl := List.mem_singleton.1 hx; exact xor8_lt _ _) _
theorem layF_B8 (f : Nat → Nat) (hf : ∀ k, f k < 256) : ∀ k, B8 (layF f k)
  | 0 => B8.rep _
  | k + 1 => (layF_B8 f hf k).spl (fun x hx => by obtain rfl := List.mem_singleton.1 hx; exact hf _) _
theorem adR_B8 (V s : List Nat) (r : Nat) (hs : B8 s) : ∀ k, B8 (adR V s r k)
  | 0 => hs
  | k + 1 => (adR_B8 V s r hs k).spl (fun x hx => by obtain rfl := List.mem_singleton.1 hx; exact xor8_lt _ _) _
theorem fin1_B8 (f : Nat → Nat) (hf : ∀ k, f k < 256) (k : Nat) {s : List Nat} (hs : B8 s) : B8 (fin1 f k s) :=
  B8.fin (fun i x hx => by obtain rfl := List.mem_singleton.1 hx; exact hf _) hs
theorem rs_B8 (t V : List Nat) : ∀ r, B8 (rs t V r)
  | 0 => lay_B8 _ _ _
  | r + 1 => by
    refine adR_B8 V _ _ ?_ 16
    split
    · exact layF_B8 _ (fun _ => xor8_lt _ _) _
    · exact fin1_B8 _ (fun _ => boxes_B8.gi _) _ (B8.rep _)
/-- The square behind the last round. -/
def rsEnd (t V : List Nat) : List Nat := rs t V 14
/-- The bytes told so far. -/
def outL (s : List Nat) (k : Nat) : List Nat := (List.range k).map fun i => gi s (i % 4 * 4 + i / 4)
theorem outL_succ (s : List Nat) (k : Nat) : outL s (k + 1) = outL s k ++ [gi s (k % 4 * 4 + k / 4)] := by simp [outL, List.range_succ]
theorem mkS_append (a b : List Nat) : mkS a ++ mkS b = mkS (a ++ b) := by
  apply ByteArray.ext
  simp [mkS, ByteArray.data_append]
theorem outL_length (s : List Nat) (k : Nat) : (outL s k).length = k := by simp [outL]
theorem mkS_add {P : Program} {W : World} (a b : List Nat) (h : a.length + b.length ≤ 1099511627776) : (Op.stringOp .add (mkS a) (mkS b)).run P W = .ok (.string (mkS (a ++ b))) W := by
  rw [run_string_add_sum W _ _ (by rw [mkS_size, mkS_size]; omega), mkS_append]
attribute [-go_sem] run_string_add_if
attribute [local go_sem] bs1 z76 ag76 cs76 sz76 alX_two stX29 ag125 ag110 ag52 isa52 cs125 sz125 z125 xa62 xa45 xa27 ldX_fst ldX_snd ixS
set_option maxRecDepth 100000 in
set_option maxHeartbeats 6000000 in
theorem refPress_ok (t : ByteArray) (ht : t.size = 16) (w : World) (vb bb CV CB : Nat) (V B : List Nat) (tV tB : TypeId) (fV fB : Nat × Nat)
    (HV0 : blk w vb = some (.cells (cv .u8 V) tV fV)) (HB0 : blk w bb = some (.cells (cv .u8 B) tB fB)) (hV : 240 ≤ V.length) (hB : 256 ≤ B.length) (hgB : ∀ x, x < 256 → gi B x = gi boxes x) :
    Calls Tryz.prog 62 #[.agg #[.slice (some ⟨vb, 0, none⟩) 240 CV, .slice (some ⟨bb, 0, none⟩) 256 CB], .string t] w fun e w' => e = .returned (.tuple #[.string (mkS (outL (rsEnd (bys t) V) 16)), .int .i64 0]) ∧ Grows w w' := by
  have hb : ((t.size : Int) != 16) = false := by simp; omega
  have H := Lib.hid ht; clear ht
  have HV := Lib.hid HV0
  have HB := Lib.hid HB0
  have HG := Lib.hid hgB
  clear HV0 HB0 hgB
  have hbt := Lib.hid (bys_length t)
  refine calls_wd ?_
  go_enter Tryz.func62, Tryz.ntmps62
  go_wp2
  go_loopw [7] (fun i wr => ∃ (k d : Nat), k ≤ 16 ∧ i = .int .i64 k ∧ wr = Wd w [.cells #[.slice (some ⟨vb, 0, none⟩) 240 CV, .slice (some ⟨bb, 0, none⟩) 256 CB] 76 (0, 0), .cells (cv .u8 (lay (bys t) V k)) 125 (0, 0)] d) (fun i _ => 16 - (intOf i).toNat)
  case atStart => exact ⟨0, _, by omega, rfl, rfl⟩
  case round =>
    obtain ⟨k, d, hk, rfl, rfl⟩ := hrel
    have hl := lay_length (bys t) V k hk
    by_cases hlt : k < 16
    · have hVW : ∀ (l : List Obj) (d : Nat), blk (Wd w l d) vb = some (.cells (cv .u8 V) tV fV) := fun l d => blk_old _ _ _ _ HV.out
      have hkt : (k : Int) < t.size := by rw [H.out]; omega
      have hk16 : (k : Int) < 16 := by omega
      have hk240 : (k : Int) < 240 := by omega
      have hkV : k < V.length := by omega
      obtain ⟨m, e, hm, he, ⟨hm4i, hm4⟩, hmn, hen⟩ := parts k (by omega)
      have he4 : e < 4 := by omega
      have he4i : (e : Int) < 4 := by omega
      have hb1 : m * 4 + e < 16 := by omega
      have hst : Hid (spl (lay (bys t) V k) (m * 4 + e) [xor8 (gi (bys t) k) (gi V k)] = lay (bys t) V (k + 1)) := by rw [hmn, hen]; exact rfl
      clear hmn hen
      go_wp2
      refine wp_region_still_tail 15 (by kernel_rfl) (by kernel_rfl) ?_
      simp only [List.take_succ_cons, List.take_zero, List.drop_succ_cons, List.drop_zero]
      change wpStill _ _ (Wd _ _ (_ + 1)) _ _ _
      repeat still_step
      refine wpStill_nil ?_
      change wpList _ _ _ _ _ (Wd _ _ (_ + 1))
      go_wp2
      go_roundw
      case rel => exact ⟨k + 1, _, by omega, by go_num, by rw [hst.out]⟩
      case measure => simp [intOf]; omega
    · obtain rfl : k = 16 := by omega
      go_wp2
      rw [show ((16 : Nat) : Int) = 16 from rfl, show lay (bys t) V 16 = rs (bys t) V 0 from rfl]
      clear hl hlt
      go_loopw [8] (fun i wr => ∃ (r d : Nat) (g : List Obj), r ≤ 14 ∧ i = .int .i64 ((r : Int) + 1) ∧ wr = Wd w (.cells #[.slice (some ⟨vb, 0, none⟩) 240 CV, .slice (some ⟨bb, 0, none⟩) 256 CB] 76 (0, 0) :: .cells (cv .u8 (rs (bys t) V r)) 125 (0, 0) :: g) d) (fun i _ => 15 - (intOf i).toNat)
      case atStart => exact ⟨0, _, [], by omega, rfl, rfl⟩
      case round =>
        obtain ⟨r, d, g, hr, rfl, rfl⟩ := hrel
        have hl := rs_length (bys t) V r
        by_cases hlt : r < 14
        · have h8 := Lib.hid (rs_B8 (bys t) V r)
          have hr14 : (r : Int) + 1 ≤ 14 := by omega
          go_wp2
          go_loopw [10] (fun i wr => ∃ (a d : Nat), a ≤ 4 ∧ i = .int .i64 a ∧ wr = Wd w (.cells #[.slice (some ⟨vb, 0, none⟩) 240 CV, .slice (some ⟨bb, 0, none⟩) 256 CB] 76 (0, 0) :: .cells (cv .u8 (rs (bys t) V r)) 125 (0, 0) :: (g ++ [.cells (cv .u8 (fin1 (bxF (rs (bys t) V r)) (4 * a) (rep 16))) 125 (0, 0)])) d) (fun i _ => 4 - (intOf i).toNat)
          case atStart => exact ⟨0, _, by omega, rfl, by rw [fin1_zero]⟩
          case round =>
            obtain ⟨a, d, ha, rfl, rfl⟩ := hrel
            by_cases hlt4 : a < 4
            · have ha4 : (a : Int) < 4 := by omega
              go_wp2
              go_loopw [11] (fun i wr => ∃ (c d : Nat), c ≤ 4 ∧ i = .int .i64 c ∧ wr = Wd w (.cells #[.slice (some ⟨vb, 0, none⟩) 240 CV, .slice (some ⟨bb, 0, none⟩) 256 CB] 76 (0, 0) :: .cells (cv .u8 (rs (bys t) V r)) 125 (0, 0) :: (g ++ [.cells (cv .u8 (fin1 (bxF (rs (bys t) V r)) (4 * a + c) (rep 16))) 125 (0, 0)])) d) (fun i _ => 4 - (intOf i).toNat)
              case atStart => exact ⟨0, _, by omega, rfl, rfl⟩
              case round =>
                obtain ⟨c, d, hc, rfl, rfl⟩ := hrel
                by_cases hltc : c < 4
                · have hBW : ∀ (l : List Obj) (d : Nat), blk (Wd w l d) bb = some (.cells (cv .u8 B) tB fB) := fun l d => blk_old _ _ _ _ HB.out
                  have hfl : (fin1 (bxF (rs (bys t) V r)) (4 * a + c) (rep 16)).length = 16 := by rw [fin1_length (by simp; omega), rep_length]
                  have hst : Hid (spl (fin1 (bxF (rs (bys t) V r)) (4 * a + c) (rep 16)) (a * 4 + c) [gi boxes (gi (rs (bys t) V r) (a * 4 + (c + a) % 4))] = fin1 (bxF (rs (bys t) V r)) (4 * a + (c + 1)) (rep 16)) := by
                    rw [show 4 * a + (c + 1) = 4 * a + c + 1 by omega, ← fin1_step]
                    simp only [bxF]
                    rw [show (4 * a + c) / 4 = a by omega, show (4 * a + c) % 4 = c by omega, show a * 4 + c = 4 * a + c by omega]
                    exact rfl
                  obtain ⟨x, hz, hx, ⟨hx4i, hx4⟩, hxn⟩ := rot c a (a : Int) rfl (by omega)
                  have hb1 : a * 4 + x < 16 := by omega
                  rw [← hxn] at hst
                  clear hxn
                  obtain ⟨e, he⟩ : ∃ e, gi (rs (bys t) V r) (a * 4 + x) = e := ⟨_, rfl⟩
                  have he8 : e < 256 := he ▸ h8.out.gi _
                  rw [he] at hst
                  have hei : (e : Int) < 256 := by omega
                  have heB : e < B.length := by omega
                  have hge : gi B e = gi boxes e := HG.out _ he8
                  have hc4 : (c : Int) < 4 := by omega
                  have hb2 : a * 4 + c < 16 := by omega
                  go_wp2
                  refine wp_region_still_tail 16 (by kernel_rfl) (by kernel_rfl) ?_
                  simp only [List.take_succ_cons, List.take_zero, List.drop_succ_cons, List.drop_zero]
                  change wpStill _ _ (Wd _ _ (_ + 1)) _ _ _
                  repeat still_step
                  refine wpStill_nil ?_
                  change wpList _ _ _ _ _ (Wd _ _ (_ + 1))
                  go_wp2
                  go_roundw
                  case rel => exact ⟨c + 1, _, by omega, by go_num, by rw [hst.out]⟩
                  case measure => simp [intOf]; omega
                · obtain rfl : c = 4 := by omega
                  go_wp2
                  go_roundw
                  case rel => exact ⟨a + 1, _, by omega, by go_num, rfl⟩
                  case measure => simp [intOf]; omega
            · obtain rfl : a = 4 := by omega
              have hbl : (fin1 (bxF (rs (bys t) V r)) (4 * 4) (rep 16)).length = 16 := by rw [fin1_length (by simp), rep_length]
              have hb8 := Lib.hid (fin1_B8 (bxF (rs (bys t) V r)) (fun _ => boxes_B8.gi _) (4 * 4) (B8.rep 16))
              have hrs : Hid (rs (bys t) V (r + 1) = adR V (if r + 1 < 14 then layF (mxF (fin1 (bxF (rs (bys t) V r)) (4 * 4) (rep 16))) 16 else fin1 (bxF (rs (bys t) V r)) (4 * 4) (rep 16)) (r + 1) 16) := rfl
              generalize hbx : fin1 (bxF (rs (bys t) V r)) (4 * 4) (rep 16) = bx at *
              clear hbx
              by_cases hr13 : r + 1 < 14
              · have hr13' : (r : Int) + 1 < 14 := by omega
                rw [if_pos hr13] at hrs
                go_wp2
                rw [show ((4 : Nat) : Int) = 4 from rfl]
                go_loopw [13] (fun i wr => ∃ (c d : Nat), c ≤ 4 ∧ i = .int .i64 c ∧ wr = Wd w (.cells #[.slice (some ⟨vb, 0, none⟩) 240 CV, .slice (some ⟨bb, 0, none⟩) 256 CB] 76 (0, 0) :: .cells (cv .u8 (rs (bys t) V r)) 125 (0, 0) :: (g ++ [.cells (cv .u8 bx) 125 (0, 0), .cells (cv .u8 (layF (mxF bx) (4 * c))) 125 (0, 0)])) d) (fun i _ => 4 - (intOf i).toNat)
                case atStart => exact ⟨0, _, by omega, rfl, rfl⟩
                case round =>
                  obtain ⟨c, d, hc, rfl, rfl⟩ := hrel
                  by_cases hltc : c < 4
                  · have hc4 : (c : Int) < 4 := by omega
                    go_wp2
                    go_loopw [14] (fun i wr => ∃ (q d : Nat), q ≤ 4 ∧ i = .int .i64 q ∧ wr = Wd w (.cells #[.slice (some ⟨vb, 0, none⟩) 240 CV, .slice (some ⟨bb, 0, none⟩) 256 CB] 76 (0, 0) :: .cells (cv .u8 (rs (bys t) V r)) 125 (0, 0) :: (g ++ [.cells (cv .u8 bx) 125 (0, 0), .cells (cv .u8 (layF (mxF bx) (4 * c + q))) 125 (0, 0)])) d) (fun i _ => 4 - (intOf i).toNat)
                    case atStart => exact ⟨0, _, by omega, rfl, rfl⟩
                    case round =>
                      obtain ⟨q, d, hq, rfl, rfl⟩ := hrel
                      by_cases hltq : q < 4
                      · have hfl := layF_length (mxF bx) (4 * c + q) (by omega)
                        have hst : Hid (spl (layF (mxF bx) (4 * c + q)) (q * 4 + c) [xor8 (xor8 (xor8 (mul 2 (gi bx (q * 4 + c))) (mul 3 (gi bx ((q + 1) % 4 * 4 + c)))) (gi bx ((q + 2) % 4 * 4 + c))) (gi bx ((q + 3) % 4 * 4 + c))] = layF (mxF bx) (4 * c + (q + 1))) := by
                          rw [show 4 * c + (q + 1) = 4 * c + q + 1 by omega, layF, mxF]
                          rw [show (4 * c + q) / 4 = c by omega, show (4 * c + q) % 4 = q by omega]
                          exact rfl
                        obtain ⟨x1, w1, hx1, ⟨si1, s1⟩, n1⟩ := rot q 1 1 rfl (by omega)
                        obtain ⟨x2, w2, hx2, ⟨si2, s2⟩, n2⟩ := rot q 2 2 rfl (by omega)
                        obtain ⟨x3, w3, hx3, ⟨si3, s3⟩, n3⟩ := rot q 3 3 rfl (by omega)
                        rw [← n1, ← n2, ← n3] at hst
                        clear n1 n2 n3
                        obtain ⟨e0, h0⟩ : ∃ e, gi bx (q * 4 + c) = e := ⟨_, rfl⟩
                        obtain ⟨e1, h1⟩ : ∃ e, gi bx (x1 * 4 + c) = e := ⟨_, rfl⟩
                        have e08 : e0 < 256 := h0 ▸ hb8.out.gi _
                        have e18 : e1 < 256 := h1 ▸ hb8.out.gi _
                        rw [h0, h1] at hst
                        have hq4 : (q : Int) < 4 := by omega
                        have hb0 : q * 4 + c < 16 := by omega
                        have hb1 : x1 * 4 + c < 16 := by omega
                        have hb2 : x2 * 4 + c < 16 := by omega
                        have hb3 : x3 * 4 + c < 16 := by omega
                        clear hltq hltc hq hc hlt hr13 hr13' hr
                        go_wp2
                        refine wp_region_still_tail 35 (by kernel_rfl) (by kernel_rfl) ?_
                        simp only [List.take_succ_cons, List.take_zero, List.drop_succ_cons, List.drop_zero]
                        change wpStill _ _ (Wd _ _ (_ + 1)) _ _ _
                        repeat (first | still_step | (refine wpStill_step (fun K hK => ?_); go_simp; with_reducible refine ⟨_, refMul_two e0 e08 _, hK _ ?_⟩; clear hK K) | (refine wpStill_step (fun K hK => ?_); go_simp; with_reducible refine ⟨_, refMul_three e1 e18 _, hK _ ?_⟩; clear hK K))
                        refine wpStill_nil ?_
                        change wpList _ _ _ _ _ (Wd _ _ (_ + 1))
                        go_wp2
                        go_roundw
                        case rel => exact ⟨q + 1, _, by omega, by go_num, by rw [hst.out]⟩
                        case measure => simp [intOf]; omega
                      · obtain rfl : q = 4 := by omega
                        go_wp2
                        go_roundw
                        case rel => exact ⟨c + 1, _, by omega, by go_num, rfl⟩
                        case measure => simp [intOf]; omega
                  · obtain rfl : c = 4 := by omega
                    have hmx := layF_length (mxF bx) (4 * 4) (by omega)
                    have hrs2 : Hid (rs (bys t) V (r + 1) = adR V (layF (mxF bx) (4 * 4)) (r + 1) 16) := hrs
                    clear hrs
                    have hrs := hrs2
                    clear hrs2
                    generalize layF (mxF bx) (4 * 4) = Z at *
                    go_wp2
                    rw [show ((4 : Nat) : Int) = 4 from rfl]
                    clear hb8
                    go_loopw [15] (fun i wr => ∃ (k d : Nat), k ≤ 16 ∧ i = .int .i64 k ∧ wr = Wd w (.cells #[.slice (some ⟨vb, 0, none⟩) 240 CV, .slice (some ⟨bb, 0, none⟩) 256 CB] 76 (0, 0) :: .cells (cv .u8 (rs (bys t) V r)) 125 (0, 0) :: (g ++ .cells (cv .u8 (adR V Z (r + 1) k)) 125 (0, 0) :: [.cells (cv .u8 Z) 125 (0, 0)])) d) (fun i _ => 16 - (intOf i).toNat)
                    case atStart => exact ⟨0, _, by omega, rfl, rfl⟩
                    case round =>
                      obtain ⟨k, d, hk, rfl, rfl⟩ := hrel
                      have hal := adR_length V Z (r + 1) hmx k hk
                      by_cases hltk : k < 16
                      · have hVW : ∀ (l : List Obj) (d : Nat), blk (Wd w l d) vb = some (.cells (cv .u8 V) tV fV) := fun l d => blk_old _ _ _ _ HV.out
                        obtain ⟨m, e, hm, he, ⟨hm4i, hm4⟩, hmn, hen⟩ := parts k (by omega)
                        have he4 : e < 4 := by omega
                        have he4i : (e : Int) < 4 := by omega
                        have hst : Hid (spl (adR V Z (r + 1) k) (m * 4 + e) [xor8 (gi (adR V Z (r + 1) k) (m * 4 + e)) (gi V (16 * (r + 1) + k))] = adR V Z (r + 1) (k + 1)) := by rw [hmn, hen]; exact rfl
                        clear hmn hen
                        obtain ⟨ix, hix⟩ : ∃ ix, 16 * (r + 1) + k = ix := ⟨_, rfl⟩
                        rw [hix] at hst
                        obtain ⟨y, hy⟩ : ∃ y : Int, 16 * ((r : Int) + 1) = y := ⟨_, rfl⟩
                        have hy1 : IntKind.i64.wrap (16 * ((r : Int) + 1)) = y := by rw [IntWalk.i64_in _ (by omega)]; exact hy
                        have hy2 : IntKind.i64.wrap (y + (k : Int)) = (ix : Int) := by rw [IntWalk.i64_in _ (by omega)]; omega
                        have hi1 : ix < V.length := by omega
                        have hi2 : (ix : Int) < 240 := by omega
                        have hk16 : (k : Int) < 16 := by omega
                        have hb1 : m * 4 + e < 16 := by omega
                        clear hy hix hrs
                        go_wp2
                        refine wp_region_still_tail 22 (by kernel_rfl) (by kernel_rfl) ?_
                        simp only [List.take_succ_cons, List.take_zero, List.drop_succ_cons, List.drop_zero]
                        change wpStill _ _ (Wd _ _ (_ + 1)) _ _ _
                        repeat still_step
                        refine wpStill_nil ?_
                        change wpList _ _ _ _ _ (Wd _ _ (_ + 1))
                        go_wp2
                        go_roundw
                        case rel => exact ⟨k + 1, _, by omega, by go_num, by rw [hst.out]⟩
                        case measure => simp [intOf]; omega
                      · obtain rfl : k = 16 := by omega
                        go_wp2
                        go_roundw
                        case rel => exact ⟨r + 1, _, _, by omega, by go_num, by rw [hrs.out]⟩
                        case measure => simp [intOf]; omega
              · have hr13' : ¬ ((r : Int) + 1 < 14) := by omega
                rw [if_neg hr13] at hrs
                go_wp2
                clear hb8
                go_loopw [15] (fun i wr => ∃ (k d : Nat), k ≤ 16 ∧ i = .int .i64 k ∧ wr = Wd w (.cells #[.slice (some ⟨vb, 0, none⟩) 240 CV, .slice (some ⟨bb, 0, none⟩) 256 CB] 76 (0, 0) :: .cells (cv .u8 (rs (bys t) V r)) 125 (0, 0) :: (g ++ .cells (cv .u8 (adR V bx (r + 1) k)) 125 (0, 0) :: [])) d) (fun i _ => 16 - (intOf i).toNat)
                case atStart => exact ⟨0, _, by omega, rfl, rfl⟩
                case round =>
                  obtain ⟨k, d, hk, rfl, rfl⟩ := hrel
                  have hal := adR_length V bx (r + 1) hbl k hk
                  by_cases hltk : k < 16
                  · have hVW : ∀ (l : List Obj) (d : Nat), blk (Wd w l d) vb = some (.cells (cv .u8 V) tV fV) := fun l d => blk_old _ _ _ _ HV.out
                    obtain ⟨m, e, hm, he, ⟨hm4i, hm4⟩, hmn, hen⟩ := parts k (by omega)
                    have he4 : e < 4 := by omega
                    have he4i : (e : Int) < 4 := by omega
                    have hst : Hid (spl (adR V bx (r + 1) k) (m * 4 + e) [xor8 (gi (adR V bx (r + 1) k) (m * 4 + e)) (gi V (16 * (r + 1) + k))] = adR V bx (r + 1) (k + 1)) := by rw [hmn, hen]; exact rfl
                    clear hmn hen
                    obtain ⟨ix, hix⟩ : ∃ ix, 16 * (r + 1) + k = ix := ⟨_, rfl⟩
                    rw [hix] at hst
                    obtain ⟨y, hy⟩ : ∃ y : Int, 16 * ((r : Int) + 1) = y := ⟨_, rfl⟩
                    have hy1 : IntKind.i64.wrap (16 * ((r : Int) + 1)) = y := by rw [IntWalk.i64_in _ (by omega)]; exact hy
                    have hy2 : IntKind.i64.wrap (y + (k : Int)) = (ix : Int) := by rw [IntWalk.i64_in _ (by omega)]; omega
                    have hi1 : ix < V.length := by omega
                    have hi2 : (ix : Int) < 240 := by omega
                    have hk16 : (k : Int) < 16 := by omega
                    have hb1 : m * 4 + e < 16 := by omega
                    clear hy hix hrs
                    go_wp2
                    refine wp_region_still_tail 22 (by kernel_rfl) (by kernel_rfl) ?_
                    simp only [List.take_succ_cons, List.take_zero, List.drop_succ_cons, List.drop_zero]
                    change wpStill _ _ (Wd _ _ (_ + 1)) _ _ _
                    repeat still_step
                    refine wpStill_nil ?_
                    change wpList _ _ _ _ _ (Wd _ _ (_ + 1))
                    go_wp2
                    go_roundw
                    case rel => exact ⟨k + 1, _, by omega, by go_num, by rw [hst.out]⟩
                    case measure => simp [intOf]; omega
                  · obtain rfl : k = 16 := by omega
                    go_wp2
                    go_roundw
                    case rel => exact ⟨r + 1, _, _, by omega, by go_num, by rw [hrs.out]⟩
                    case measure => simp [intOf]; omega
        · obtain rfl : r = 14 := by omega
          clear hlt
          obtain ⟨S, hS⟩ : ∃ S, rs (bys t) V 14 = S := ⟨_, rfl⟩
          rw [hS] at hl ⊢
          have HS := Lib.hid (show rsEnd (bys t) V = S from hS)
          clear hS
          go_wp2
          rw [show ((14 : Nat) : Int) + 1 = 15 from rfl]
          go_loopw [16, 17] (fun o i wr => ∃ (k d : Nat) (g : List Obj), k ≤ 16 ∧ i = .int .i64 k ∧ o = .string (mkS (outL S k)) ∧ wr = Wd w (.cells #[.slice (some ⟨vb, 0, none⟩) 240 CV, .slice (some ⟨bb, 0, none⟩) 256 CB] 76 (0, 0) :: .cells (cv .u8 S) 125 (0, 0) :: g) d) (fun _ i _ => 16 - (intOf i).toNat)
          case atStart => exact ⟨0, _, _, by omega, rfl, rfl, rfl⟩
          case round =>
            obtain ⟨k, d, g, hk, rfl, rfl, rfl⟩ := hrel
            by_cases hltk : k < 16
            · obtain ⟨m, e, hm, he, ⟨hm4i, hm4⟩, hmn, hen⟩ := parts k (by omega)
              have he4 : e < 4 := by omega
              have he4i : (e : Int) < 4 := by omega
              have hk16 : (k : Int) < 16 := by omega
              have hst : Hid (outL S k ++ [gi S (m * 4 + e)] = outL S (k + 1)) := by rw [outL_succ, hmn, hen]; exact rfl
              clear hmn hen
              have hb1 : m * 4 + e < 16 := by omega
              have hadd : ∀ W, (Op.stringOp .add (mkS (outL S k)) (mkS [gi S (m * 4 + e)])).run Tryz.prog W = .ok (.string (mkS (outL S (k + 1)))) W := fun W => by rw [mkS_add _ _ (by rw [outL_length]; simp; omega), hst.out]
              clear hst
              go_wp2
              go_roundw
              case rel => exact ⟨k + 1, _, _, by omega, by go_num, rfl, rfl⟩
              case measure => simp [intOf]; omega
            · obtain rfl : k = 16 := by omega
              go_wp2
              go_ret2
              exact ⟨by rw [HS.out]; rfl, Grows.of _ _ _⟩
end Go.Proofs.YtfamoakicgmfgaaGreat

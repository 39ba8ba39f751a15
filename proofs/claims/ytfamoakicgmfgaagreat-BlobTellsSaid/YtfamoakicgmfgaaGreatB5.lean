/- The document's own round keys: the walk. -/
import Derived.Test.YtfamoakicgmfgaaGreatB1
namespace Go.Proofs.YtfamoakicgmfgaaGreat
open Go.RowKit Go.Own
attribute [local go_sem] ag5 cs5 sz5 isa5

def bsN (T : TypeId) (n : Nat) (parts : Array (Nat × Value)) : Sem Value := Instr.buildSlice T n parts
@[go_sem ↓] theorem execOp_bs (ρ : Operand → Value) (dst : Option Tmp) (T : TypeId) (n : Nat) (parts : Array (Nat × Operand)) (ty : TypeId) (pos : String) (after : Array Edge) (guard : Option (Nat × Bool)) :
    execOp ρ { dst, op := .buildSlice T n parts, type := ty, pos, after, guard } = (bsN T n (parts.map fun (i, x) => (i, ρ x)) >>= fun v => pure (.value v)) := rfl
theorem bs4 (a b c e : Nat) (w : World) (l : List Obj) (d : Nat) : (bsN 52 4 #[(0, .int .u8 a), (1, .int .u8 b), (2, .int .u8 c), (3, .int .u8 e)]).run Tryz.prog (Wd w l d) =
    .ok (.slice (some ⟨w.heap.size + l.length, 0, none⟩) 4 4) (Wd w (l ++ [.cells (cv .u8 [a, b, c, e]) 5 (0, 0)]) d) := by
  rw [← Wd_alloc, ← Wd_size w l d]
  generalize Wd w l d = W
  kernel_rfl
theorem bs1 (a : Nat) (w : World) (l : List Obj) (d : Nat) : (bsN 52 1 #[(0, .int .u8 a)]).run Tryz.prog (Wd w l d) =
    .ok (.slice (some ⟨w.heap.size + l.length, 0, none⟩) 1 1) (Wd w (l ++ [.cells (cv .u8 [a]) 5 (0, 0)]) d) := by
  rw [← Wd_alloc, ← Wd_size w l d]
  generalize Wd w l d = W
  kernel_rfl
def xaN (T : TypeId) (x i : Value) : Sem Value := Instr.indexAt T x i
@[go_sem ↓] theorem execOp_xa (ρ : Operand → Value) (dst : Option Tmp) (T : TypeId) (x i : Operand) (ty : TypeId) (pos : String) (after : Array Edge) (guard : Option (Nat × Bool)) :
    execOp ρ { dst, op := .indexAddr T x i, type := ty, pos, after, guard } = (xaN T (ρ x) (ρ i) >>= fun v => pure (.value v)) := rfl
theorem xa27 (b len cap : Nat) (k : IntKind) (i : Int) (W : World) (h0 : 0 ≤ i) (h1 : i < len) :
    (xaN 52 (.slice (some ⟨b, 0, none⟩) len cap) (.int k i)).run Tryz.prog W = .ok (.pointer (some ⟨b, i.toNat, none⟩)) W := by
  simp [xaN, Instr.indexAt, run_underlying Tryz.underlying52, asIntOf, h0, h1, Addr.add]
  intro h; omega
theorem gi40 (a b c e : Nat) : gi [a, b, c, e] 0 = a := rfl
theorem gi41 (a b c e : Nat) : gi [a, b, c, e] 1 = b := rfl
theorem gi42 (a b c e : Nat) : gi [a, b, c, e] 2 = c := rfl
theorem gi43 (a b c e : Nat) : gi [a, b, c, e] 3 = e := rfl
attribute [local go_sem] bs4 bs1 xa27 gi40 gi41 gi42 gi43

theorem xor_step (W T s : List Nat) (n k : Nat) (hk : k < 4) : (s ++ (xorL (wrd W n) T).take k) ++ [xor8 (gi W (n * 4 + k)) (gi T k)] = s ++ (xorL (wrd W n) T).take (k + 1) := by
  rw [List.append_assoc, ← gi_wrd hk]
  congr 1
  have h4 := xorL_length (wrd W n) T
  rw [List.take_succ_eq_append_getElem (by omega)]
  congr 2
  simp [xorL, xorF]
set_option maxRecDepth 100000 in
set_option maxHeartbeats 2000000 in
theorem refWords_any (key : ByteArray) (hkey : key.size = 32) (bb CB : Nat) (B : List Nat) (tB : TypeId) (fB : Nat × Nat) (hB : B.take 256 = boxes) (hBl : 256 ≤ B.length) (w : World) (HB0 : blk w bb = some (.cells (cv .u8 B) tB fB)) :
    Calls Tryz.prog 61 #[.string key, .slice (some ⟨bb, 0, none⟩) 256 CB] w fun e w' => ∃ v l d, e = .returned v ∧ w' = Wd w l d ∧ Has w l v (sofar (bys key) 52) := by
  have hgB := Lib.hid (show ∀ x, x < 256 → gi B x = gi boxes x from fun x hx => by rw [← hB, gi_take hx])
  have HB1 := Lib.hid HB0
  have HK := Lib.hid hkey
  clear hB HB0 hkey
  refine calls_wd ?_
  go_enter Tryz.func61, Tryz.ntmps61
  go_wp2_with (with_reducible refine stop_conv ?_)
  unfold Stop
  refine wpList_bytes rfl (.tmp 10) 9 52 5 rfl Tryz.underlying9 Tryz.underlying52 Tryz.underlying5 key rfl ?_
  intro v0 l0 d0 H0 _
  go_wp2
  have HS0 : Hid (Has w l0 v0 (sofar (bys key) 0)) := by rw [sofar_zero key HK.out]; exact H0
  clear H0
  go_loopw [5, 6, 7] (fun v p i wr => ∃ (m d : Nat) (l : List Obj), 8 ≤ m ∧ m ≤ 60 ∧ p = .int .u8 (wst cs0 (bys key) (m - 8)).2 ∧ i = .int .i64 m ∧ Hid (Has w l v (sofar (bys key) (m - 8))) ∧ wr = Wd w l d) (fun _ _ i _ => 60 - (intOf i).toNat)
  case atStart => exact ⟨8, d0, l0, by omega, by omega, rfl, rfl, HS0, rfl⟩
  case round =>
    clear HS0
    obtain ⟨m, d, l, h8, h60, rfl, rfl, HS, rfl⟩ := hrel
    by_cases hlt : m < 60
    · have hsl := sofar_length (bys key) (m - 8) (by omega)
      rw [show (m - 8 + 8) * 4 = 4 * m by omega] at hsl
      obtain ⟨L, hL⟩ : ∃ L, 4 * m = L := ⟨_, rfl⟩
      rw [hL] at hsl
      obtain ⟨j, S, tS, fS, rfl, hj, hf, ht, hle⟩ := HS.out
      rw [hsl] at *
      have HS2 := Lib.hid HS; clear HS
      have HF := Lib.hid hf; clear hf
      have HT := Lib.hid ht; clear ht
      have hSW : ∀ x, x < L → gi S x = gi (wst cs0 (bys key) (m - 8)).1 x := by
        intro x hx
        rw [← gi_take hx, HT.out, sofar, gi_take (by omega)]
      have hB8 := wst_B8 cs0 (bys key) (B8.bys key) (m - 8)
      obtain ⟨t0, h0⟩ : ∃ t, gi (wst cs0 (bys key) (m - 8)).1 (L - 4) = t := ⟨_, rfl⟩
      obtain ⟨t1, h1⟩ : ∃ t, gi (wst cs0 (bys key) (m - 8)).1 (L - 3) = t := ⟨_, rfl⟩
      obtain ⟨t2, h2⟩ : ∃ t, gi (wst cs0 (bys key) (m - 8)).1 (L - 2) = t := ⟨_, rfl⟩
      obtain ⟨t3, h3⟩ : ∃ t, gi (wst cs0 (bys key) (m - 8)).1 (L - 1) = t := ⟨_, rfl⟩
      have b0 : t0 < 256 := h0 ▸ hB8.gi _
      have b1 : t1 < 256 := h1 ▸ hB8.gi _
      have b2 : t2 < 256 := h2 ▸ hB8.gi _
      have b3 : t3 < 256 := h3 ▸ hB8.gi _
      have c0 : (t0 : Int) < 256 := by omega
      have c1 : (t1 : Int) < 256 := by omega
      have c2 : (t2 : Int) < 256 := by omega
      have c3 : (t3 : Int) < 256 := by omega
      have hp8 := wst_p cs0 (bys key) (m - 8)
      have HTl : Hid (wTl (bys key) (m - 8) = if (m - 8) % 8 = 0 then [xor8 (gi boxes t1) (wst cs0 (bys key) (m - 8)).2, gi boxes t2, gi boxes t3, gi boxes t0] else if (m - 8) % 8 = 4 then [gi boxes t0, gi boxes t1, gi boxes t2, gi boxes t3] else [t0, t1, t2, t3]) := by
        unfold wTl
        simp only [show 4 * (m - 8 + 8) = L by omega, h0, h1, h2, h3]
        exact trivial
      have e0 : gi S (L - 4) = t0 := by rw [hSW _ (by omega), h0]
      have e1 : gi S (L - 3) = t1 := by rw [hSW _ (by omega), h1]
      have e2 : gi S (L - 2) = t2 := by rw [hSW _ (by omega), h2]
      have e3 : gi S (L - 1) = t3 := by rw [hSW _ (by omega), h3]
      have HSW := Lib.hid hSW; clear hSW
      clear hB8 h0 h1 h2 h3
      have w4 : IntKind.i64.wrap (4 * (m : Int)) = 4 * (m : Int) := IntWalk.i64_in _ (by omega)
      obtain ⟨x0, hx0⟩ : ∃ x : Int, 4 * (m : Int) - 4 = x := ⟨_, rfl⟩
      have w40 : IntKind.i64.wrap (4 * (m : Int) - 4) = x0 := by rw [← hx0]; exact IntWalk.i64_in _ (by omega)
      have n40 : x0.toNat = L - 4 := by omega
      have z70 : 0 ≤ x0 := by omega
      have i40 : x0 < (L : Int) := by omega
      have l40 : L - 4 < S.length := by omega
      obtain ⟨x1, hx1⟩ : ∃ x : Int, 4 * (m : Int) - 3 = x := ⟨_, rfl⟩
      have w41 : IntKind.i64.wrap (4 * (m : Int) - 3) = x1 := by rw [← hx1]; exact IntWalk.i64_in _ (by omega)
      have n41 : x1.toNat = L - 3 := by omega
      have z71 : 0 ≤ x1 := by omega
      have i41 : x1 < (L : Int) := by omega
      have l41 : L - 3 < S.length := by omega
      obtain ⟨x2, hx2⟩ : ∃ x : Int, 4 * (m : Int) - 2 = x := ⟨_, rfl⟩
      have w42 : IntKind.i64.wrap (4 * (m : Int) - 2) = x2 := by rw [← hx2]; exact IntWalk.i64_in _ (by omega)
      have n42 : x2.toNat = L - 2 := by omega
      have z72 : 0 ≤ x2 := by omega
      have i42 : x2 < (L : Int) := by omega
      have l42 : L - 2 < S.length := by omega
      obtain ⟨x3, hx3⟩ : ∃ x : Int, 4 * (m : Int) - 1 = x := ⟨_, rfl⟩
      have w43 : IntKind.i64.wrap (4 * (m : Int) - 1) = x3 := by rw [← hx3]; exact IntWalk.i64_in _ (by omega)
      have n43 : x3.toNat = L - 1 := by omega
      have z108 : 0 ≤ x3 := by omega
      have i43 : x3 < (L : Int) := by omega
      have l43 : L - 1 < S.length := by omega
      clear hx0 hx1 hx2 hx3
      go_wp2
      refine wp_region_still_tail 24 (by kernel_rfl) (by kernel_rfl) ?_
      simp only [List.take_succ_cons, List.take_zero, List.drop_succ_cons, List.drop_zero]
      change wpStill _ _ (Wd _ _ (_ + 1)) _ _ _
      repeat still_step
      refine wpStill_nil ?_
      change wpList _ _ _ _ _ (Wd _ _ (_ + 1))
      have hBW : ∀ (l : List Obj) (d : Nat), blk (Wd w l d) bb = some (.cells (cv .u8 B) tB fB) := fun l d => blk_old _ _ _ _ HB1.out
      have g0 : t0 < B.length := by omega
      have g1 : t1 < B.length := by omega
      have g2 : t2 < B.length := by omega
      have g3 : t3 < B.length := by omega
      have k0 : gi B t0 = gi boxes t0 := hgB.out _ b0
      have k1 : gi B t1 = gi boxes t1 := hgB.out _ b1
      have k2 : gi B t2 = gi boxes t2 := hgB.out _ b2
      have k3 : gi B t3 = gi boxes t3 := hgB.out _ b3
      by_cases h0 : (m - 8) % 8 = 0
      · have hm0 : ((m : Int) % 8 == 0) = true := by simp; omega
        have hm4 : ((m : Int) % 8 == 4) = false := by simp; omega
        have HT2 := Lib.hid (HTl.out.trans (if_pos h0))
        have HP := Lib.hid (show (wst cs0 (bys key) (m - 8 + 1)).2 = dbl (wst cs0 (bys key) (m - 8)).2 by simp only [wst]; rw [if_pos (by omega)])
        clear h0
        go_wp2
        refine wp_region_still_tail 26 (by kernel_rfl) (by kernel_rfl) ?_
        simp only [List.take_succ_cons, List.take_zero, List.drop_succ_cons, List.drop_zero]
        change wpStill _ _ (Wd _ _ (_ + 1)) _ _ _
        repeat still_step
        refine wpStill_nil ?_
        change wpList _ _ _ _ _ (Wd _ _ (_ + 1))
        go_wp2_with fail
        refine (refMul_any _ 2 (wst_p _ _ _) (by decide) _).mono ?_
        rintro e w' ⟨rfl, rfl⟩
        rw [mul_two _ (wst_p _ _ _), ← HP.out]
        go_wp2
        obtain ⟨q, hq⟩ : ∃ q, l.length + 1 = q := ⟨_, rfl⟩
        rw [hq]
        obtain ⟨T, hT⟩ : ∃ T, wTl (bys key) (m - 8) = T := ⟨_, rfl⟩
        have HTT := Lib.hid (HT2.out.symm.trans hT)
        have hT4 : T.length = 4 := by rw [← HTT.out]; rfl
        have HSu := Lib.hid (sofar_succ (bys key) (m - 8) (by omega) T ((wT_eq (bys key) (B8.bys key) (m - 8) (by omega)).trans hT))
        have HS3 := Lib.hid HS2.out.out
        clear hT HT2 HS2
        go_loopw [5, 9] (fun v kk wr => ∃ (k d : Nat) (l : List Obj), k ≤ 4 ∧ kk = .int .i64 k ∧ Hid (Has w l v (sofar (bys key) (m - 8) ++ (xorL (wrd (wst cs0 (bys key) (m - 8)).1 (m - 8)) T).take k)) ∧ Hid (l[q]? = some (.cells (cv .u8 T) 5 (0, 0))) ∧ Hid (∀ n c, v ≠ .slice (some ⟨w.heap.size + q, 0, none⟩) n c) ∧ wr = Wd w l d) (fun _ kk _ => 4 - (intOf kk).toNat)
        case atStart => exact ⟨0, _, _, by omega, rfl, by rw [List.take_zero, List.append_nil]; exact HS3.out.more _, Lib.hid (by rw [← HTT.out, ← hq]; simp), Lib.hid fun n c e => by
          have := (List.getElem?_eq_some_iff.1 hj).1
          simp at e <;> omega, rfl⟩
        case round =>
          clear HS3 HTT
          obtain ⟨k, d', l', hk, rfl, HS', HQ, HN, rfl⟩ := hrel
          by_cases hk4 : k < 4
          · have hxl := xorL_length (wrd (wst cs0 (bys key) (m - 8)).1 (m - 8)) T
            have hsl' : (sofar (bys key) (m - 8) ++ (xorL (wrd (wst cs0 (bys key) (m - 8)).1 (m - 8)) T).take k).length = L + k := by
              have := sofar_length (bys key) (m - 8) (by omega)
              simp [hxl]; omega
            have HX := Lib.hid (xor_step (wst cs0 (bys key) (m - 8)).1 T (sofar (bys key) (m - 8)) (m - 8) k hk4)
            have hgs : ∀ x, x < L → gi (sofar (bys key) (m - 8) ++ (xorL (wrd (wst cs0 (bys key) (m - 8)).1 (m - 8)) T).take k) x = gi (wst cs0 (bys key) (m - 8)).1 x := by
              intro x hx
              have := sofar_length (bys key) (m - 8) (by omega)
              rw [gi_left (by omega), sofar, gi_take (by omega)]
            generalize hs : sofar (bys key) (m - 8) ++ (xorL (wrd (wst cs0 (bys key) (m - 8)).1 (m - 8)) T).take k = s at *
            clear hxl hs
            obtain ⟨j', S', t', f', rfl, hj', hf', ht', hle'⟩ := HS'.out
            rw [hsl'] at ht' hle' HN HS' ⊢
            have hgS : gi S' (L - 32 + k) = gi (wst cs0 (bys key) (m - 8)).1 ((m - 8) * 4 + k) := by
              rw [show (m - 8) * 4 + k = L - 32 + k by omega, ← hgs _ (by omega), ← ht', gi_take (by omega)]
            clear hgs hf' ht'
            obtain ⟨y, hy⟩ : ∃ y : Int, 4 * (m : Int) - 32 = y := ⟨_, rfl⟩
            have wy : IntKind.i64.wrap (4 * (m : Int) - 32) = y := by rw [← hy]; exact IntWalk.i64_in _ (by omega)
            obtain ⟨z, hz⟩ : ∃ z : Int, y + (k : Int) = z := ⟨_, rfl⟩
            have wz : IntKind.i64.wrap (y + (k : Int)) = z := by rw [← hz]; exact IntWalk.i64_in _ (by omega)
            have nz : z.toNat = L - 32 + k := by omega
            have zz : 0 ≤ z := by omega
            obtain ⟨Lk, hLk⟩ : ∃ Lk, L + k = Lk := ⟨_, rfl⟩
            rw [hLk] at hsl' hle' HN HS' ⊢
            have iz : z < (Lk : Int) := by omega
            have lz : L - 32 + k < S'.length := by omega
            have ik : (k : Int) < 4 := by omega
            clear hy hz
            have HQ' := HQ.out
            go_wp2
            go_region_law (refine step_app rfl (.tmp 105) (.tmp 119) 52 5 rfl br52 (.slice (some ⟨w.heap.size + j', 0, none⟩) Lk S'.length) s rfl (Or.inr (HS'.out.more _)) l'.length 0 1 1 rfl [xor8 (gi (wst cs0 (bys key) (m - 8)).1 ((m - 8) * 4 + k)) (gi T k)] 5 (0, 0) (at_mid _ _ _) (show 0 + 1 ≤ 1 by decide) (by decide) (by rw [hsl']; omega) ?_; intro v' l2 d2 H1 HK1)
            all_goals
              have hqlt := (List.getElem?_eq_some_iff.1 HQ').1
              obtain ⟨E1, E2⟩ := HK1.out.2 q (by simp; omega) HN.out
              have HQ2 := Lib.hid (E1.trans ((List.getElem?_append_left hqlt).trans HQ'))
              have HN2 := Lib.hid E2
              have H1' := H1.out
              rw [show ∀ x : Nat, List.take 1 (List.drop 0 [x]) = [x] from fun _ => rfl, HX.out] at H1'
              have H2 := Lib.hid H1'
              clear E1 E2 H1 H1' HQ' HK1 hqlt hj'
              go_wp2
              go_roundw
              case rel => exact ⟨k + 1, _, _, by omega, by go_num, H2, HQ2, HN2, rfl⟩
              case measure => simp [intOf]; omega
          · obtain rfl : k = 4 := by omega
            have H4 : Has w l' u5 (sofar (bys key) (m + 1 - 8)) := by
              have h := HS'.out
              rwa [List.take_of_length_le (by rw [xorL_length]; omega), ← HSu.out, show m - 8 + 1 = m + 1 - 8 by omega] at h
            have HH4 := Lib.hid H4
            clear H4
            go_wp2
            go_roundw
            case rel => exact ⟨m + 1, _, _, by omega, by omega, by rw [show m + 1 - 8 = m - 8 + 1 by omega], by go_num, HH4, rfl⟩
            case measure => simp [intOf]; omega
      · have hm0 : ((m : Int) % 8 == 0) = false := by simp; omega
        by_cases h4 : (m - 8) % 8 = 4
        · have hm4 : ((m : Int) % 8 == 4) = true := by simp; omega
          have HT2 := Lib.hid (HTl.out.trans ((if_neg h0).trans (if_pos h4)))
          have HP := Lib.hid (show (wst cs0 (bys key) (m - 8 + 1)).2 = (wst cs0 (bys key) (m - 8)).2 by simp only [wst]; rw [if_neg (by omega)])
          clear h0 h4
          go_wp2
          refine wp_region_still_tail 24 (by kernel_rfl) (by kernel_rfl) ?_
          simp only [List.take_succ_cons, List.take_zero, List.drop_succ_cons, List.drop_zero]
          change wpStill _ _ (Wd _ _ (_ + 1)) _ _ _
          repeat still_step
          refine wpStill_nil ?_
          change wpList _ _ _ _ _ (Wd _ _ (_ + 1))
          rw [← HP.out]
          go_wp2
          obtain ⟨q, hq⟩ : ∃ q, l.length + 1 = q := ⟨_, rfl⟩
          rw [hq]
          obtain ⟨T, hT⟩ : ∃ T, wTl (bys key) (m - 8) = T := ⟨_, rfl⟩
          have HTT := Lib.hid (HT2.out.symm.trans hT)
          have hT4 : T.length = 4 := by rw [← HTT.out]; rfl
          have HSu := Lib.hid (sofar_succ (bys key) (m - 8) (by omega) T ((wT_eq (bys key) (B8.bys key) (m - 8) (by omega)).trans hT))
          have HS3 := Lib.hid HS2.out.out
          clear hT HT2 HS2
          go_loopw [5, 9] (fun v kk wr => ∃ (k d : Nat) (l : List Obj), k ≤ 4 ∧ kk = .int .i64 k ∧ Hid (Has w l v (sofar (bys key) (m - 8) ++ (xorL (wrd (wst cs0 (bys key) (m - 8)).1 (m - 8)) T).take k)) ∧ Hid (l[q]? = some (.cells (cv .u8 T) 5 (0, 0))) ∧ Hid (∀ n c, v ≠ .slice (some ⟨w.heap.size + q, 0, none⟩) n c) ∧ wr = Wd w l d) (fun _ kk _ => 4 - (intOf kk).toNat)
          case atStart => exact ⟨0, _, _, by omega, rfl, by rw [List.take_zero, List.append_nil]; exact HS3.out.more _, Lib.hid (by rw [← HTT.out, ← hq]; simp), Lib.hid fun n c e => by
            have := (List.getElem?_eq_some_iff.1 hj).1
            simp at e <;> omega, rfl⟩
          case round =>
            clear HS3 HTT
            obtain ⟨k, d', l', hk, rfl, HS', HQ, HN, rfl⟩ := hrel
            by_cases hk4 : k < 4
            · have hxl := xorL_length (wrd (wst cs0 (bys key) (m - 8)).1 (m - 8)) T
              have hsl' : (sofar (bys key) (m - 8) ++ (xorL (wrd (wst cs0 (bys key) (m - 8)).1 (m - 8)) T).take k).length = L + k := by
                have := sofar_length (bys key) (m - 8) (by omega)
                simp [hxl]; omega
              have HX := Lib.hid (xor_step (wst cs0 (bys key) (m - 8)).1 T (sofar (bys key) (m - 8)) (m - 8) k hk4)
              have hgs : ∀ x, x < L → gi (sofar (bys key) (m - 8) ++ (xorL (wrd (wst cs0 (bys key) (m - 8)).1 (m - 8)) T).take k) x = gi (wst cs0 (bys key) (m - 8)).1 x := by
                intro x hx
                have := sofar_length (bys key) (m - 8) (by omega)
                rw [gi_left (by omega), sofar, gi_take (by omega)]
              generalize hs : sofar (bys key) (m - 8) ++ (xorL (wrd (wst cs0 (bys key) (m - 8)).1 (m - 8)) T).take k = s at *
              clear hxl hs
              obtain ⟨j', S', t', f', rfl, hj', hf', ht', hle'⟩ := HS'.out
              rw [hsl'] at ht' hle' HN HS' ⊢
              have hgS : gi S' (L - 32 + k) = gi (wst cs0 (bys key) (m - 8)).1 ((m - 8) * 4 + k) := by
                rw [show (m - 8) * 4 + k = L - 32 + k by omega, ← hgs _ (by omega), ← ht', gi_take (by omega)]
              clear hgs hf' ht'
              obtain ⟨y, hy⟩ : ∃ y : Int, 4 * (m : Int) - 32 = y := ⟨_, rfl⟩
              have wy : IntKind.i64.wrap (4 * (m : Int) - 32) = y := by rw [← hy]; exact IntWalk.i64_in _ (by omega)
              obtain ⟨z, hz⟩ : ∃ z : Int, y + (k : Int) = z := ⟨_, rfl⟩
              have wz : IntKind.i64.wrap (y + (k : Int)) = z := by rw [← hz]; exact IntWalk.i64_in _ (by omega)
              have nz : z.toNat = L - 32 + k := by omega
              have zz : 0 ≤ z := by omega
              obtain ⟨Lk, hLk⟩ : ∃ Lk, L + k = Lk := ⟨_, rfl⟩
              rw [hLk] at hsl' hle' HN HS' ⊢
              have iz : z < (Lk : Int) := by omega
              have lz : L - 32 + k < S'.length := by omega
              have ik : (k : Int) < 4 := by omega
              clear hy hz
              have HQ' := HQ.out
              go_wp2
              go_region_law (refine step_app rfl (.tmp 105) (.tmp 119) 52 5 rfl br52 (.slice (some ⟨w.heap.size + j', 0, none⟩) Lk S'.length) s rfl (Or.inr (HS'.out.more _)) l'.length 0 1 1 rfl [xor8 (gi (wst cs0 (bys key) (m - 8)).1 ((m - 8) * 4 + k)) (gi T k)] 5 (0, 0) (at_mid _ _ _) (show 0 + 1 ≤ 1 by decide) (by decide) (by rw [hsl']; omega) ?_; intro v' l2 d2 H1 HK1)
              all_goals
                have hqlt := (List.getElem?_eq_some_iff.1 HQ').1
                obtain ⟨E1, E2⟩ := HK1.out.2 q (by simp; omega) HN.out
                have HQ2 := Lib.hid (E1.trans ((List.getElem?_append_left hqlt).trans HQ'))
                have HN2 := Lib.hid E2
                have H1' := H1.out
                rw [show ∀ x : Nat, List.take 1 (List.drop 0 [x]) = [x] from fun _ => rfl, HX.out] at H1'
                have H2 := Lib.hid H1'
                clear E1 E2 H1 H1' HQ' HK1 hqlt hj'
                go_wp2
                go_roundw
                case rel => exact ⟨k + 1, _, _, by omega, by go_num, H2, HQ2, HN2, rfl⟩
                case measure => simp [intOf]; omega
            · obtain rfl : k = 4 := by omega
              have H4 : Has w l' u5 (sofar (bys key) (m + 1 - 8)) := by
                have h := HS'.out
                rwa [List.take_of_length_le (by rw [xorL_length]; omega), ← HSu.out, show m - 8 + 1 = m + 1 - 8 by omega] at h
              have HH4 := Lib.hid H4
              clear H4
              go_wp2
              go_roundw
              case rel => exact ⟨m + 1, _, _, by omega, by omega, by rw [show m + 1 - 8 = m - 8 + 1 by omega], by go_num, HH4, rfl⟩
              case measure => simp [intOf]; omega
        · have hm4 : ((m : Int) % 8 == 4) = false := by simp; omega
          have HT2 := Lib.hid (HTl.out.trans ((if_neg h0).trans (if_neg h4)))
          have HP := Lib.hid (show (wst cs0 (bys key) (m - 8 + 1)).2 = (wst cs0 (bys key) (m - 8)).2 by simp only [wst]; rw [if_neg (by omega)])
          clear h0 h4
          rw [← HP.out]
          go_wp2
          obtain ⟨q, hq⟩ : ∃ q, l.length = q := ⟨_, rfl⟩
          rw [hq]
          obtain ⟨T, hT⟩ : ∃ T, wTl (bys key) (m - 8) = T := ⟨_, rfl⟩
          have HTT := Lib.hid (HT2.out.symm.trans hT)
          have hT4 : T.length = 4 := by rw [← HTT.out]; rfl
          have HSu := Lib.hid (sofar_succ (bys key) (m - 8) (by omega) T ((wT_eq (bys key) (B8.bys key) (m - 8) (by omega)).trans hT))
          have HS3 := Lib.hid HS2.out.out
          clear hT HT2 HS2
          go_loopw [5, 9] (fun v kk wr => ∃ (k d : Nat) (l : List Obj), k ≤ 4 ∧ kk = .int .i64 k ∧ Hid (Has w l v (sofar (bys key) (m - 8) ++ (xorL (wrd (wst cs0 (bys key) (m - 8)).1 (m - 8)) T).take k)) ∧ Hid (l[q]? = some (.cells (cv .u8 T) 5 (0, 0))) ∧ Hid (∀ n c, v ≠ .slice (some ⟨w.heap.size + q, 0, none⟩) n c) ∧ wr = Wd w l d) (fun _ kk _ => 4 - (intOf kk).toNat)
          case atStart => exact ⟨0, _, _, by omega, rfl, by rw [List.take_zero, List.append_nil]; exact HS3.out.more _, Lib.hid (by rw [← HTT.out, ← hq]; simp), Lib.hid fun n c e => by
            have := (List.getElem?_eq_some_iff.1 hj).1
            simp at e <;> omega, rfl⟩
          case round =>
            clear HS3 HTT
            obtain ⟨k, d', l', hk, rfl, HS', HQ, HN, rfl⟩ := hrel
            by_cases hk4 : k < 4
            · have hxl := xorL_length (wrd (wst cs0 (bys key) (m - 8)).1 (m - 8)) T
              have hsl' : (sofar (bys key) (m - 8) ++ (xorL (wrd (wst cs0 (bys key) (m - 8)).1 (m - 8)) T).take k).length = L + k := by
                have := sofar_length (bys key) (m - 8) (by omega)
                simp [hxl]; omega
              have HX := Lib.hid (xor_step (wst cs0 (bys key) (m - 8)).1 T (sofar (bys key) (m - 8)) (m - 8) k hk4)
              have hgs : ∀ x, x < L → gi (sofar (bys key) (m - 8) ++ (xorL (wrd (wst cs0 (bys key) (m - 8)).1 (m - 8)) T).take k) x = gi (wst cs0 (bys key) (m - 8)).1 x := by
                intro x hx
                have := sofar_length (bys key) (m - 8) (by omega)
                rw [gi_left (by omega), sofar, gi_take (by omega)]
              generalize hs : sofar (bys key) (m - 8) ++ (xorL (wrd (wst cs0 (bys key) (m - 8)).1 (m - 8)) T).take k = s at *
              clear hxl hs
              obtain ⟨j', S', t', f', rfl, hj', hf', ht', hle'⟩ := HS'.out
              rw [hsl'] at ht' hle' HN HS' ⊢
              have hgS : gi S' (L - 32 + k) = gi (wst cs0 (bys key) (m - 8)).1 ((m - 8) * 4 + k) := by
                rw [show (m - 8) * 4 + k = L - 32 + k by omega, ← hgs _ (by omega), ← ht', gi_take (by omega)]
              clear hgs hf' ht'
              obtain ⟨y, hy⟩ : ∃ y : Int, 4 * (m : Int) - 32 = y := ⟨_, rfl⟩
              have wy : IntKind.i64.wrap (4 * (m : Int) - 32) = y := by rw [← hy]; exact IntWalk.i64_in _ (by omega)
              obtain ⟨z, hz⟩ : ∃ z : Int, y + (k : Int) = z := ⟨_, rfl⟩
              have wz : IntKind.i64.wrap (y + (k : Int)) = z := by rw [← hz]; exact IntWalk.i64_in _ (by omega)
              have nz : z.toNat = L - 32 + k := by omega
              have zz : 0 ≤ z := by omega
              obtain ⟨Lk, hLk⟩ : ∃ Lk, L + k = Lk := ⟨_, rfl⟩
              rw [hLk] at hsl' hle' HN HS' ⊢
              have iz : z < (Lk : Int) := by omega
              have lz : L - 32 + k < S'.length := by omega
              have ik : (k : Int) < 4 := by omega
              clear hy hz
              have HQ' := HQ.out
              go_wp2
              go_region_law (refine step_app rfl (.tmp 105) (.tmp 119) 52 5 rfl br52 (.slice (some ⟨w.heap.size + j', 0, none⟩) Lk S'.length) s rfl (Or.inr (HS'.out.more _)) l'.length 0 1 1 rfl [xor8 (gi (wst cs0 (bys key) (m - 8)).1 ((m - 8) * 4 + k)) (gi T k)] 5 (0, 0) (at_mid _ _ _) (show 0 + 1 ≤ 1 by decide) (by decide) (by rw [hsl']; omega) ?_; intro v' l2 d2 H1 HK1)
              all_goals
                have hqlt := (List.getElem?_eq_some_iff.1 HQ').1
                obtain ⟨E1, E2⟩ := HK1.out.2 q (by simp; omega) HN.out
                have HQ2 := Lib.hid (E1.trans ((List.getElem?_append_left hqlt).trans HQ'))
                have HN2 := Lib.hid E2
                have H1' := H1.out
                rw [show ∀ x : Nat, List.take 1 (List.drop 0 [x]) = [x] from fun _ => rfl, HX.out] at H1'
                have H2 := Lib.hid H1'
                clear E1 E2 H1 H1' HQ' HK1 hqlt hj'
                go_wp2
                go_roundw
                case rel => exact ⟨k + 1, _, _, by omega, by go_num, H2, HQ2, HN2, rfl⟩
                case measure => simp [intOf]; omega
            · obtain rfl : k = 4 := by omega
              have H4 : Has w l' u5 (sofar (bys key) (m + 1 - 8)) := by
                have h := HS'.out
                rwa [List.take_of_length_le (by rw [xorL_length]; omega), ← HSu.out, show m - 8 + 1 = m + 1 - 8 by omega] at h
              have HH4 := Lib.hid H4
              clear H4
              go_wp2
              go_roundw
              case rel => exact ⟨m + 1, _, _, by omega, by omega, by rw [show m + 1 - 8 = m - 8 + 1 by omega], by go_num, HH4, rfl⟩
              case measure => simp [intOf]; omega
    · obtain rfl : m = 60 := by omega
      have H52 : Hid (Has w l u5 (sofar (bys key) 52)) := HS
      go_wp2
      go_ret
      exact ⟨_, _, _, rfl, rfl, H52.out⟩
end Go.Proofs.YtfamoakicgmfgaaGreat

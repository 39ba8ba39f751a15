/- Derived bytes: by contract. -/
import Derived.Test.YtbiadmhomadflaaGreatDoorH1
namespace Go.Proofs.YtbiadmhomadflaaGreatDoor.Sm
open Go.RowKit Go.Own

theorem bsS3 (a b c : ByteArray) (w : World) (l : List Obj) (d : Nat) : (bsN 93 3 #[(0, .string a), (1, .string b), (2, .string c)]).run Tryz.prog (Wd w l d) =
    .ok (.slice (some ⟨w.heap.size + l.length, 0, none⟩) 3 3) (Wd w (l ++ [.cells #[.string a, .string b, .string c] 9 (0, 0)]) d) := by
  rw [← Wd_alloc, ← Wd_size w l d]
  generalize Wd w l d = W
  kernel_rfl
theorem parts3 {w : World} {L : List Obj} {d i : Nat} {a b c : ByteArray} {t : TypeId} {f : Nat × Nat} (h : L[i]? = some (.cells #[.string a, .string b, .string c] t f)) : Parts (Wd w L d) (some ⟨w.heap.size + i, 0, none⟩) [a, b, c] := by
  intro j s hs
  refine ⟨_, _, _, _, rfl, by rw [blk_at]; exact h, ?_⟩
  match j, hs with
  | 0, hs => simp at hs; simp [hs]
  | 1, hs => simp at hs; simp [hs]
  | 2, hs => simp at hs; simp [hs]
theorem allB3 (a b c : ByteArray) : allB [a, b, c] = bys a ++ (bys b ++ bys c) := by simp [allB]
/-- append of a text to a row of bytes that has room, the first block of the call's own. -/
theorem run_apS {dT sT ty : TypeId} {w : World} {l : List Obj} {d n c : Nat} {s : ByteArray} {S : List Nat} {t : TypeId}
    (hu : Tryz.prog.underlying dT = some (.slice (Tryz.prog.elem dT))) (hs : Tryz.prog.underlying sT = some .string) (h1 : (sizeOf (Tryz.prog.elem dT)).run Tryz.prog (Wd w (.cells (cv .u8 S) t (0, 0) :: l) d) = .ok 1 (Wd w (.cells (cv .u8 S) t (0, 0) :: l) d)) (hroom : n + s.size ≤ c) (hfit : n + s.size ≤ S.length) :
    (apN #[dT, sT] ty #[.slice (some ⟨w.heap.size, 0, none⟩) n c, .string s]).run Tryz.prog (Wd w (.cells (cv .u8 S) t (0, 0) :: l) d) =
      .ok (.slice (some ⟨w.heap.size, 0, none⟩) (n + s.size) c) (Wd w (.cells (cv .u8 (spl S n (bys s))) t (0, 0) :: l) d) := by
  have hx : (bys s).length = s.size := bys_length s
  have h2 : (Obj.cells (cv .u8 S) t (0, 0) :: l)[0]? = some (.cells (cv .u8 S) t (0, 0)) := rfl
  have hr := run_storeCells_at Tryz.prog (w.heap.size + 0) n t (cv .u8 (bys s)).toList 0 (cv .u8 S) (Wd w (.cells (cv .u8 S) t (0, 0) :: l) d) (by rw [Wd_at]; exact h2) (by simp [hx]; omega) cv_oneCell
  rw [Nat.add_zero n, spl_cv, Wd_setRow _ _ _ _ _ _ _ _ h2, Nat.add_zero w.heap.size, List.set_cons_zero] at hr
  have he : bys (s.extract 0 s.size) = bys s := by rw [bys_extract, List.drop_zero, Nat.sub_zero, List.take_of_length_le (by omega)]
  have hf : ((s.extract 0 s.size).data.map fun b => Value.int .u8 b.toNat) = cv .u8 (bys s) := by rw [cells_bys, he]
  have hf' : (Builtin.firstCells 1 s.size (.string s)).run Tryz.prog (Wd w (.cells (cv .u8 S) t (0, 0) :: l) d) = .ok (cv .u8 (bys s)) (Wd w (.cells (cv .u8 S) t (0, 0) :: l) d) := by
    simp only [Builtin.firstCells, Sem.run_pure, hf]
  have hadd : (⟨w.heap.size, 0, none⟩ : Addr).add n = ⟨w.heap.size, n, none⟩ := by unfold Addr.add; split <;> simp_all
  unfold apN
  simp [Builtin.append_, run_underlying hu, run_underlying hs, Builtin.lenOf, hf', h1, hroom, hadd, hr]
theorem mkX_0 {P : Program} {T : TypeId} {w : World} {l : List Obj} {d c : Nat} {k : IntKind} (hu : P.underlying T = some (.slice (P.elem T)))
    (h1 : (P.info? (P.elem T)).map (fun i => (i.zero, i.size, i.bytes)) = some (some (.int k 0), 1, 1)) (hc : c ≤ 140737488355328) :
    mkX P T (.int k 0) w l d 0 (c : Int) = .ok (.slice (some ⟨w.heap.size + l.length, 0, none⟩) 0 c) (Wd w (l ++ [.cells (cv k (rep c)) (P.elem T) (0, 0)]) d) := mkX_cv hu h1 (Nat.zero_le c) hc
/-- The i-th piece of what is derived. -/
def dT (u info : List Nat) : Nat → List Nat
  | 0 => []
  | i + 1 => tagL u (dT u info i ++ (info ++ [(i + 1) % 256]))
def dF (u info : List Nat) (i : Nat) : List Nat := dT u info (i + 1)
/-- So many pieces. -/
def outD (u info : List Nat) (q : Nat) : List Nat := (List.range q).flatMap (dF u info)
theorem dF_length (u info : List Nat) (i : Nat) : (dF u info i).length = 32 := tagL_length _ _
theorem outD_length (u info : List Nat) (q : Nat) : (outD u info q).length = 32 * q := flat_length (dF_length u info) q
theorem outD_succ (u info : List Nat) (q : Nat) : outD u info (q + 1) = outD u info q ++ dT u info (q + 1) := by simp [outD, List.range_succ, dF]
theorem outD_take (u info : List Nat) (n : Nat) : ∀ k q, n ≤ 32 * q → (outD u info (q + k)).take n = (outD u info q).take n
  | 0, q, _ => rfl
  | k + 1, q, h => by
    rw [← Nat.add_assoc, outD_succ, List.take_append_of_le_length (by rw [outD_length]; omega)]
    exact outD_take u info n k q h
/-- The bytes that are derived. -/
def derL (u info : List Nat) (n : Nat) : List Nat := (outD u info 255).take n
theorem derL_eq (u info : List Nat) (n q : Nat) (h : n ≤ 32 * q) (hq : q ≤ 255) : (outD u info q).take n = derL u info n := by
  unfold derL
  have := outD_take u info n (255 - q) q h
  rw [Nat.add_sub_cancel' hq] at this
  exact this.symm
attribute [local go_sem] bsS1 bsS2 bsS3 bs1 run_apS mkX_0 ag5 cs5 sz5 isa5 isa9 ag9
set_option maxRecDepth 100000 in
set_option maxHeartbeats 1000000 in
theorem derive_bad (salt secret info : ByteArray) (n : Int) (h : n < 0 ∨ 8160 < n) (w : World) :
    Calls Tryz.prog 41 #[.string salt, .string secret, .string info, .int .i64 n] w fun e w' => e = .returned (.tuple #[.string (mkS []), .int .i64 1]) ∧ Grows w w' := by
  have h' : n < 0 ∨ (¬ n < 0 ∧ 8160 < n) := by omega
  clear h
  refine calls_wd ?_
  rcases h' with z | ⟨z1, z2⟩
  all_goals
    go_enter Tryz.func41, Tryz.ntmps41
    go_wp2
    go_ret2
    exact ⟨rfl, Grows.of _ _ _⟩
set_option maxRecDepth 100000 in
set_option maxHeartbeats 2000000 in
theorem derive_any (salt secret info : ByteArray) (n : Nat) (h : n ≤ 8160) (h1 : salt.size ≤ 1099511600000) (h2 : secret.size ≤ 1099511500000) (h3 : info.size ≤ 1099511400000) (w : World) (hR : Roots w) :
    Calls Tryz.prog 41 #[.string salt, .string secret, .string info, .int .i64 (n : Int)] w fun e w' => e = .returned (.tuple #[.string (mkS (derL (tagL (bys salt) (bys secret)) (bys info) n)), .int .i64 0]) ∧ Grows w w' := by
  have hmk : (Tryz.prog.info? 5).map (fun i => (i.zero, i.size, i.bytes)) = some (some (.int .u8 0), 1, 1) := by kernel_rfl
  have hz5 : zeroOf Tryz.prog 5 = .int .u8 0 := by kernel_rfl
  have HR0 := Lib.hid hR; clear hR
  obtain ⟨c, hc⟩ : ∃ c : Nat, n + 32 = c := ⟨_, rfl⟩
  have hci : (n : Int) + 32 = c := by omega
  have hcb : c ≤ 140737488355328 := by omega
  have hn0 : (n : Int) ≤ 8160 := by omega
  refine calls_wd ?_
  go_enter Tryz.func41, Tryz.ntmps41
  go_wp2_with fail
  refine (tag_any salt h1 _ (HR0.out.wd _ _) _ 1 [secret] (Parts.o (parts1 (i := 0) (t := 9) (f := (0, 0)) ?hp)) ?hq (by simp)).mono ?_
  case hp => rfl
  case hq => rw [allB1, bys_length]; omega
  rintro e w' ⟨rfl, g, d, rfl⟩
  rw [Wd_wd, allB1]
  obtain ⟨u, hu⟩ : ∃ u, tagL (bys salt) (bys secret) = u := ⟨_, rfl⟩
  have hul : Hid (u.length = 32) := Lib.hid (by rw [← hu]; exact tagL_length _ _)
  have hu8 : Hid (B8 u) := Lib.hid (by rw [← hu]; exact tagL_B8 _ _)
  have HU := Lib.hid hu
  rw [hu]
  clear hu
  go_wp2
  obtain ⟨W, hW⟩ : ∃ W, Wd w (.cells #[.string secret] 9 (0, 0) :: g) d = W := ⟨_, rfl⟩
  have hs2 : w.heap.size + (g.length + 1) = W.heap.size := by rw [← hW, Wd_size]; rfl
  have hWW : Wd w (.cells #[.string secret] 9 (0, 0) :: (g ++ [.cells (cv .u8 (rep c)) 5 (0, 0)])) d = Wd W [.cells (cv .u8 (rep c)) 5 (0, 0)] 0 := by
    rw [← hW, Wd_wd]; rfl
  have HGW : Hid (Grows w W) := Lib.hid (hW ▸ Grows.of _ _ _)
  have HR : Hid (Roots W) := Lib.hid (HR0.out.grows HGW.out)
  rw [hs2, hWW]
  clear hs2 hWW hW HR0
  obtain ⟨x, hx⟩ : ∃ x, bys info = x := ⟨_, rfl⟩
  have HX := Lib.hid hx
  have hxl : Hid (x.length ≤ 1099511400000) := Lib.hid (by rw [← hx, bys_length]; exact h3)
  clear hx
  go_loopw [11, 12, 13] (fun o t i wr => ∃ (q m d a : Nat) (S T : List Nat) (g : List Obj), 32 * q = m ∧ q + 1 = a ∧ m < n + 32 ∧ o = .slice (some ⟨W.heap.size, 0, none⟩) m c ∧ t = .string (mkS T) ∧ Hid (dT u x q = T) ∧ i = .int .i64 a ∧ Hid (S.take m = outD u x q) ∧ S.length = c ∧ wr = Wd W (.cells (cv .u8 S) 5 (0, 0) :: g) d) (fun o _ _ _ => match o with | .slice _ k _ => n + 32 - k | _ => 0)
  case atStart => exact ⟨0, 0, 0, 1, rep c, [], [], rfl, rfl, by omega, rfl, rfl, Lib.hid rfl, rfl, Lib.hid (by simp [outD]), rep_length _, rfl⟩
  case round =>
    obtain ⟨q, m, d, a, S, T, g, hm, ha, hmn, rfl, rfl, hT, rfl, hS, hSl, rfl⟩ := hrel
    have HM := Lib.hid hm
    have HA := Lib.hid ha
    clear hm ha
    by_cases hlt : m < n
    · have hlti : (m : Int) < n := by omega
      have hTl : Hid (T.length ≤ 32) := Lib.hid (by rw [← hT.out]; cases q with | zero => exact Nat.zero_le _ | succ q => rw [dT, tagL_length]; exact Nat.le_refl _)
      have hT8 : Hid (B8 T) := Lib.hid (by rw [← hT.out]; cases q with | zero => exact (fun n hn => by simp [dT] at hn) | succ q => exact tagL_B8 _ _)
      obtain ⟨y, hy⟩ : ∃ y, a % 256 = y := ⟨_, rfl⟩
      have hwb := wrap8 a
      rw [hy] at hwb
      obtain ⟨T', hT'⟩ : ∃ T', dT u x (q + 1) = T' := ⟨_, rfl⟩
      have HT' := Lib.hid hT'
      have hTE : Hid (tagL u (T ++ (x ++ [y])) = T') := Lib.hid (by rw [← hT', dT, hT.out, HA.out, hy])
      have hTl' : Hid (T'.length = 32) := Lib.hid (by rw [← hTE.out]; exact tagL_length _ _)
      have hyb : Hid (y < 256) := Lib.hid (by rw [← hy]; exact Nat.mod_lt _ (by decide))
      clear hT' hy
      go_wp2_with fail
      have hE : tagL (bys (mkS u)) (allB [mkS T, info, mkS [y]]) = T' := by
        rw [bys_mkS u hu8.out, allB3, bys_mkS T hT8.out, HX.out, bys_mkS [y] (fun n hn => by rw [List.mem_singleton] at hn; rw [hn]; exact hyb.out), hTE.out]
      refine (tag_any (mkS u) (by rw [mkS_size, hul.out]; decide) _ (HR.out.wd _ _) _ 3 [mkS T, info, mkS [y]] (Parts.o (parts3 (i := g.length + 1 + 1) (t := 9) (f := (0, 0)) ?hp)) ?hq (by simp)).mono ?_
      case hp => rw [List.getElem?_cons_succ, List.getElem?_append_right (by omega)]; simp
      case hq =>
        rw [allB3, bys_mkS T hT8.out, HX.out, bys_mkS [y] (fun n hn => by rw [List.mem_singleton] at hn; rw [hn]; exact hyb.out)]
        have h1 := hTl.out
        have h2 := hxl.out
        simp only [List.length_append, List.length_cons, List.length_nil]; omega
      rintro e w' ⟨rfl, g2, d2, rfl⟩
      rw [Wd_wd, hE]
      clear hE
      have hsz : (mkS T').size = 32 := by rw [mkS_size]; exact hTl'.out
      have hbT : bys (mkS T') = T' := bys_mkS T' (by rw [← hTE.out]; exact tagL_B8 _ _)
      obtain ⟨m2, hm2⟩ : ∃ m2, m + 32 = m2 := ⟨_, rfl⟩
      have hm2c : m2 ≤ c := by omega
      obtain ⟨a2, ha2⟩ : ∃ a2, a + 1 = a2 := ⟨_, rfl⟩
      have ha2i : (a : Int) + 1 = a2 := by omega
      have HA2 := Lib.hid ha2
      have HM2 := Lib.hid hm2
      have ha9 : a ≤ 300 := by have := HM.out; have := HA.out; omega
      have ha29 : a2 ≤ 301 := by omega
      clear ha2
      go_wp2
      go_roundw
      case rel =>
        refine ⟨q + 1, m2, _, a2, _, T', _, ?_, ?_, ?_, rfl, rfl, HT', rfl, Lib.hid ?_, ?_, rfl⟩
        · have := HM.out; have := HM2.out; omega
        · have := HA.out; have := HA2.out; omega
        · have := HM2.out; omega
        · have ht := take_spl (s := S) (x := T') (o := m) (by rw [hTl'.out]; have := HM2.out; omega)
          rw [hTl'.out, HM2.out, hS.out] at ht
          rw [ht, outD_succ, HT'.out]
        · rw [spl_length _ _ _ (by rw [hTl'.out]; have := HM2.out; omega), hSl]
      case measure => have := HM2.out; simp; omega
    · have hlti : ¬ (m : Int) < n := by omega
      have hnc : (n : Int) ≤ (c : Int) := by omega
      have hnc2 : n ≤ c := by omega
      have hD : Hid (S.take n = derL u x n) := Lib.hid (by
        rw [← derL_eq u x n q (by have := HM.out; omega) (by have := HM.out; omega), ← hS.out, List.take_take, Nat.min_eq_left (by omega)])
      go_wp2
      go_ret2
      exact ⟨by rw [HU.out, HX.out, hD.out]; rfl, HGW.out.trans (Grows.of _ _ _)⟩
end Go.Proofs.YtbiadmhomadflaaGreatDoor.Sm

/- A tally's block: eight words, 64 bytes, a count; the laws to read and write it. No condition. | A tally's beginning, its ending, its text: by contract. | Bytes that come to a tally: by contract. -/
import Derived.Test.YtlogjpmdfimgdaaGreatDoorZ03
import Derived.Test.YtlogjpmdfimgdaaGreatDoorZ04
import Derived.Test.YtlogjpmdfimgdaaGreatDoorZ05
namespace Go.Own.Jf
open Go.RowKit

/-! ### The tally -/
def tc (st bl : List Nat) (n : Nat) : Array Value := cv .u32 st ++ cv .u8 bl ++ #[.int .i64 n]
theorem tc_size (st bl : List Nat) (n : Nat) : (tc st bl n).size = st.length + bl.length + 1 := by simp [tc]; omega
theorem tc_list (st bl : List Nat) (n : Nat) : (tc st bl n).toList = (cv .u32 st).toList ++ ((cv .u8 bl).toList ++ [.int .i64 n]) := by simp [tc]
theorem cv_len (k : IntKind) (s : List Nat) : (cv k s).toList.length = s.length := by simp
theorem tc_st (st bl : List Nat) (n : Nat) : (tc st bl n).extract 0 (0 + st.length) = cv .u32 st := by
  apply Array.ext'
  rw [Array.toList_extract, tc_list, List.extract_eq_take_drop, List.drop_zero, Nat.zero_add, Nat.sub_zero, List.take_append_of_le_length (by rw [cv_len]; exact Nat.le_refl _), List.take_of_length_le (by rw [cv_len]; exact Nat.le_refl _)]
theorem tc_bl (st bl : List Nat) (n : Nat) : (tc st bl n).extract st.length (st.length + bl.length) = cv .u8 bl := by
  apply Array.ext'
  rw [Array.toList_extract, tc_list, List.extract_eq_take_drop, List.drop_append_of_le_length (by rw [cv_len]; exact Nat.le_refl _), List.drop_of_length_le (by rw [cv_len]; exact Nat.le_refl _), List.nil_append, Nat.add_sub_cancel_left, List.take_append_of_le_length (by rw [cv_len]; exact Nat.le_refl _), List.take_of_length_le (by rw [cv_len]; exact Nat.le_refl _)]
theorem tc_n (st bl : List Nat) (n : Nat) : (tc st bl n)[st.length + bl.length]? = some (.int .i64 n) := by
  rw [← Array.getElem?_toList, tc_list, List.getElem?_append_right (by rw [cv_len]; omega), cv_len, Nat.add_sub_cancel_left, List.getElem?_append_right (by rw [cv_len]; exact Nat.le_refl _), cv_len, Nat.sub_self]
  rfl
theorem tc_set_st (st st' bl : List Nat) (n : Nat) (h : st'.length = st.length) : splA (tc st bl n) 0 (cv .u32 st').toList = tc st' bl n := by
  apply Array.ext'
  rw [splA, tc_list, tc_list, cv_len, List.take_zero, List.nil_append, Nat.zero_add, List.drop_append_of_le_length (by rw [cv_len]; omega), List.drop_of_length_le (by rw [cv_len]; omega), List.nil_append]
theorem tc_set_n (st bl : List Nat) (n m : Nat) : splA (tc st bl n) (st.length + bl.length) [.int .i64 (m : Int)] = tc st bl m := by
  apply Array.ext'
  have e : (tc st bl n).toList = ((cv .u32 st).toList ++ (cv .u8 bl).toList) ++ [.int .i64 n] := by rw [tc_list, List.append_assoc]
  have hl : ((cv .u32 st).toList ++ (cv .u8 bl).toList).length = st.length + bl.length := by simp
  rw [splA, e, tc_list, List.take_append_of_le_length (by omega), List.take_of_length_le (by omega), List.drop_of_length_le (by simp; omega), List.append_nil, List.append_assoc]
theorem tc_set_bl (st bl x : List Nat) (n o : Nat) (h : o + x.length ≤ bl.length) : splA (tc st bl n) (st.length + o) (cv .u8 x).toList = tc st (spl bl o x) n := by
  apply Array.ext'
  rw [splA, tc_list, tc_list, cv_len]
  have h1 : (cv .u32 st).toList.length = st.length := cv_len _ _
  rw [List.take_append, h1, List.take_of_length_le (by omega), Nat.add_sub_cancel_left, List.take_append_of_le_length (by rw [cv_len]; omega)]
  rw [List.drop_append, h1, List.drop_of_length_le (by omega), List.nil_append, show st.length + o + x.length - st.length = o + x.length by omega, List.drop_append_of_le_length (by rw [cv_len]; omega)]
  simp [cv, spl, List.map_take, List.map_drop]
theorem tc_one (st bl : List Nat) (n : Nat) : ∀ v ∈ (tc st bl n).toList, v.oneCell' = true := by
  intro v hv
  rw [tc_list, List.mem_append, List.mem_append] at hv
  rcases hv with h | h | h
  · exact cv_oneCell v h
  · exact cv_oneCell v h
  · obtain rfl := List.mem_singleton.1 h; rfl
theorem tc_all (st bl st' bl' : List Nat) (n n' : Nat) (h1 : st'.length = st.length) (h2 : bl'.length = bl.length) : splA (tc st bl n) 0 (tc st' bl' n').toList = tc st' bl' n' := by
  apply Array.ext'
  rw [splA, List.take_zero, List.nil_append, List.drop_of_length_le, List.append_nil]
  rw [Array.length_toList, Array.length_toList, tc_size, tc_size]; omega
theorem tc_extract (st bl : List Nat) (n m : Nat) (h : m = st.length + bl.length + 1) : (tc st bl n).extract 0 (0 + m) = tc st bl n := by
  apply Array.ext'
  rw [Array.toList_extract, List.extract_eq_take_drop, List.drop_zero, List.take_of_length_le]
  rw [Array.length_toList, tc_size]; omega

section
variable {P : Program} {T : TypeId} {b : Nat} {W : World} {st bl : List Nat} {n : Nat} {t : TypeId} {f : Nat × Nat}
theorem ldX_st (hs : st.length = 8) (h1 : aggSize P T = some 8) (h2 : blk W b = some (.cells (tc st bl n) t f)) : ldX P T (some 8) (some (.cells (tc st bl n) t f)) b 0 W = .ok (.agg (cv .u32 st)) W := by
  rw [ldX_mix h1 h2 (by rw [tc_size]; omega), ← hs, tc_st]
theorem ldX_bl (hs : st.length = 8) (hb : bl.length = 64) (h1 : aggSize P T = some 64) (h2 : blk W b = some (.cells (tc st bl n) t f)) : ldX P T (some 64) (some (.cells (tc st bl n) t f)) b 8 W = .ok (.agg (cv .u8 bl)) W := by
  rw [ldX_mix h1 h2 (by rw [tc_size]; omega), ← hs, ← hb, tc_bl]
theorem ldX_n (hs : st.length = 8) (hb : bl.length = 64) (ha : (isAgg T).run P W = .ok false W) (h2 : blk W b = some (.cells (tc st bl n) t f)) : ldX P T none (some (.cells (tc st bl n) t f)) b 72 W = .ok (.int .i64 n) W :=
  ldX_mix1 ha h2 (by rw [show 72 = st.length + bl.length by omega, tc_n])
theorem ldX_tc (hs : st.length = 8) (hb : bl.length = 64) (h1 : aggSize P T = some 73) (h2 : blk W b = some (.cells (tc st bl n) t f)) : ldX P T (some 73) (some (.cells (tc st bl n) t f)) b 0 W = .ok (.agg (tc st bl n)) W := by
  rw [ldX_mix h1 h2 (by rw [tc_size]; omega), tc_extract _ _ _ _ (by omega)]
variable {w : World} {l : List Obj} {d i : Nat}
theorem stX_st {st' : List Nat} (hs : st.length = 8) (h1 : (sizeOf T).run P (Wd w l d) = .ok 8 (Wd w l d)) (h2 : l[i]? = some (.cells (tc st bl n) t (0, 0))) (hs' : st'.length = 8) :
    stX P T 8 (some (.cells (tc st bl n) t (0, 0))) w l d i 0 (.agg (cv .u32 st')) = .ok () (Wd w (l.set i (.cells (tc st' bl n) t (0, 0))) d) := by
  rw [stX_mix h1 h2 (by simp [hs']) (by rw [tc_size]; omega) cv_oneCell, tc_set_st _ _ _ _ (by omega)]
theorem stX_n {m : Nat} (hs : st.length = 8) (hb : bl.length = 64) (h1 : (sizeOf T).run P (Wd w l d) = .ok 1 (Wd w l d)) (h2 : l[i]? = some (.cells (tc st bl n) t (0, 0))) :
    stX P T 1 (some (.cells (tc st bl n) t (0, 0))) w l d i 72 (.int .i64 (m : Int)) = .ok () (Wd w (l.set i (.cells (tc st bl m) t (0, 0))) d) := by
  rw [stX_mix1 h1 rfl h2 (by rw [tc_size]; omega), show 72 = st.length + bl.length by omega, tc_set_n]
theorem stX_tc {st' bl' : List Nat} {m : Nat} (hs : st.length = 8) (hb : bl.length = 64) (h1 : (sizeOf T).run P (Wd w l d) = .ok 73 (Wd w l d)) (h2 : l[i]? = some (.cells (tc st bl n) t (0, 0))) (hs' : st'.length = 8) (hb' : bl'.length = 64) :
    stX P T 73 (some (.cells (tc st bl n) t (0, 0))) w l d i 0 (.agg (tc st' bl' m)) = .ok () (Wd w (l.set i (.cells (tc st' bl' m) t (0, 0))) d) := by
  rw [stX_mix h1 h2 (by rw [tc_size]; omega) (by rw [tc_size]; omega) (tc_one _ _ _), tc_all _ _ _ _ _ _ (by omega) (by omega)]
/-- How many bytes a copy takes: by name. -/
def cpn (c m : Nat) : Nat := Nat.min m c
theorem cpX_tc {dT sT ty : TypeId} {o c c2 : Nat} {s : ByteArray} (hs : st.length = 8) (hb : bl.length = 64) (hu : P.underlying dT = some (.slice (P.elem dT))) (h1 : (sizeOf (P.elem dT)).run P (Wd w l d) = .ok 1 (Wd w l d)) (h2 : l[i]? = some (.cells (tc st bl n) t (0, 0))) (ho : o + c ≤ 64) :
    cpX P dT sT ty (some (.cells (tc st bl n) t (0, 0))) w l d i (8 + o) c c2 s = .ok (.int .i64 ((cpn c s.size : Nat) : Int)) (Wd w (l.set i (.cells (tc st (spl bl o ((bys s).take c)) n) t (0, 0))) d) := by
  have hle1 : Nat.min s.size c ≤ s.size := Nat.min_le_left _ _
  have hle2 : Nat.min s.size c ≤ c := Nat.min_le_right _ _
  have hor : Nat.min s.size c = s.size ∨ Nat.min s.size c = c := by
    show min s.size c = _ ∨ min s.size c = _
    omega
  have hm : cpn c s.size = Nat.min s.size c := rfl
  rw [hm]
  have hbs := bys_length s
  generalize hmm : Nat.min s.size c = m at *
  have he : bys (s.extract 0 m) = (bys s).take c := by
    rw [bys_extract, List.drop_zero, Nat.sub_zero]
    rcases hor with h | h
    · rw [List.take_of_length_le (by omega), List.take_of_length_le (by omega)]
    · rw [h]
  have hx : (bys (s.extract 0 m)).length = m := by
    rw [he, List.length_take, hbs]
    omega
  have hr := run_storeCells_at P (w.heap.size + i) (8 + o) t (cv .u8 (bys (s.extract 0 m))).toList 0 (tc st bl n) (Wd w l d) (by rw [Wd_at]; exact h2) (by rw [cv_len, hx, tc_size]; omega) cv_oneCell
  rw [Nat.add_zero, Wd_setRow _ _ _ _ _ _ _ _ h2] at hr
  have hsp : ((tc st bl n).toList.take (8 + o) ++ (cv .u8 (bys (s.extract 0 m))).toList ++ (tc st bl n).toList.drop (8 + o + (cv .u8 (bys (s.extract 0 m))).toList.length)).toArray = tc st (spl bl o ((bys s).take c)) n := by
    have := tc_set_bl st bl (bys (s.extract 0 m)) n o (by rw [hx]; omega)
    rw [hs, splA] at this
    rw [this, he]
  rw [hsp, he] at hr
  have hf : ((s.extract 0 m).data.map fun b => Value.int .u8 b.toNat) = cv .u8 ((bys s).take c) := by rw [cells_bys, he]
  have hf' : (Builtin.firstCells 1 m (.string s)).run P (Wd w l d) = .ok (cv .u8 ((bys s).take c)) (Wd w l d) := by
    simp only [Builtin.firstCells, Sem.run_pure, hf]
  simp [cpX, Builtin.copy_, run_underlying hu, Builtin.lenOf, h1, hmm, hf', hr, goInt]
end
end Go.Own.Jf
namespace Go.Proofs.YtlogjpmdfimgdaaGreatDoor.Jf.Sm
open Go.RowKit Go.Own.Jf

theorem ag234 : aggSize Tryz.prog 234 = some 73 := by kernel_rfl
theorem cs234 : Tryz.prog.cellsOf 234 = 73 := by kernel_rfl
theorem sz234 (w : World) : (sizeOf 234).run Tryz.prog w = .ok 73 w := by kernel_rfl
theorem z234 : zeroOf Tryz.prog 234 = .agg (tc (rep 8) (rep 64) 0) := by kernel_rfl
def startL : List Nat := [1779033703, 3144134277, 1013904242, 2773480762, 1359893119, 2600822924, 528734635, 1541459225]
theorem startL_length : startL.length = 8 := rfl
theorem bu230s (W : World) : (buN 230 #[(0, .int .u32 1779033703), (1, .int .u32 3144134277), (2, .int .u32 1013904242), (3, .int .u32 2773480762), (4, .int .u32 1359893119), (5, .int .u32 2600822924), (6, .int .u32 528734635), (7, .int .u32 1541459225)]).run Tryz.prog W = .ok (.agg (cv .u32 startL)) W := by kernel_rfl
theorem bu234 (W : World) : (buN 234 #[(0, .agg (cv .u32 startL))]).run Tryz.prog W = .ok (.agg (tc startL (rep 64) 0)) W := by kernel_rfl
def bsN (T : TypeId) (n : Nat) (parts : Array (Nat × Value)) : Sem Value := Instr.buildSlice T n parts
@[go_sem ↓] theorem execOp_bs (ρ : Operand → Value) (dst : Option Tmp) (T : TypeId) (n : Nat) (parts : Array (Nat × Operand)) (ty : TypeId) (pos : String) (after : Array Edge) (guard : Option (Nat × Bool)) :
    execOp ρ { dst, op := .buildSlice T n parts, type := ty, pos, after, guard } = (bsN T n (parts.map fun (i, x) => (i, ρ x)) >>= fun v => pure (.value v)) := rfl
theorem bs4 (a b c e : Nat) (w : World) (l : List Obj) (d : Nat) : (bsN 140 4 #[(0, .int .u8 a), (1, .int .u8 b), (2, .int .u8 c), (3, .int .u8 e)]).run Tryz.prog (Wd w l d) =
    .ok (.slice (some ⟨w.heap.size + l.length, 0, none⟩) 4 4) (Wd w (l ++ [.cells (cv .u8 [a, b, c, e]) 5 (0, 0)]) d) := by
  rw [← Wd_alloc, ← Wd_size w l d]
  generalize Wd w l d = W
  kernel_rfl
theorem bs1 (a : Nat) (w : World) (l : List Obj) (d : Nat) : (bsN 140 1 #[(0, .int .u8 a)]).run Tryz.prog (Wd w l d) =
    .ok (.slice (some ⟨w.heap.size + l.length, 0, none⟩) 1 1) (Wd w (l ++ [.cells (cv .u8 [a]) 5 (0, 0)]) d) := by
  rw [← Wd_alloc, ← Wd_size w l d]
  generalize Wd w l d = W
  kernel_rfl
attribute [local go_sem] ag230 ag232 ag245 ag195 ag5 ag3 cs230 cs232 cs245 cs195 cs5 cs3 sz230 sz232 sz245 sz195 sz5 sz3 isa195 isa5 isa3 z230 z245 ag234 cs234 sz234 z234 bu230s bu234 bs4 bs1

set_option maxRecDepth 100000 in
theorem start_any (w : World) : Calls Tryz.prog 144 #[] w fun e w' => e = .returned (.agg (cv .u32 startL)) ∧ Grows w w' := by
  have hl := startL_length
  refine calls_wd ?_
  go_enter Tryz.func144, Tryz.ntmps144
  go_wp2
  exact ret_cell (i := 0) rfl rfl ag230 rfl startL_length rfl ⟨rfl, Grows.of _ _ _⟩
set_option maxRecDepth 100000 in
theorem new_any (w : World) (l : List Obj) (d : Nat) : Calls Tryz.prog 128 #[] (Wd w l d) fun e w' => ∃ g d', e = .returned (.pointer (some ⟨w.heap.size + (l.length + g.length), 0, none⟩)) ∧ w' = Wd w (l ++ g ++ [.cells (tc startL (rep 64) 0) 234 (0, 0)]) d' := by
  go_enter Tryz.func128, Tryz.ntmps128
  go_wp2_with fail
  refine (start_any _).mono ?_
  rintro e w' ⟨rfl, g, d', rfl⟩
  rw [Wd_wd]
  go_wp2
  go_ret
  exact ⟨g, _, rfl, by rw [List.append_assoc]⟩

def byteOf (x n : Nat) : Nat := shr32 x n % 256
def wordF (st : List Nat) (i : Nat) : List Nat := [byteOf (gi st i) 24, byteOf (gi st i) 16, byteOf (gi st i) 8, gi st i % 256]
def textL (st : List Nat) : List Nat := (List.range 8).flatMap (wordF st)
theorem wordF_length (st : List Nat) (i : Nat) : (wordF st i).length = 4 := rfl
theorem textL_length (st : List Nat) : (textL st).length = 32 := flat_length (c := 4) (fun _ => rfl) 8
theorem w8 (x : Nat) : IntKind.u8.wrap (x : Int) = ((x % 256 : Nat) : Int) := wrap8 x
theorem w8s (x n : Nat) : IntKind.u8.wrap ((shr32 x n : Nat) : Int) = ((byteOf x n : Nat) : Int) := wrap8 _
set_option maxRecDepth 100000 in
set_option maxHeartbeats 1000000 in
theorem text_any (st : List Nat) (hs : st.length = 8) (w : World) :
    Calls Tryz.prog 147 #[.agg (cv .u32 st)] w fun e w' => e = .returned (.string (mkS (textL st))) ∧ Grows w w' := by
  have hmk : (Tryz.prog.info? 5).map (fun i => (i.zero, i.size, i.bytes)) = some (some (.int .u8 0), 1, 1) := by kernel_rfl
  have hz5 : zeroOf Tryz.prog 5 = .int .u8 0 := by kernel_rfl
  refine calls_wd ?_
  go_enter Tryz.func147, Tryz.ntmps147
  go_wp2
  go_loopw [3, 8] (fun q i wr => ∃ (k : Nat) (g : List Obj), k ≤ 8 ∧ i = .int .i64 k ∧ q = .slice (some ⟨w.heap.size + 1, 0, none⟩) (4 * k) 32 ∧ wr = Wd w (.cells (cv .u32 st) 230 (0, 0) :: .cells (cv .u8 (fin 4 (wordF st) k (rep 32))) 5 (0, 0) :: g) w.drawn) (fun _ i _ => 8 - (intOf i).toNat)
  case atStart => exact ⟨0, [], by omega, rfl, rfl, by rw [fin_zero]⟩
  case round =>
    obtain ⟨k, g, hk, rfl, rfl, rfl⟩ := hrel
    have hl : (fin 4 (wordF st) k (rep 32)).length = 32 := by rw [fin_length (wordF_length st) (by simp; omega), rep_length]
    by_cases hlt : k < 8
    · obtain ⟨x, hx⟩ : ∃ x, gi st k = x := ⟨_, rfl⟩
      have hst : Hid (spl (fin 4 (wordF st) k (rep 32)) (4 * k) [byteOf x 24, byteOf x 16, byteOf x 8, x % 256] = fin 4 (wordF st) (k + 1) (rep 32)) := by rw [← fin_step (wordF_length st), ← hx]; exact rfl
      have e24 := w8s x 24
      have e16 := w8s x 16
      have e8 := w8s x 8
      have e0 := w8 x
      generalize byteOf x 24 = y1 at *
      generalize byteOf x 16 = y2 at *
      generalize byteOf x 8 = y3 at *
      generalize x % 256 = y4 at *
      have hroom : 4 * k + 4 ≤ 32 := by omega
      go_wp2
      go_roundw
      case rel => exact ⟨k + 1, _, by omega, by go_num, by rw [Nat.mul_succ], by rw [hst.out]⟩
      case measure => simp [intOf]; omega
    · obtain rfl : k = 8 := by omega
      have he := Lib.hid (fin_end (c := 4) (f := wordF st) (n := 8) (s := rep 32) (by simp))
      go_wp2
      go_ret
      exact ⟨by rw [he.out]; rfl, Grows.of _ _ _⟩

theorem spl_right (A B : List Nat) (o : Nat) (x : List Nat) : spl (A ++ B) (A.length + o) x = A ++ spl B o x := by
  unfold spl
  rw [List.take_append, List.take_of_length_le (by omega), Nat.add_sub_cancel_left, List.drop_append, List.drop_of_length_le (by omega), List.nil_append, show A.length + o + x.length - A.length = o + x.length by omega]
  simp
def shr64 (a n : Nat) : Nat := a / 2 ^ n
theorem shr64_op (a n : Nat) (yk : IntKind) (h : n ≤ 64) : Op.shift .shr .u64 (a : Int) yk (n : Int) = pure (.int .u64 ((shr64 a n : Nat) : Int)) := by
  rw [shift_shr _ _ _ _ (by omega) (by simp [IntKind.bits]; omega)]
  simp [shr64]
attribute [local go_sem ↓] shr64_op
/-- How many bytes 0 fill up the last block. -/
def zerosN (n : Nat) : Nat := (119 - n % 64) % 64
def cntF (n k : Nat) : Nat := shr64 (n * 8) (8 * (7 - k)) % 256
def enL (n k : Nat) : List Nat := (128 :: rep (zerosN n)) ++ fin1 (cntF n) k (rep 8)
def endL (n : Nat) : List Nat := (128 :: rep (zerosN n)) ++ (List.range 8).map (cntF n)
theorem enL_length (n k : Nat) (hk : k ≤ 8) : (enL n k).length = 1 + zerosN n + 8 := by
  have := fin1_length (f := cntF n) (k := k) (s := rep 8) (by simpa using hk)
  simp [enL, this]; omega
theorem enL_step (n k : Nat) : spl (enL n k) (1 + zerosN n + k) [cntF n k] = enL n (k + 1) := by
  have := spl_right (128 :: rep (zerosN n)) (fin1 (cntF n) k (rep 8)) k [cntF n k]
  rw [fin1_step, List.length_cons, rep_length, Nat.add_comm (zerosN n) 1] at this
  exact this
theorem enL_zero (n : Nat) : spl (rep (1 + zerosN n + 8)) 0 [128] = enL n 0 := by
  unfold enL
  rw [fin1_zero]
  unfold spl rep
  rw [List.take_zero, List.nil_append, List.drop_replicate]
  show 128 :: List.replicate _ 0 = 128 :: (List.replicate (zerosN n) 0 ++ List.replicate 8 0)
  rw [List.replicate_append_replicate]
  congr 2
  simp; omega
theorem enL_end (n : Nat) : enL n 8 = endL n := by
  unfold enL endL
  rw [fin1_end (by simp)]
theorem endL_length (n : Nat) : (endL n).length = 1 + zerosN n + 8 := by rw [← enL_end, enL_length _ _ (Nat.le_refl _)]
set_option maxRecDepth 100000 in
set_option maxHeartbeats 1000000 in
theorem ending_any (n : Nat) (hn : n ≤ 1099511627776) (w : World) :
    Calls Tryz.prog 146 #[.int .i64 n] w fun e w' => e = .returned (.string (mkS (endL n))) ∧ Grows w w' := by
  have hmk : (Tryz.prog.info? 5).map (fun i => (i.zero, i.size, i.bytes)) = some (some (.int .u8 0), 1, 1) := by kernel_rfl
  have hz5 : zeroOf Tryz.prog 5 = .int .u8 0 := by kernel_rfl
  obtain ⟨r, hr⟩ : ∃ r : Nat, (n : Int) % 64 = r := ⟨n % 64, by omega⟩
  obtain ⟨z, hz⟩ : ∃ z : Nat, zerosN n = z := ⟨_, rfl⟩
  have hz0 : (119 - (r : Int)) % 64 = z := by rw [← hz]; unfold zerosN; omega
  have hz63 : z ≤ 63 := by rw [← hz]; unfold zerosN; omega
  obtain ⟨a, ha⟩ : ∃ a : Nat, 1 + z = a := ⟨_, rfl⟩
  obtain ⟨c, hc⟩ : ∃ c : Nat, a + 8 = c := ⟨_, rfl⟩
  have hai : 1 + (z : Int) = a := by omega
  have hci : (a : Int) + 8 = c := by omega
  have ha1 : 1 ≤ a := by omega
  have hc72 : c ≤ 72 := by omega
  have hac : a ≤ c := by omega
  have hc0 : 0 < c := by omega
  have hcb : c ≤ 140737488355328 := by omega
  obtain ⟨m, hm⟩ : ∃ m : Nat, n * 8 = m := ⟨_, rfl⟩
  have hm1 : (n : Int) * 8 = m := by omega
  have hc8 : a + 8 ≤ c := by omega
  have hc9 : c ≤ a + 8 := by omega
  have hmw : IntKind.u64.wrap (m : Int) = m := by
    have : m < 18446744073709551616 := by omega
    simp only [IntKind.wrap, IntKind.bits, IntKind.signed]; simp; omega
  have E0 := Lib.hid (enL_zero n)
  have ES := Lib.hid (enL_step n)
  have EL := Lib.hid (enL_length n)
  have EE := Lib.hid (enL_end n)
  have EC := Lib.hid (show ∀ k, cntF n k = shr64 m (8 * (7 - k)) % 256 from fun k => by unfold cntF; rw [hm])
  rw [hz, ha, hc] at E0 EL
  rw [hz, ha] at ES
  clear hz ha hc hm
  refine calls_wd ?_
  go_enter Tryz.func146, Tryz.ntmps146
  go_wp2
  rw [E0.out]
  go_loopw [4, 22] (fun q i wr => ∃ (k : Nat) (g : List Obj), k ≤ 8 ∧ i = .int .i64 k ∧ q = .slice (some ⟨w.heap.size, 0, none⟩) (a + k) c ∧ wr = Wd w (.cells (cv .u8 (enL n k)) 5 (0, 0) :: g) w.drawn) (fun _ i _ => 8 - (intOf i).toNat)
  case atStart => exact ⟨0, [], by omega, rfl, rfl, rfl⟩
  case round =>
    obtain ⟨k, g, hk, rfl, rfl, rfl⟩ := hrel
    have hl := EL.out k hk
    by_cases hlt : k < 8
    · obtain ⟨s, hs⟩ : ∃ s : Nat, 8 * (7 - k) = s := ⟨_, rfl⟩
      have hsi : 8 * (7 - (k : Int)) = s := by omega
      have hs64 : s ≤ 64 := by omega
      have hst := ES.out k
      rw [EC.out k, hs] at hst
      have hst' := Lib.hid hst
      have hb := wrap8 (shr64 m s)
      generalize shr64 m s % 256 = y at *
      clear hst hs
      have hroom : a + k + 1 ≤ c := by omega
      go_wp2
      go_roundw
      case rel => exact ⟨k + 1, _, by omega, by go_num, rfl, by rw [hst'.out]⟩
      case measure => simp [intOf]; omega
    · obtain rfl : k = 8 := by omega
      go_wp2
      go_ret
      exact ⟨by rw [EE.out]; rfl, Grows.of _ _ _⟩
end Go.Proofs.YtlogjpmdfimgdaaGreatDoor.Jf.Sm
namespace Go.Proofs.YtlogjpmdfimgdaaGreatDoor.Jf.Sm
open Go.RowKit Go.Own.Jf

/-- The words behind so many blocks of x. -/
def chain (x : List Nat) : Nat → List Nat
  | 0 => startL
  | k + 1 => pressF (chain x k) ((x.drop (64 * k)).take 64)
theorem chain_length (x : List Nat) : ∀ k, (chain x k).length = 8
  | 0 => rfl
  | _ + 1 => pressF_length _ _
theorem chain_append (x y : List Nat) : ∀ k, 64 * k ≤ x.length → chain (x ++ y) k = chain x k
  | 0, _ => rfl
  | k + 1, h => by
    rw [chain, chain, chain_append x y k (by omega), List.drop_append_of_le_length (by omega), List.take_append_of_le_length (by simp; omega)]
/-- A tally of the bytes x: its words, its block. -/
structure Tal (x st bl : List Nat) : Prop where
  st8 : st.length = 8
  bl64 : bl.length = 64
  b8 : B8 bl
  words : st = chain x (x.length / 64)
  rest : bl.take (x.length % 64) = x.drop (64 * (x.length / 64))
theorem Tal.start : Tal [] startL (rep 64) := ⟨rfl, rfl, B8.rep _, rfl, rfl⟩
theorem take_spl {s x : List Nat} {o : Nat} (h : o + x.length ≤ s.length) : (spl s o x).take (o + x.length) = s.take o ++ x := by
  unfold spl
  rw [List.take_append_of_le_length (by simp; omega), List.take_of_length_le (by simp; omega)]
theorem Tal.less {x st bl s : List Nat} (h : Tal x st bl) (h8 : B8 s) (hl : x.length % 64 + s.length < 64) : Tal (x ++ s) st (spl bl (x.length % 64) s) := by
  have e1 : (x ++ s).length / 64 = x.length / 64 := by rw [List.length_append]; omega
  have e2 : (x ++ s).length % 64 = x.length % 64 + s.length := by rw [List.length_append]; omega
  refine ⟨h.st8, by rw [spl_length _ _ _ (by rw [h.bl64]; omega), h.bl64], h.b8.spl h8 _, ?_, ?_⟩
  · rw [e1, chain_append _ _ _ (by omega)]; exact h.words
  · rw [e1, e2, take_spl (by rw [h.bl64]; omega), h.rest, List.drop_append_of_le_length (by omega)]
theorem Tal.full {x st bl s : List Nat} (h : Tal x st bl) (h8 : B8 s) (hl : x.length % 64 + s.length = 64) : Tal (x ++ s) (pressF st (spl bl (x.length % 64) s)) (spl bl (x.length % 64) s) := by
  have e1 : (x ++ s).length / 64 = x.length / 64 + 1 := by rw [List.length_append]; omega
  have e2 : (x ++ s).length % 64 = 0 := by rw [List.length_append]; omega
  have e3 : spl bl (x.length % 64) s = (x ++ s).drop (64 * (x.length / 64)) := by
    have := take_spl (s := bl) (x := s) (o := x.length % 64) (by rw [h.bl64]; omega)
    rw [hl, List.take_of_length_le (by rw [spl_length _ _ _ (by rw [h.bl64]; omega), h.bl64]; exact Nat.le_refl _), h.rest] at this
    rw [this, List.drop_append_of_le_length (by omega)]
  refine ⟨pressF_length _ _, by rw [spl_length _ _ _ (by rw [h.bl64]; omega), h.bl64], h.b8.spl h8 _, ?_, ?_⟩
  · rw [e1, chain, chain_append _ _ _ (by omega), ← h.words, e3, List.take_of_length_le]
    rw [List.length_drop, List.length_append]; omega
  · rw [e1, e2, List.take_zero, List.drop_of_length_le]
    rw [List.length_append]; omega
/-- Of the blocks l the i-th was turned to X, and more came. -/
def Turned (l : List Obj) (i : Nat) (X : Obj) (L : List Obj) : Prop := i < l.length ∧ ∃ g, L = l.set i X ++ g
theorem Turned.get {l L : List Obj} {i : Nat} {X : Obj} (h : Turned l i X L) : L[i]? = some X := by
  obtain ⟨hi, g, rfl⟩ := h
  rw [List.getElem?_append_left (by simpa using hi)]
  simp [hi]
theorem Turned.lt {l L : List Obj} {i : Nat} {X : Obj} (h : Turned l i X L) : i < L.length := by
  obtain ⟨hi, g, rfl⟩ := h
  simp; omega
theorem Turned.set {l L : List Obj} {i : Nat} {X : Obj} (h : Turned l i X L) (Y : Obj) : Turned l i Y (L.set i Y) := by
  obtain ⟨hi, g, rfl⟩ := h
  exact ⟨hi, g, by rw [List.set_append_left _ _ (by simpa using hi), List.set_set]⟩
theorem Turned.more {l L : List Obj} {i : Nat} {X : Obj} (h : Turned l i X L) (g : List Obj) : Turned l i X (L ++ g) := by
  obtain ⟨hi, g', rfl⟩ := h
  exact ⟨hi, g' ++ g, by rw [List.append_assoc]⟩
theorem Turned.self {l : List Obj} {i : Nat} {X : Obj} (h : l[i]? = some X) : Turned l i X l := by
  obtain ⟨hi, hx⟩ := List.getElem?_eq_some_iff.1 h
  exact ⟨hi, [], by rw [List.append_nil, ← hx, List.set_getElem_self]⟩
theorem bys_take_add (s : ByteArray) (n : Nat) : (bys s).take n ++ bys (s.extract n s.size) = bys s := by
  rw [bys_extract, List.take_of_length_le (l := (bys s).drop n) (by rw [List.length_drop, bys_length]; exact Nat.le_refl _), List.take_append_drop]
attribute [local go_sem] ag230 ag232 ag245 ag195 ag5 ag3 cs230 cs232 cs245 cs195 cs5 cs3 sz230 sz232 sz245 sz195 sz5 sz3 isa195 isa5 isa3 z230 z245 ag234 cs234 sz234 z234 ldX_st ldX_bl ldX_n ldX_tc stX_st stX_n stX_tc cpX_tc
/-- What s comes to behind x, in any tally's block. -/
def Added (w : World) (l : List Obj) (i : Nat) (x : List Nat) (w' : World) : Prop :=
  ∃ st bl L d, Tal x st bl ∧ Turned l i (.cells (tc st bl x.length) 234 (0, 0)) L ∧ w' = Wd w L d
set_option maxRecDepth 100000 in
set_option maxHeartbeats 2000000 in
theorem add_any (w : World) (hR : Roots w) (l : List Obj) (d i : Nat) (x st bl : List Nat) (s : ByteArray) (hT : Tal x st bl) (hi : l[i]? = some (.cells (tc st bl x.length) 234 (0, 0))) (hb : x.length + s.size ≤ 1099511627776) :
    Calls Tryz.prog 129 #[.pointer (some ⟨w.heap.size + i, 0, none⟩), .string s] (Wd w l d) fun e w' => e = .returned (.pointer (some ⟨w.heap.size + i, 0, none⟩)) ∧ Added w l i (x ++ bys s) w' := by
  have HR := Lib.hid hR; clear hR
  have HT := Lib.hid hT; clear hT
  have HI := Lib.hid (Turned.self hi); clear hi
  have hbs := Lib.hid (bys_length s)
  go_enter Tryz.func129, Tryz.ntmps129
  go_wp2
  go_loopw [1] (fun v wr => ∃ (y : ByteArray) (p st bl : List Nat) (L : List Obj) (d n : Nat), v = .string y ∧ Hid (p ++ bys y = bys s) ∧ Hid (Tal (x ++ p) st bl) ∧ Hid ((x ++ p).length = n) ∧ Hid (Turned l i (.cells (tc st bl n) 234 (0, 0)) L) ∧ wr = Wd w L d) (fun v _ => match v with | .string y => y.size | _ => 0)
  case atStart => exact ⟨s, [], st, bl, l, d, x.length, rfl, Lib.hid rfl, by rw [List.append_nil]; exact HT, by rw [List.append_nil]; exact Lib.hid rfl, HI, rfl⟩
  case round =>
    clear HT HI
    obtain ⟨y, p, st, bl, L, d, n, rfl, hp, hT, hn, hL, rfl⟩ := hrel
    by_cases hy : y.size = 0
    · have hy0 : (y.size : Int) ≤ 0 := by omega
      have hfin : Hid (Tal (x ++ bys s) st bl) := by
        have hby : bys y = [] := List.length_eq_zero_iff.1 (by rw [bys_length, hy])
        have := hp.out
        rw [hby, List.append_nil] at this
        rw [← this]; exact hT
      have hlen : Hid ((x ++ bys s).length = n) := by
        have hby : bys y = [] := List.length_eq_zero_iff.1 (by rw [bys_length, hy])
        have := hp.out
        rw [hby, List.append_nil] at this
        rw [← this]; exact hn
      clear hy
      go_wp2
      go_ret
      exact ⟨rfl, st, bl, L, d, hfin.out, by rw [hlen.out]; exact hL.out, rfl⟩
    · have hy1 : 0 < (y.size : Int) := by omega
      have hlen : n + y.size ≤ 1099511627776 := by
        have h1 := congrArg List.length hp.out
        have h2 := hn.out
        have h3 := bys_length y
        have h4 := hbs.out
        simp only [List.length_append] at h1 h2
        omega
      have hLi := hL.out.get
      have HLT := Lib.hid hL.out.lt
      have hs8 := hT.out.st8
      have hb64 := hT.out.bl64
      obtain ⟨o, ho⟩ : ∃ o, n % 64 = o := ⟨_, rfl⟩
      have ho1 : (n : Int).tmod 64 = (o : Int) := by rw [Int.tmod_eq_emod_of_nonneg (by omega)]; omega
      have ho2 : (o : Int) ≤ 64 := by omega
      have ho3 : o + (64 - o) ≤ 64 := by omega
      have ho4 : o < 64 := by omega
      obtain ⟨m, hm⟩ : ∃ m, cpn (64 - o) y.size = m := ⟨_, rfl⟩
      have hm1 : m ≤ y.size := by rw [← hm]; exact Nat.min_le_left _ _
      have hm2 : m ≤ 64 - o := by rw [← hm]; exact Nat.min_le_right _ _
      have hm3 : m = y.size ∨ m = 64 - o := by
        rw [← hm]; show min y.size (64 - o) = _ ∨ min y.size (64 - o) = _; omega
      have hm0 : 0 < m := by omega
      obtain ⟨n2, hn2⟩ : ∃ n2 : Nat, n + m = n2 := ⟨_, rfl⟩
      have hnm : (n : Int) + (m : Int) = (n2 : Int) := by omega
      have hmi : (m : Int) ≤ y.size := by omega
      obtain ⟨T, hTk⟩ : ∃ T, (bys y).take (64 - o) = T := ⟨_, rfl⟩
      have hTm : (bys y).take m = T := by
        have hby := bys_length y
        rw [← hTk]
        rcases hm3 with h | h
        · rw [List.take_of_length_le (by omega), List.take_of_length_le (by omega)]
        · rw [h]
      have HTL : Hid (T.length = m) := Lib.hid (by rw [← hTm, List.length_take, bys_length]; omega)
      have HB : Hid (T ++ bys (y.extract m y.size) = bys y) := Lib.hid (by rw [← hTm]; exact bys_take_add y m)
      have HB8 : Hid (B8 T) := Lib.hid (by rw [← hTk]; exact (B8.bys y).take _)
      obtain ⟨bl2, hbl2⟩ : ∃ bl2, spl bl o T = bl2 := ⟨_, rfl⟩
      have hb2 : bl2.length = 64 := by rw [← hbl2, spl_length _ _ _ (by rw [HTL.out]; omega), hb64]
      have hS : ∀ A : Obj, (L.set i A)[i]? = some A := fun A => by simp [HLT.out]
      have HO := Lib.hid ho
      have HN2 := Lib.hid hn2
      have hxn := hn.out
      have HTX : Hid ((x ++ p).length % 64 = o) := Lib.hid (by rw [hn.out]; exact ho)
      have HP : Hid ((p ++ T) ++ bys (y.extract m y.size) = bys s) := Lib.hid (by rw [List.append_assoc, HB.out]; exact hp.out)
      have HNN : Hid ((x ++ (p ++ T)).length = n2) := Lib.hid (by rw [← List.append_assoc, List.length_append, hn.out, HTL.out]; exact hn2)
      have HSZ : Hid ((y.extract m y.size).size < y.size) := Lib.hid (by simp; omega)
      clear ho hn2 hTm hxn
      by_cases hf : o + m = 64
      · have HTF : Hid (Tal (x ++ (p ++ T)) (pressF st bl2) bl2) := Lib.hid (by
          have := hT.out.full HB8.out (by rw [HTX.out, HTL.out]; exact hf)
          rw [HTX.out, hbl2, List.append_assoc] at this
          exact this)
        have hz : (n2 : Int) % 64 = 0 := by
          have := HN2.out; have := HO.out; omega
        have hb82 := Lib.hid HTF.out.b8
        clear hf hm3
        go_wp2
        refine wp_region_tail 10 (by kernel_rfl) (by kernel_rfl) ?_
        simp only [List.take_succ_cons, List.take_zero, List.drop_succ_cons, List.drop_zero]
        repeat still_step
        refine wpStill_nil ?_
        go_wp2
        have hL2 := hL.out.set (.cells (tc st bl2 n2) 234 (0, 0))
        generalize L.set i (.cells (tc st bl2 n2) 234 (0, 0)) = L2 at *
        have HL2 := Lib.hid hL2
        clear hS hLi hL2
        have hA : ∀ g, (L2 ++ g)[i]? = some (.cells (tc st bl2 n2) 234 (0, 0)) := fun g => (HL2.out.more g).get
        have hA0 : L2[i]? = some (.cells (tc st bl2 n2) 234 (0, 0)) := HL2.out.get
        have hpl := pressF_length st bl2
        have hAS : ∀ (g : List Obj) (A : Obj), (L2 ++ g).set i A = L2.set i A ++ g := fun g A => List.set_append_left _ _ HL2.out.lt
        refine wp_region_more 12 (by kernel_rfl) (by kernel_rfl) ?_
        simp only [List.take_succ_cons, List.take_zero, List.drop_succ_cons, List.drop_zero]
        repeat (first | (refine more_step (fun K hK => ?_); go_simp; refine hK _ ?_; clear hK K) | (refine more_step (fun K hK => ?_); go_simp; (with_reducible refine ⟨_, fun g e => more_call (g := g) (e := e) (fun g m => List.append_assoc _ _ _) (press_any st bl2 hs8 hb2 hb82.out _ (HR.out.wd _ _)), hK _ ?_⟩); clear hK K))
        refine wpQuiet_nil ?_
        intro g3 e3
        go_wp2
        have hL3 := Lib.hid ((HL2.out.set (.cells (tc (pressF st bl2) bl2 n2) 234 (0, 0))).more g3)
        go_roundw
        case rel => exact ⟨_, p ++ T, pressF st bl2, bl2, _, _, n2, rfl, HP, HTF, HNN, hL3, rfl⟩
        case measure => exact HSZ.out
      · have HTF : Hid (Tal (x ++ (p ++ T)) st bl2) := Lib.hid (by
          have := hT.out.less HB8.out (by rw [HTX.out, HTL.out]; omega)
          rw [HTX.out, hbl2, List.append_assoc] at this
          exact this)
        have hz : ((n2 : Int) % 64 == 0) = false := by
          have := HN2.out; have := HO.out
          rw [beq_eq_false_iff_ne]; omega
        clear hf hm3
        go_wp2
        refine wp_region_tail 10 (by kernel_rfl) (by kernel_rfl) ?_
        simp only [List.take_succ_cons, List.take_zero, List.drop_succ_cons, List.drop_zero]
        repeat still_step
        refine wpStill_nil ?_
        go_wp2
        have hL2 := Lib.hid (hL.out.set (.cells (tc st bl2 n2) 234 (0, 0)))
        go_roundw
        case rel => exact ⟨_, p ++ T, st, bl2, _, _, n2, rfl, HP, HTF, HNN, hL2, rfl⟩
        case measure => exact HSZ.out
end Go.Proofs.YtlogjpmdfimgdaaGreatDoor.Jf.Sm

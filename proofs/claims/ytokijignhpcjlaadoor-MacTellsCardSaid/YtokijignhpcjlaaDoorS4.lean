/- A tally's beginning, its ending, its text: by contract. -/
import Derived.Test.YtokijignhpcjlaaDoorS3
import Derived.Test.YtokijignhpcjlaaDoorTal
namespace Go.Proofs.YtokijignhpcjlaaDoor
open Go.RowKit Go.Own

theorem ag52 : aggSize Tryd.prog 52 = some 73 := by kernel_rfl
theorem cs52 : Tryd.prog.cellsOf 52 = 73 := by kernel_rfl
theorem sz52 (w : World) : (sizeOf 52).run Tryd.prog w = .ok 73 w := by kernel_rfl
theorem z52 : zeroOf Tryd.prog 52 = .agg (tc (rep 8) (rep 64) 0) := by kernel_rfl
def startL : List Nat := [1779033703, 3144134277, 1013904242, 2773480762, 1359893119, 2600822924, 528734635, 1541459225]
theorem startL_length : startL.length = 8 := rfl
theorem bu47s (W : World) : (buN 47 #[(0, .int .u32 1779033703), (1, .int .u32 3144134277), (2, .int .u32 1013904242), (3, .int .u32 2773480762), (4, .int .u32 1359893119), (5, .int .u32 2600822924), (6, .int .u32 528734635), (7, .int .u32 1541459225)]).run Tryd.prog W = .ok (.agg (cv .u32 startL)) W := by kernel_rfl
theorem bu52 (W : World) : (buN 52 #[(0, .agg (cv .u32 startL))]).run Tryd.prog W = .ok (.agg (tc startL (rep 64) 0)) W := by kernel_rfl
def bsN (T : TypeId) (n : Nat) (parts : Array (Nat × Value)) : Sem Value := Instr.buildSlice T n parts
@[go_sem ↓] theorem execOp_bs (ρ : Operand → Value) (dst : Option Tmp) (T : TypeId) (n : Nat) (parts : Array (Nat × Operand)) (ty : TypeId) (pos : String) (after : Array Edge) (guard : Option (Nat × Bool)) :
    execOp ρ { dst, op := .buildSlice T n parts, type := ty, pos, after, guard } = (bsN T n (parts.map fun (i, x) => (i, ρ x)) >>= fun v => pure (.value v)) := rfl
theorem bs4 (a b c e : Nat) (w : World) (l : List Obj) (d : Nat) : (bsN 42 4 #[(0, .int .u8 a), (1, .int .u8 b), (2, .int .u8 c), (3, .int .u8 e)]).run Tryd.prog (Wd w l d) =
    .ok (.slice (some ⟨w.heap.size + l.length, 0, none⟩) 4 4) (Wd w (l ++ [.cells (cv .u8 [a, b, c, e]) 5 (0, 0)]) d) := by
  rw [← Wd_alloc, ← Wd_size w l d]
  generalize Wd w l d = W
  kernel_rfl
theorem bs1 (a : Nat) (w : World) (l : List Obj) (d : Nat) : (bsN 42 1 #[(0, .int .u8 a)]).run Tryd.prog (Wd w l d) =
    .ok (.slice (some ⟨w.heap.size + l.length, 0, none⟩) 1 1) (Wd w (l ++ [.cells (cv .u8 [a]) 5 (0, 0)]) d) := by
  rw [← Wd_alloc, ← Wd_size w l d]
  generalize Wd w l d = W
  kernel_rfl
attribute [local go_sem] ag47 ag50 ag56 ag45 ag5 ag3 cs47 cs50 cs56 cs45 cs5 cs3 sz47 sz50 sz56 sz45 sz5 sz3 isa45 isa5 isa3 z47 z56 ag52 cs52 sz52 z52 bu47s bu52 bs4 bs1

set_option maxRecDepth 100000 in
theorem start_any (w : World) : Calls Tryd.prog 22 #[] w fun e w' => e = .returned (.agg (cv .u32 startL)) ∧ Grows w w' := by
  have hl := startL_length
  refine calls_wd ?_
  go_enter Tryd.func22, Tryd.ntmps22
  go_wp2
  exact ret_cell (i := 0) rfl rfl ag47 rfl startL_length rfl ⟨rfl, Grows.of _ _ _⟩
set_option maxRecDepth 100000 in
theorem new_any (w : World) (l : List Obj) (d : Nat) : Calls Tryd.prog 9 #[] (Wd w l d) fun e w' => ∃ g d', e = .returned (.pointer (some ⟨w.heap.size + (l.length + g.length), 0, none⟩)) ∧ w' = Wd w (l ++ g ++ [.cells (tc startL (rep 64) 0) 52 (0, 0)]) d' := by
  go_enter Tryd.func9, Tryd.ntmps9
  go_wp2_with fail
  refine (start_any _).mono ?_
  rintro e w' ⟨rfl, g, d', rfl⟩
  rw [Wd_wd]
  go_wp2
  go_ret
  exact ⟨g, _, rfl, by rw [List.append_assoc]⟩

def byteOf (x n : Nat) : Nat := shr32 x n % 256
def wordF (st : List Nat) (i : Nat) : List Nat := [byteOf (gi st i) 24, byteOf (gi st i) 16, byteOf (gi st i) 8, gi st i % 256]
def textL (st : List Nat) : List Nat := (List.range 8).flatMap (wordF st)
theorem wordF_length (st : List Nat) (i : Nat) : (wordF st i).length = 4 := rfl
theorem textL_length (st : List Nat) : (textL st).length = 32 := flat_length (c := 4) (fun _ => rfl) 8
theorem w8 (x : Nat) : IntKind.u8.wrap (x : Int) = ((x % 256 : Nat) : Int) := wrap8 x
theorem w8s (x n : Nat) : IntKind.u8.wrap ((shr32 x n : Nat) : Int) = ((byteOf x n : Nat) : Int) := wrap8 _
set_option maxRecDepth 100000 in
set_option maxHeartbeats 1000000 in
theorem text_any (st : List Nat) (hs : st.length = 8) (w : World) :
    Calls Tryd.prog 25 #[.agg (cv .u32 st)] w fun e w' => e = .returned (.string (mkS (textL st))) ∧ Grows w w' := by
  have hmk : (Tryd.prog.info? 5).map (fun i => (i.zero, i.size, i.bytes)) = some (some (.int .u8 0), 1, 1) := by kernel_rfl
  have hz5 : zeroOf Tryd.prog 5 = .int .u8 0 := by kernel_rfl
  refine calls_wd ?_
  go_enter Tryd.func25, Tryd.ntmps25
  go_wp2
  go_loopw [3, 8] (fun q i wr => ∃ (k : Nat) (g : List Obj), k ≤ 8 ∧ i = .int .i64 k ∧ q = .slice (some ⟨w.heap.size + 1, 0, none⟩) (4 * k) 32 ∧ wr = Wd w (.cells (cv .u32 st) 47 (0, 0) :: .cells (cv .u8 (fin 4 (wordF st) k (rep 32))) 5 (0, 0) :: g) 0) (fun _ i _ => 8 - (intOf i).toNat)
  case atStart => exact ⟨0, [], by omega, rfl, rfl, by rw [fin_zero]⟩
  case round =>
    obtain ⟨k, g, hk, rfl, rfl, rfl⟩ := hrel
    have hl : (fin 4 (wordF st) k (rep 32)).length = 32 := by rw [fin_length (wordF_length st) (by simp; omega), rep_length]
    by_cases hlt : k < 8
    · obtain ⟨x, hx⟩ : ∃ x, gi st k = x := ⟨_, rfl⟩
      have hst : Hid (spl (fin 4 (wordF st) k (rep 32)) (4 * k) [byteOf x 24, byteOf x 16, byteOf x 8, x % 256] = fin 4 (wordF st) (k + 1) (rep 32)) := by rw [← fin_step (wordF_length st), ← hx]; exact rfl
      have e24 := w8s x 24
      have e16 := w8s x 16
      have e8 := w8s x 8
      have e0 := w8 x
      generalize byteOf x 24 = y1 at *
      generalize byteOf x 16 = y2 at *
      generalize byteOf x 8 = y3 at *
      generalize x % 256 = y4 at *
      have hroom : 4 * k + 4 ≤ 32 := by omega
      go_wp2
      go_roundw
      case rel => exact ⟨k + 1, _, by omega, by go_num, by rw [Nat.mul_succ], by rw [hst.out]⟩
      case measure => simp [intOf]; omega
    · obtain rfl : k = 8 := by omega
      have he := Lib.hid (fin_end (c := 4) (f := wordF st) (n := 8) (s := rep 32) (by simp))
      go_wp2
      go_ret
      exact ⟨by rw [he.out]; rfl, Grows.of _ _ _⟩

theorem spl_right (A B : List Nat) (o : Nat) (x : List Nat) : spl (A ++ B) (A.length + o) x = A ++ spl B o x := by
  unfold spl
  rw [List.take_append, List.take_of_length_le (by omega), Nat.add_sub_cancel_left, List.drop_append, List.drop_of_length_le (by omega), List.nil_append, show A.length + o + x.length - A.length = o + x.length by omega]
  simp
def shr64 (a n : Nat) : Nat := a / 2 ^ n
theorem shr64_op (a n : Nat) (yk : IntKind) (h : n ≤ 64) : Op.shift .shr .u64 (a : Int) yk (n : Int) = pure (.int .u64 ((shr64 a n : Nat) : Int)) := by
  rw [shift_shr _ _ _ _ (by omega) (by simp [IntKind.bits]; omega)]
  simp [shr64]
attribute [local go_sem ↓] shr64_op
/-- How many bytes 0 fill up the last block. -/
def zerosN (n : Nat) : Nat := (119 - n % 64) % 64
def cntF (n k : Nat) : Nat := shr64 (n * 8) (8 * (7 - k)) % 256
def enL (n k : Nat) : List Nat := (128 :: rep (zerosN n)) ++ fin1 (cntF n) k (rep 8)
def endL (n : Nat) : List Nat := (128 :: rep (zerosN n)) ++ (List.range 8).map (cntF n)
theorem enL_length (n k : Nat) (hk : k ≤ 8) : (enL n k).length = 1 + zerosN n + 8 := by
  have := fin1_length (f := cntF n) (k := k) (s := rep 8) (by simpa using hk)
  simp [enL, this]; omega
theorem enL_step (n k : Nat) : spl (enL n k) (1 + zerosN n + k) [cntF n k] = enL n (k + 1) := by
  have := spl_right (128 :: rep (zerosN n)) (fin1 (cntF n) k (rep 8)) k [cntF n k]
  rw [fin1_step, List.length_cons, rep_length, Nat.add_comm (zerosN n) 1] at this
  exact this
theorem enL_zero (n : Nat) : spl (rep (1 + zerosN n + 8)) 0 [128] = enL n 0 := by
  unfold enL
  rw [fin1_zero]
  unfold spl rep
  rw [List.take_zero, List.nil_append, List.drop_replicate]
  show 128 :: List.replicate _ 0 = 128 :: (List.replicate (zerosN n) 0 ++ List.replicate 8 0)
  rw [List.replicate_append_replicate]
  congr 2
  simp; omega
theorem enL_end (n : Nat) : enL n 8 = endL n := by
  unfold enL endL
  rw [fin1_end (by simp)]
theorem endL_length (n : Nat) : (endL n).length = 1 + zerosN n + 8 := by rw [← enL_end, enL_length _ _ (Nat.le_refl _)]
set_option maxRecDepth 100000 in
set_option maxHeartbeats 1000000 in
theorem ending_any (n : Nat) (hn : n ≤ 1099511627776) (w : World) :
    Calls Tryd.prog 24 #[.int .i64 n] w fun e w' => e = .returned (.string (mkS (endL n))) ∧ Grows w w' := by
  have hmk : (Tryd.prog.info? 5).map (fun i => (i.zero, i.size, i.bytes)) = some (some (.int .u8 0), 1, 1) := by kernel_rfl
  have hz5 : zeroOf Tryd.prog 5 = .int .u8 0 := by kernel_rfl
  obtain ⟨r, hr⟩ : ∃ r : Nat, (n : Int) % 64 = r := ⟨n % 64, by omega⟩
  obtain ⟨z, hz⟩ : ∃ z : Nat, zerosN n = z := ⟨_, rfl⟩
  have hz0 : (119 - (r : Int)) % 64 = z := by rw [← hz]; unfold zerosN; omega
  have hz63 : z ≤ 63 := by rw [← hz]; unfold zerosN; omega
  obtain ⟨a, ha⟩ : ∃ a : Nat, 1 + z = a := ⟨_, rfl⟩
  obtain ⟨c, hc⟩ : ∃ c : Nat, a + 8 = c := ⟨_, rfl⟩
  have hai : 1 + (z : Int) = a := by omega
  have hci : (a : Int) + 8 = c := by omega
  have ha1 : 1 ≤ a := by omega
  have hc72 : c ≤ 72 := by omega
  have hac : a ≤ c := by omega
  have hc0 : 0 < c := by omega
  have hcb : c ≤ 140737488355328 := by omega
  obtain ⟨m, hm⟩ : ∃ m : Nat, n * 8 = m := ⟨_, rfl⟩
  have hm1 : (n : Int) * 8 = m := by omega
  have hc8 : a + 8 ≤ c := by omega
  have hc9 : c ≤ a + 8 := by omega
  have hmw : IntKind.u64.wrap (m : Int) = m := by
    have : m < 18446744073709551616 := by omega
    simp only [IntKind.wrap, IntKind.bits, IntKind.signed]; simp; omega
  have E0 := Lib.hid (enL_zero n)
  have ES := Lib.hid (enL_step n)
  have EL := Lib.hid (enL_length n)
  have EE := Lib.hid (enL_end n)
  have EC := Lib.hid (show ∀ k, cntF n k = shr64 m (8 * (7 - k)) % 256 from fun k => by unfold cntF; rw [hm])
  rw [hz, ha, hc] at E0 EL
  rw [hz, ha] at ES
  clear hz ha hc hm
  refine calls_wd ?_
  go_enter Tryd.func24, Tryd.ntmps24
  go_wp2
  rw [E0.out]
  go_loopw [4, 22] (fun q i wr => ∃ (k : Nat) (g : List Obj), k ≤ 8 ∧ i = .int .i64 k ∧ q = .slice (some ⟨w.heap.size, 0, none⟩) (a + k) c ∧ wr = Wd w (.cells (cv .u8 (enL n k)) 5 (0, 0) :: g) 0) (fun _ i _ => 8 - (intOf i).toNat)
  case atStart => exact ⟨0, [], by omega, rfl, rfl, rfl⟩
  case round =>
    obtain ⟨k, g, hk, rfl, rfl, rfl⟩ := hrel
    have hl := EL.out k hk
    by_cases hlt : k < 8
    · obtain ⟨s, hs⟩ : ∃ s : Nat, 8 * (7 - k) = s := ⟨_, rfl⟩
      have hsi : 8 * (7 - (k : Int)) = s := by omega
      have hs64 : s ≤ 64 := by omega
      have hst := ES.out k
      rw [EC.out k, hs] at hst
      have hst' := Lib.hid hst
      have hb := wrap8 (shr64 m s)
      generalize shr64 m s % 256 = y at *
      clear hst hs
      have hroom : a + k + 1 ≤ c := by omega
      go_wp2
      go_roundw
      case rel => exact ⟨k + 1, _, by omega, by go_num, rfl, by rw [hst'.out]⟩
      case measure => simp [intOf]; omega
    · obtain rfl : k = 8 := by omega
      go_wp2
      go_ret
      exact ⟨by rw [EE.out]; rfl, Grows.of _ _ _⟩
end Go.Proofs.YtokijignhpcjlaaDoor

import Derived.Test.YtfamoakicgmfgaaA1
namespace Go.Proofs.Ytfamoakicgmfgaa
open Go.RowKit Go.Own

theorem ag86 : aggSize Try.prog 86 = some 256 := by kernel_rfl
theorem ag112 : aggSize Try.prog 112 = some 255 := by kernel_rfl
theorem ag70 : aggSize Try.prog 70 = none := by kernel_rfl
theorem ag92 : aggSize Try.prog 92 = some 496 := by kernel_rfl
theorem cs86 : Try.prog.cellsOf 86 = 256 := by kernel_rfl
theorem cs112 : Try.prog.cellsOf 112 = 255 := by kernel_rfl
theorem sz86 (w : World) : (sizeOf 86).run Try.prog w = .ok 256 w := by kernel_rfl
theorem sz112 (w : World) : (sizeOf 112).run Try.prog w = .ok 255 w := by kernel_rfl
theorem isa70 (w : World) : (isAgg 70).run Try.prog w = .ok false w := by kernel_rfl
theorem z86 : zeroOf Try.prog 86 = .agg (cv .u8 (rep 256)) := by kernel_rfl
theorem z112 : zeroOf Try.prog 112 = .agg (cv .u8 (rep 255)) := by kernel_rfl
attribute [local go_sem] ag89 ag5 cs5 cs89 sz5 sz89 isa5 z89 ag86 ag112 ag70 ag92 cs86 cs112 sz86 sz112 isa70 z86 z112

def pw : Nat → Nat
  | 0 => 1
  | k + 1 => xor8 (pw k) (dbl (pw k))
def powers : List Nat := (List.range 255).map pw
theorem powers_length : powers.length = 255 := by simp [powers]
theorem powers_gi (k : Nat) (h : k < 255) : gi powers k = pw k := by simp [powers, gi, List.getD, h]
theorem xor8_lt (a b : Nat) : xor8 a b < 256 := Nat.mod_lt _ (by decide)
theorem pw_lt : ∀ k, pw k < 256
  | 0 => by decide
  | _ + 1 => xor8_lt _ _
def bxs : Nat → List Nat
  | 0 => spl (rep 256) 0 [bend 0]
  | k + 1 => spl (bxs k) (pw k) [bend (pw ((255 - k) % 255))]
theorem bxs_length : ∀ k, (bxs k).length = 256
  | 0 => by rw [bxs, spl_length _ _ _ (by simp)]; simp
  | k + 1 => by
    have := bxs_length k
    have := pw_lt k
    rw [bxs, spl_length _ _ _ (by simp; omega)]; assumption
def boxes : List Nat := bxs 255
theorem boxes_length : boxes.length = 256 := bxs_length 255

set_option maxRecDepth 100000 in
set_option maxHeartbeats 400000 in
theorem allBoxes_any (w : World) :
    Calls Try.prog 53 #[] w fun e w' => e = .returned (.agg (cv .u8 boxes)) ∧ Grows w w' := by
  refine calls_wd ?_
  go_enter Try.func53, Try.ntmps53
  go_wp2
  go_loopw [2, 7] (fun q i wr => ∃ k : Nat, k ≤ 255 ∧ i = .int .i64 k ∧ q = .int .u8 (pw k) ∧ wr = Wd w [.cells (cv .u8 (rep 256)) 86, .cells (cv .u8 (fin1 pw k (rep 255))) 112] 0) (fun _ i _ => 255 - (intOf i).toNat)
  case atStart => exact ⟨0, by omega, rfl, rfl, by rw [fin1_zero]⟩
  case round =>
    obtain ⟨k, hk, rfl, rfl, rfl⟩ := hrel
    by_cases hlt : k < 255
    · have hl : (fin1 pw k (rep 255)).length = 255 := by rw [fin1_length (by simp; omega), rep_length]
      go_wp2_with fail
      refine (double_any _ _).mono ?_
      rintro e w' ⟨rfl, rfl⟩
      go_wp2
      go_roundw
      case rel => exact ⟨k + 1, by omega, by go_num, rfl, by rw [fin1_step]⟩
      case measure => simp [intOf]; omega
    · obtain rfl : k = 255 := by omega
      have he : fin1 pw 255 (rep 255) = powers := fin1_end (by simp)
      rw [he]; clear he
      have hpl := powers_length
      go_wp2_with fail
      refine (bend_any 0 _).mono ?_
      rintro e w' ⟨rfl, rfl⟩
      go_wp2
      go_loopw [21] (fun i wr => ∃ k : Nat, k ≤ 255 ∧ i = .int .i64 k ∧ wr = Wd w [.cells (cv .u8 (rep 256)) 86, .cells (cv .u8 powers) 112, .cells (cv .u8 (bxs k)) 86] 0) (fun i _ => 255 - (intOf i).toNat)
      case atStart => exact ⟨0, by omega, rfl, rfl⟩
      case round =>
        obtain ⟨k, hk, rfl, rfl⟩ := hrel
        have hbl := bxs_length k
        by_cases hlt : k < 255
        · have h1 := Lib.hid (powers_gi k hlt)
          have h2 := Lib.hid (powers_gi ((255 - k) % 255) (by omega))
          have h3 : (255 - k) % 255 < 255 := by omega
          have h5 : (-(k : Int) % 255).toNat = (255 - k) % 255 := by omega
          have h4 : gi powers k < 256 := by rw [powers_gi k hlt]; exact pw_lt k
          go_wp2_with fail
          refine (bend_any _ _).mono ?_
          rintro e w' ⟨rfl, rfl⟩
          go_wp2
          go_roundw
          case rel => exact ⟨k + 1, by omega, by go_num, by rw [h1.out, h2.out]; rfl⟩
          case measure => simp [intOf]; omega
        · obtain rfl : k = 255 := by omega
          go_wp2
          exact ret_cell (i := 0) rfl rfl ag86 rfl hbl rfl ⟨rfl, Grows.of _ _ _⟩

/-- What a closure of the cipher's wants: its variable in block bb, the cipher's cells in block cb. -/
structure Held (w : World) (bb cb : Nat) (cs : List Nat) : Prop where
  var : blk w bb = some (.cells #[.pointer (some ⟨cb, 0, none⟩)] 70 (0, 0))
  cip : blk w cb = some (.cells (cv .u8 cs) 92 (0, 0))
  len : 256 ≤ cs.length
theorem Held.grows {w w' : World} {bb cb : Nat} {cs : List Nat} (h : Held w bb cb cs) (hg : Grows w w') : Held w' bb cb cs := by
  obtain ⟨l, d, rfl⟩ := hg
  exact ⟨blk_old _ _ _ _ h.var, blk_old _ _ _ _ h.cip, h.len⟩
set_option maxRecDepth 100000 in
theorem asker1_any (b : Nat) (hb : b < 256) (bb cb : Nat) (cs : List Nat) (w : World) (H : Held w bb cb cs) :
    Calls Try.prog 80 #[.int .u8 b, .pointer (some ⟨bb, 0, none⟩)] w fun e w' => e = .returned (.int .u8 (gi cs b)) ∧ w = w' := by
  have h1 := H.var
  have h2 := H.cip
  have h3 : b < cs.length := Nat.lt_of_lt_of_le hb H.len
  clear H
  go_enter Try.func80, Try.ntmps80
  go_wp2
  go_ret
  exact ⟨rfl, rfl⟩
theorem asker_any (cb : Nat) (w : World) :
    Calls Try.prog 55 #[.pointer (some ⟨cb, 0, none⟩)] w fun e w' => e = .returned (.func (.func 80) #[] #[.pointer (some ⟨w.heap.size, 0, none⟩)]) ∧ w' = Wd w [.cells #[.pointer (some ⟨cb, 0, none⟩)] 70 (0, 0)] 0 := by
  refine calls_wd ?_
  go_enter Try.func55, Try.ntmps55
  go_wp2
  go_ret
  exact ⟨rfl, rfl⟩

def eachF (cs x : List Nat) (i : Nat) : Nat := gi cs (gi x i)
def eachL (cs x : List Nat) : List Nat := (List.range 4).map (eachF cs x)
set_option maxRecDepth 100000 in
set_option maxHeartbeats 400000 in
theorem each_any (x : List Nat) (hx : x.length = 4) (hx8 : ∀ i, gi x i < 256) (bb cb : Nat) (cs : List Nat) (w : World) (H : Held w bb cb cs) :
    Calls Try.prog 78 #[.agg (cv .u8 x), .func (.func 80) #[] #[.pointer (some ⟨bb, 0, none⟩)]] w fun e w' => e = .returned (.agg (cv .u8 (eachL cs x))) ∧ Grows w w' := by
  have HH := Lib.hid H
  have H8 := Lib.hid hx8
  clear H hx8
  refine calls_wd ?_
  go_enter Try.func78, Try.ntmps78
  go_wp2
  go_loopw [8] (fun i wr => ∃ k : Nat, k ≤ 4 ∧ i = .int .i64 k ∧ wr = Wd w [.cells (cv .u8 (fin1 (eachF cs x) k x)) 89, .cells (cv .u8 (rep 4)) 89] 0) (fun i _ => 4 - (intOf i).toNat)
  case atStart => exact ⟨0, by omega, rfl, by rw [fin1_zero]⟩
  case round =>
    obtain ⟨k, hk, rfl, rfl⟩ := hrel
    have hl : (fin1 (eachF cs x) k x).length = 4 := by rw [fin1_length (by omega), hx]
    by_cases hlt : k < 4
    · go_wp2_with fail
      refine (asker1_any _ (H8.out k) _ _ _ _ (HH.out.grows (Grows.of _ _ _))).mono ?_
      rintro e w' ⟨rfl, rfl⟩
      go_wp2
      go_roundw
      case rel => exact ⟨k + 1, by omega, by go_num, by rw [← fin1_step]; rfl⟩
      case measure => simp [intOf]; omega
    · obtain rfl : k = 4 := by omega
      have he := Lib.hid (fin1_end (f := eachF cs x) (n := 4) (s := x) (by omega))
      go_wp2
      exact ret_cell (i := 1) rfl rfl ag89 rfl hl rfl ⟨by rw [he.out]; rfl, Grows.of _ _ _⟩
end Go.Proofs.Ytfamoakicgmfgaa

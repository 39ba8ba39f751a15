/- Layer 3's key: its block, the closure that turns it; tags, by contract. -/
import Derived.Test.YtokijignhpcjlaaDoorS8
namespace Go.Proofs.YtokijignhpcjlaaDoor
open Go.RowKit Go.Own

theorem ag49 : aggSize Tryd.prog 49 = some 64 := by kernel_rfl
theorem cs49 : Tryd.prog.cellsOf 49 = 64 := by kernel_rfl
theorem sz49 (w : World) : (sizeOf 49).run Tryd.prog w = .ok 64 w := by kernel_rfl
theorem z49 : zeroOf Tryd.prog 49 = .agg (cv .u8 (rep 64)) := by kernel_rfl
/-- A shorter text copied into a row of bytes. -/
theorem cpX_short {P : Program} {dT sT ty : TypeId} {w : World} {l : List Obj} {d i o n c : Nat} {s : ByteArray} {S : List Nat} {t : TypeId}
    (hu : P.underlying dT = some (.slice (P.elem dT))) (h1 : (sizeOf (P.elem dT)).run P (Wd w l d) = .ok 1 (Wd w l d)) (h2 : l[i]? = some (.cells (cv .u8 S) t (0, 0))) (hn : s.size ≤ n) (hfit : o + n ≤ S.length) :
    cpX P dT sT ty (some (.cells (cv .u8 S) t (0, 0))) w l d i o n c s = .ok (.int .i64 (s.size : Int)) (Wd w (l.set i (.cells (cv .u8 (spl S o (bys s))) t (0, 0))) d) := by
  have hx : (bys s).length = s.size := bys_length s
  have hr := run_storeCells_at P (w.heap.size + i) o t (cv .u8 (bys s)).toList 0 (cv .u8 S) (Wd w l d) (by rw [Wd_at]; exact h2) (by simp [hx]; omega) cv_oneCell
  rw [Nat.add_zero, spl_cv, Wd_setRow _ _ _ _ _ _ _ _ h2] at hr
  have hm : Nat.min s.size n = s.size := Nat.min_eq_left hn
  have he : bys (s.extract 0 s.size) = bys s := by rw [bys_extract, List.drop_zero, Nat.sub_zero, List.take_of_length_le (by omega)]
  have hf : ((s.extract 0 s.size).data.map fun b => Value.int .u8 b.toNat) = cv .u8 (bys s) := by rw [cells_bys, he]
  have hf' : (Builtin.firstCells 1 s.size (.string s)).run P (Wd w l d) = .ok (cv .u8 (bys s)) (Wd w l d) := by
    simp only [Builtin.firstCells, Sem.run_pure, hf]
  simp [cpX, Builtin.copy_, run_underlying hu, Builtin.lenOf, h1, hm, hf', hr, goInt]
theorem digL_B8 (x : List Nat) : B8 (digL x) := fun n hn => by
  unfold digL textL at hn
  obtain ⟨i, _, h⟩ := List.mem_flatMap.1 hn
  unfold wordF at h
  simp only [List.mem_cons, List.not_mem_nil, or_false] at h
  rcases h with rfl | rfl | rfl | rfl
  all_goals first | exact Nat.mod_lt _ (by decide) | (unfold byteOf; exact Nat.mod_lt _ (by decide))
/-- A key as it counts: its digest if it is long. -/
def keyL (k : List Nat) : List Nat := if 64 < k.length then digL k else k
/-- The key's block. -/
def blockL (k : List Nat) : List Nat := spl (rep 64) 0 (keyL k)
def turnF (s : List Nat) (b i : Nat) : Nat := xor8 (gi s i) b
/-- All its bytes turned. -/
def turnL (s : List Nat) (b : Nat) : List Nat := (List.range 64).map (turnF s b)
/-- The tag. -/
def tagL (k x : List Nat) : List Nat := digL (turnL (blockL k) 92 ++ digL (turnL (blockL k) 54 ++ x))
theorem turnL_length (s : List Nat) (b : Nat) : (turnL s b).length = 64 := by simp [turnL]
theorem turnL_B8 (s : List Nat) (b : Nat) : B8 (turnL s b) := fun n hn => by
  obtain ⟨i, _, rfl⟩ := List.mem_map.1 hn
  exact Nat.mod_lt _ (by decide)
attribute [local go_sem] ag49 cs49 sz49 z49 bsS1 bsS2 cpX_short ag5 cs5 sz5 isa5
set_option maxRecDepth 100000 in
set_option maxHeartbeats 1000000 in
theorem block_any (k : ByteArray) (hb : k.size ≤ 1099511600000) (w : World) (hR : Roots w) :
    Calls Tryd.prog 34 #[.string k] w fun e w' => e = .returned (.agg (cv .u8 (blockL (bys k)))) ∧ Grows w w' := by
  have HR := Lib.hid hR; clear hR
  have HB := Lib.hid hb; clear hb
  obtain ⟨n, hn⟩ : ∃ n, k.size = n := ⟨_, rfl⟩
  have HN := Lib.hid hn
  by_cases h64 : (64 : Int) < (k.size : Int)
  · have HK : Hid (keyL (bys k) = digL (bys k)) := Lib.hid (by unfold keyL; rw [if_pos (by rw [bys_length]; omega)])
    have hdl : (digL (bys k)).length = 32 := digL_length _
    clear hn
    refine calls_wd ?_
    go_enter Tryd.func34, Tryd.ntmps34
    go_wp2_with fail
    refine (of_any _ (HR.out.wd _ _) _ 1 [k] (parts1 (i := 1) (t := 9) (f := (0, 0)) ?hp) ?hq (by simp)).mono ?_
    case hp => rfl
    case hq => have := HB.out; rw [allB1, bys_length]; omega
    rintro e w' ⟨rfl, g, d, rfl⟩
    rw [Wd_wd, allB1]
    obtain ⟨z, hz⟩ : ∃ z, mkS (digL (bys k)) = z := ⟨_, rfl⟩
    have hzs : z.size ≤ 64 := by rw [← hz, mkS_size, hdl]; decide
    have HZ : Hid (bys z = keyL (bys k)) := Lib.hid (by rw [← hz, HK.out]; exact bys_mkS _ (digL_B8 _))
    have hlen : (spl (rep 64) 0 (bys z)).length = 64 := by rw [spl_length _ _ _ (by rw [bys_length, rep_length]; omega), rep_length]
    rw [hz]
    clear hz hdl
    go_wp2
    exact ret_cell (i := 0) rfl rfl ag49 rfl hlen rfl ⟨by rw [HZ.out]; rfl, Grows.of _ _ _⟩
  · have HZ : Hid (bys k = keyL (bys k)) := Lib.hid (by unfold keyL; rw [if_neg (by rw [bys_length]; omega)])
    have hzs : k.size ≤ 64 := by omega
    have hlen : (spl (rep 64) 0 (bys k)).length = 64 := by rw [spl_length _ _ _ (by rw [bys_length, rep_length]; omega), rep_length]
    clear hn
    refine calls_wd ?_
    go_enter Tryd.func34, Tryd.ntmps34
    go_wp2
    exact ret_cell (i := 0) rfl rfl ag49 rfl hlen rfl ⟨by rw [blockL, ← HZ.out], Grows.of _ _ _⟩
theorem blockL_length (k : List Nat) : (blockL k).length = 64 := by
  have h : (keyL k).length ≤ 64 := by
    unfold keyL
    split
    · rw [digL_length]; decide
    · omega
  rw [blockL, spl_length _ _ _ (by rw [rep_length]; omega), rep_length]
theorem turner_any (k : ByteArray) (hb : k.size ≤ 1099511600000) (w : World) (hR : Roots w) (l : List Obj) (d : Nat) :
    Calls Tryd.prog 28 #[.string k] (Wd w l d) fun e w' => ∃ g d', e = .returned (.func (.func 35) #[] #[.pointer (some ⟨w.heap.size + (l.length + g.length), 0, none⟩)]) ∧ w' = Wd w (l ++ (g ++ [.cells (cv .u8 (blockL (bys k))) 49 (0, 0)])) d' := by
  have hbl := blockL_length (bys k)
  go_enter Tryd.func28, Tryd.ntmps28
  go_wp2_with fail
  refine (block_any k hb _ (hR.wd _ _)).mono ?_
  rintro e w' ⟨rfl, g, d', rfl⟩
  rw [Wd_wd]
  go_wp2
  go_ret
  exact ⟨g, _, by simp, rfl⟩
set_option maxRecDepth 100000 in
set_option maxHeartbeats 1000000 in
theorem closed_any (b : Nat) (pb : Nat) (s : List Nat) (hs : s.length = 64) (w : World) (hp : blk w pb = some (.cells (cv .u8 s) 49 (0, 0))) :
    Calls Tryd.prog 35 #[.int .u8 b, .pointer (some ⟨pb, 0, none⟩)] w fun e w' => e = .returned (.string (mkS (turnL s b))) ∧ Grows w w' := by
  have HP := Lib.hid hp; clear hp
  have hW : ∀ (l : List Obj) (d : Nat), blk (Wd w l d) pb = some (.cells (cv .u8 s) 49 (0, 0)) := fun l d => blk_old _ _ _ _ HP.out
  refine calls_wd ?_
  go_enter Tryd.func35, Tryd.ntmps35
  go_wp2
  go_loopw [7] (fun i wr => ∃ k : Nat, k ≤ 64 ∧ i = .int .i64 k ∧ wr = Wd w [.cells (cv .u8 (fin1 (turnF s b) k s)) 49 (0, 0)] 0) (fun i _ => 64 - (intOf i).toNat)
  case atStart => exact ⟨0, by omega, rfl, by rw [fin1_zero]⟩
  case round =>
    obtain ⟨k, hk, rfl, rfl⟩ := hrel
    have hl : (fin1 (turnF s b) k s).length = 64 := by rw [fin1_length (by omega), hs]
    by_cases hlt : k < 64
    · have hki : (k : Int) < 64 := by omega
      have hst : Hid (spl (fin1 (turnF s b) k s) k [xor8 (gi (fin1 (turnF s b) k s) k) b] = fin1 (turnF s b) (k + 1) s) := Lib.hid (by
        rw [fin1_gi (Nat.le_refl k), show xor8 (gi s k) b = turnF s b k from rfl, fin1_step])
      generalize fin1 (turnF s b) k s = F at *
      go_wp2
      go_roundw
      case rel => exact ⟨k + 1, by omega, by go_num, by rw [hst.out]⟩
      case measure => simp [intOf]; omega
    · obtain rfl : k = 64 := by omega
      have HF : Hid (fin1 (turnF s b) 64 s = turnL s b) := Lib.hid (fin1_end (by omega))
      rw [HF.out] at hl ⊢
      go_wp2
      go_ret
      exact ⟨rfl, Grows.of _ _ _⟩
end Go.Proofs.YtokijignhpcjlaaDoor

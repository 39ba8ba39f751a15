/- Layer 3's key: its block, the closure that turns it; tags, by contract. | Are pieces few and short enough? By contract. | A tag, and its check: by contract. -/
import Derived.Test.YtbiadmhomadflaaGreatDoorS1
namespace Go.Proofs.YtbiadmhomadflaaGreatDoor.Sm
open Go.RowKit Go.Own

theorem ag63 : aggSize Tryz.prog 63 = some 64 := by kernel_rfl
theorem cs63 : Tryz.prog.cellsOf 63 = 64 := by kernel_rfl
theorem sz63 (w : World) : (sizeOf 63).run Tryz.prog w = .ok 64 w := by kernel_rfl
theorem z63 : zeroOf Tryz.prog 63 = .agg (cv .u8 (rep 64)) := by kernel_rfl
/-- A shorter text copied into a row of bytes. -/
theorem cpX_short {P : Program} {dT sT ty : TypeId} {w : World} {l : List Obj} {d i o n c : Nat} {s : ByteArray} {S : List Nat} {t : TypeId}
    (hu : P.underlying dT = some (.slice (P.elem dT))) (h1 : (sizeOf (P.elem dT)).run P (Wd w l d) = .ok 1 (Wd w l d)) (h2 : l[i]? = some (.cells (cv .u8 S) t (0, 0))) (hn : s.size ≤ n) (hfit : o + n ≤ S.length) :
    cpX P dT sT ty (some (.cells (cv .u8 S) t (0, 0))) w l d i o n c s = .ok (.int .i64 (s.size : Int)) (Wd w (l.set i (.cells (cv .u8 (spl S o (bys s))) t (0, 0))) d) := by
  have hx : (bys s).length = s.size := bys_length s
  have hr := run_storeCells_at P (w.heap.size + i) o t (cv .u8 (bys s)).toList 0 (cv .u8 S) (Wd w l d) (by rw [Wd_at]; exact h2) (by simp [hx]; omega) cv_oneCell
  rw [Nat.add_zero, spl_cv, Wd_setRow _ _ _ _ _ _ _ _ h2] at hr
  have hm : Nat.min s.size n = s.size := Nat.min_eq_left hn
  have he : bys (s.extract 0 s.size) = bys s := by rw [bys_extract, List.drop_zero, Nat.sub_zero, List.take_of_length_le (by omega)]
  have hf : ((s.extract 0 s.size).data.map fun b => Value.int .u8 b.toNat) = cv .u8 (bys s) := by rw [cells_bys, he]
  have hf' : (Builtin.firstCells 1 s.size (.string s)).run P (Wd w l d) = .ok (cv .u8 (bys s)) (Wd w l d) := by
    simp only [Builtin.firstCells, Sem.run_pure, hf]
  simp [cpX, Builtin.copy_, run_underlying hu, Builtin.lenOf, h1, hm, hf', hr, goInt]
theorem digL_B8 (x : List Nat) : B8 (digL x) := fun n hn => by
  unfold digL textL at hn
  obtain ⟨i, _, h⟩ := List.mem_flatMap.1 hn
  unfold wordF at h
  simp only [List.mem_cons, List.not_mem_nil, or_false] at h
  rcases h with rfl | rfl | rfl | rfl
  all_goals first | exact Nat.mod_lt _ (by decide) | (unfold byteOf; exact Nat.mod_lt _ (by decide))
/-- A key as it counts: its digest if it is long. -/
def keyL (k : List Nat) : List Nat := if 64 < k.length then digL k else k
/-- The key's block. -/
def blockL (k : List Nat) : List Nat := spl (rep 64) 0 (keyL k)
def turnF (s : List Nat) (b i : Nat) : Nat := xor8 (gi s i) b
/-- All its bytes turned. -/
def turnL (s : List Nat) (b : Nat) : List Nat := (List.range 64).map (turnF s b)
/-- The tag. -/
def tagL (k x : List Nat) : List Nat := digL (turnL (blockL k) 92 ++ digL (turnL (blockL k) 54 ++ x))
theorem turnL_length (s : List Nat) (b : Nat) : (turnL s b).length = 64 := by simp [turnL]
theorem turnL_B8 (s : List Nat) (b : Nat) : B8 (turnL s b) := fun n hn => by
  obtain ⟨i, _, rfl⟩ := List.mem_map.1 hn
  exact Nat.mod_lt _ (by decide)
attribute [local go_sem] ag63 cs63 sz63 z63 bsS1 bsS2 cpX_short ag5 cs5 sz5 isa5
set_option maxRecDepth 100000 in
set_option maxHeartbeats 1000000 in
theorem block_any (k : ByteArray) (hb : k.size ≤ 1099511600000) (w : World) (hR : Roots w) :
    Calls Tryz.prog 87 #[.string k] w fun e w' => e = .returned (.agg (cv .u8 (blockL (bys k)))) ∧ Grows w w' := by
  have HR := Lib.hid hR; clear hR
  have HB := Lib.hid hb; clear hb
  obtain ⟨n, hn⟩ : ∃ n, k.size = n := ⟨_, rfl⟩
  have HN := Lib.hid hn
  by_cases h64 : (64 : Int) < (k.size : Int)
  · have HK : Hid (keyL (bys k) = digL (bys k)) := Lib.hid (by unfold keyL; rw [if_pos (by rw [bys_length]; omega)])
    have hdl : (digL (bys k)).length = 32 := digL_length _
    clear hn
    refine calls_wd ?_
    go_enter Tryz.func87, Tryz.ntmps87
    go_wp2_with fail
    refine (of_any _ (HR.out.wd _ _) _ 1 [k] (parts1 (i := 1) (t := 9) (f := (0, 0)) ?hp) ?hq (by simp)).mono ?_
    case hp => rfl
    case hq => have := HB.out; rw [allB1, bys_length]; omega
    rintro e w' ⟨rfl, g, d, rfl⟩
    rw [Wd_wd, allB1]
    obtain ⟨z, hz⟩ : ∃ z, mkS (digL (bys k)) = z := ⟨_, rfl⟩
    have hzs : z.size ≤ 64 := by rw [← hz, mkS_size, hdl]; decide
    have HZ : Hid (bys z = keyL (bys k)) := Lib.hid (by rw [← hz, HK.out]; exact bys_mkS _ (digL_B8 _))
    have hlen : (spl (rep 64) 0 (bys z)).length = 64 := by rw [spl_length _ _ _ (by rw [bys_length, rep_length]; omega), rep_length]
    rw [hz]
    clear hz hdl
    go_wp2
    exact ret_cell (i := 0) rfl rfl ag63 rfl hlen rfl ⟨by rw [HZ.out]; rfl, Grows.of _ _ _⟩
  · have HZ : Hid (bys k = keyL (bys k)) := Lib.hid (by unfold keyL; rw [if_neg (by rw [bys_length]; omega)])
    have hzs : k.size ≤ 64 := by omega
    have hlen : (spl (rep 64) 0 (bys k)).length = 64 := by rw [spl_length _ _ _ (by rw [bys_length, rep_length]; omega), rep_length]
    clear hn
    refine calls_wd ?_
    go_enter Tryz.func87, Tryz.ntmps87
    go_wp2
    exact ret_cell (i := 0) rfl rfl ag63 rfl hlen rfl ⟨by rw [blockL, ← HZ.out], Grows.of _ _ _⟩
theorem blockL_length (k : List Nat) : (blockL k).length = 64 := by
  have h : (keyL k).length ≤ 64 := by
    unfold keyL
    split
    · rw [digL_length]; decide
    · omega
  rw [blockL, spl_length _ _ _ (by rw [rep_length]; omega), rep_length]
theorem turner_any (k : ByteArray) (hb : k.size ≤ 1099511600000) (w : World) (hR : Roots w) (l : List Obj) (d : Nat) :
    Calls Tryz.prog 68 #[.string k] (Wd w l d) fun e w' => ∃ g d', e = .returned (.func (.func 88) #[] #[.pointer (some ⟨w.heap.size + (l.length + g.length), 0, none⟩)]) ∧ w' = Wd w (l ++ (g ++ [.cells (cv .u8 (blockL (bys k))) 63 (0, 0)])) d' := by
  have hbl := blockL_length (bys k)
  go_enter Tryz.func68, Tryz.ntmps68
  go_wp2_with fail
  refine (block_any k hb _ (hR.wd _ _)).mono ?_
  rintro e w' ⟨rfl, g, d', rfl⟩
  rw [Wd_wd]
  go_wp2
  go_ret
  exact ⟨g, _, by simp, rfl⟩
set_option maxRecDepth 100000 in
set_option maxHeartbeats 1000000 in
theorem closed_any (b : Nat) (pb : Nat) (s : List Nat) (hs : s.length = 64) (w : World) (hp : blk w pb = some (.cells (cv .u8 s) 63 (0, 0))) :
    Calls Tryz.prog 88 #[.int .u8 b, .pointer (some ⟨pb, 0, none⟩)] w fun e w' => e = .returned (.string (mkS (turnL s b))) ∧ Grows w w' := by
  have HP := Lib.hid hp; clear hp
  have hW : ∀ (l : List Obj) (d : Nat), blk (Wd w l d) pb = some (.cells (cv .u8 s) 63 (0, 0)) := fun l d => blk_old _ _ _ _ HP.out
  refine calls_wd ?_
  go_enter Tryz.func88, Tryz.ntmps88
  go_wp2
  go_loopw [7] (fun i wr => ∃ k : Nat, k ≤ 64 ∧ i = .int .i64 k ∧ wr = Wd w [.cells (cv .u8 (fin1 (turnF s b) k s)) 63 (0, 0)] 0) (fun i _ => 64 - (intOf i).toNat)
  case atStart => exact ⟨0, by omega, rfl, by rw [fin1_zero]⟩
  case round =>
    obtain ⟨k, hk, rfl, rfl⟩ := hrel
    have hl : (fin1 (turnF s b) k s).length = 64 := by rw [fin1_length (by omega), hs]
    by_cases hlt : k < 64
    · have hki : (k : Int) < 64 := by omega
      have hst : Hid (spl (fin1 (turnF s b) k s) k [xor8 (gi (fin1 (turnF s b) k s) k) b] = fin1 (turnF s b) (k + 1) s) := Lib.hid (by
        rw [fin1_gi (Nat.le_refl k), show xor8 (gi s k) b = turnF s b k from rfl, fin1_step])
      generalize fin1 (turnF s b) k s = F at *
      go_wp2
      go_roundw
      case rel => exact ⟨k + 1, by omega, by go_num, by rw [hst.out]⟩
      case measure => simp [intOf]; omega
    · obtain rfl : k = 64 := by omega
      have HF : Hid (fin1 (turnF s b) 64 s = turnL s b) := Lib.hid (fin1_end (by omega))
      rw [HF.out] at hl ⊢
      go_wp2
      go_ret
      exact ⟨rfl, Grows.of _ _ _⟩
end Go.Proofs.YtbiadmhomadflaaGreatDoor.Sm
namespace Go.Proofs.YtbiadmhomadflaaGreatDoor.Sm
open Go.RowKit Go.Own

def tot (ss : List ByteArray) (k : Nat) : Nat := (allB (ss.take k)).length
theorem tot_succ (ss : List ByteArray) (k : Nat) (s : ByteArray) (h : ss[k]? = some s) : tot ss (k + 1) = tot ss k + s.size := by
  unfold tot
  rw [allB_succ ss k s h, List.length_append, bys_length]
theorem tot_mono (ss : List ByteArray) (k : Nat) : tot ss k ≤ (allB ss).length := allB_le ss k
theorem tot_all (ss : List ByteArray) : tot ss ss.length = (allB ss).length := by unfold tot; rw [List.take_length]
/-- The slice p of so many strings, from some place of its block on: these. -/
def PartsO (w : World) (p : Option Addr) (ss : List ByteArray) : Prop :=
  ∀ (j : Nat) (s : ByteArray), ss[j]? = some s → ∃ (b o : Nat) (c : Array Value) (t : TypeId) (f : Nat × Nat), p = some ⟨b, o, none⟩ ∧ blk w b = some (.cells c t f) ∧ c[o + j]? = some (Value.string s)
theorem PartsO.grows {w w' : World} {p : Option Addr} {ss : List ByteArray} (h : PartsO w p ss) (hg : Grows w w') : PartsO w' p ss := fun j s hs => by
  obtain ⟨b, o, c, t, f, h1, h2, h3⟩ := h j s hs
  exact ⟨b, o, c, t, f, h1, hg.blk h2, h3⟩
theorem PartsO.wd {w : World} {p : Option Addr} {ss : List ByteArray} (h : PartsO w p ss) (l : List Obj) (d : Nat) : PartsO (Wd w l d) p ss := h.grows (Grows.of _ _ _)
attribute [local go_sem] isa9 ag9 ldX_some
end Go.Proofs.YtbiadmhomadflaaGreatDoor.Sm
namespace Go.Proofs.YtbiadmhomadflaaGreatDoor.Sm
open Go.RowKit Go.Own

theorem Parts.o {w : World} {p : Option Addr} {ss : List ByteArray} (h : Parts w p ss) : PartsO w p ss := fun j s hs => by
  obtain ⟨b, c, t, f, h1, h2, h3⟩ := h j s hs
  exact ⟨b, 0, c, t, f, h1, h2, by rw [Nat.zero_add]; exact h3⟩
theorem at_end3 (L g g2 : List Obj) (X : Obj) : (L ++ (g ++ (g2 ++ [X])))[L.length + (g.length + g2.length)]? = some X := by
  rw [← List.append_assoc g, ← List.length_append, at_end2]
attribute [local go_sem] ag63 cs63 sz63 z63 bsS1 bsS2 cpX_short ag5 cs5 sz5 isa5 isa9 ag9 ldX_some
set_option maxRecDepth 100000 in
set_option maxHeartbeats 2000000 in
theorem tag_any (k : ByteArray) (hk : k.size ≤ 1099511600000) (w : World) (hR : Roots w) (p : Option Addr) (cap : Nat) (ss : List ByteArray) (hP : PartsO w p ss) (hb : (allB ss).length ≤ 1099511500000) (hl : ss.length ≤ 1099511627776) :
    Calls Tryz.prog 52 #[.string k, .slice p ss.length cap] w fun e w' => e = .returned (.string (mkS (tagL (bys k) (allB ss)))) ∧ Grows w w' := by
  have HB := Lib.hid hb; clear hb
  obtain ⟨n, hn⟩ : ∃ n, ss.length = n := ⟨_, rfl⟩
  have HN := Lib.hid hn
  rw [hn] at hl ⊢
  clear hn
  have HR0 := Lib.hid hR
  have HP0 := Lib.hid hP
  have HK := Lib.hid hk
  clear hR hP hk
  refine calls_wd ?_
  go_enter Tryz.func52, Tryz.ntmps52
  go_wp2_with fail
  refine (turner_any k HK.out w HR0.out [] 0).mono ?_
  rintro e w' ⟨g, d, rfl, rfl⟩
  obtain ⟨pb, hpb⟩ : ∃ pb, w.heap.size + (([] : List Obj).length + g.length) = pb := ⟨_, rfl⟩
  obtain ⟨W, hW⟩ : ∃ W, Wd w ([] ++ (g ++ [.cells (cv .u8 (blockL (bys k))) 63 (0, 0)])) d = W := ⟨_, rfl⟩
  have hGW : Grows w W := hW ▸ Grows.of _ _ _
  have HPB : Hid (blk W pb = some (.cells (cv .u8 (blockL (bys k))) 63 (0, 0))) := Lib.hid (by
    rw [← hW, ← hpb, blk_at]; simp)
  have HR := Lib.hid (HR0.out.grows hGW)
  have HP := Lib.hid (HP0.out.grows hGW)
  have HGW := Lib.hid hGW
  rw [hpb, hW]
  clear hpb hW hGW
  obtain ⟨A, hA⟩ : ∃ A, turnL (blockL (bys k)) 54 = A := ⟨_, rfl⟩
  obtain ⟨B, hB⟩ : ∃ B, turnL (blockL (bys k)) 92 = B := ⟨_, rfl⟩
  have hAl : Hid (A.length = 64) := Lib.hid (by rw [← hA]; exact turnL_length _ _)
  have hBl : Hid (B.length = 64) := Lib.hid (by rw [← hB]; exact turnL_length _ _)
  have hA8 : Hid (B8 A) := Lib.hid (by rw [← hA]; exact turnL_B8 _ _)
  have hB8 : Hid (B8 B) := Lib.hid (by rw [← hB]; exact turnL_B8 _ _)
  have HC1 : ∀ (l : List Obj) (d : Nat), Calls Tryz.prog 88 #[.int .u8 54, .pointer (some ⟨pb, 0, none⟩)] (Wd W l d) fun e w' => e = .returned (.string (mkS A)) ∧ Grows (Wd W l d) w' := fun l d => by
    have := closed_any 54 pb (blockL (bys k)) (blockL_length _) (Wd W l d) (blk_old _ _ _ _ HPB.out)
    rwa [hA] at this
  have HC2 : ∀ (l : List Obj) (d : Nat), Calls Tryz.prog 88 #[.int .u8 92, .pointer (some ⟨pb, 0, none⟩)] (Wd W l d) fun e w' => e = .returned (.string (mkS B)) ∧ Grows (Wd W l d) w' := fun l d => by
    have := closed_any 92 pb (blockL (bys k)) (blockL_length _) (Wd W l d) (blk_old _ _ _ _ HPB.out)
    rwa [hB] at this
  have HT : Hid (tagL (bys k) (allB ss) = digL (B ++ digL (A ++ allB ss))) := Lib.hid (by unfold tagL; rw [hA, hB])
  clear hA hB
  rw [← Wd_nil W]
  go_wp2_with fail
  refine (new_any W [] 0).mono ?_
  rintro e w' ⟨g, d, rfl, rfl⟩
  obtain ⟨j, hj⟩ : ∃ j, ([] : List Obj).length + g.length = j := ⟨_, rfl⟩
  have hget : ([] ++ g ++ [Obj.cells (tc startL (rep 64) 0) 124 (0, 0)])[j]? = some (.cells (tc startL (rep 64) 0) 124 (0, 0)) := by
    rw [← hj]; simp
  have HG := Lib.hid hget
  rw [hj]
  clear hget hj
  generalize [] ++ g ++ [Obj.cells (tc startL (rep 64) 0) 124 (0, 0)] = L0 at *
  go_wp2_with fail
  refine (HC1 _ _).mono ?_
  rintro e w' ⟨rfl, g, d, rfl⟩
  rw [Wd_wd]
  go_wp2_with fail
  refine (add_any W HR.out _ _ j [] startL (rep 64) (mkS A) Tal.start (app_at HG.out) (by rw [mkS_size, hAl.out]; decide)).mono ?_
  rintro e w' ⟨rfl, st, bl, L, d, hT, hL, rfl⟩
  rw [List.nil_append, bys_mkS A hA8.out] at hT hL
  have HT1 := Lib.hid hT
  have HL1 := Lib.hid hL.get
  clear hT hL HG
  go_wp2
  go_loopw [17] (fun i wr => ∃ (k d : Nat) (st bl X : List Nat) (L : List Obj), k ≤ n ∧ i = .int .i64 k ∧ Hid (A ++ allB (ss.take k) = X) ∧ Hid (Tal X st bl) ∧ Hid (L[j]? = some (.cells (tc st bl X.length) 124 (0, 0))) ∧ wr = Wd W L d) (fun i _ => n - (intOf i).toNat)
  case atStart => exact ⟨0, d, st, bl, A, L, by omega, rfl, Lib.hid (by simp [allB]), HT1, HL1, rfl⟩
  case round =>
    clear HT1 HL1
    obtain ⟨k, d, st, bl, X, L, hk, rfl, hX, hT, hL, rfl⟩ := hrel
    by_cases hlt : k < n
    · obtain ⟨s, hs⟩ : ∃ s, ss[k]? = some s := ⟨_, List.getElem?_eq_getElem (by rw [HN.out]; exact hlt)⟩
      obtain ⟨b, o, c, t, f, rfl, hblk, hc⟩ := HP.out k s hs
      have HS := Lib.hid (allB_succ ss k s hs)
      have HKL := Lib.hid (allB_le ss (k + 1))
      clear hs
      have hWb : ∀ (l : List Obj) (d : Nat), blk (Wd W l d) b = some (.cells c t f) := fun l d => blk_old _ _ _ _ hblk
      clear hblk
      have hki : (k : Int) < n := by omega
      go_wp2_with fail
      refine (add_any W HR.out L d j X st bl s hT.out hL.out ?hl).mono ?_
      case hl =>
        have h1 := HKL.out
        have h2 := HB.out
        have h3 := hAl.out
        rw [HS.out, List.length_append, bys_length] at h1
        rw [← hX.out, List.length_append]
        omega
      rintro e w' ⟨rfl, st2, bl2, L2, d2, hT2, hL2, rfl⟩
      have HX2 : Hid (A ++ allB (ss.take (k + 1)) = X ++ bys s) := Lib.hid (by rw [HS.out, ← hX.out, List.append_assoc])
      have HT2 := Lib.hid hT2
      have HL2 := Lib.hid hL2.get
      clear hT2 hL2
      go_wp2
      go_roundw
      case rel => exact ⟨k + 1, _, st2, bl2, _, _, by omega, by go_num, HX2, HT2, HL2, rfl⟩
      case measure => simp [intOf]; omega
    · obtain rfl : k = n := by omega
      have HXA : Hid (X = A ++ allB ss) := Lib.hid (by rw [← hX.out, List.take_of_length_le (by rw [HN.out]; exact Nat.le_refl _)])
      go_wp2_with fail
      refine (HC2 _ _).mono ?_
      rintro e w' ⟨rfl, g, d, rfl⟩
      rw [Wd_wd]
      go_wp2_with fail
      refine (sum_any W HR.out _ _ j X st bl hT.out (app_at hL.out) (by rw [HXA.out, List.length_append, hAl.out]; have := HB.out; omega)).mono ?_
      rintro e w' ⟨rfl, g2, d2, rfl⟩
      go_wp2_with fail
      refine (of_any _ (HR.out.wd _ _) _ 2 [mkS B, mkS (digL X)] (parts2 (i := L.length + (g.length + g2.length)) (t := 9) (f := (0, 0)) ?hp) ?hq (by simp)).mono ?_
      case hp => exact at_end3 _ _ _ _
      case hq => rw [allB2, bys_mkS B hB8.out, bys_mkS _ (digL_B8 _), List.length_append, hBl.out, digL_length]; decide
      rintro e w' ⟨rfl, g3, d3, rfl⟩
      rw [allB2, bys_mkS B hB8.out, bys_mkS _ (digL_B8 _), HXA.out, ← HT.out]
      go_wp2
      go_ret
      exact ⟨rfl, HGW.out.trans ((Grows.of _ _ _).trans (Grows.of _ _ _))⟩
theorem tagL_length (k x : List Nat) : (tagL k x).length = 32 := digL_length _
theorem tagL_B8 (k x : List Nat) : B8 (tagL k x) := digL_B8 _
end Go.Proofs.YtbiadmhomadflaaGreatDoor.Sm

/- The digest of a tally: by contract. | The digest of parts: by contract. -/
import Derived.Test.YtlogjpmdfimgdaaGreatDoorZ06
namespace Go.Proofs.YtlogjpmdfimgdaaGreatDoor.Jf.Sm
open Go.RowKit Go.Own.Jf

theorem alX_mix {P : Program} {T : TypeId} {w : World} {l : List Obj} {d : Nat} {st bl : List Nat} {n : Nat} (h : zeroOf P T = .agg (tc st bl n)) :
    alX P T (.agg (tc st bl n)) w l d = .ok (.pointer (some ⟨w.heap.size + l.length, 0, none⟩)) (Wd w (l ++ [.cells (tc st bl n) T (0, 0)]) d) := by
  simp [alX, alN, Instr.alloc, run_zeroOf h, newVar, newRow, Value.cells, Wd_size, Wd_alloc]
attribute [local go_sem] ag230 ag232 ag245 ag195 ag5 ag3 cs230 cs232 cs245 cs195 cs5 cs3 sz230 sz232 sz245 sz195 sz5 sz3 isa195 isa5 isa3 z230 z245 ag234 cs234 sz234 z234 ldX_st ldX_bl ldX_n ldX_tc stX_st stX_n stX_tc alX_mix
/-- The digest. -/
def digL (x : List Nat) : List Nat := textL (chain (x ++ endL x.length) ((x ++ endL x.length).length / 64))
theorem digL_length (x : List Nat) : (digL x).length = 32 := textL_length _
theorem endL_B8 (n : Nat) : B8 (endL n) := by
  refine B8.append (fun y hy => ?_) (B8.map (fun _ => Nat.mod_lt _ (by decide)) _)
  rcases List.mem_cons.1 hy with rfl | h
  · decide
  · exact B8.rep _ y h
set_option maxRecDepth 100000 in
set_option maxHeartbeats 1000000 in
theorem sum_any (w : World) (hR : Roots w) (l : List Obj) (d i : Nat) (x st bl : List Nat) (hT : Tal x st bl) (hi : l[i]? = some (.cells (tc st bl x.length) 234 (0, 0))) (hb : x.length ≤ 1099511600000) :
    Calls Tryz.prog 130 #[.pointer (some ⟨w.heap.size + i, 0, none⟩)] (Wd w l d) fun e w' => e = .returned (.string (mkS (digL x))) ∧ ∃ g d', w' = Wd w (l ++ g) d' := by
  have HR := Lib.hid hR; clear hR
  have HT := Lib.hid hT; clear hT
  have HI := Lib.hid hi
  have hs8 := HT.out.st8
  have hb64 := HT.out.bl64
  obtain ⟨n, hn⟩ : ∃ n, x.length = n := ⟨_, rfl⟩
  have HN := Lib.hid hn
  rw [hn] at hi hb HI
  clear hn
  have hA : ∀ g, (l ++ g)[i]? = some (.cells (tc st bl n) 234 (0, 0)) := fun g => by
    rw [List.getElem?_append_left (List.getElem?_eq_some_iff.1 HI.out).1]; exact HI.out
  go_enter Tryz.func130, Tryz.ntmps130
  go_wp2_with fail
  refine (ending_any n (by omega) _).mono ?_
  rintro e w' ⟨rfl, g, d', rfl⟩
  rw [Wd_wd]
  go_wp2_with fail
  refine (add_any w HR.out _ _ l.length x st bl _ HT.out ?hc ?hl).mono ?_
  case hc => rw [HN.out]; simp
  case hl => rw [HN.out, mkS_size, endL_length]; unfold zerosN; omega
  rintro e w' ⟨rfl, st2, bl2, L, d2, hT2, hL, rfl⟩
  rw [bys_mkS _ (endL_B8 n)] at hT2 hL
  have HD : Hid (digL x = textL st2) := Lib.hid (by unfold digL; rw [HN.out, ← hT2.words])
  have hs2 := hT2.st8
  have hb2 := hT2.bl64
  have hLi := hL.get
  have HLG : Hid (∃ g, L = l ++ g) := by
    obtain ⟨_, g2, rfl⟩ := hL
    exact ⟨_, by rw [List.set_append_right _ _ (Nat.le_refl _), List.append_assoc]⟩
  clear hT2 hL hs8 hb64 hi hA
  generalize (x ++ endL n).length = n2 at *
  go_wp2_with fail
  refine (text_any st2 hs2 _).mono ?_
  rintro e w' ⟨rfl, g3, d3, rfl⟩
  rw [Wd_wd]
  go_wp2
  go_ret
  refine ⟨by rw [HD.out]; rfl, ?_⟩
  obtain ⟨g4, hg4⟩ := HLG.out
  exact ⟨g4 ++ g3, _, by rw [hg4, List.append_assoc]⟩
/-- What differs among the first k bytes. -/
def accF (a b : List Nat) : Nat → Nat
  | 0 => 0
  | k + 1 => or8 (accF a b k) (xor8 (gi a k) (gi b k))
theorem or8_zero {x y : Nat} (hx : x < 256) (hy : y < 256) : or8 x y = 0 ↔ x = 0 ∧ y = 0 := by
  have h : x ||| y < 256 := Nat.or_lt_two_pow (n := 8) hx hy
  unfold or8
  rw [Nat.mod_eq_of_lt h]
  exact Nat.or_eq_zero_iff
theorem xor8_zero {x y : Nat} (hx : x < 256) (hy : y < 256) : xor8 x y = 0 ↔ x = y := by
  have h : x ^^^ y < 256 := Nat.xor_lt_two_pow (n := 8) hx hy
  unfold xor8
  rw [Nat.mod_eq_of_lt h]
  constructor
  · intro e
    have := congrArg (· ^^^ y) e
    simpa [Nat.xor_assoc] using this
  · rintro rfl; exact Nat.xor_self _
theorem accF_lt (a b : List Nat) : ∀ k, accF a b k < 256
  | 0 => by show 0 < 256; decide
  | _ + 1 => Nat.mod_lt _ (by decide)
theorem accF_zero (a b : List Nat) (ha : B8 a) (hb : B8 b) : ∀ k, accF a b k = 0 ↔ ∀ j, j < k → gi a j = gi b j
  | 0 => by simp [accF]
  | k + 1 => by
    rw [accF, or8_zero (accF_lt _ _ _) (show xor8 _ _ < 256 from Nat.mod_lt _ (by decide)), accF_zero a b ha hb k, xor8_zero (ha.gi _) (hb.gi _)]
    constructor
    · rintro ⟨h1, h2⟩ j hj
      by_cases e : j = k
      · rw [e]; exact h2
      · exact h1 j (by omega)
    · intro h
      exact ⟨fun j hj => h j (by omega), h k (by omega)⟩
theorem gi_ext {s t : List Nat} (hl : s.length = t.length) (h : ∀ i, i < s.length → gi s i = gi t i) : s = t := by
  apply List.ext_getElem hl
  intro i h1 h2
  have := h i h1
  simpa [gi, List.getD, h1, h2] using this
theorem gi_at {t : ByteArray} {i : Nat} (h : i < t.size) : gi (bys t) i = t[i].toNat := by
  have h3 : i < t.data.size := h
  simp only [gi, bys, List.getD_eq_getElem?_getD, List.getElem?_map]
  rw [List.getElem?_eq_getElem (by simpa using h3)]
  rfl
/-- Are they the same bytes? By name. -/
def sameB (a b : ByteArray) : Bool := decide (a = b)
theorem sameB_iff (a b : ByteArray) (hl : a.size = b.size) : (((accF (bys a) (bys b) a.size : Nat) : Int) == 0) = sameB a b := by
  unfold sameB
  rw [Bool.eq_iff_iff, beq_iff_eq, decide_eq_true_iff]
  have h0 : ((accF (bys a) (bys b) a.size : Nat) : Int) = 0 ↔ accF (bys a) (bys b) a.size = 0 := by omega
  rw [h0, accF_zero _ _ (B8.bys a) (B8.bys b)]
  constructor
  · intro h
    exact bys_inj (gi_ext (by rw [bys_length, bys_length, hl]) (by rw [bys_length]; exact h))
  · rintro rfl j _; rfl
set_option maxRecDepth 100000 in
theorem equal_ne (a b : ByteArray) (hl : a.size ≠ b.size) (w : World) :
    Calls Tryz.prog 99 #[.string a, .string b] w fun e w' => e = .returned (.bool (sameB a b)) ∧ Grows w w' := by
  have hz : sameB a b = false := by
    unfold sameB
    exact decide_eq_false (fun h => hl (by rw [h]))
  have hb : ((a.size : Int) != b.size) = true := by simp; omega
  have HZ := Lib.hid hz
  clear hl hz
  go_enter Tryz.func99, Tryz.ntmps99
  go_wp2
  go_ret
  exact ⟨by rw [HZ.out]; rfl, Grows.refl _⟩
theorem ixS (t : ByteArray) (k : IntKind) (i : Nat) (W : World) (h1 : i < t.size) :
    (ixN 9 (.string t) (.int k (i : Int))).run Tryz.prog W = .ok (.int .u8 ((gi (bys t) i : Nat) : Int)) W := by
  rw [gi_at h1]
  unfold ixN
  rw [run_index_string W 9 t k i Tryz.underlying9, dif_pos ⟨by omega, by omega⟩]
  simp
attribute [local go_sem] ixS
set_option maxRecDepth 100000 in
set_option maxHeartbeats 1000000 in
theorem equal_eq (a b : ByteArray) (hl : a.size = b.size) (hm : a.size ≤ 1099511627776) (w : World) :
    Calls Tryz.prog 99 #[.string a, .string b] w fun e w' => e = .returned (.bool (sameB a b)) ∧ Grows w w' := by
  have hb : ((a.size : Int) != b.size) = false := by simp; omega
  have HZ := Lib.hid (sameB_iff a b hl)
  have HL := Lib.hid hl
  clear hl
  refine calls_wd ?_
  go_enter Tryz.func99, Tryz.ntmps99
  go_wp2
  go_loopw [5, 14] (fun u i wr => ∃ k d : Nat, k ≤ a.size ∧ i = .int .i64 k ∧ u = .int .u8 (accF (bys a) (bys b) k : Nat) ∧ wr = Wd w [] d) (fun _ i _ => a.size - (intOf i).toNat)
  case atStart => exact ⟨0, _, by omega, rfl, rfl, rfl⟩
  case round =>
    obtain ⟨k, d, hk, rfl, rfl, rfl⟩ := hrel
    by_cases hlt : k < a.size
    · have hn : Hid (accF (bys a) (bys b) (k + 1) = or8 (accF (bys a) (bys b) k) (xor8 (gi (bys a) k) (gi (bys b) k))) := rfl
      have hlt2 : k < b.size := by rw [← HL.out]; exact hlt
      go_wp2
      refine wp_region_read (by kernel_rfl) (by kernel_rfl) ?_
      repeat still_step
      refine wpStill_nil ?_
      go_wp2
      go_roundw
      case rel => exact ⟨k + 1, _, by omega, by go_num, by rw [hn.out], rfl⟩
      case measure => simp [intOf]; omega
    · obtain rfl : k = a.size := by omega
      have hz := HZ.out
      go_wp2
      go_ret
      exact ⟨rfl, Grows.of _ _ _⟩
theorem equal_any (a b : ByteArray) (hm : a.size ≤ 1099511627776) (w : World) :
    Calls Tryz.prog 99 #[.string a, .string b] w fun e w' => e = .returned (.bool (sameB a b)) ∧ Grows w w' := by
  by_cases hl : a.size = b.size
  · exact equal_eq a b hl hm w
  · exact equal_ne a b hl w
end Go.Proofs.YtlogjpmdfimgdaaGreatDoor.Jf.Sm
namespace Go.Proofs.YtlogjpmdfimgdaaGreatDoor.Jf.Sm
open Go.RowKit Go.Own.Jf
/-- All parts' bytes. -/
def allB (ss : List ByteArray) : List Nat := ss.flatMap bys
theorem isa9 (w : World) : (isAgg 9).run Tryz.prog w = .ok false w := by kernel_rfl
theorem ag9 : aggSize Tryz.prog 9 = none := by kernel_rfl
theorem ldX_some {P : Program} {T : TypeId} {b o : Nat} {W : World} {c : Array Value} {t : TypeId} {f : Nat × Nat} (ha : (isAgg T).run P W = .ok false W)
    (h2 : blk W b = some (.cells c t f)) (h3 : (c[o]?).isSome = true) :
    ldX P T none (some (.cells c t f)) b o W = .ok ((c[o]?).getD undef) W := by
  obtain ⟨v, hv⟩ := Option.isSome_iff_exists.1 h3
  rw [ldX_mix1 ha h2 hv, hv]; rfl
/-- The slice p of so many strings: these. -/
def Parts (w : World) (p : Option Addr) (ss : List ByteArray) : Prop :=
  ∀ (j : Nat) (s : ByteArray), ss[j]? = some s → ∃ (b : Nat) (c : Array Value) (t : TypeId) (f : Nat × Nat), p = some ⟨b, 0, none⟩ ∧ blk w b = some (.cells c t f) ∧ c[j]? = some (Value.string s)
theorem allB_succ (ss : List ByteArray) (k : Nat) (s : ByteArray) (h : ss[k]? = some s) : allB (ss.take (k + 1)) = allB (ss.take k) ++ bys s := by
  unfold allB
  rw [List.take_add_one, h]
  simp
theorem allB_le (ss : List ByteArray) (k : Nat) : (allB (ss.take k)).length ≤ (allB ss).length := by
  have : allB ss = allB (ss.take k) ++ allB (ss.drop k) := by unfold allB; rw [← List.flatMap_append, List.take_append_drop]
  rw [this, List.length_append]; omega
attribute [local go_sem] isa9 ag9 ldX_some
set_option maxRecDepth 100000 in
set_option maxHeartbeats 1000000 in
theorem of_any (w : World) (hR : Roots w) (p : Option Addr) (cap : Nat) (ss : List ByteArray) (hP : Parts w p ss) (hb : (allB ss).length ≤ 1099511600000) (hl : ss.length ≤ 1099511627776) :
    Calls Tryz.prog 100 #[.slice p ss.length cap] w fun e w' => e = .returned (.string (mkS (digL (allB ss)))) ∧ Grows w w' := by
  have HR := Lib.hid hR; clear hR
  have HP := Lib.hid hP; clear hP
  have HB := Lib.hid hb; clear hb
  obtain ⟨n, hn⟩ : ∃ n, ss.length = n := ⟨_, rfl⟩
  have HN := Lib.hid hn
  rw [hn] at hl ⊢
  clear hn
  refine calls_wd ?_
  go_enter Tryz.func100, Tryz.ntmps100
  go_wp2_with fail
  refine (new_any w [] _).mono ?_
  rintro e w' ⟨g, d, rfl, rfl⟩
  obtain ⟨j, hj⟩ : ∃ j, ([] : List Obj).length + g.length = j := ⟨_, rfl⟩
  have hget : ([] ++ g ++ [Obj.cells (tc startL (rep 64) 0) 234 (0, 0)])[j]? = some (.cells (tc startL (rep 64) 0) 234 (0, 0)) := by
    rw [← hj]; simp
  have HG := Lib.hid hget
  rw [hj]
  clear hget hj
  generalize [] ++ g ++ [Obj.cells (tc startL (rep 64) 0) 234 (0, 0)] = L0 at *
  go_wp2
  go_loopw [9] (fun i wr => ∃ (k : Nat) (st bl : List Nat) (L : List Obj) (d : Nat), k ≤ n ∧ i = .int .i64 k ∧ Hid (Tal (allB (ss.take k)) st bl) ∧ Hid (L[j]? = some (.cells (tc st bl (allB (ss.take k)).length) 234 (0, 0))) ∧ wr = Wd w L d) (fun i _ => n - (intOf i).toNat)
  case atStart => exact ⟨0, startL, rep 64, L0, d, by omega, rfl, Lib.hid Tal.start, HG, rfl⟩
  case round =>
    clear HG
    obtain ⟨k, st, bl, L, d, hk, rfl, hT, hL, rfl⟩ := hrel
    by_cases hlt : k < n
    · obtain ⟨s, hs⟩ : ∃ s, ss[k]? = some s := ⟨_, List.getElem?_eq_getElem (by rw [HN.out]; exact hlt)⟩
      obtain ⟨b, c, t, f, rfl, hblk, hc⟩ := HP.out k s hs
      have HS := Lib.hid (allB_succ ss k s hs)
      have HK := Lib.hid (allB_le ss (k + 1))
      clear hs
      have hW : ∀ (l : List Obj) (d : Nat), blk (Wd w l d) b = some (.cells c t f) := fun l d => blk_old _ _ _ _ hblk
      clear hblk
      have hki : (k : Int) < n := by omega
      go_wp2_with fail
      refine (add_any w HR.out L d j (allB (ss.take k)) st bl s hT.out hL.out ?hl).mono ?_
      case hl =>
        have h1 := HK.out
        have h2 := HB.out
        rw [HS.out, List.length_append, bys_length] at h1
        omega
      rintro e w' ⟨rfl, st2, bl2, L2, d2, hT2, hL2, rfl⟩
      have HT2 : Hid (Tal (allB (ss.take (k + 1))) st2 bl2) := by rw [HS.out]; exact Lib.hid hT2
      have HL2 : Hid (L2[j]? = some (.cells (tc st2 bl2 (allB (ss.take (k + 1))).length) 234 (0, 0))) := by rw [HS.out]; exact Lib.hid hL2.get
      clear hT2 hL2
      go_wp2
      go_roundw
      case rel => exact ⟨k + 1, st2, bl2, L2, d2, by omega, by go_num, HT2, HL2, rfl⟩
      case measure => simp [intOf]; omega
    · obtain rfl : k = n := by omega
      have HA : Hid (allB (ss.take k) = allB ss) := Lib.hid (by rw [List.take_of_length_le (by rw [HN.out]; exact Nat.le_refl _)])
      go_wp2_with fail
      refine (sum_any w HR.out L d j (allB (ss.take k)) st bl hT.out hL.out (by rw [HA.out]; exact HB.out)).mono ?_
      rintro e w' ⟨rfl, g2, d2, rfl⟩
      rw [HA.out]
      go_wp2
      go_ret
      exact ⟨rfl, Grows.of _ _ _⟩
end Go.Proofs.YtlogjpmdfimgdaaGreatDoor.Jf.Sm

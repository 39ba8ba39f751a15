/- The laws' own calls of layer 2: by contract. -/
import Derived.Test.YtokijignhpcjlaaDoorS7
import Derived.LaidEqlPtr
namespace Go.Proofs.YtokijignhpcjlaaDoor
open Go.RowKit Go.Own

set_option maxRecDepth 1000000 in
theorem dig_abc : digL [97, 98, 99] = [186, 120, 22, 191, 143, 1, 207, 234, 65, 65, 64, 222, 93, 174, 34, 35, 176, 3, 97, 163, 150, 23, 122, 156, 180, 16, 255, 97, 242, 0, 21, 173] := by decide +kernel
theorem bsS1 (a : ByteArray) (w : World) (l : List Obj) (d : Nat) : (bsN 22 1 #[(0, .string a)]).run Tryd.prog (Wd w l d) =
    .ok (.slice (some ⟨w.heap.size + l.length, 0, none⟩) 1 1) (Wd w (l ++ [.cells #[.string a] 9 (0, 0)]) d) := by
  rw [← Wd_alloc, ← Wd_size w l d]
  generalize Wd w l d = W
  kernel_rfl
theorem bsS2 (a b : ByteArray) (w : World) (l : List Obj) (d : Nat) : (bsN 22 2 #[(0, .string a), (1, .string b)]).run Tryd.prog (Wd w l d) =
    .ok (.slice (some ⟨w.heap.size + l.length, 0, none⟩) 2 2) (Wd w (l ++ [.cells #[.string a, .string b] 9 (0, 0)]) d) := by
  rw [← Wd_alloc, ← Wd_size w l d]
  generalize Wd w l d = W
  kernel_rfl
theorem parts1 {w : World} {L : List Obj} {d i : Nat} {a : ByteArray} {t : TypeId} {f : Nat × Nat} (h : L[i]? = some (.cells #[.string a] t f)) : Parts (Wd w L d) (some ⟨w.heap.size + i, 0, none⟩) [a] := by
  intro j s hs
  refine ⟨_, _, _, _, rfl, by rw [blk_at]; exact h, ?_⟩
  match j, hs with
  | 0, hs => simp at hs; simp [hs]
theorem parts2 {w : World} {L : List Obj} {d i : Nat} {a b : ByteArray} {t : TypeId} {f : Nat × Nat} (h : L[i]? = some (.cells #[.string a, .string b] t f)) : Parts (Wd w L d) (some ⟨w.heap.size + i, 0, none⟩) [a, b] := by
  intro j s hs
  refine ⟨_, _, _, _, rfl, by rw [blk_at]; exact h, ?_⟩
  match j, hs with
  | 0, hs => simp at hs; simp [hs]
  | 1, hs => simp at hs; simp [hs]
theorem allB1 (a : ByteArray) : allB [a] = bys a := by simp [allB]
theorem allB2 (a b : ByteArray) : allB [a, b] = bys a ++ bys b := by simp [allB]
theorem ptr_neq (a : Addr) (W : World) : (binOp .neq 25 (.pointer (some a)) (.pointer (some a))).run Tryd.prog W = .ok (.bool false) W := by
  cases hi : Tryd.prog.info? 52 with
  | none => exact absurd hi (by have : (Tryd.prog.info? 52).isSome = true := by kernel_rfl
                                intro e; rw [e] at this; cases this)
  | some j =>
    have h : ∀ d : Nat, (Op.equalIn (d + 1) 25 (.pointer (some a)) (.pointer (some a))).run Tryd.prog W = .ok true W := fun d => by
      simp [Op.equalIn, run_underlying Tryd.underlying25, sizeOf, typeInfo, hi, run_sameAddr_same]
    simp only [binOp]
    simp [Op.equal, Op.maxDepth, h 9999]
attribute [local go_sem] bsS1 bsS2 ptr_neq
def sA : ByteArray := { data := #[97] }
def sBC : ByteArray := { data := #[98, 99] }
def sAB : ByteArray := { data := #[97, 98] }
def sC : ByteArray := { data := #[99] }
def sB : ByteArray := { data := #[98] }
theorem app_at {L g : List Obj} {i : Nat} {X : Obj} (h : L[i]? = some X) : (L ++ g)[i]? = some X := by
  rw [List.getElem?_append_left (List.getElem?_eq_some_iff.1 h).1]; exact h
theorem dig_lit {x : List Nat} (h : x = [97, 98, 99]) : mkS (digL x) = { data := #[186, 120, 22, 191, 143, 1, 207, 234, 65, 65, 64, 222, 93, 174, 34, 35, 176, 3, 97, 163, 150, 23, 122, 156, 180, 16, 255, 97, 242, 0, 21, 173] } := by rw [h, dig_abc]; rfl
theorem at_end2 (L g : List Obj) (X : Obj) : (L ++ (g ++ [X]))[L.length + g.length]? = some X := by
  rw [← List.append_assoc, ← List.length_append, List.getElem?_concat_length]
theorem at_end1 (L : List Obj) (X : Obj) : (L ++ [X])[L.length]? = some X := List.getElem?_concat_length
set_option maxRecDepth 100000 in
set_option maxHeartbeats 2000000 in
theorem awake_any (w : World) (hR : Roots w) : Calls Tryd.prog 7 #[] w fun e w' => e = .returned (.bool true) ∧ Grows w w' := by
  have HR := Lib.hid hR; clear hR
  refine calls_wd ?_
  go_enter Tryd.func7, Tryd.ntmps7
  go_wp2_with fail
  refine (new_any w [] 0).mono ?_
  rintro e w' ⟨g, d, rfl, rfl⟩
  obtain ⟨j, hj⟩ : ∃ j, ([] : List Obj).length + g.length = j := ⟨_, rfl⟩
  have hget : ([] ++ g ++ [Obj.cells (tc startL (rep 64) 0) 52 (0, 0)])[j]? = some (.cells (tc startL (rep 64) 0) 52 (0, 0)) := by
    rw [← hj]; simp
  have HG := Lib.hid hget
  rw [hj]
  clear hget hj
  generalize [] ++ g ++ [Obj.cells (tc startL (rep 64) 0) 52 (0, 0)] = L0 at *
  go_wp2_with fail
  refine (add_any w HR.out L0 d j [] startL (rep 64) sA Tal.start HG.out (by decide)).mono ?_
  rintro e w' ⟨rfl, st, bl, L, d, hT, hL, rfl⟩
  obtain ⟨x1, hx1⟩ : ∃ x1, [] ++ bys sA = x1 := ⟨_, rfl⟩
  rw [hx1] at hT hL
  have HX1 := Lib.hid hx1
  have HT := Lib.hid hT
  have HL := Lib.hid hL.get
  clear hT hL HG hx1
  go_wp2_with fail
  refine (add_any w HR.out L d j x1 st bl sBC HT.out HL.out (by rw [← HX1.out]; decide)).mono ?_
  rintro e w' ⟨rfl, st, bl, L, d, hT, hL, rfl⟩
  obtain ⟨x2, hx2⟩ : ∃ x2, x1 ++ bys sBC = x2 := ⟨_, rfl⟩
  rw [hx2] at hT hL
  have HX2 := Lib.hid (show x2 = [97, 98, 99] by rw [← hx2, ← HX1.out]; decide)
  have HT2 := Lib.hid hT
  have HL2 := Lib.hid hL.get
  clear hT hL HT HL hx2 HX1
  go_wp2_with fail
  refine (sum_any w HR.out L d j x2 st bl HT2.out HL2.out (by rw [HX2.out]; decide)).mono ?_
  rintro e w' ⟨rfl, g2, d2, rfl⟩
  rw [dig_lit HX2.out]
  go_wp2_with fail
  refine (len_any w _ _ j st bl _ HT2.out.st8 HT2.out.bl64 (app_at HL2.out)).mono ?_
  rintro e w' ⟨rfl, rfl⟩
  have h3 : x2.length = 3 := by rw [HX2.out]; rfl
  rw [h3]
  clear h3
  go_wp2_with fail
  refine (of_any _ (HR.out.wd _ _) _ 2 [sAB, sC] (parts2 (i := L.length + g2.length) (t := 9) (f := (0, 0)) ?hp) (by decide) (by decide)).mono ?_
  case hp => exact at_end2 _ _ _
  rintro e w' ⟨rfl, g3, d3, rfl⟩
  rw [Wd_wd, dig_lit (x := allB [sAB, sC]) (by decide)]
  go_wp2_with fail
  refine (equal_any sA sA (by decide) _).mono ?_
  rintro e w' ⟨rfl, g4, d4, rfl⟩
  rw [Wd_wd, show sameB sA sA = true by decide]
  go_wp2_with fail
  refine (equal_any sA sB (by decide) _).mono ?_
  rintro e w' ⟨rfl, g5, d5, rfl⟩
  rw [Wd_wd, show sameB sA sB = false by decide]
  go_wp2
  go_ret
  exact ⟨rfl, Grows.of _ _ _⟩

theorem again_short (a b : ByteArray) (n : Nat) (h : 1000 < a.size ∨ 1000 < b.size) (w : World) (hR : Roots w) :
    Calls Tryd.prog 4 #[.string a, .string b, .int .u8 n] w fun e w' => e = .returned (.bool true) ∧ Grows w w' := by
  have h' : 1000 < (a.size : Int) ∨ (¬ 1000 < (a.size : Int) ∧ 1000 < (b.size : Int)) := by omega
  clear h
  rcases h' with z1 | ⟨z1, z2⟩
  all_goals
    go_enter Tryd.func4, Tryd.ntmps4
    go_wp2_with fail
    refine (awake_any _ hR).mono ?_
    rintro e w' ⟨rfl, hg⟩
    go_wp2
    go_ret
    exact ⟨rfl, hg⟩
set_option maxRecDepth 100000 in
set_option maxHeartbeats 2000000 in
theorem again_long (a b : ByteArray) (n : Nat) (hn : n < 256) (ha : a.size ≤ 1000) (hb : b.size ≤ 1000) (w : World) (hR : Roots w) :
    Calls Tryd.prog 4 #[.string a, .string b, .int .u8 n] w fun e w' => e = .returned (.bool true) ∧ Grows w w' := by
  have z1 : ¬ 1000 < (a.size : Int) := by omega
  have z2 : ¬ 1000 < (b.size : Int) := by omega
  have HA := Lib.hid ha
  have HB := Lib.hid hb
  obtain ⟨m, hm⟩ : ∃ m : Nat, n % 5 = m := ⟨_, rfl⟩
  have hm1 : (n : Int) % 5 = m := by omega
  have hm5 : m < 5 := by omega
  have hmw : IntKind.i64.wrap (m : Int) = m := IntWalk.i64_in _ (by omega)
  clear ha hb hm
  have HR := Lib.hid hR; clear hR
  go_enter Tryd.func4, Tryd.ntmps4
  go_wp2_with fail
  refine (awake_any _ HR.out).mono ?_
  rintro e w0 ⟨rfl, hg0⟩
  have HG0 := Lib.hid hg0
  have HR0 := Lib.hid (HR.out.grows hg0)
  clear hg0
  rw [← Wd_nil w0]
  go_wp2_with fail
  refine (new_any w0 [] 0).mono ?_
  rintro e w' ⟨g, d, rfl, rfl⟩
  obtain ⟨j, hj⟩ : ∃ j, ([] : List Obj).length + g.length = j := ⟨_, rfl⟩
  have hget : ([] ++ g ++ [Obj.cells (tc startL (rep 64) 0) 52 (0, 0)])[j]? = some (.cells (tc startL (rep 64) 0) 52 (0, 0)) := by
    rw [← hj]; simp
  have HG := Lib.hid hget
  rw [hj]
  clear hget hj
  generalize [] ++ g ++ [Obj.cells (tc startL (rep 64) 0) 52 (0, 0)] = L0 at *
  go_wp2_with fail
  refine (add_any w0 HR0.out L0 d j [] startL (rep 64) a Tal.start HG.out (by have := HA.out; simp; omega)).mono ?_
  rintro e w' ⟨rfl, st, bl, L, d, hT, hL, rfl⟩
  rw [List.nil_append] at hT hL
  have HT := Lib.hid hT
  have HL := Lib.hid hL.get
  have HAL := Lib.hid (bys_length a)
  clear hT hL HG
  go_wp2_with fail
  refine (sum_any w0 HR0.out L d j _ st bl HT.out HL.out (by have := HA.out; rw [HAL.out]; omega)).mono ?_
  rintro e w' ⟨rfl, g2, d2, rfl⟩
  obtain ⟨SA, hSA⟩ : ∃ S, mkS (digL (bys a)) = S := ⟨_, rfl⟩
  have HSA := Lib.hid hSA
  rw [hSA]
  clear hSA
  go_wp2
  go_loopw [9] (fun i wr => ∃ (k : Nat) (g : List Obj) (d : Nat), k ≤ m ∧ i = .int .i64 k ∧ wr = Wd w0 (L ++ g) d) (fun i _ => m - (intOf i).toNat)
  case atStart => exact ⟨0, g2, d2, by omega, rfl, rfl⟩
  case round =>
    obtain ⟨k, g3, d3, hk, rfl, rfl⟩ := hrel
    by_cases hlt : k < m
    · go_wp2_with fail
      refine (sum_any w0 HR0.out _ d3 j _ st bl HT.out (app_at HL.out) (by have := HA.out; rw [HAL.out]; omega)).mono ?_
      rintro e w' ⟨rfl, g4, d4, rfl⟩
      rw [HSA.out]
      go_wp2
      go_roundw
      case rel => exact ⟨k + 1, _, _, by omega, by go_num, rfl⟩
      case measure => simp [intOf]; omega
    · obtain rfl : k = m := by omega
      go_wp2_with fail
      refine (len_any w0 _ _ j st bl _ HT.out.st8 HT.out.bl64 (app_at HL.out)).mono ?_
      rintro e w' ⟨rfl, rfl⟩
      rw [HAL.out]
      go_wp2_with fail
      refine (of_any _ (HR0.out.wd _ _) _ 1 [a] (parts1 (i := L.length + g3.length) (t := 9) (f := (0, 0)) ?hp) ?hq (by simp)).mono ?_
      case hp => exact at_end2 _ _ _
      case hq => have := HA.out; rw [allB1, HAL.out]; omega
      rintro e w' ⟨rfl, g5, d5, rfl⟩
      rw [Wd_wd, allB1, HSA.out]
      go_wp2_with fail
      refine (add_any w0 HR0.out _ _ j (bys a) st bl b HT.out (app_at HL.out) (by have := HA.out; have := HB.out; rw [HAL.out]; omega)).mono ?_
      rintro e w' ⟨rfl, st2, bl2, L2, d6, hT2, hL2, rfl⟩
      have HT2 := Lib.hid hT2
      have HL2 := Lib.hid hL2.get
      have HABL : Hid ((bys a ++ bys b).length = a.size + b.size) := Lib.hid (by rw [List.length_append, bys_length, bys_length])
      clear hT2 hL2
      go_wp2_with fail
      refine (sum_any w0 HR0.out _ _ j _ st2 bl2 HT2.out HL2.out (by have := HA.out; have := HB.out; rw [HABL.out]; omega)).mono ?_
      rintro e w' ⟨rfl, g7, d7, rfl⟩
      obtain ⟨SB, hSB⟩ : ∃ S, mkS (digL (bys a ++ bys b)) = S := ⟨_, rfl⟩
      have HSB := Lib.hid hSB
      rw [hSB]
      clear hSB
      go_wp2_with fail
      refine (of_any _ (HR0.out.wd _ _) _ 2 [a, b] (parts2 (i := L2.length + g7.length) (t := 9) (f := (0, 0)) ?hp2) ?hq2 (by simp)).mono ?_
      case hp2 => exact at_end2 _ _ _
      case hq2 => have := HA.out; have := HB.out; rw [allB2, HABL.out]; omega
      rintro e w' ⟨rfl, g8, d8, rfl⟩
      rw [Wd_wd, allB2, HSB.out]
      go_wp2_with fail
      refine (len_any w0 _ _ j st2 bl2 (bys a ++ bys b).length HT2.out.st8 HT2.out.bl64 (app_at HL2.out)).mono ?_
      rintro e w' ⟨rfl, rfl⟩
      rw [HABL.out]
      go_wp2
      go_ret
      exact ⟨rfl, HG0.out.trans (Grows.of _ _ _)⟩
theorem again_any (a b : ByteArray) (n : Nat) (hn : n < 256) (w : World) (hR : Roots w) :
    Calls Tryd.prog 4 #[.string a, .string b, .int .u8 n] w fun e w' => e = .returned (.bool true) ∧ Grows w w' := by
  by_cases h : 1000 < a.size ∨ 1000 < b.size
  · exact again_short a b n h w hR
  · exact again_long a b n hn (by omega) (by omega) w hR
end Go.Proofs.YtokijignhpcjlaaDoor

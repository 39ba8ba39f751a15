/- LabelNames' own walk. -/
import Derived.Test.YtbfcbffmgdijfaaA2
import Derived.Test.YtbfcbffmgdijfaaN4
namespace Go.Proofs.Ytbfcbffmgdijfaa
open Go.RowKit Go.Own
attribute [-go_sem] run_string_add_if
theorem runesN_le (s : ByteArray) : runesN s ≤ 32 := by
  rcases Nat.eq_zero_or_pos (runesN s) with h | h
  · omega
  · exact (runesN_some h).2
theorem conv_rune (r : Nat) (W : World) : (convert 21 9 (.int .i32 (r : Int))).run Try.prog W = .ok (.string (Utf8.encode (r : Int))) W := by
  simp [convert, run_underlying Try.underlying21, run_underlying Try.underlying9, Conv.intToString]
set_option maxRecDepth 100000 in
theorem names_long (a b : ByteArray) (h : 200 < a.size ∨ 200 < b.size) (w : World) : Calls Try.prog 6 #[.string a, .string b] w fun e w' => e = .returned (.bool true) ∧ Below w.heap.size w w' := by
  have h' : decide ((200 : Int) < (a.size : Int)) = true ∨ (decide ((200 : Int) < (a.size : Int)) = false ∧ decide ((200 : Int) < (b.size : Int)) = true) := by
    by_cases e : 200 < a.size
    · left; simp; omega
    · right; exact ⟨by simp; omega, by simp; omega⟩
  have HA := Lib.hid (awake_any w)
  clear h
  rcases h' with h1 | ⟨h1, h2⟩
  all_goals
    go_enter Try.func6, Try.ntmps6
    go_wp2_with fail
    refine HA.out.mono ?_
    rintro e w1 ⟨rfl, hb1⟩
    replace hb1 := Lib.hid hb1
    go_wp2
    go_ret
    exact ⟨rfl, hb1.out⟩
set_option maxRecDepth 100000 in
set_option maxHeartbeats 2000000 in
theorem names_any (a b : ByteArray) (ha : a.size ≤ 200) (hb : b.size ≤ 200) (w : World) : Calls Try.prog 6 #[.string a, .string b] w fun e w' => e = .returned (.bool true) ∧ Below w.heap.size w w' := by
  have HA := Lib.hid (awake_any w)
  have HRA := Lib.hid (runes_any a)
  have HRB := Lib.hid (runes_any b)
  have HRC := Lib.hid (runes_any (a ++ b))
  have HRT := Lib.hid (right_any a)
  have hadd : ∀ W, (Op.stringOp .add a b).run Try.prog W = .ok (.string (a ++ b)) W := fun W => run_string_add_sum W a b (by omega)
  have d1 : decide ((200 : Int) < (a.size : Int)) = false := by simp; omega
  have d2 : decide ((200 : Int) < (b.size : Int)) = false := by simp; omega
  by_cases hn : runesN a = 0
  · rw [hn] at HRA HRT
    obtain ⟨m, hm⟩ : ∃ m, runesN b = m := ⟨_, rfl⟩
    rw [hm] at HRB
    clear hn hm hadd
    go_enter Try.func6, Try.ntmps6
    go_wp2_with fail
    refine HA.out.mono ?_
    rintro e w1 ⟨rfl, hb1⟩
    replace hb1 := Lib.hid hb1
    go_wp2_with fail
    refine (HRA.out w1).mono ?_
    rintro e w2 ⟨rfl, hb2⟩
    replace hb2 := Lib.hid (hb1.out.trans (hb2.mono hb1.out.size))
    go_wp2_with fail
    refine (HRB.out w2).mono ?_
    rintro e w3 ⟨rfl, hb3⟩
    replace hb3 := Lib.hid (hb2.out.trans (hb3.mono hb2.out.size))
    go_wp2_with fail
    refine (HRT.out w3).mono ?_
    rintro e w4 ⟨rfl, hb4⟩
    replace hb4 := Lib.hid (hb3.out.trans (hb4.mono hb3.out.size))
    go_wp2
    go_ret
    exact ⟨rfl, hb4.out⟩
  · have hnp : 0 < runesN a := by omega
    obtain ⟨f1, f2, f3, f4⟩ := name_facts hnp
    have HT := Lib.hid (Thru.start hnp)
    have hix : ∀ (kk : IntKind) W, (Instr.index 9 (.string a) (.int kk 0)).run Try.prog W = .ok (.int .u8 (gi (bys a) 0 : Int)) W := fun kk W => by
      rw [gi_at a 0 f3]
      have := run_index_string (P := Try.prog) W 9 a kk 0 Try.underlying9
      rw [dif_pos ⟨by omega, by omega⟩] at this
      exact this
    obtain ⟨c, hc⟩ : ∃ c, gi (bys a) 0 = c := ⟨_, rfl⟩
    have hcat := runes_cat hnp (b := b)
    have hm32 := runesN_le b
    obtain ⟨n, hn'⟩ : ∃ n, runesN a = n := ⟨_, rfl⟩
    obtain ⟨m, hm⟩ : ∃ m, runesN b = m := ⟨_, rfl⟩
    rw [hn'] at HRA HRT f1 f2 hcat hnp hn
    rw [hm] at HRB hcat hm32
    simp only [hc] at hix
    rw [hc] at f4
    have hc45 : ((c : Int) != 45) = true := by simp; omega
    clear hn' hm hc f4
    have hn0 : ((n : Int) == 0) = false := by simp; omega
    have hnpos : (0 : Int) < (n : Int) := by omega
    have hcv : ∀ (r : Nat) W, (convert 21 9 (.int .i32 (r : Int))).run Try.prog W = .ok (.string (Utf8.encode (r : Int))) W := fun r W => conv_rune r W
    have HQ : Hid (m = 0 ∨ (0 < m ∧ ((∀ W, Calls Try.prog 14 #[.string (a ++ b)] W fun e w' => e = .returned (.int .i64 ((n : Int) + (m : Int))) ∧ Below W.heap.size W w') ∧ n + m ≤ 32 ∨ (∀ W, Calls Try.prog 14 #[.string (a ++ b)] W fun e w' => e = .returned (.int .i64 0) ∧ Below W.heap.size W w') ∧ 32 < n + m))) := Lib.hid (by
      by_cases hm0 : m = 0
      · exact Or.inl hm0
      · have hq := hcat (by omega)
        refine Or.inr ⟨by omega, ?_⟩
        by_cases h32 : n + m ≤ 32
        · rw [if_pos h32] at hq
          exact Or.inl ⟨fun W => by have := HRC.out W; rwa [hq] at this, h32⟩
        · rw [if_neg h32] at hq
          exact Or.inr ⟨fun W => by have := HRC.out W; rwa [hq] at this, by omega⟩)
    clear hcat
    go_enter Try.func6, Try.ntmps6
    go_wp2_with fail
    refine HA.out.mono ?_
    rintro e w1 ⟨rfl, hb1⟩
    replace hb1 := Lib.hid hb1
    go_wp2_with fail
    refine (HRA.out w1).mono ?_
    rintro e w2 ⟨rfl, hb2⟩
    replace hb2 := Lib.hid (hb1.out.trans (hb2.mono hb1.out.size))
    go_wp2_with fail
    refine (HRB.out w2).mono ?_
    rintro e w3 ⟨rfl, hb3⟩
    replace hb3 := Lib.hid (hb2.out.trans (hb3.mono hb2.out.size))
    rcases HQ.out with h0 | ⟨h0, ⟨hC, h32⟩ | ⟨hC, h32⟩⟩
    · have hm0 : ¬ 0 < m := by omega
      clear h0
      obtain ⟨w4, rfl⟩ : ∃ w4, w4 = w3 := ⟨_, rfl⟩
      have HB4 := hb3
      go_wp2
      go_loopw [8] (fun _ wr => ∃ pos : Nat, Hid (wr.heap[w4.heap.size]? = some (.stringIter a pos)) ∧ Hid (Below w4.heap.size w4 wr) ∧ Hid (Thru a pos)) (fun _ wr => a.size - wr.iterPos w4.heap.size)
      case atStart => exact ⟨0, Lib.hid (World.iter_heap w4 a 0), Lib.hid (below_iter w4 a 0), HT⟩
      case round =>
        obtain ⟨pos, HI, HB, HTH⟩ := hrel
        have hit := HI.out
        have hlt4 : w4.heap.size < wr.heap.size := (Array.getElem?_eq_some_iff.1 hit).1
        by_cases hp : pos < a.size
        · have hnx : ∀ ty, (Instr.next (.pointer (some ⟨w4.heap.size, 0, none⟩)) true ty).run Try.prog wr = _ := fun ty => Lib.run_next_any_at wr w4.heap.size a pos ty hit hp
          obtain ⟨hI, hth, hj1⟩ := HTH.out.step hp
          obtain ⟨r, hr⟩ : ∃ r, (Utf8.decode a pos).1 = r := ⟨_, rfl⟩
          obtain ⟨j, hj⟩ : ∃ j, (Utf8.decode a pos).2 = j := ⟨_, rfl⟩
          rw [hr] at hI
          rw [hj] at hth hj1
          simp only [hr, hj] at hnx
          have HI2 := Lib.hid (Lib.iterAt_heap wr w4.heap.size a pos (pos + j) hit)
          have HB2 := Lib.hid (Lib.below_iterAt HB.out (k := w4.heap.size) (Nat.le_refl _) a (pos + j))
          have HTH2 := Lib.hid hth
          have hms : wr.iterPos w4.heap.size = pos := by simp [World.iterPos, hit]
          have HMS := Lib.hid hms
          by_cases h45 : r = 45
          · have hr45 : ((r : Int) != 45) = false := by simp; omega
            clear hit hr hj hI hth hms h45
            go_wp2
            go_roundw
            case rel => exact ⟨_, HI2, HB2, HTH2⟩
            case measure =>
              rw [HMS.out]
              simp only [World.iterPos, HI2.out]
              omega
          · have hr45 : ((r : Int) != 45) = true := by simp; omega
            have hone := runes_any (Utf8.encode (r : Int))
            rw [runes_one hI h45] at hone
            have HO := Lib.hid hone
            clear hit hr hj hI hth hms h45 hone
            go_wp2_with fail
            refine (HO.out _).mono ?_
            rintro e w5 ⟨rfl, hb5⟩
            have HI5 : Hid (w5.heap[w4.heap.size]? = some (.stringIter a (pos + j))) := Lib.hid ((hb5.block _ (by rw [Lib.iterAt_size]; exact hlt4)).trans HI2.out)
            have HB5 := Lib.hid (HB2.out.trans (hb5.mono (by rw [Lib.iterAt_size]; omega)))
            clear hb5
            go_wp2
            go_roundw
            case rel => exact ⟨_, HI5, HB5, HTH2⟩
            case measure =>
              rw [HMS.out]
              simp only [World.iterPos, HI5.out]
              omega
        · have hnx : ∀ ty, (Instr.next (.pointer (some ⟨w4.heap.size, 0, none⟩)) true ty).run Try.prog wr = _ := fun ty => Lib.run_next_end_at wr w4.heap.size a pos ty hit hp
          have hn32 : (n : Int) ≤ 32 := by omega
          have h2n : (a.size : Int) ≤ 2 * (n : Int) := by omega
          clear hit
          go_wp2
          go_ret
          exact ⟨rfl, HB4.out.trans (HB.out.mono HB4.out.size)⟩
    · have hm0 : 0 < m := h0
      have hs32 : decide ((n : Int) + (m : Int) ≤ 32) = true := by simp; omega
      have HC := Lib.hid hC
      clear h0 hC
      go_wp2_with fail
      refine (HC.out w3).mono ?_
      rintro e w4 ⟨rfl, hb4⟩
      have HB4 := Lib.hid (hb3.out.trans (hb4.mono hb3.out.size))
      clear hb4
      go_wp2
      go_loopw [8] (fun _ wr => ∃ pos : Nat, Hid (wr.heap[w4.heap.size]? = some (.stringIter a pos)) ∧ Hid (Below w4.heap.size w4 wr) ∧ Hid (Thru a pos)) (fun _ wr => a.size - wr.iterPos w4.heap.size)
      case atStart => exact ⟨0, Lib.hid (World.iter_heap w4 a 0), Lib.hid (below_iter w4 a 0), HT⟩
      case round =>
        obtain ⟨pos, HI, HB, HTH⟩ := hrel
        have hit := HI.out
        have hlt4 : w4.heap.size < wr.heap.size := (Array.getElem?_eq_some_iff.1 hit).1
        by_cases hp : pos < a.size
        · have hnx : ∀ ty, (Instr.next (.pointer (some ⟨w4.heap.size, 0, none⟩)) true ty).run Try.prog wr = _ := fun ty => Lib.run_next_any_at wr w4.heap.size a pos ty hit hp
          obtain ⟨hI, hth, hj1⟩ := HTH.out.step hp
          obtain ⟨r, hr⟩ : ∃ r, (Utf8.decode a pos).1 = r := ⟨_, rfl⟩
          obtain ⟨j, hj⟩ : ∃ j, (Utf8.decode a pos).2 = j := ⟨_, rfl⟩
          rw [hr] at hI
          rw [hj] at hth hj1
          simp only [hr, hj] at hnx
          have HI2 := Lib.hid (Lib.iterAt_heap wr w4.heap.size a pos (pos + j) hit)
          have HB2 := Lib.hid (Lib.below_iterAt HB.out (k := w4.heap.size) (Nat.le_refl _) a (pos + j))
          have HTH2 := Lib.hid hth
          have hms : wr.iterPos w4.heap.size = pos := by simp [World.iterPos, hit]
          have HMS := Lib.hid hms
          by_cases h45 : r = 45
          · have hr45 : ((r : Int) != 45) = false := by simp; omega
            clear hit hr hj hI hth hms h45
            go_wp2
            go_roundw
            case rel => exact ⟨_, HI2, HB2, HTH2⟩
            case measure =>
              rw [HMS.out]
              simp only [World.iterPos, HI2.out]
              omega
          · have hr45 : ((r : Int) != 45) = true := by simp; omega
            have hone := runes_any (Utf8.encode (r : Int))
            rw [runes_one hI h45] at hone
            have HO := Lib.hid hone
            clear hit hr hj hI hth hms h45 hone
            go_wp2_with fail
            refine (HO.out _).mono ?_
            rintro e w5 ⟨rfl, hb5⟩
            have HI5 : Hid (w5.heap[w4.heap.size]? = some (.stringIter a (pos + j))) := Lib.hid ((hb5.block _ (by rw [Lib.iterAt_size]; exact hlt4)).trans HI2.out)
            have HB5 := Lib.hid (HB2.out.trans (hb5.mono (by rw [Lib.iterAt_size]; omega)))
            clear hb5
            go_wp2
            go_roundw
            case rel => exact ⟨_, HI5, HB5, HTH2⟩
            case measure =>
              rw [HMS.out]
              simp only [World.iterPos, HI5.out]
              omega
        · have hnx : ∀ ty, (Instr.next (.pointer (some ⟨w4.heap.size, 0, none⟩)) true ty).run Try.prog wr = _ := fun ty => Lib.run_next_end_at wr w4.heap.size a pos ty hit hp
          have hn32 : (n : Int) ≤ 32 := by omega
          have h2n : (a.size : Int) ≤ 2 * (n : Int) := by omega
          clear hit
          go_wp2
          go_ret
          exact ⟨rfl, HB4.out.trans (HB.out.mono HB4.out.size)⟩
    · have hm0 : 0 < m := h0
      have hs32 : decide ((n : Int) + (m : Int) ≤ 32) = false := by simp; omega
      have hs0 : ((0 : Int) == (n : Int) + (m : Int)) = false := by simp; omega
      have HC := Lib.hid hC
      clear h0 hC
      go_wp2_with fail
      refine (HC.out w3).mono ?_
      rintro e w4 ⟨rfl, hb4⟩
      have HB4 := Lib.hid (hb3.out.trans (hb4.mono hb3.out.size))
      clear hb4
      go_wp2
      go_loopw [8] (fun _ wr => ∃ pos : Nat, Hid (wr.heap[w4.heap.size]? = some (.stringIter a pos)) ∧ Hid (Below w4.heap.size w4 wr) ∧ Hid (Thru a pos)) (fun _ wr => a.size - wr.iterPos w4.heap.size)
      case atStart => exact ⟨0, Lib.hid (World.iter_heap w4 a 0), Lib.hid (below_iter w4 a 0), HT⟩
      case round =>
        obtain ⟨pos, HI, HB, HTH⟩ := hrel
        have hit := HI.out
        have hlt4 : w4.heap.size < wr.heap.size := (Array.getElem?_eq_some_iff.1 hit).1
        by_cases hp : pos < a.size
        · have hnx : ∀ ty, (Instr.next (.pointer (some ⟨w4.heap.size, 0, none⟩)) true ty).run Try.prog wr = _ := fun ty => Lib.run_next_any_at wr w4.heap.size a pos ty hit hp
          obtain ⟨hI, hth, hj1⟩ := HTH.out.step hp
          obtain ⟨r, hr⟩ : ∃ r, (Utf8.decode a pos).1 = r := ⟨_, rfl⟩
          obtain ⟨j, hj⟩ : ∃ j, (Utf8.decode a pos).2 = j := ⟨_, rfl⟩
          rw [hr] at hI
          rw [hj] at hth hj1
          simp only [hr, hj] at hnx
          have HI2 := Lib.hid (Lib.iterAt_heap wr w4.heap.size a pos (pos + j) hit)
          have HB2 := Lib.hid (Lib.below_iterAt HB.out (k := w4.heap.size) (Nat.le_refl _) a (pos + j))
          have HTH2 := Lib.hid hth
          have hms : wr.iterPos w4.heap.size = pos := by simp [World.iterPos, hit]
          have HMS := Lib.hid hms
          by_cases h45 : r = 45
          · have hr45 : ((r : Int) != 45) = false := by simp; omega
            clear hit hr hj hI hth hms h45
            go_wp2
            go_roundw
            case rel => exact ⟨_, HI2, HB2, HTH2⟩
            case measure =>
              rw [HMS.out]
              simp only [World.iterPos, HI2.out]
              omega
          · have hr45 : ((r : Int) != 45) = true := by simp; omega
            have hone := runes_any (Utf8.encode (r : Int))
            rw [runes_one hI h45] at hone
            have HO := Lib.hid hone
            clear hit hr hj hI hth hms h45 hone
            go_wp2_with fail
            refine (HO.out _).mono ?_
            rintro e w5 ⟨rfl, hb5⟩
            have HI5 : Hid (w5.heap[w4.heap.size]? = some (.stringIter a (pos + j))) := Lib.hid ((hb5.block _ (by rw [Lib.iterAt_size]; exact hlt4)).trans HI2.out)
            have HB5 := Lib.hid (HB2.out.trans (hb5.mono (by rw [Lib.iterAt_size]; omega)))
            clear hb5
            go_wp2
            go_roundw
            case rel => exact ⟨_, HI5, HB5, HTH2⟩
            case measure =>
              rw [HMS.out]
              simp only [World.iterPos, HI5.out]
              omega
        · have hnx : ∀ ty, (Instr.next (.pointer (some ⟨w4.heap.size, 0, none⟩)) true ty).run Try.prog wr = _ := fun ty => Lib.run_next_end_at wr w4.heap.size a pos ty hit hp
          have hn32 : (n : Int) ≤ 32 := by omega
          have h2n : (a.size : Int) ≤ 2 * (n : Int) := by omega
          clear hit
          go_wp2
          go_ret
          exact ⟨rfl, HB4.out.trans (HB.out.mono HB4.out.size)⟩
end Go.Proofs.Ytbfcbffmgdijfaa

/- Flush, Write, Read: by contract. No condition but that fewer than 2^40 wait. -/
import Derived.Test.YtafbphgfdnmilaaC5
namespace Go.Proofs.Ytafbphgfdnmilaa
open Go.RowKit Go.Own

theorem counted_code (M : Dk) : M.counted.2 = 0 ∨ M.counted.2 = 7 := by
  unfold Dk.counted
  split
  · exact .inl rfl
  · split
    · exact .inl rfl
    · exact .inr rfl
theorem counted_count (M : Dk) : M.counted.1.count ≤ M.count := by
  unfold Dk.counted
  split
  · exact Nat.le_refl _
  · split
    · exact Nat.le_refl _
    · unfold Dk.crash
      split
      · exact Nat.le_refl _
      · exact Nat.zero_le _
set_option maxRecDepth 100000 in
set_option maxHeartbeats 1000000 in
theorem flush_any (w : World) (l : List Obj) (d i s q : Nat) (vw : Value) (O : Nat → Prop) (M : Dk) (h : DAt w l i s q vw O M) (hc : M.count ≤ 1099511627776) (hO : ∀ p, O p → p < l.length) :
    Calls Try.prog 15 #[.pointer (some ⟨w.heap.size + i, 0, none⟩)] (Wd w l d) fun e w' => e = .returned (.int .i64 ((M.flush.2 : Nat) : Int)) ∧ ∃ l' d' vw', w' = Wd w l' d' ∧ DAt w l' i s q vw' O M.flush.1 ∧ Kp O l l' := by
  have hd := h.hd
  have H := Lib.hid h
  have HO := Lib.hid hO
  clear h hO
  cases hoff : M.off with
  | true =>
    have HE := Lib.hid (show M.flush = (M, 7) by unfold Dk.flush; rw [if_pos hoff])
    rw [HE.out]
    rw [hoff] at hd
    clear hoff
    go_enter Try.func15, Try.ntmps15
    go_wp2
    go_ret
    exact ⟨rfl, l, d, vw, rfl, H.out, Kp.refl O l⟩
  | false =>
    rw [hoff] at hd
    rcases counted_code M with hz | hz
    · have HE := Lib.hid (show M.flush = (M.counted.1.flushed, 0) by unfold Dk.flush; rw [if_neg (by rw [hoff]; simp), if_pos hz])
      rw [HE.out]
      have HZ := Lib.hid hz
      clear hoff hz
      go_enter Try.func15, Try.ntmps15
      go_wp2_with fail
      refine (counted_any w l d i s q vw O M H.out hc HO.out).mono ?_
      rintro e w' ⟨rfl, l1, d1, vw1, rfl, hA, hK⟩
      rw [HZ.out]
      clear hd
      obtain ⟨N, hN⟩ : ∃ N, M.counted.1 = N := ⟨_, rfl⟩
      rw [hN] at hA
      have HN := Lib.hid hN
      clear hN
      have hd := hA.hd
      have hs := hA.hs
      have hq := hA.hq
      have HA := Lib.hid hA
      have HK := Lib.hid hK
      clear hA hK
      go_wp2
      refine wp_region_tail 9 (by kernel_rfl) (by kernel_rfl) ?_
      simp only [List.take_succ_cons, List.take_zero, List.drop_succ_cons, List.drop_zero]
      repeat still_step
      refine wpStill_nil ?_
      go_wp2_with fail
      refine (settle_any w l1 _ i q s N.n _ _ _ _ _ _ _ _ N.last N.seen N.wait (fun p => ¬ O p ∧ p ≠ i ∧ p ≠ s ∧ p ≠ q) hd hq hs HA.out.hw (fun p hp => ⟨hp.2.1, hp.2.2.2⟩) HA.out.iq HA.out.is HA.out.sq.symm HA.out.ok.lastL HA.out.ok.seenL (fun p hp => ⟨(HA.out.ok.waitO p hp).1, (HA.out.ok.waitO p hp).2.1⟩) (by have := HA.out.ok.waitL; omega)).mono ?_
      rintro e' w' ⟨rfl, l', d', vw', rfl, hi', ht', hrow, hlen, hk'⟩
      have HQ2 := Lib.hid ht'
      have HS2 := Lib.hid ((hk' s (List.getElem?_eq_some_iff.1 hs).1 HA.out.is.symm HA.out.sq).trans hs)
      have HRO := Lib.hid hrow
      have HK3 : Hid (Kp O l1 l') := Lib.hid ⟨hlen, fun p hp hlt => hk' p hlt (fun e => HA.out.Oi (e ▸ hp)) (fun e => HA.out.Oq (e ▸ hp))⟩
      clear ht' hrow hlen hk'
      go_wp2
      go_ret
      refine ⟨rfl, _, _, vw', rfl, ?_, HK.out.trans HK3.out⟩
      rw [HN.out]
      exact ⟨hi', HS2.out, HQ2.out, HRO.out, HA.out.is, HA.out.iq, HA.out.sq, HA.out.Oi, HA.out.Os, HA.out.Oq, HA.out.ok.flushed⟩
    · have HE := Lib.hid (show M.flush = M.counted by unfold Dk.flush; rw [if_neg (by rw [hoff]; simp), if_neg (by omega)])
      rw [HE.out]
      have HZ := Lib.hid hz
      clear hoff hz
      go_enter Try.func15, Try.ntmps15
      go_wp2_with fail
      refine (counted_any w l d i s q vw O M H.out hc HO.out).mono ?_
      rintro e w' ⟨rfl, l1, d1, vw1, rfl, hA, hK⟩
      rw [HZ.out]
      have HA := Lib.hid hA
      have HK := Lib.hid hK
      clear hA hK hd
      go_wp2
      go_ret
      exact ⟨by rw [HZ.out]; rfl, _, _, vw1, rfl, HA.out, HK.out⟩
noncomputable def fields74 : Array Field := match Try.prog.underlying 74 with | some (.struct f) => f | _ => #[]
theorem un74 : Try.prog.underlying 74 = some (.struct fields74) := by kernel_rfl
theorem pl74 (W : World) : (fields74.mapM fun f => do pure (f.offset, ← sizeOf f.type) : Sem (Array (Nat × Nat))).run Try.prog W = .ok #[(0, 1), (1, 64)] W := by kernel_rfl
theorem fill_step {place : Nat → Option (Nat × Nat)} {cells : Array Value} {i off n : Nat} {v : Value} {rest : List (Nat × Value)} (hp : place i = some (off, n)) (hn : v.cells.size = n) (h : off + n ≤ cells.size) :
    Instr.fill place cells ((i, v) :: rest) = Instr.fill place (v.cells.zipIdx.foldl (fun cs (c, j) => cs.setIfInBounds (off + j) c) cells) rest := by
  conv => lhs; unfold Instr.fill
  simp only [hp]
  rw [if_neg (by simp [hn]; omega)]
theorem bu74 (a : Nat) (x : List Nat) (hx : x.length = 64) (W : World) : (buN 74 #[(0, .int .i64 (a : Int)), (1, .agg (cv .u8 x))]).run Try.prog W = .ok (.agg (wv a x)) W := by
  have h1 : (wv 0 (rep 64)).setIfInBounds 0 (.int .i64 (a : Int)) = wv a (rep 64) := by
    apply Array.ext'
    rw [Array.toList_setIfInBounds, wv_list, wv_list]
    rfl
  have hf := foldl_set 1 (cv .u8 x).toList 0 (wv a (rep 64)) (by rw [Array.length_toList, cv_size, wv_size, rep_length]; omega)
  have h2 : (cv .u8 x).zipIdx.foldl (fun cs (c, j) => cs.setIfInBounds (1 + j) c) (wv a (rep 64)) = wv a x := by
    rw [← Array.foldl_toList, Array.toList_zipIdx, hf]
    apply Array.ext'
    rw [wv_list, wv_list]
    have e1 : ((cv .u8 (rep 64)).toList).length = 64 := by rw [Array.length_toList, cv_size, rep_length]
    have e2 : ((cv .u8 x).toList).length = 64 := by rw [Array.length_toList, cv_size, hx]
    show List.take 1 (Value.int .i64 (a : Int) :: (cv .u8 (rep 64)).toList) ++ (cv .u8 x).toList ++ List.drop (1 + 0 + ((cv .u8 x).toList).length) (Value.int .i64 (a : Int) :: (cv .u8 (rep 64)).toList) = _
    rw [e2, List.drop_of_length_le (by rw [List.length_cons, e1]; decide), List.append_nil]
    rfl
  have e0 : (Value.int .i64 (a : Int)).cells.zipIdx.foldl (fun cs (c, j) => cs.setIfInBounds (0 + j) c) (wv 0 (rep 64)) = wv a (rep 64) := by
    rw [← h1]; simp [Value.cells]
  have hfill : Instr.fill ((#[(0, 1), (1, 64)] : Array (Nat × Nat))[·]?) (wv 0 (rep 64)) [(0, .int .i64 (a : Int)), (1, .agg (cv .u8 x))] = some (wv a x) := by
    rw [fill_step (off := 0) (n := 1) rfl rfl (by rw [wv_size]; omega), e0, fill_step (off := 1) (n := 64) rfl (by show (cv .u8 x).size = _; rw [cv_size, hx]) (by rw [wv_size, rep_length]; decide)]
    unfold Instr.fill
    exact congrArg some h2
  unfold buN Instr.build
  simp only [Sem.run_bind, run_zeroOf z74, Result.andThen_ok, Value.cells, run_underlying un74, pl74]
  simp only [hfill]
  rfl
attribute [local go_sem] bu74 sec_eq
theorem refE_ok {o : Bool} {n : Nat} {x : Int} (h : refE o n x = 0) : o = false ∧ ∃ a : Nat, x = (a : Int) ∧ a < n := by
  unfold refE at h
  cases o with
  | true => simp at h
  | false =>
    refine ⟨rfl, ?_⟩
    simp only [Bool.false_eq_true, if_false] at h
    split at h
    · cases h
    · exact ⟨x.toNat, by omega, by omega⟩
/-- What 'refused' answers. -/
theorem refused_any (w : World) (l : List Obj) (d i : Nat) {p : Option Addr} {m c : Nat} {vl vw : Value} {n : Nat} {a : Int} {k : Nat} {t : Int} {o : Bool} (x : Int) (h : l[i]? = some (.cells (dc (.slice p m c) vl vw n a k t o) 66 (0, 0))) :
    Calls Try.prog 27 #[.pointer (some ⟨w.heap.size + i, 0, none⟩), .int .i64 x] (Wd w l d) fun e w' => e = .returned (.int .i64 ((refE o m x : Nat) : Int)) ∧ Wd w l d = w' := by
  cases o with
  | true =>
    have e : refE true m x = 7 := rfl
    rw [e]
    exact refused_down w l d i x h
  | false =>
    by_cases hx : x < 0 ∨ (m : Int) ≤ x
    · have e : refE false m x = 1 := by unfold refE; rw [if_neg (by simp), if_pos hx]
      rw [e]
      exact refused_range w l d i x hx h
    · have e : refE false m x = 0 := by unfold refE; rw [if_neg (by simp), if_neg hx]
      rw [e]
      obtain ⟨y, rfl⟩ : ∃ y : Nat, x = y := ⟨x.toNat, by omega⟩
      exact refused_ok w l d i y (by omega) h
set_option maxRecDepth 100000 in
set_option maxHeartbeats 1000000 in
theorem read_any (w : World) (l : List Obj) (d i s q : Nat) (vw : Value) (O : Nat → Prop) (M : Dk) (x : Int) (h : DAt w l i s q vw O M) :
    Calls Try.prog 13 #[.pointer (some ⟨w.heap.size + i, 0, none⟩), .int .i64 x] (Wd w l d) fun e w' => e = .returned (.tuple #[.string (mkS (M.read x).1), .int .i64 (((M.read x).2 : Nat) : Int)]) ∧ w' = Wd w l d := by
  have hd := h.hd
  have hs := h.hs
  have H := Lib.hid h
  clear h
  by_cases hr : refE M.off M.n x = 0
  · obtain ⟨ho, a, rfl, ha⟩ := refE_ok hr
    have HE := Lib.hid (show M.read (a : Int) = (sec M.seen a, 0) by unfold Dk.read; rw [if_pos hr]; rfl)
    rw [HE.out]
    have hai : (a : Int) < M.n := by omega
    have hfit : a * 64 + 64 ≤ M.n * 64 := by omega
    have hsl := H.out.ok.seenL
    have HR := Lib.hid hr
    clear hr HE
    go_enter Try.func13, Try.ntmps13
    go_wp2_with fail
    refine (refused_any w l d i _ hd).mono ?_
    rintro e w' ⟨rfl, rfl⟩
    rw [HR.out]
    go_wp2
    go_ret2
    exact ⟨rfl, rfl⟩
  · have HE := Lib.hid (show M.read x = ([], refE M.off M.n x) by unfold Dk.read; rw [if_neg hr])
    rw [HE.out]
    obtain ⟨r, hr'⟩ : ∃ r, refE M.off M.n x = r := ⟨_, rfl⟩
    rw [hr'] at hr ⊢
    have hb : ((r : Int) != 0) = true := by simp; omega
    have HR := Lib.hid hr'
    clear hr HE hr'
    go_enter Try.func13, Try.ntmps13
    go_wp2_with fail
    refine (refused_any w l d i _ hd).mono ?_
    rintro e w' ⟨rfl, rfl⟩
    rw [HR.out]
    go_wp2
    go_ret2
    exact ⟨rfl, rfl⟩
end Go.Proofs.Ytafbphgfdnmilaa

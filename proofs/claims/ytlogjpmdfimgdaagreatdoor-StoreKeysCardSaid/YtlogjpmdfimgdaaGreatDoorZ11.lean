/- Writes and flushes are counted; Arm, Start, Crash: by contract. No condition but that fewer than 2^40 wait. | Flush, Write, Read: by contract. No condition but that fewer than 2^40 wait. | Write, New, Image: by contract. No condition but that fewer than 2^40 wait. -/
import Derived.Test.YtlogjpmdfimgdaaGreatDoorZ10
namespace Go.Proofs.YtlogjpmdfimgdaaGreatDoor.Jf
open Go.RowKit Go.Own.Jf

theorem DAt.head {w : World} {l : List Obj} {i s q : Nat} {vw : Value} {O : Nat → Prop} {M : Dk} (h : DAt w l i s q vw O M) (M' : Dk) (hn : M'.n = M.n) (hs : M'.seen = M.seen) (hl : M'.last = M.last) (hw : M'.wait = M.wait) (ok : M'.Ok) :
    DAt w (l.set i (.cells (dc (.slice (some ⟨w.heap.size + s, 0, none⟩) M.n M.n) (.slice (some ⟨w.heap.size + q, 0, none⟩) M.n M.n) vw M'.count M'.cat M'.keep M'.torn M'.off) 104 (0, 0))) i s q vw O M' :=
  ⟨by rw [hn]; exact set_some h.hd, by rw [hs]; exact set_other h.is h.hs, by rw [hl]; exact set_other h.iq h.hq, by rw [hw]; exact h.hw.mono fun p hp _ => ⟨hp, List.getElem?_set_ne hp.2.1.symm⟩, h.is, h.iq, h.sq, h.Oi, h.Os, h.Oq, ok⟩
theorem crash_any (w : World) (l : List Obj) (d i s q : Nat) (vw : Value) (O : Nat → Prop) (M : Dk) (k : Nat) (t : Int) (h : DAt w l i s q vw O M) (hc : M.count ≤ 1099511627776) (hO : ∀ p, O p → p < l.length) :
    Calls Tryz.prog 142 #[.pointer (some ⟨w.heap.size + i, 0, none⟩), .int .u64 (k : Int), .int .i64 t] (Wd w l d) fun e w' => e = .returned (.tuple #[]) ∧ ∃ l' d' vw', w' = Wd w l' d' ∧ DAt w l' i s q vw' O (M.crash k t) ∧ Kp O l l' := by
  cases hoff : M.off with
  | false => exact crash_on w l d i s q vw O M k t h hoff hc hO
  | true =>
    have hd := h.hd
    rw [hoff] at hd
    refine (crash_off w l d i hd k t).mono fun _ _ ⟨h1, h2⟩ => ⟨h1, l, d, vw, h2, ?_, Kp.refl O l⟩
    unfold Dk.crash
    rw [if_pos hoff]
    exact h
set_option maxRecDepth 100000 in
set_option maxHeartbeats 1000000 in
theorem counted_any (w : World) (l : List Obj) (d i s q : Nat) (vw : Value) (O : Nat → Prop) (M : Dk) (h : DAt w l i s q vw O M) (hc : M.count ≤ 1099511627776) (hO : ∀ p, O p → p < l.length) :
    Calls Tryz.prog 123 #[.pointer (some ⟨w.heap.size + i, 0, none⟩)] (Wd w l d) fun e w' => e = .returned (.int .i64 ((M.counted.2 : Nat) : Int)) ∧ ∃ l' d' vw', w' = Wd w l' d' ∧ DAt w l' i s q vw' O M.counted.1 ∧ Kp O l l' := by
  have hd := h.hd
  have H := Lib.hid h
  have HO := Lib.hid hO
  have c0 := h.ok.cat0
  have c1 := h.ok.cat1
  clear h hO
  by_cases hz : M.cat = 0
  · have e : M.counted = (M, 0) := by unfold Dk.counted; rw [if_pos hz]
    rw [hz] at hd
    have HE := Lib.hid e
    clear e hz c0 c1
    rw [HE.out]
    go_enter Tryz.func123, Tryz.ntmps123
    go_wp2
    go_ret
    exact ⟨rfl, l, d, vw, rfl, H.out, Kp.refl O l⟩
  · have hz' : (M.cat == 0) = false := by rw [beq_eq_false_iff_ne]; exact hz
    have hM := Lib.hid (H.out.head { M with cat := M.cat - 1 } rfl rfl rfl rfl (H.out.ok.cut hz))
    have hset := Lib.hid (set_same (l := l) (m := i) (X := Obj.cells (dc (.slice (some ⟨w.heap.size + s, 0, none⟩) M.n M.n) (.slice (some ⟨w.heap.size + q, 0, none⟩) M.n M.n) vw M.count (M.cat - 1) M.keep M.torn M.off) 104 (0, 0)) (by rw [hd]; rfl))
    have HKs := Lib.hid (Kp.set (l := l) H.out.Oi (Obj.cells (dc (.slice (some ⟨w.heap.size + s, 0, none⟩) M.n M.n) (.slice (some ⟨w.heap.size + q, 0, none⟩) M.n M.n) vw M.count (M.cat - 1) M.keep M.torn M.off) 104 (0, 0)))
    by_cases hp : 0 < M.cat - 1
    · have HE := Lib.hid (show M.counted = ({ M with cat := M.cat - 1 }, 0) by unfold Dk.counted; rw [if_neg hz, if_pos hp])
      rw [HE.out]
      obtain ⟨x, hx⟩ : ∃ x, M.cat = x := ⟨_, rfl⟩
      simp only [hx] at *
      have hs := hset.out
      clear hz
      go_enter Tryz.func123, Tryz.ntmps123
      go_wp2
      go_ret
      exact ⟨rfl, _, _, vw, rfl, hM.out, HKs.out⟩
    · have HE := Lib.hid (show M.counted = (({ M with cat := M.cat - 1 } : Dk).crash M.keep M.torn, 7) by unfold Dk.counted; rw [if_neg hz, if_neg hp])
      rw [HE.out]
      clear hz
      have hs := hset.out
      go_enter Tryz.func123, Tryz.ntmps123
      go_wp2
      refine wp_region_tail 11 (by kernel_rfl) (by kernel_rfl) ?_
      simp only [List.take_succ_cons, List.take_zero, List.drop_succ_cons, List.drop_zero]
      repeat still_step
      refine wpStill_nil ?_
      go_wp2_with fail
      refine (crash_any w _ _ i s q vw O _ _ _ hM.out hc (fun p hp => by rw [List.length_set]; exact HO.out p hp)).mono ?_
      rintro e' w' ⟨rfl, l', d', vw', rfl, hA, hK⟩
      have HA := Lib.hid hA
      have HK := Lib.hid hK
      clear hA hK
      go_wp2
      go_ret
      exact ⟨rfl, _, _, vw', rfl, HA.out, HKs.out.trans HK.out⟩
end Go.Proofs.YtlogjpmdfimgdaaGreatDoor.Jf
namespace Go.Proofs.YtlogjpmdfimgdaaGreatDoor.Jf
open Go.RowKit Go.Own.Jf

theorem counted_code (M : Dk) : M.counted.2 = 0 ∨ M.counted.2 = 7 := by
  unfold Dk.counted
  split
  · exact .inl rfl
  · split
    · exact .inl rfl
    · exact .inr rfl
theorem counted_count (M : Dk) : M.counted.1.count ≤ M.count := by
  unfold Dk.counted
  split
  · exact Nat.le_refl _
  · split
    · exact Nat.le_refl _
    · unfold Dk.crash
      split
      · exact Nat.le_refl _
      · exact Nat.zero_le _
set_option maxRecDepth 100000 in
set_option maxHeartbeats 1000000 in
theorem flush_any (w : World) (l : List Obj) (d i s q : Nat) (vw : Value) (O : Nat → Prop) (M : Dk) (h : DAt w l i s q vw O M) (hc : M.count ≤ 1099511627776) (hO : ∀ p, O p → p < l.length) :
    Calls Tryz.prog 86 #[.pointer (some ⟨w.heap.size + i, 0, none⟩)] (Wd w l d) fun e w' => e = .returned (.int .i64 ((M.flush.2 : Nat) : Int)) ∧ ∃ l' d' vw', w' = Wd w l' d' ∧ DAt w l' i s q vw' O M.flush.1 ∧ Kp O l l' := by
  have hd := h.hd
  have H := Lib.hid h
  have HO := Lib.hid hO
  clear h hO
  cases hoff : M.off with
  | true =>
    have HE := Lib.hid (show M.flush = (M, 7) by unfold Dk.flush; rw [if_pos hoff])
    rw [HE.out]
    rw [hoff] at hd
    clear hoff
    go_enter Tryz.func86, Tryz.ntmps86
    go_wp2
    go_ret
    exact ⟨rfl, l, d, vw, rfl, H.out, Kp.refl O l⟩
  | false =>
    rw [hoff] at hd
    rcases counted_code M with hz | hz
    · have HE := Lib.hid (show M.flush = (M.counted.1.flushed, 0) by unfold Dk.flush; rw [if_neg (by rw [hoff]; simp), if_pos hz])
      rw [HE.out]
      have HZ := Lib.hid hz
      clear hoff hz
      go_enter Tryz.func86, Tryz.ntmps86
      go_wp2_with fail
      refine (counted_any w l d i s q vw O M H.out hc HO.out).mono ?_
      rintro e w' ⟨rfl, l1, d1, vw1, rfl, hA, hK⟩
      rw [HZ.out]
      clear hd
      obtain ⟨N, hN⟩ : ∃ N, M.counted.1 = N := ⟨_, rfl⟩
      rw [hN] at hA
      have HN := Lib.hid hN
      clear hN
      have hd := hA.hd
      have hs := hA.hs
      have hq := hA.hq
      have HA := Lib.hid hA
      have HK := Lib.hid hK
      clear hA hK
      go_wp2
      refine wp_region_tail 9 (by kernel_rfl) (by kernel_rfl) ?_
      simp only [List.take_succ_cons, List.take_zero, List.drop_succ_cons, List.drop_zero]
      repeat still_step
      refine wpStill_nil ?_
      go_wp2_with fail
      refine (settle_any w l1 _ i q s N.n _ _ _ _ _ _ _ _ N.last N.seen N.wait (fun p => ¬ O p ∧ p ≠ i ∧ p ≠ s ∧ p ≠ q) hd hq hs HA.out.hw (fun p hp => ⟨hp.2.1, hp.2.2.2⟩) HA.out.iq HA.out.is HA.out.sq.symm HA.out.ok.lastL HA.out.ok.seenL (fun p hp => ⟨(HA.out.ok.waitO p hp).1, (HA.out.ok.waitO p hp).2.1⟩) (by have := HA.out.ok.waitL; omega)).mono ?_
      rintro e' w' ⟨rfl, l', d', vw', rfl, hi', ht', hrow, hlen, hk'⟩
      have HQ2 := Lib.hid ht'
      have HS2 := Lib.hid ((hk' s (List.getElem?_eq_some_iff.1 hs).1 HA.out.is.symm HA.out.sq).trans hs)
      have HRO := Lib.hid hrow
      have HK3 : Hid (Kp O l1 l') := Lib.hid ⟨hlen, fun p hp hlt => hk' p hlt (fun e => HA.out.Oi (e ▸ hp)) (fun e => HA.out.Oq (e ▸ hp))⟩
      clear ht' hrow hlen hk'
      go_wp2
      go_ret
      refine ⟨rfl, _, _, vw', rfl, ?_, HK.out.trans HK3.out⟩
      rw [HN.out]
      exact ⟨hi', HS2.out, HQ2.out, HRO.out, HA.out.is, HA.out.iq, HA.out.sq, HA.out.Oi, HA.out.Os, HA.out.Oq, HA.out.ok.flushed⟩
    · have HE := Lib.hid (show M.flush = M.counted by unfold Dk.flush; rw [if_neg (by rw [hoff]; simp), if_neg (by omega)])
      rw [HE.out]
      have HZ := Lib.hid hz
      clear hoff hz
      go_enter Tryz.func86, Tryz.ntmps86
      go_wp2_with fail
      refine (counted_any w l d i s q vw O M H.out hc HO.out).mono ?_
      rintro e w' ⟨rfl, l1, d1, vw1, rfl, hA, hK⟩
      rw [HZ.out]
      have HA := Lib.hid hA
      have HK := Lib.hid hK
      clear hA hK hd
      go_wp2
      go_ret
      exact ⟨by rw [HZ.out]; rfl, _, _, vw1, rfl, HA.out, HK.out⟩
noncomputable def fields74 : Array Field := match Tryz.prog.underlying 222 with | some (.struct f) => f | _ => #[]
theorem un74 : Tryz.prog.underlying 222 = some (.struct fields74) := by kernel_rfl
theorem pl74 (W : World) : (fields74.mapM fun f => do pure (f.offset, ← sizeOf f.type) : Sem (Array (Nat × Nat))).run Tryz.prog W = .ok #[(0, 1), (1, 64)] W := by kernel_rfl
theorem fill_step {place : Nat → Option (Nat × Nat)} {cells : Array Value} {i off n : Nat} {v : Value} {rest : List (Nat × Value)} (hp : place i = some (off, n)) (hn : v.cells.size = n) (h : off + n ≤ cells.size) :
    Instr.fill place cells ((i, v) :: rest) = Instr.fill place (v.cells.zipIdx.foldl (fun cs (c, j) => cs.setIfInBounds (off + j) c) cells) rest := by
  conv => lhs; unfold Instr.fill
  simp only [hp]
  rw [if_neg (by simp [hn]; omega)]
theorem bu222 (a : Nat) (x : List Nat) (hx : x.length = 64) (W : World) : (buN 222 #[(0, .int .i64 (a : Int)), (1, .agg (cv .u8 x))]).run Tryz.prog W = .ok (.agg (wv a x)) W := by
  have h1 : (wv 0 (rep 64)).setIfInBounds 0 (.int .i64 (a : Int)) = wv a (rep 64) := by
    apply Array.ext'
    rw [Array.toList_setIfInBounds, wv_list, wv_list]
    rfl
  have hf := foldl_set 1 (cv .u8 x).toList 0 (wv a (rep 64)) (by rw [Array.length_toList, cv_size, wv_size, rep_length]; omega)
  have h2 : (cv .u8 x).zipIdx.foldl (fun cs (c, j) => cs.setIfInBounds (1 + j) c) (wv a (rep 64)) = wv a x := by
    rw [← Array.foldl_toList, Array.toList_zipIdx, hf]
    apply Array.ext'
    rw [wv_list, wv_list]
    have e1 : ((cv .u8 (rep 64)).toList).length = 64 := by rw [Array.length_toList, cv_size, rep_length]
    have e2 : ((cv .u8 x).toList).length = 64 := by rw [Array.length_toList, cv_size, hx]
    show List.take 1 (Value.int .i64 (a : Int) :: (cv .u8 (rep 64)).toList) ++ (cv .u8 x).toList ++ List.drop (1 + 0 + ((cv .u8 x).toList).length) (Value.int .i64 (a : Int) :: (cv .u8 (rep 64)).toList) = _
    rw [e2, List.drop_of_length_le (by rw [List.length_cons, e1]; decide), List.append_nil]
    rfl
  have e0 : (Value.int .i64 (a : Int)).cells.zipIdx.foldl (fun cs (c, j) => cs.setIfInBounds (0 + j) c) (wv 0 (rep 64)) = wv a (rep 64) := by
    rw [← h1]; simp [Value.cells]
  have hfill : Instr.fill ((#[(0, 1), (1, 64)] : Array (Nat × Nat))[·]?) (wv 0 (rep 64)) [(0, .int .i64 (a : Int)), (1, .agg (cv .u8 x))] = some (wv a x) := by
    rw [fill_step (off := 0) (n := 1) rfl rfl (by rw [wv_size]; omega), e0, fill_step (off := 1) (n := 64) rfl (by show (cv .u8 x).size = _; rw [cv_size, hx]) (by rw [wv_size, rep_length]; decide)]
    unfold Instr.fill
    exact congrArg some h2
  unfold buN Instr.build
  simp only [Sem.run_bind, run_zeroOf z222, Result.andThen_ok, Value.cells, run_underlying un74, pl74]
  simp only [hfill]
  rfl
attribute [local go_sem] bu222 sec_eq
theorem refE_ok {o : Bool} {n : Nat} {x : Int} (h : refE o n x = 0) : o = false ∧ ∃ a : Nat, x = (a : Int) ∧ a < n := by
  unfold refE at h
  cases o with
  | true => simp at h
  | false =>
    refine ⟨rfl, ?_⟩
    simp only [Bool.false_eq_true, if_false] at h
    split at h
    · cases h
    · exact ⟨x.toNat, by omega, by omega⟩
/-- What 'refused' answers. -/
theorem refused_any (w : World) (l : List Obj) (d i : Nat) {p : Option Addr} {m c : Nat} {vl vw : Value} {n : Nat} {a : Int} {k : Nat} {t : Int} {o : Bool} (x : Int) (h : l[i]? = some (.cells (dc (.slice p m c) vl vw n a k t o) 104 (0, 0))) :
    Calls Tryz.prog 126 #[.pointer (some ⟨w.heap.size + i, 0, none⟩), .int .i64 x] (Wd w l d) fun e w' => e = .returned (.int .i64 ((refE o m x : Nat) : Int)) ∧ Wd w l d = w' := by
  cases o with
  | true =>
    have e : refE true m x = 7 := rfl
    rw [e]
    exact refused_down w l d i x h
  | false =>
    by_cases hx : x < 0 ∨ (m : Int) ≤ x
    · have e : refE false m x = 1 := by unfold refE; rw [if_neg (by simp), if_pos hx]
      rw [e]
      exact refused_range w l d i x hx h
    · have e : refE false m x = 0 := by unfold refE; rw [if_neg (by simp), if_neg hx]
      rw [e]
      obtain ⟨y, rfl⟩ : ∃ y : Nat, x = y := ⟨x.toNat, by omega⟩
      exact refused_ok w l d i y (by omega) h
set_option maxRecDepth 100000 in
set_option maxHeartbeats 1000000 in
theorem read_any (w : World) (l : List Obj) (d i s q : Nat) (vw : Value) (O : Nat → Prop) (M : Dk) (x : Int) (h : DAt w l i s q vw O M) :
    Calls Tryz.prog 95 #[.pointer (some ⟨w.heap.size + i, 0, none⟩), .int .i64 x] (Wd w l d) fun e w' => e = .returned (.tuple #[.string (mkS (M.read x).1), .int .i64 (((M.read x).2 : Nat) : Int)]) ∧ w' = Wd w l d := by
  have hd := h.hd
  have hs := h.hs
  have H := Lib.hid h
  clear h
  by_cases hr : refE M.off M.n x = 0
  · obtain ⟨ho, a, rfl, ha⟩ := refE_ok hr
    have HE := Lib.hid (show M.read (a : Int) = (sec M.seen a, 0) by unfold Dk.read; rw [if_pos hr]; rfl)
    rw [HE.out]
    have hai : (a : Int) < M.n := by omega
    have hfit : a * 64 + 64 ≤ M.n * 64 := by omega
    have hsl := H.out.ok.seenL
    have HR := Lib.hid hr
    clear hr HE
    go_enter Tryz.func95, Tryz.ntmps95
    go_wp2_with fail
    refine (refused_any w l d i _ hd).mono ?_
    rintro e w' ⟨rfl, rfl⟩
    rw [HR.out]
    go_wp2
    go_ret2
    exact ⟨rfl, rfl⟩
  · have HE := Lib.hid (show M.read x = ([], refE M.off M.n x) by unfold Dk.read; rw [if_neg hr])
    rw [HE.out]
    obtain ⟨r, hr'⟩ : ∃ r, refE M.off M.n x = r := ⟨_, rfl⟩
    rw [hr'] at hr ⊢
    have hb : ((r : Int) != 0) = true := by simp; omega
    have HR := Lib.hid hr'
    clear hr HE hr'
    go_enter Tryz.func95, Tryz.ntmps95
    go_wp2_with fail
    refine (refused_any w l d i _ hd).mono ?_
    rintro e w' ⟨rfl, rfl⟩
    rw [HR.out]
    go_wp2
    go_ret2
    exact ⟨rfl, rfl⟩
end Go.Proofs.YtlogjpmdfimgdaaGreatDoor.Jf
namespace Go.Proofs.YtlogjpmdfimgdaaGreatDoor.Jf
open Go.RowKit Go.Own.Jf

attribute [local go_sem] bu222 sec_eq
theorem DAt.app {w : World} {l : List Obj} {i s q : Nat} {vw : Value} {O : Nat → Prop} {M : Dk} (h : DAt w l i s q vw O M) (g : List Obj) : DAt w (l ++ g) i s q vw O M :=
  h.keep fun _ hp hlt => ⟨hp, List.getElem?_append_left hlt⟩
set_option maxRecDepth 100000 in
set_option maxHeartbeats 1000000 in
theorem write_any (w : World) (l : List Obj) (d i s q : Nat) (vw : Value) (O : Nat → Prop) (M : Dk) (x : Int) (y : ByteArray) (h : DAt w l i s q vw O M) (hc : M.count < 1099511627776) (hO : ∀ p, O p → p < l.length) :
    Calls Tryz.prog 119 #[.pointer (some ⟨w.heap.size + i, 0, none⟩), .int .i64 x, .string y] (Wd w l d) fun e w' => e = .returned (.int .i64 (((M.write x (bys y)).2 : Nat) : Int)) ∧ ∃ l' d' vw', w' = Wd w l' d' ∧ DAt w l' i s q vw' O (M.write x (bys y)).1 ∧ Kp O l l' := by
  have hd := h.hd
  have H := Lib.hid h
  have HO := Lib.hid hO
  clear h hO
  by_cases hr : refE M.off M.n x = 0
  · obtain ⟨ho, a, rfl, ha⟩ := refE_ok hr
    have HR := Lib.hid hr
    by_cases h64 : 64 < y.size
    · have HE := Lib.hid (show M.write (a : Int) (bys y) = (M, 3) by unfold Dk.write; rw [if_pos hr, if_pos (by rw [bys_length]; exact h64)])
      rw [HE.out]
      clear hr
      go_enter Tryz.func119, Tryz.ntmps119
      go_wp2_with fail
      refine (refused_any w l d i _ hd).mono ?_
      rintro e w' ⟨rfl, rfl⟩
      rw [HR.out]
      go_wp2
      go_ret
      exact ⟨rfl, l, d, vw, rfl, H.out, Kp.refl O l⟩
    · have HE := Lib.hid (show M.write (a : Int) (bys y) = (M.waited a (filL (bys y))).counted by unfold Dk.write; rw [if_pos hr, if_neg (by rw [bys_length]; exact h64)]; rfl)
      rw [HE.out]
      have h64' : ¬ 64 < (y.size : Int) := by omega
      have hfl : (filL (bys y)).length = 64 := filL_length (by rw [bys_length]; omega)
      have HF := Lib.hid (filL_B8 (B8.bys y))
      have HSZ := Lib.hid (show y.size ≤ 64 by omega)
      clear hr h64
      go_enter Tryz.func119, Tryz.ntmps119
      go_wp2_with fail
      refine (refused_any w l d i _ hd).mono ?_
      rintro e w' ⟨rfl, rfl⟩
      rw [HR.out]
      go_wp2_with fail
      refine (filled_any y HSZ.out _).mono ?_
      rintro e w' ⟨rfl, g, d', rfl⟩
      rw [Wd_wd]
      clear hd
      go_wp2_with fail
      refine (wait_any w _ _ i s q vw O M a (filL (bys y)) (H.out.app g) ha hfl HF.out hc (fun p hp => by have := HO.out p hp; simp; omega)).mono ?_
      rintro e w' ⟨rfl, l1, d1, vw1, rfl, hA, hK⟩
      have HA := Lib.hid hA
      have HK := Lib.hid ((Kp.app O l g).trans hK)
      clear hA hK
      go_wp2_with fail
      refine (counted_any w l1 _ i s q vw1 O _ HA.out (show M.count + 1 ≤ _ by omega) (fun p hp => by have := HO.out p hp; have := HK.out.1; omega)).mono ?_
      rintro e w' ⟨rfl, l2, d2, vw2, rfl, hA2, hK2⟩
      have HA2 := Lib.hid hA2
      have HK2 := Lib.hid hK2
      clear hA2 hK2
      go_wp2
      go_ret
      exact ⟨rfl, _, _, vw2, rfl, HA2.out, HK.out.trans HK2.out⟩
  · have HE := Lib.hid (show M.write x (bys y) = (M, refE M.off M.n x) by unfold Dk.write; rw [if_neg hr])
    rw [HE.out]
    obtain ⟨r, hr'⟩ : ∃ r, refE M.off M.n x = r := ⟨_, rfl⟩
    rw [hr'] at hr ⊢
    have hb : ((r : Int) != 0) = true := by simp; omega
    have HR := Lib.hid hr'
    clear hr HE hr'
    go_enter Tryz.func119, Tryz.ntmps119
    go_wp2_with fail
    refine (refused_any w l d i _ hd).mono ?_
    rintro e w' ⟨rfl, rfl⟩
    rw [HR.out]
    go_wp2
    go_ret
    exact ⟨rfl, l, d, vw, rfl, H.out, Kp.refl O l⟩
theorem down2_any (w : World) (l : List Obj) (d i s q : Nat) (vw : Value) (O : Nat → Prop) (M : Dk) (h : DAt w l i s q vw O M) :
    Calls Tryz.prog 41 #[.pointer (some ⟨w.heap.size + i, 0, none⟩)] (Wd w l d) fun e w' => e = .returned (.bool M.off) ∧ w' = Wd w l d :=
  (down_any w l d i h.hd).mono fun _ _ ⟨h1, h2⟩ => ⟨h1, h2.symm⟩
theorem size2_any (w : World) (l : List Obj) (d i s q : Nat) (vw : Value) (O : Nat → Prop) (M : Dk) (h : DAt w l i s q vw O M) :
    Calls Tryz.prog 40 #[.pointer (some ⟨w.heap.size + i, 0, none⟩)] (Wd w l d) fun e w' => e = .returned (.int .i64 (M.n : Int)) ∧ w' = Wd w l d :=
  (size_any w l d i h.hd).mono fun _ _ ⟨h1, h2⟩ => ⟨h1, h2.symm⟩

/-! ### New -/
theorem new_bad (w : World) (x : Int) (hx : x < 1 ∨ 4096 < x) :
    Calls Tryz.prog 23 #[.int .i64 x] w fun e w' => e = .returned (.tuple #[.pointer none, .int .i64 1]) ∧ w = w' := by
  by_cases h1 : x < 1
  · clear hx
    go_enter Tryz.func23, Tryz.ntmps23
    go_wp2
    go_ret2
    exact ⟨rfl, rfl⟩
  · have h2 : 4096 < x := by omega
    clear hx
    go_enter Tryz.func23, Tryz.ntmps23
    go_wp2
    go_ret2
    exact ⟨rfl, rfl⟩
theorem zeros64 (n : Nat) : (Array.range (n * 64)).map (fun i => (cv .u8 (rep 64))[i % 64]!) = cv .u8 (rep (n * 64)) := by
  have e : (fun i : Nat => (cv .u8 (rep 64))[i % 64]!) = fun _ => .int .u8 0 := funext fun i => by
    have hlt : i % 64 < 64 := Nat.mod_lt _ (by decide)
    have hg := cv_get .u8 (rep 64) (i % 64) (by rw [rep_length]; exact hlt)
    rw [rep_gi] at hg
    show (cv .u8 (rep 64))[i % 64]! = _
    rw [getElem!_def, hg]
    rfl
  rw [e]
  apply Array.ext'
  rw [Array.toList_map, Array.toList_range, List.map_const', List.length_range]
  simp only [cv, rep, List.map_replicate]
  rfl
theorem mk63 {w : World} {l : List Obj} {d n : Nat} (h1 : 1 ≤ n) (hn : n ≤ 4096) :
    mkX Tryz.prog 101 (.agg (cv .u8 (rep 64))) w l d (n : Int) (n : Int) = .ok (.slice (some ⟨w.heap.size + l.length, 0, none⟩) n n) (Wd w (l ++ [.cells (cv .u8 (rep (n * 64))) 208 (0, 0)]) d) := by
  cases hi : Tryz.prog.info? 208 with
  | none => exact absurd hi (by have : (Tryz.prog.info? 208).isSome = true := by kernel_rfl
                                intro e; rw [e] at this; cases this)
  | some i =>
    have hb : i.bytes = 64 := by
      have h := show (Tryz.prog.info? 208).map (fun i => i.bytes) = some 64 by kernel_rfl
      rw [hi] at h
      simpa using h
    have hw : IntKind.i64.wrap (n : Int) = n := IntWalk.i64_in _ (by omega)
    have hz := zeros64 n
    have e1 : ¬ ((281474976710656 : Int) < 64 * n) := by omega
    have e2 : ¬ ((n : Int) < 0) := by omega
    have e3 : ¬ n = 0 := by omega
    have e4 : ¬ n * 64 = 0 := by omega
    obtain ⟨m, hm⟩ : ∃ m, n * 64 = m := ⟨_, rfl⟩
    rw [hm] at hz e4 ⊢
    simp [mkX, Instr.makeSlice, run_underlying Tryz.underlying101, asInt, asIntOf, typeInfo, hi, hb, hw, e1, e2, e4, hm, run_zeroOf z208, Value.cells, newRow, hz, Wd_size, Wd_alloc]
theorem bu104 (p r : Option Addr) (a b c e : Nat) (W : World) : (buN 104 #[(0, .slice p a b), (1, .slice r c e)]).run Tryz.prog W = .ok (.agg (dc (.slice p a b) (.slice r c e) (.slice none 0 0) 0 0 0 0 false)) W := by kernel_rfl
attribute [local go_sem] mk63 bu104
set_option maxRecDepth 100000 in
set_option maxHeartbeats 1000000 in
theorem new_any (w : World) (l : List Obj) (d n : Nat) (h1 : 1 ≤ n) (h2 : n ≤ 4096) (O : Nat → Prop) (hO : ∀ p, O p → p < l.length) :
    Calls Tryz.prog 23 #[.int .i64 (n : Int)] (Wd w l d) fun e w' => ∃ i s q l' d' vw, e = .returned (.tuple #[.pointer (some ⟨w.heap.size + i, 0, none⟩), .int .i64 0]) ∧ w' = Wd w l' d' ∧ DAt w l' i s q vw O (newK n) ∧ Kp O l l' ∧ i = l.length + 2 := by
  have h1' : ¬ (n : Int) < 1 := by omega
  have h2' : ¬ 4096 < (n : Int) := by omega
  go_enter Tryz.func23, Tryz.ntmps23
  go_wp2
  go_region
  all_goals
    go_wp2
    go_ret2
  · refine ⟨l.length + 2, l.length, l.length + 1, _, _, .slice none 0 0, rfl, rfl, ⟨?_, ?_, ?_, .inl ⟨rfl, rfl, rfl⟩, by omega, by omega, by omega, fun h => ?_, fun h => ?_, fun h => ?_, newK_ok h1 h2⟩, Kp.app _ _ _, rfl⟩
    · exact at_third rfl
    · exact at_mid' rfl
    · exact at_next' rfl
    all_goals have := hO _ h; omega
  · refine ⟨l.length + 2, l.length + 1, l.length, _, _, .slice none 0 0, rfl, rfl, ⟨?_, ?_, ?_, .inl ⟨rfl, rfl, rfl⟩, by omega, by omega, by omega, fun h => ?_, fun h => ?_, fun h => ?_, newK_ok h1 h2⟩, Kp.app _ _ _, rfl⟩
    · exact at_third rfl
    · exact at_next' rfl
    · exact at_mid' rfl
    all_goals have := hO _ h; omega
end Go.Proofs.YtlogjpmdfimgdaaGreatDoor.Jf

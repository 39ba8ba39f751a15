/- Writes and flushes are counted; Arm, Start, Crash: by contract. No condition but that fewer than 2^40 wait. -/
import Derived.Test.YtafbphgfdnmilaaC4
namespace Go.Proofs.Ytafbphgfdnmilaa
open Go.RowKit Go.Own

theorem DAt.head {w : World} {l : List Obj} {i s q : Nat} {vw : Value} {O : Nat → Prop} {M : Dk} (h : DAt w l i s q vw O M) (M' : Dk) (hn : M'.n = M.n) (hs : M'.seen = M.seen) (hl : M'.last = M.last) (hw : M'.wait = M.wait) (ok : M'.Ok) :
    DAt w (l.set i (.cells (dc (.slice (some ⟨w.heap.size + s, 0, none⟩) M.n M.n) (.slice (some ⟨w.heap.size + q, 0, none⟩) M.n M.n) vw M'.count M'.cat M'.keep M'.torn M'.off) 66 (0, 0))) i s q vw O M' :=
  ⟨by rw [hn]; exact set_some h.hd, by rw [hs]; exact set_other h.is h.hs, by rw [hl]; exact set_other h.iq h.hq, by rw [hw]; exact h.hw.mono fun p hp _ => ⟨hp, List.getElem?_set_ne hp.2.1.symm⟩, h.is, h.iq, h.sq, h.Oi, h.Os, h.Oq, ok⟩
theorem crash_any (w : World) (l : List Obj) (d i s q : Nat) (vw : Value) (O : Nat → Prop) (M : Dk) (k : Nat) (t : Int) (h : DAt w l i s q vw O M) (hc : M.count ≤ 1099511627776) (hO : ∀ p, O p → p < l.length) :
    Calls Try.prog 19 #[.pointer (some ⟨w.heap.size + i, 0, none⟩), .int .u64 (k : Int), .int .i64 t] (Wd w l d) fun e w' => e = .returned (.tuple #[]) ∧ ∃ l' d' vw', w' = Wd w l' d' ∧ DAt w l' i s q vw' O (M.crash k t) ∧ Kp O l l' := by
  cases hoff : M.off with
  | false => exact crash_on w l d i s q vw O M k t h hoff hc hO
  | true =>
    have hd := h.hd
    rw [hoff] at hd
    refine (crash_off w l d i hd k t).mono fun _ _ ⟨h1, h2⟩ => ⟨h1, l, d, vw, h2, ?_, Kp.refl O l⟩
    unfold Dk.crash
    rw [if_pos hoff]
    exact h
theorem armS_any (w : World) (l : List Obj) (d i s q : Nat) (vw : Value) (O : Nat → Prop) (M : Dk) (a : Int) (k : Nat) (t : Int) (h : DAt w l i s q vw O M) (ha : a ≤ 9223372036854775807) :
    Calls Try.prog 17 #[.pointer (some ⟨w.heap.size + i, 0, none⟩), .agg (kc a k t)] (Wd w l d) fun e w' => e = .returned (.tuple #[]) ∧ ∃ l' d' vw', w' = Wd w l' d' ∧ DAt w l' i s q vw' O (M.arm a k t) ∧ Kp O l l' := by
  refine (arm_any w l d i a k t h.hd).mono fun _ _ ⟨h1, g, h2⟩ => ⟨h1, _, d, vw, h2, ?_, (Kp.set h.Oi _).trans (Kp.app _ _ _)⟩
  exact (h.head (M.arm a k t) rfl rfl rfl rfl (h.ok.arm ha)).keep fun p hp hlt => ⟨hp, List.getElem?_append_left hlt⟩
theorem startS_any (w : World) (l : List Obj) (d i s q : Nat) (vw : Value) (O : Nat → Prop) (M : Dk) (h : DAt w l i s q vw O M) :
    Calls Try.prog 21 #[.pointer (some ⟨w.heap.size + i, 0, none⟩)] (Wd w l d) fun e w' => e = .returned (.tuple #[]) ∧ ∃ l' d' vw', w' = Wd w l' d' ∧ DAt w l' i s q vw' O M.start ∧ Kp O l l' :=
  (start_any w l d i h.hd).mono fun _ _ ⟨h1, h2⟩ => ⟨h1, _, d, vw, h2, h.head M.start rfl rfl rfl rfl h.ok.start, Kp.set h.Oi _⟩

set_option maxRecDepth 100000 in
set_option maxHeartbeats 1000000 in
theorem counted_any (w : World) (l : List Obj) (d i s q : Nat) (vw : Value) (O : Nat → Prop) (M : Dk) (h : DAt w l i s q vw O M) (hc : M.count ≤ 1099511627776) (hO : ∀ p, O p → p < l.length) :
    Calls Try.prog 30 #[.pointer (some ⟨w.heap.size + i, 0, none⟩)] (Wd w l d) fun e w' => e = .returned (.int .i64 ((M.counted.2 : Nat) : Int)) ∧ ∃ l' d' vw', w' = Wd w l' d' ∧ DAt w l' i s q vw' O M.counted.1 ∧ Kp O l l' := by
  have hd := h.hd
  have H := Lib.hid h
  have HO := Lib.hid hO
  have c0 := h.ok.cat0
  have c1 := h.ok.cat1
  clear h hO
  by_cases hz : M.cat = 0
  · have e : M.counted = (M, 0) := by unfold Dk.counted; rw [if_pos hz]
    rw [hz] at hd
    have HE := Lib.hid e
    clear e hz c0 c1
    rw [HE.out]
    go_enter Try.func30, Try.ntmps30
    go_wp2
    go_ret
    exact ⟨rfl, l, d, vw, rfl, H.out, Kp.refl O l⟩
  · have hz' : (M.cat == 0) = false := by rw [beq_eq_false_iff_ne]; exact hz
    have hM := Lib.hid (H.out.head { M with cat := M.cat - 1 } rfl rfl rfl rfl (H.out.ok.cut hz))
    have hset := Lib.hid (set_same (l := l) (m := i) (X := Obj.cells (dc (.slice (some ⟨w.heap.size + s, 0, none⟩) M.n M.n) (.slice (some ⟨w.heap.size + q, 0, none⟩) M.n M.n) vw M.count (M.cat - 1) M.keep M.torn M.off) 66 (0, 0)) (by rw [hd]; rfl))
    have HKs := Lib.hid (Kp.set (l := l) H.out.Oi (Obj.cells (dc (.slice (some ⟨w.heap.size + s, 0, none⟩) M.n M.n) (.slice (some ⟨w.heap.size + q, 0, none⟩) M.n M.n) vw M.count (M.cat - 1) M.keep M.torn M.off) 66 (0, 0)))
    by_cases hp : 0 < M.cat - 1
    · have HE := Lib.hid (show M.counted = ({ M with cat := M.cat - 1 }, 0) by unfold Dk.counted; rw [if_neg hz, if_pos hp])
      rw [HE.out]
      obtain ⟨x, hx⟩ : ∃ x, M.cat = x := ⟨_, rfl⟩
      simp only [hx] at *
      have hs := hset.out
      clear hz
      go_enter Try.func30, Try.ntmps30
      go_wp2
      go_ret
      exact ⟨rfl, _, _, vw, rfl, hM.out, HKs.out⟩
    · have HE := Lib.hid (show M.counted = (({ M with cat := M.cat - 1 } : Dk).crash M.keep M.torn, 7) by unfold Dk.counted; rw [if_neg hz, if_neg hp])
      rw [HE.out]
      clear hz
      have hs := hset.out
      go_enter Try.func30, Try.ntmps30
      go_wp2
      refine wp_region_tail 11 (by kernel_rfl) (by kernel_rfl) ?_
      simp only [List.take_succ_cons, List.take_zero, List.drop_succ_cons, List.drop_zero]
      repeat still_step
      refine wpStill_nil ?_
      go_wp2_with fail
      refine (crash_any w _ _ i s q vw O _ _ _ hM.out hc (fun p hp => by rw [List.length_set]; exact HO.out p hp)).mono ?_
      rintro e' w' ⟨rfl, l', d', vw', rfl, hA, hK⟩
      have HA := Lib.hid hA
      have HK := Lib.hid hK
      clear hA hK
      go_wp2
      go_ret
      exact ⟨rfl, _, _, vw', rfl, HA.out, HKs.out.trans HK.out⟩
end Go.Proofs.Ytafbphgfdnmilaa

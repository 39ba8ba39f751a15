/- The power fails: by contract. No condition but that fewer than 2^40 wait. | Writes and flushes are counted; Arm, Start, Crash: by contract. No condition but that fewer than 2^40 wait. -/
import Derived.Test.YtjgfljckmckhcaaDoorZ15
namespace Go.Proofs.YtjgfljckmckhcaaDoor
open Go.RowKit Go.Own

theorem keeper_any (w : World) (l : List Obj) (d k : Nat) (t last : Int) :
    Calls Tryd.prog 59 #[.int .u64 (k : Int), .int .i64 t, .int .i64 last] (Wd w l d) fun e w' => ∃ L k1 k2 k3,
      e = .returned (.func (.func 67) #[] #[.pointer (some ⟨w.heap.size + k1, 0, none⟩), .pointer (some ⟨w.heap.size + k2, 0, none⟩), .pointer (some ⟨w.heap.size + k3, 0, none⟩)]) ∧
      w' = Wd w L d ∧ L[k1]? = some (.cells #[.int .u64 (k : Int)] 38 (0, 0)) ∧ L[k2]? = some (.cells #[.int .i64 last] 3 (0, 0)) ∧ L[k3]? = some (.cells #[.int .i64 t] 3 (0, 0)) ∧
      (∃ g, L = l ++ g) ∧ l.length ≤ k1 ∧ l.length ≤ k2 ∧ l.length ≤ k3 := by
  go_enter Tryd.func59, Tryd.ntmps59
  go_wp2
  go_ret
  exact ⟨_, l.length, l.length + 2, l.length + 1, rfl, rfl, at_mid' rfl, by rw [List.getElem?_append_right (by omega)]; simp, at_next' rfl, ⟨_, rfl⟩, by omega, by omega, by omega⟩

theorem tearL_snoc (k : Nat) (t last : Int) (p : Nat × List Nat) : ∀ (ws : List (Nat × List Nat)) (i : Nat) (x : List Nat), tearL k t last i x (ws ++ [p]) = spl (tearL k t last i x ws) (p.1 * 64) (p.2.take (keptN k t last (i + ws.length)))
  | [], i, x => rfl
  | q :: ws, i, x => by
    show tearL k t last (i + 1) _ (ws ++ [p]) = _
    rw [tearL_snoc k t last p ws, List.length_cons, show i + 1 + ws.length = i + (ws.length + 1) by omega]
    rfl
theorem tearL_step (k : Nat) (t last : Int) (x : List Nat) (ws : List (Nat × List Nat)) (j a : Nat) (y : List Nat) (h : ws[j]? = some (a, y)) : tearL k t last 0 x (ws.take (j + 1)) = spl (tearL k t last 0 x (ws.take j)) (a * 64) (y.take (keptN k t last j)) := by
  have hk := List.getElem?_eq_some_iff.1 h
  rw [List.take_succ_eq_append_getElem hk.1, tearL_snoc, hk.2, Nat.zero_add, List.length_take, Nat.min_eq_left (by have := hk.1; omega)]
theorem sliceAt_hi {P : Program} {T E : TypeId} {n b o kp : Nat} {k : IntKind} {W : World} (hu : P.underlying T = some (.array n E)) (h1 : (sizeOf E).run P W = .ok 1 W) (hk : kp ≤ n) :
    (Instr.sliceAt T (.pointer (some ⟨b, o, none⟩)) none (some (.int k (kp : Int))) none).run P W = .ok (.slice (some ⟨b, o, none⟩) kp n) W := by
  have hadd : (⟨b, o, none⟩ : Addr).add 0 = ⟨b, o, none⟩ := by unfold Addr.add; split <;> simp_all
  simp [Instr.sliceAt, Instr.sureAddr, Instr.sliceBounds, Instr.sliceBound, run_underlying hu, asIntOf, h1, hadd]
  intro hh; omega
theorem sl71 {b o kp : Nat} {k : IntKind} {W : World} (hk : kp ≤ 64) :
    (Instr.sliceAt 71 (.pointer (some ⟨b, o, none⟩)) none (some (.int k (kp : Int))) none).run Tryd.prog W = .ok (.slice (some ⟨b, o, none⟩) kp 64) W := sliceAt_hi Tryd.underlying71 (sz5 W) hk
attribute [local go_sem] sl71 stD2v ldW ldW0 ldW1 stW al74 cp2X_wv set_same app_left set_left at_mid' set_mid' at_mid2' set_mid2' List.getElem?_set_ne

theorem crash_off (w : World) (l : List Obj) (d i : Nat) {vs vl vw : Value} {n : Nat} {a : Int} {k : Nat} {t : Int} (h : l[i]? = some (.cells (dc vs vl vw n a k t true) 59 (0, 0))) (k' : Nat) (t' : Int) :
    Calls Tryd.prog 47 #[.pointer (some ⟨w.heap.size + i, 0, none⟩), .int .u64 (k' : Int), .int .i64 t'] (Wd w l d) fun e w' => e = .returned (.tuple #[]) ∧ w' = Wd w l d := by
  go_enter Tryd.func47, Tryd.ntmps47
  go_wp2
  refine bodyPost_ret (results_none rfl _ _ _) rfl ?_
  exact ⟨rfl, rfl⟩

set_option maxRecDepth 100000 in
set_option maxHeartbeats 1000000 in
theorem crash_on (w : World) (l : List Obj) (d i s q : Nat) (vw : Value) (O : Nat → Prop) (M : Dk) (k : Nat) (t : Int) (h : DAt w l i s q vw O M) (hoff : M.off = false) (hc : M.count ≤ 1099511627776) (hO : ∀ p, O p → p < l.length) :
    Calls Tryd.prog 47 #[.pointer (some ⟨w.heap.size + i, 0, none⟩), .int .u64 (k : Int), .int .i64 t] (Wd w l d) fun e w' => e = .returned (.tuple #[]) ∧ ∃ l' d' vw', w' = Wd w l' d' ∧ DAt w l' i s q vw' O (M.crash k t) ∧ Kp O l l' := by
  have hd := h.hd
  have hs := h.hs
  have hq := h.hq
  have is := h.is
  have iq := h.iq
  have sq := h.sq
  have si := h.is.symm
  have qi := h.iq.symm
  have qs := h.sq.symm
  have H := Lib.hid h
  have HO := Lib.hid hO
  clear h hO
  obtain ⟨n, seen, last, wait, count, cat, keep, torn, off⟩ := M
  simp only at hd hs hq hc hoff
  subst hoff
  go_enter Tryd.func47, Tryd.ntmps47
  go_wp2_with fail
  refine (keeper_any _ _ _ _ _ _).mono ?_
  rintro e w' ⟨L, k1, k2, k3, rfl, rfl, hk1, hk2, hk3, hg, hl1, hl2, hl3⟩
  obtain ⟨g0, hg0⟩ := hg
  have hLd := app_some (g := g0) hd
  have hLs := app_some (g := g0) hs
  have hLq := app_some (g := g0) hq
  have HRW := Lib.hid (H.out.hw.more g0)
  rw [← hg0] at hLd hLs hLq HRW
  have HG := Lib.hid hg0
  clear hg0
  have hq1 : q ≠ k1 := by have := (List.getElem?_eq_some_iff.1 hq).1; omega
  have hq2 : q ≠ k2 := by have := (List.getElem?_eq_some_iff.1 hq).1; omega
  have hq3 : q ≠ k3 := by have := (List.getElem?_eq_some_iff.1 hq).1; omega
  clear hl1 hl2 hl3
  obtain ⟨m, hm⟩ : ∃ m, wait.length = m := ⟨_, rfl⟩
  simp only [hm] at HRW
  have HM := Lib.hid hm
  have h64 : m ≤ 64 := by have := H.out.ok.waitL; simp only at this; omega
  clear hm hd hs hq
  obtain ⟨po, c, rfl, hpo⟩ : ∃ po c, vw = .slice po m c ∧ ((po = none ∧ c = 0 ∧ wait = []) ∨ ∃ j X tj, (¬ O j ∧ j ≠ i ∧ j ≠ s ∧ j ≠ q) ∧ po = some ⟨w.heap.size + j, 0, none⟩ ∧ L[j]? = some (.cells (List.toArray X) tj (0, 0)) ∧ X.length = c * 65 ∧ m ≤ c ∧ X.take (m * 65) = wcs wait) := by
    rcases HRW.out with ⟨h1, h2, h3⟩ | ⟨j, c, X, tj, h1, h2, h3⟩
    · subst h2
      have : wait = [] := List.length_eq_zero_iff.1 HM.out
      exact ⟨none, 0, h1, .inl ⟨rfl, rfl, this⟩⟩
    · exact ⟨_, c, h2, .inr ⟨j, X, tj, h1, rfl, h3⟩⟩
  have HPO := Lib.hid hpo
  clear hpo
  go_wp2
  go_loopw [26] (fun i wr => ∃ (kk : Nat) (g : List Obj) (e : Nat), kk ≤ m ∧ i = .int .i64 kk ∧ wr = Wd w (L.set q (.cells (cv .u8 (tearL k t ((count : Int) - 1) 0 last (wait.take kk))) 71 (0, 0)) ++ g) e) (fun i _ => m - (intOf i).toNat)
  case atStart => exact ⟨0, [], _, by omega, rfl, by rw [List.take_zero, List.append_nil]; show _ = Wd w (L.set q (.cells (cv .u8 last) 71 (0, 0))) _; rw [set_id hLq]⟩
  case round =>
    obtain ⟨kk, g, e, hkk, rfl, rfl⟩ := hrel
    have HSL : Hid ((tearL k t ((count : Int) - 1) 0 last (wait.take kk)).length = n * 64) := Lib.hid (tearL_length _ _ _ H.out.ok.lastL fun p hp => ⟨(H.out.ok.waitO p (List.mem_of_mem_take hp)).1, (H.out.ok.waitO p (List.mem_of_mem_take hp)).2.1⟩)
    by_cases hlt : kk < m
    · obtain ⟨⟨aa, x⟩, hk⟩ : ∃ p, wait[kk]? = some p := ⟨wait[kk]'(by rw [HM.out]; exact hlt), List.getElem?_eq_getElem _⟩
      have hw0 := H.out.ok.waitO _ (List.mem_of_getElem? hk)
      simp only at hw0
      obtain ⟨haa, hx, _⟩ := hw0
      rcases HPO.out with ⟨_, _, e0'⟩ | ⟨j, X, tj, hAj, rfl, hj, hX, hmc, hXt⟩
      · rw [e0'] at hk; simp at hk
      have hjq := hAj.2.2.2
      have hqj := hjq.symm
      have hld : ∀ L D, L[j]? = some (Obj.cells X.toArray tj (0, 0)) → ldX Tryd.prog 74 (some 65) (some (Obj.cells X.toArray tj (0, 0))) (w.heap.size + j) (kk * 65) (Wd w L D) = .ok (.agg (wv aa x)) (Wd w L D) := fun L D hL =>
        ld_row ag74 hL hXt HM.out (by rw [hX]; exact Nat.mul_le_mul_right _ hmc) (fun p hp => (H.out.ok.waitO p hp).2.1) hk
      have HSN := Lib.hid (tearL_step k t ((count : Int) - 1) last wait kk aa x hk)
      have HX := Lib.hid hX
      have HXT := Lib.hid hXt
      have HAJ := Lib.hid hAj
      have hai : (aa : Int) < n := by omega
      have hfit : aa * 64 + 64 ≤ n * 64 := by omega
      have hSl := HSL.out
      have hk64 : kk < 64 := by omega
      clear hX hXt hAj hk
      obtain ⟨S, hS⟩ : ∃ S, tearL k t ((count : Int) - 1) 0 last (wait.take kk) = S := ⟨_, rfl⟩
      rw [hS] at HSN hSl ⊢
      clear hS HSL
      obtain ⟨kp, hkp⟩ : ∃ kp, keptN k t ((count : Int) - 1) kk = kp := ⟨_, rfl⟩
      have hkp64 : kp ≤ 64 := by rw [← hkp]; exact keptN_le _ _ _ _
      have HKP := Lib.hid hkp
      rw [hkp] at HSN
      clear hkp
      have HC : Hid (∀ (X : Obj) g e, Calls Tryd.prog 67 #[.int .i64 (kk : Int), .pointer (some ⟨w.heap.size + k1, 0, none⟩), .pointer (some ⟨w.heap.size + k2, 0, none⟩), .pointer (some ⟨w.heap.size + k3, 0, none⟩)] (Wd w (L.set q X ++ g) e) fun e' w' => e' = .returned (.int .i64 (kp : Int)) ∧ w' = Wd w (L.set q X ++ g) e) := Lib.hid fun X g e =>
        (keep_any w _ e k1 k2 k3 (app_some (set_other hq1 hk1)) (app_some (set_other hq2 hk2)) (app_some (set_other hq3 hk3)) kk hk64).mono fun e' w' ⟨h1, h2⟩ => ⟨by rw [h1, HKP.out], h2.symm⟩
      go_wp2
      refine wp_region_tail 13 (by kernel_rfl) (by kernel_rfl) ?_
      simp only [List.take_succ_cons, List.take_zero, List.drop_succ_cons, List.drop_zero]
      repeat still_step
      still_call (HC.out _ _ _)
      still_step
      refine wpStill_nil ?_
      go_wp2
      go_roundw
      case rel => exact ⟨kk + 1, _, _, by omega, by go_num, by rw [HSN.out]⟩
      case measure => simp [intOf]; omega
    · obtain rfl : kk = m := by omega
      have HE := Lib.hid (show wait.take kk = wait by rw [List.take_of_length_le (by rw [HM.out]; exact Nat.le_refl _)])
      rw [HE.out] at HSL ⊢
      obtain ⟨S, hS⟩ : ∃ S, tearL k t ((count : Int) - 1) 0 last wait = S := ⟨_, rfl⟩
      rw [hS] at HSL ⊢
      have HS := Lib.hid hS
      clear hS
      have HLN := Lib.hid (show L.length = (L.set q (.cells (cv .u8 S) 71 (0, 0))).length by rw [List.length_set])
      have HL1 := Lib.hid (show ∀ p, p ≠ q → (L.set q (.cells (cv .u8 S) 71 (0, 0)))[p]? = L[p]? from fun p hp => List.getElem?_set_ne hp.symm)
      have hLi := app_some (g := g) (set_other (X := .cells (cv .u8 S) 71 (0, 0)) qi hLd)
      have hLs2 := app_some (g := g) (set_other (X := .cells (cv .u8 S) 71 (0, 0)) qs hLs)
      have hLq2 := app_some (g := g) (set_some (X := .cells (cv .u8 S) 71 (0, 0)) hLq)
      have HRW2 := Lib.hid ((HRW.out.mono (l' := L.set q (.cells (cv .u8 S) 71 (0, 0))) (B := fun p => ¬ O p ∧ p ≠ i ∧ p ≠ s ∧ p ≠ q) (fun p hp _ => ⟨hp, HL1.out p hp.2.2.2⟩)).more g)
      have HKP : Hid (Kp O l (L.set q (.cells (cv .u8 S) 71 (0, 0)) ++ g)) := Lib.hid (by
        rw [HG.out]
        exact ((Kp.app O l g0).trans (Kp.set H.out.Oq _)).trans (Kp.app _ _ _))
      generalize L.set q (.cells (cv .u8 S) 71 (0, 0)) ++ g = L1 at *
      clear hk1 hk2 hk3 hLs hLq hLd HRW hq1 hq2 hq3
      go_wp2
      refine wp_region_tail 9 (by kernel_rfl) (by kernel_rfl) ?_
      simp only [List.take_succ_cons, List.take_zero, List.drop_succ_cons, List.drop_zero]
      repeat still_step
      refine wpStill_nil ?_
      go_wp2_with fail
      refine (settle_any w L1 _ i s q n _ _ _ _ _ _ _ _ seen S wait (fun p => ¬ O p ∧ p ≠ i ∧ p ≠ s ∧ p ≠ q) hLi hLs2 hLq2 (by rw [HM.out]; exact HRW2.out) (fun p hp => ⟨hp.2.1, hp.2.2.1⟩) is iq sq H.out.ok.seenL HSL.out (fun p hp => ⟨(H.out.ok.waitO p hp).1, (H.out.ok.waitO p hp).2.1⟩) (by rw [HM.out]; exact h64)).mono ?_
      rintro e' w' ⟨rfl, l', d', vw', rfl, hi', ht', hrow, hlen, hk'⟩
      have HS2 := Lib.hid ht'
      have HQ2 := Lib.hid ((hk' q (List.getElem?_eq_some_iff.1 hLq2).1 qi qs).trans hLq2)
      have HRO := Lib.hid hrow
      have HK3 : Hid (Kp O L1 l') := Lib.hid ⟨hlen, fun p hp hlt => hk' p hlt (fun e => H.out.Oi (e ▸ hp)) (fun e => H.out.Os (e ▸ hp))⟩
      clear ht' hrow hlen hk' hLi hLs2 hLq2
      go_wp2
      go_end0
      refine ⟨rfl, _, _, vw', rfl, ?_, (HKP.out.trans HK3.out).trans (Kp.set H.out.Oi _)⟩
      have hok := H.out.ok.crash k t
      have HC : ({ n := n, seen := seen, last := last, wait := wait, count := count, cat := cat, keep := keep, torn := torn, off := false } : Dk).crash k t = { n := n, seen := settleL (if wait.length < count then S else seen) S wait, last := S, wait := [], count := 0, cat := 0, keep := 0, torn := 0, off := true } := by
        have e : ({ n := n, seen := seen, last := last, wait := wait, count := count, cat := cat, keep := keep, torn := torn, off := false } : Dk).torned k t = S := HS.out
        unfold Dk.crash
        rw [if_neg (by simp), e]
        rfl
      rw [HC] at hok ⊢
      exact ⟨set_some hi', set_other is HS2.out, set_other iq HQ2.out, HRO.out.mono fun p hp _ => ⟨hp, List.getElem?_set_ne hp.2.1.symm⟩, is, iq, sq, H.out.Oi, H.out.Os, H.out.Oq, hok⟩
end Go.Proofs.YtjgfljckmckhcaaDoor
namespace Go.Proofs.YtjgfljckmckhcaaDoor
open Go.RowKit Go.Own

theorem DAt.head {w : World} {l : List Obj} {i s q : Nat} {vw : Value} {O : Nat → Prop} {M : Dk} (h : DAt w l i s q vw O M) (M' : Dk) (hn : M'.n = M.n) (hs : M'.seen = M.seen) (hl : M'.last = M.last) (hw : M'.wait = M.wait) (ok : M'.Ok) :
    DAt w (l.set i (.cells (dc (.slice (some ⟨w.heap.size + s, 0, none⟩) M.n M.n) (.slice (some ⟨w.heap.size + q, 0, none⟩) M.n M.n) vw M'.count M'.cat M'.keep M'.torn M'.off) 59 (0, 0))) i s q vw O M' :=
  ⟨by rw [hn]; exact set_some h.hd, by rw [hs]; exact set_other h.is h.hs, by rw [hl]; exact set_other h.iq h.hq, by rw [hw]; exact h.hw.mono fun p hp _ => ⟨hp, List.getElem?_set_ne hp.2.1.symm⟩, h.is, h.iq, h.sq, h.Oi, h.Os, h.Oq, ok⟩
theorem crash_any (w : World) (l : List Obj) (d i s q : Nat) (vw : Value) (O : Nat → Prop) (M : Dk) (k : Nat) (t : Int) (h : DAt w l i s q vw O M) (hc : M.count ≤ 1099511627776) (hO : ∀ p, O p → p < l.length) :
    Calls Tryd.prog 47 #[.pointer (some ⟨w.heap.size + i, 0, none⟩), .int .u64 (k : Int), .int .i64 t] (Wd w l d) fun e w' => e = .returned (.tuple #[]) ∧ ∃ l' d' vw', w' = Wd w l' d' ∧ DAt w l' i s q vw' O (M.crash k t) ∧ Kp O l l' := by
  cases hoff : M.off with
  | false => exact crash_on w l d i s q vw O M k t h hoff hc hO
  | true =>
    have hd := h.hd
    rw [hoff] at hd
    refine (crash_off w l d i hd k t).mono fun _ _ ⟨h1, h2⟩ => ⟨h1, l, d, vw, h2, ?_, Kp.refl O l⟩
    unfold Dk.crash
    rw [if_pos hoff]
    exact h
theorem armS_any (w : World) (l : List Obj) (d i s q : Nat) (vw : Value) (O : Nat → Prop) (M : Dk) (a : Int) (k : Nat) (t : Int) (h : DAt w l i s q vw O M) (ha : a ≤ 9223372036854775807) :
    Calls Tryd.prog 21 #[.pointer (some ⟨w.heap.size + i, 0, none⟩), .agg (kc a k t)] (Wd w l d) fun e w' => e = .returned (.tuple #[]) ∧ ∃ l' d' vw', w' = Wd w l' d' ∧ DAt w l' i s q vw' O (M.arm a k t) ∧ Kp O l l' := by
  refine (arm_any w l d i a k t h.hd).mono fun _ _ ⟨h1, g, h2⟩ => ⟨h1, _, d, vw, h2, ?_, (Kp.set h.Oi _).trans (Kp.app _ _ _)⟩
  exact (h.head (M.arm a k t) rfl rfl rfl rfl (h.ok.arm ha)).keep fun p hp hlt => ⟨hp, List.getElem?_append_left hlt⟩
theorem startS_any (w : World) (l : List Obj) (d i s q : Nat) (vw : Value) (O : Nat → Prop) (M : Dk) (h : DAt w l i s q vw O M) :
    Calls Tryd.prog 22 #[.pointer (some ⟨w.heap.size + i, 0, none⟩)] (Wd w l d) fun e w' => e = .returned (.tuple #[]) ∧ ∃ l' d' vw', w' = Wd w l' d' ∧ DAt w l' i s q vw' O M.start ∧ Kp O l l' :=
  (start_any w l d i h.hd).mono fun _ _ ⟨h1, h2⟩ => ⟨h1, _, d, vw, h2, h.head M.start rfl rfl rfl rfl h.ok.start, Kp.set h.Oi _⟩

set_option maxRecDepth 100000 in
set_option maxHeartbeats 1000000 in
theorem counted_any (w : World) (l : List Obj) (d i s q : Nat) (vw : Value) (O : Nat → Prop) (M : Dk) (h : DAt w l i s q vw O M) (hc : M.count ≤ 1099511627776) (hO : ∀ p, O p → p < l.length) :
    Calls Tryd.prog 34 #[.pointer (some ⟨w.heap.size + i, 0, none⟩)] (Wd w l d) fun e w' => e = .returned (.int .i64 ((M.counted.2 : Nat) : Int)) ∧ ∃ l' d' vw', w' = Wd w l' d' ∧ DAt w l' i s q vw' O M.counted.1 ∧ Kp O l l' := by
  have hd := h.hd
  have H := Lib.hid h
  have HO := Lib.hid hO
  have c0 := h.ok.cat0
  have c1 := h.ok.cat1
  clear h hO
  by_cases hz : M.cat = 0
  · have e : M.counted = (M, 0) := by unfold Dk.counted; rw [if_pos hz]
    rw [hz] at hd
    have HE := Lib.hid e
    clear e hz c0 c1
    rw [HE.out]
    go_enter Tryd.func34, Tryd.ntmps34
    go_wp2
    go_ret
    exact ⟨rfl, l, d, vw, rfl, H.out, Kp.refl O l⟩
  · have hz' : (M.cat == 0) = false := by rw [beq_eq_false_iff_ne]; exact hz
    have hM := Lib.hid (H.out.head { M with cat := M.cat - 1 } rfl rfl rfl rfl (H.out.ok.cut hz))
    have hset := Lib.hid (set_same (l := l) (m := i) (X := Obj.cells (dc (.slice (some ⟨w.heap.size + s, 0, none⟩) M.n M.n) (.slice (some ⟨w.heap.size + q, 0, none⟩) M.n M.n) vw M.count (M.cat - 1) M.keep M.torn M.off) 59 (0, 0)) (by rw [hd]; rfl))
    have HKs := Lib.hid (Kp.set (l := l) H.out.Oi (Obj.cells (dc (.slice (some ⟨w.heap.size + s, 0, none⟩) M.n M.n) (.slice (some ⟨w.heap.size + q, 0, none⟩) M.n M.n) vw M.count (M.cat - 1) M.keep M.torn M.off) 59 (0, 0)))
    by_cases hp : 0 < M.cat - 1
    · have HE := Lib.hid (show M.counted = ({ M with cat := M.cat - 1 }, 0) by unfold Dk.counted; rw [if_neg hz, if_pos hp])
      rw [HE.out]
      obtain ⟨x, hx⟩ : ∃ x, M.cat = x := ⟨_, rfl⟩
      simp only [hx] at *
      have hs := hset.out
      clear hz
      go_enter Tryd.func34, Tryd.ntmps34
      go_wp2
      go_ret
      exact ⟨rfl, _, _, vw, rfl, hM.out, HKs.out⟩
    · have HE := Lib.hid (show M.counted = (({ M with cat := M.cat - 1 } : Dk).crash M.keep M.torn, 7) by unfold Dk.counted; rw [if_neg hz, if_neg hp])
      rw [HE.out]
      clear hz
      have hs := hset.out
      go_enter Tryd.func34, Tryd.ntmps34
      go_wp2
      refine wp_region_tail 11 (by kernel_rfl) (by kernel_rfl) ?_
      simp only [List.take_succ_cons, List.take_zero, List.drop_succ_cons, List.drop_zero]
      repeat still_step
      refine wpStill_nil ?_
      go_wp2_with fail
      refine (crash_any w _ _ i s q vw O _ _ _ hM.out hc (fun p hp => by rw [List.length_set]; exact HO.out p hp)).mono ?_
      rintro e' w' ⟨rfl, l', d', vw', rfl, hA, hK⟩
      have HA := Lib.hid hA
      have HK := Lib.hid hK
      clear hA hK
      go_wp2
      go_ret
      exact ⟨rfl, _, _, vw', rfl, HA.out, HKs.out.trans HK.out⟩
end Go.Proofs.YtjgfljckmckhcaaDoor

/- Write, New, Image: by contract. No condition but that fewer than 2^40 wait. -/
import Derived.Test.YtafbphgfdnmilaaC6
namespace Go.Proofs.Ytafbphgfdnmilaa
open Go.RowKit Go.Own

attribute [local go_sem] bu74 sec_eq
theorem DAt.app {w : World} {l : List Obj} {i s q : Nat} {vw : Value} {O : Nat → Prop} {M : Dk} (h : DAt w l i s q vw O M) (g : List Obj) : DAt w (l ++ g) i s q vw O M :=
  h.keep fun _ hp hlt => ⟨hp, List.getElem?_append_left hlt⟩
set_option maxRecDepth 100000 in
set_option maxHeartbeats 1000000 in
theorem write_any (w : World) (l : List Obj) (d i s q : Nat) (vw : Value) (O : Nat → Prop) (M : Dk) (x : Int) (y : ByteArray) (h : DAt w l i s q vw O M) (hc : M.count < 1099511627776) (hO : ∀ p, O p → p < l.length) :
    Calls Try.prog 11 #[.pointer (some ⟨w.heap.size + i, 0, none⟩), .int .i64 x, .string y] (Wd w l d) fun e w' => e = .returned (.int .i64 (((M.write x (bys y)).2 : Nat) : Int)) ∧ ∃ l' d' vw', w' = Wd w l' d' ∧ DAt w l' i s q vw' O (M.write x (bys y)).1 ∧ Kp O l l' := by
  have hd := h.hd
  have H := Lib.hid h
  have HO := Lib.hid hO
  clear h hO
  by_cases hr : refE M.off M.n x = 0
  · obtain ⟨ho, a, rfl, ha⟩ := refE_ok hr
    have HR := Lib.hid hr
    by_cases h64 : 64 < y.size
    · have HE := Lib.hid (show M.write (a : Int) (bys y) = (M, 3) by unfold Dk.write; rw [if_pos hr, if_pos (by rw [bys_length]; exact h64)])
      rw [HE.out]
      clear hr
      go_enter Try.func11, Try.ntmps11
      go_wp2_with fail
      refine (refused_any w l d i _ hd).mono ?_
      rintro e w' ⟨rfl, rfl⟩
      rw [HR.out]
      go_wp2
      go_ret
      exact ⟨rfl, l, d, vw, rfl, H.out, Kp.refl O l⟩
    · have HE := Lib.hid (show M.write (a : Int) (bys y) = (M.waited a (filL (bys y))).counted by unfold Dk.write; rw [if_pos hr, if_neg (by rw [bys_length]; exact h64)]; rfl)
      rw [HE.out]
      have h64' : ¬ 64 < (y.size : Int) := by omega
      have hfl : (filL (bys y)).length = 64 := filL_length (by rw [bys_length]; omega)
      have HF := Lib.hid (filL_B8 (B8.bys y))
      have HSZ := Lib.hid (show y.size ≤ 64 by omega)
      clear hr h64
      go_enter Try.func11, Try.ntmps11
      go_wp2_with fail
      refine (refused_any w l d i _ hd).mono ?_
      rintro e w' ⟨rfl, rfl⟩
      rw [HR.out]
      go_wp2_with fail
      refine (filled_any y HSZ.out _).mono ?_
      rintro e w' ⟨rfl, g, d', rfl⟩
      rw [Wd_wd]
      clear hd
      go_wp2_with fail
      refine (wait_any w _ _ i s q vw O M a (filL (bys y)) (H.out.app g) ha hfl HF.out hc (fun p hp => by have := HO.out p hp; simp; omega)).mono ?_
      rintro e w' ⟨rfl, l1, d1, vw1, rfl, hA, hK⟩
      have HA := Lib.hid hA
      have HK := Lib.hid ((Kp.app O l g).trans hK)
      clear hA hK
      go_wp2_with fail
      refine (counted_any w l1 _ i s q vw1 O _ HA.out (show M.count + 1 ≤ _ by omega) (fun p hp => by have := HO.out p hp; have := HK.out.1; omega)).mono ?_
      rintro e w' ⟨rfl, l2, d2, vw2, rfl, hA2, hK2⟩
      have HA2 := Lib.hid hA2
      have HK2 := Lib.hid hK2
      clear hA2 hK2
      go_wp2
      go_ret
      exact ⟨rfl, _, _, vw2, rfl, HA2.out, HK.out.trans HK2.out⟩
  · have HE := Lib.hid (show M.write x (bys y) = (M, refE M.off M.n x) by unfold Dk.write; rw [if_neg hr])
    rw [HE.out]
    obtain ⟨r, hr'⟩ : ∃ r, refE M.off M.n x = r := ⟨_, rfl⟩
    rw [hr'] at hr ⊢
    have hb : ((r : Int) != 0) = true := by simp; omega
    have HR := Lib.hid hr'
    clear hr HE hr'
    go_enter Try.func11, Try.ntmps11
    go_wp2_with fail
    refine (refused_any w l d i _ hd).mono ?_
    rintro e w' ⟨rfl, rfl⟩
    rw [HR.out]
    go_wp2
    go_ret
    exact ⟨rfl, l, d, vw, rfl, H.out, Kp.refl O l⟩
theorem down2_any (w : World) (l : List Obj) (d i s q : Nat) (vw : Value) (O : Nat → Prop) (M : Dk) (h : DAt w l i s q vw O M) :
    Calls Try.prog 22 #[.pointer (some ⟨w.heap.size + i, 0, none⟩)] (Wd w l d) fun e w' => e = .returned (.bool M.off) ∧ w' = Wd w l d :=
  (down_any w l d i h.hd).mono fun _ _ ⟨h1, h2⟩ => ⟨h1, h2.symm⟩
theorem size2_any (w : World) (l : List Obj) (d i s q : Nat) (vw : Value) (O : Nat → Prop) (M : Dk) (h : DAt w l i s q vw O M) :
    Calls Try.prog 23 #[.pointer (some ⟨w.heap.size + i, 0, none⟩)] (Wd w l d) fun e w' => e = .returned (.int .i64 (M.n : Int)) ∧ w' = Wd w l d :=
  (size_any w l d i h.hd).mono fun _ _ ⟨h1, h2⟩ => ⟨h1, h2.symm⟩

/-! ### New -/
theorem new_bad (w : World) (x : Int) (hx : x < 1 ∨ 4096 < x) :
    Calls Try.prog 9 #[.int .i64 x] w fun e w' => e = .returned (.tuple #[.pointer none, .int .i64 1]) ∧ w = w' := by
  by_cases h1 : x < 1
  · clear hx
    go_enter Try.func9, Try.ntmps9
    go_wp2
    go_ret2
    exact ⟨rfl, rfl⟩
  · have h2 : 4096 < x := by omega
    clear hx
    go_enter Try.func9, Try.ntmps9
    go_wp2
    go_ret2
    exact ⟨rfl, rfl⟩
theorem zeros64 (n : Nat) : (Array.range (n * 64)).map (fun i => (cv .u8 (rep 64))[i % 64]!) = cv .u8 (rep (n * 64)) := by
  have e : (fun i : Nat => (cv .u8 (rep 64))[i % 64]!) = fun _ => .int .u8 0 := funext fun i => by
    have hlt : i % 64 < 64 := Nat.mod_lt _ (by decide)
    have hg := cv_get .u8 (rep 64) (i % 64) (by rw [rep_length]; exact hlt)
    rw [rep_gi] at hg
    show (cv .u8 (rep 64))[i % 64]! = _
    rw [getElem!_def, hg]
    rfl
  rw [e]
  apply Array.ext'
  rw [Array.toList_map, Array.toList_range, List.map_const', List.length_range]
  simp only [cv, rep, List.map_replicate]
  rfl
theorem mk63 {w : World} {l : List Obj} {d n : Nat} (h1 : 1 ≤ n) (hn : n ≤ 4096) :
    mkX Try.prog 63 (.agg (cv .u8 (rep 64))) w l d (n : Int) (n : Int) = .ok (.slice (some ⟨w.heap.size + l.length, 0, none⟩) n n) (Wd w (l ++ [.cells (cv .u8 (rep (n * 64))) 71 (0, 0)]) d) := by
  cases hi : Try.prog.info? 71 with
  | none => exact absurd hi (by have : (Try.prog.info? 71).isSome = true := by kernel_rfl
                                intro e; rw [e] at this; cases this)
  | some i =>
    have hb : i.bytes = 64 := by
      have h := show (Try.prog.info? 71).map (fun i => i.bytes) = some 64 by kernel_rfl
      rw [hi] at h
      simpa using h
    have hw : IntKind.i64.wrap (n : Int) = n := IntWalk.i64_in _ (by omega)
    have hz := zeros64 n
    have e1 : ¬ ((281474976710656 : Int) < 64 * n) := by omega
    have e2 : ¬ ((n : Int) < 0) := by omega
    have e3 : ¬ n = 0 := by omega
    have e4 : ¬ n * 64 = 0 := by omega
    obtain ⟨m, hm⟩ : ∃ m, n * 64 = m := ⟨_, rfl⟩
    rw [hm] at hz e4 ⊢
    simp [mkX, Instr.makeSlice, run_underlying Try.underlying63, asInt, asIntOf, typeInfo, hi, hb, hw, e1, e2, e4, hm, run_zeroOf z71, Value.cells, newRow, hz, Wd_size, Wd_alloc]
theorem bu66 (p r : Option Addr) (a b c e : Nat) (W : World) : (buN 66 #[(0, .slice p a b), (1, .slice r c e)]).run Try.prog W = .ok (.agg (dc (.slice p a b) (.slice r c e) (.slice none 0 0) 0 0 0 0 false)) W := by kernel_rfl
attribute [local go_sem] mk63 bu66
set_option maxRecDepth 100000 in
set_option maxHeartbeats 1000000 in
theorem new_any (w : World) (l : List Obj) (d n : Nat) (h1 : 1 ≤ n) (h2 : n ≤ 4096) (O : Nat → Prop) (hO : ∀ p, O p → p < l.length) :
    Calls Try.prog 9 #[.int .i64 (n : Int)] (Wd w l d) fun e w' => ∃ i s q l' d' vw, e = .returned (.tuple #[.pointer (some ⟨w.heap.size + i, 0, none⟩), .int .i64 0]) ∧ w' = Wd w l' d' ∧ DAt w l' i s q vw O (newK n) ∧ Kp O l l' := by
  have h1' : ¬ (n : Int) < 1 := by omega
  have h2' : ¬ 4096 < (n : Int) := by omega
  go_enter Try.func9, Try.ntmps9
  go_wp2
  go_region
  all_goals
    go_wp2
    go_ret2
  · refine ⟨l.length + 2, l.length, l.length + 1, _, _, .slice none 0 0, rfl, rfl, ⟨?_, ?_, ?_, .inl ⟨rfl, rfl, rfl⟩, by omega, by omega, by omega, fun h => ?_, fun h => ?_, fun h => ?_, newK_ok h1 h2⟩, Kp.app _ _ _⟩
    · exact at_third rfl
    · exact at_mid' rfl
    · exact at_next' rfl
    all_goals have := hO _ h; omega
  · refine ⟨l.length + 2, l.length + 1, l.length, _, _, .slice none 0 0, rfl, rfl, ⟨?_, ?_, ?_, .inl ⟨rfl, rfl, rfl⟩, by omega, by omega, by omega, fun h => ?_, fun h => ?_, fun h => ?_, newK_ok h1 h2⟩, Kp.app _ _ _⟩
    · exact at_third rfl
    · exact at_next' rfl
    · exact at_mid' rfl
    all_goals have := hO _ h; omega
end Go.Proofs.Ytafbphgfdnmilaa

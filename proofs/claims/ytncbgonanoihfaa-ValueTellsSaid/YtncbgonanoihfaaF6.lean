/- The document's Same of a value and itself, by contract. No condition. -/
import Derived.Test.YtncbgonanoihfaaF5
import Derived.Test.YtncbgonanoihfaaR5
namespace Go.Proofs.Ytncbgonanoihfaa
open Go.RowKit Go.Own
def YesQ (w : World) (e : Ending) (w' : World) : Prop := e = .returned (.bool true) ∧ Below w.heap.size w w'
set_option maxRecDepth 100000 in
set_option maxHeartbeats 1000000 in
theorem alike_any (x : V) : ∀ (v u : Value) (w : World), Holds w v x → Holds w u x → Calls Try.prog 14 #[v, u] w (YesQ w) := by
  induction x using V.ind with
  | h k n s b l ih =>
    intro v u w hv hu
    obtain ⟨p, cap, hp⟩ := VAt.parts hv
    obtain ⟨p', cap', hp'⟩ := VAt.parts hu
    obtain ⟨rfl, _, _, hs, hle, hcap, hsub⟩ := hp
    obtain ⟨rfl, _, _, _, hle', hcap', hsub'⟩ := hp'
    obtain ⟨m, hm⟩ : ∃ m, l.length = m := ⟨_, rfl⟩
    rw [hm] at hle hle' ⊢
    have HM := Lib.hid hm
    have HI := Lib.hid ih
    have HSUB := Lib.hid hsub
    have HSUB' := Lib.hid hsub'
    clear hm hv hu ih hsub hsub'
    have HX0 : Hid (Box5 ((w.alloc (.cells #[.int .i64 k, .int .i64 n, .string s, .bool b, .slice p m cap] 24)).alloc (.cells #[.int .i64 k, .int .i64 n, .string s, .bool b, .slice p' m cap'] 24)) w.heap.size (.int .i64 k) (.int .i64 n) (.string s) (.bool b) (.slice p m cap)) := Lib.hid ((box5_new w _ _ _ _ _ _).below ((Below.refl _ _).alloc (Nat.le_refl _) _))
    have HY0 : Hid (Box5 ((w.alloc (.cells #[.int .i64 k, .int .i64 n, .string s, .bool b, .slice p m cap] 24)).alloc (.cells #[.int .i64 k, .int .i64 n, .string s, .bool b, .slice p' m cap'] 24)) (w.heap.size + 1) (.int .i64 k) (.int .i64 n) (.string s) (.bool b) (.slice p' m cap')) := Lib.hid (by
      have h := box5_new (w.alloc (.cells #[.int .i64 k, .int .i64 n, .string s, .bool b, .slice p m cap] 24)) (.int .i64 k) (.int .i64 n) (.string s) (.bool b) (.slice p' m cap') 24
      have hz : (w.alloc (.cells #[.int .i64 k, .int .i64 n, .string s, .bool b, .slice p m cap] 24)).heap.size = w.heap.size + 1 := by simp
      rw [hz] at h
      exact h)
    have HB0 : Hid (Below w.heap.size w ((w.alloc (.cells #[.int .i64 k, .int .i64 n, .string s, .bool b, .slice p m cap] 24)).alloc (.cells #[.int .i64 k, .int .i64 n, .string s, .bool b, .slice p' m cap'] 24))) := Lib.hid (((Below.refl _ w).alloc (Nat.le_refl _) _).alloc (by simp) _)
    have HZ0 : Hid (((w.alloc (.cells #[.int .i64 k, .int .i64 n, .string s, .bool b, .slice p m cap] 24)).alloc (.cells #[.int .i64 k, .int .i64 n, .string s, .bool b, .slice p' m cap'] 24)).heap.size = w.heap.size + 2) := Lib.hid (by simp)
    go_enter Try.func14, Try.ntmps14
    go_wp2
    generalize (w.alloc (.cells #[.int .i64 k, .int .i64 n, .string s, .bool b, .slice p m cap] 24)).alloc (.cells #[.int .i64 k, .int .i64 n, .string s, .bool b, .slice p' m cap'] 24) = W0 at *
    go_loopw [5] (fun i wr => ∃ j : Nat, j ≤ m ∧ i = .int .i64 (j : Int) ∧ Hid (Below (w.heap.size + 2) W0 wr)) (fun i _ => m - (intOf i).toNat)
    case atStart => exact ⟨0, Nat.zero_le _, rfl, Lib.hid (Below.refl _ _)⟩
    case round =>
      obtain ⟨j, hj, rfl, HB⟩ := hrel
      have HBW : Hid (Below w.heap.size w wr) := Lib.hid (HB0.out.trans (HB.out.mono (by omega)))
      have hzr : w.heap.size + 2 ≤ wr.heap.size := by have := HB.out.size; rw [HZ0.out] at this; exact this
      have e4 : wr.cell? ⟨w.heap.size, 4, none⟩ = some (.slice p m cap) := by
        obtain ⟨_, _, _, _, _, e4⟩ := HX0.out
        rw [HB.out.cell (p := ⟨w.heap.size, 4, none⟩) (by simp)]; exact e4
      have f4 : wr.cell? ⟨w.heap.size + 1, 4, none⟩ = some (.slice p' m cap') := by
        obtain ⟨_, _, _, _, _, e4⟩ := HY0.out
        rw [HB.out.cell (p := ⟨w.heap.size + 1, 4, none⟩) (by simp)]; exact e4
      by_cases hlt : j < m
      · obtain ⟨x, hx⟩ : ∃ x, l[j]? = some x := ⟨_, List.getElem?_eq_getElem (by rw [HM.out]; exact hlt)⟩
        obtain ⟨g, o, t0, t1, t2, t3, t4, rfl, _, hg, hvx, a0, a1, a2, a3, a4⟩ := HSUB.out j x hx
        obtain ⟨g', o', t0', t1', t2', t3', t4', rfl, _, hg', hvx', b0, b1, b2, b3, b4⟩ := HSUB'.out j x hx
        have hk1 : ∀ (gg : Gw wr) i, gg.1.cell? ⟨g, i, none⟩ = w.cell? ⟨g, i, none⟩ := fun gg i => by
          rw [gg.2.cell (p := ⟨g, i, none⟩) (Nat.lt_of_lt_of_le hg HBW.out.size)]; exact HBW.out.cell (p := ⟨g, i, none⟩) hg
        have hk2 : ∀ (gg : Gw wr) i, gg.1.cell? ⟨g', i, none⟩ = w.cell? ⟨g', i, none⟩ := fun gg i => by
          rw [gg.2.cell (p := ⟨g', i, none⟩) (Nat.lt_of_lt_of_le hg' HBW.out.size)]; exact HBW.out.cell (p := ⟨g', i, none⟩) hg'
        have q0 : ∀ gg : Gw wr, gg.1.cell? ⟨g, o + j * 5, none⟩ = some t0 := fun gg => by rw [hk1]; exact a0
        have q1 : ∀ gg : Gw wr, gg.1.cell? ⟨g, o + j * 5 + 1, none⟩ = some t1 := fun gg => by rw [hk1]; exact a1
        have q2 : ∀ gg : Gw wr, gg.1.cell? ⟨g, o + j * 5 + 2, none⟩ = some t2 := fun gg => by rw [hk1]; exact a2
        have q3 : ∀ gg : Gw wr, gg.1.cell? ⟨g, o + j * 5 + 3, none⟩ = some t3 := fun gg => by rw [hk1]; exact a3
        have q4 : ∀ gg : Gw wr, gg.1.cell? ⟨g, o + j * 5 + 4, none⟩ = some t4 := fun gg => by rw [hk1]; exact a4
        have r0 : ∀ gg : Gw wr, gg.1.cell? ⟨g', o' + j * 5, none⟩ = some t0' := fun gg => by rw [hk2]; exact b0
        have r1 : ∀ gg : Gw wr, gg.1.cell? ⟨g', o' + j * 5 + 1, none⟩ = some t1' := fun gg => by rw [hk2]; exact b1
        have r2 : ∀ gg : Gw wr, gg.1.cell? ⟨g', o' + j * 5 + 2, none⟩ = some t2' := fun gg => by rw [hk2]; exact b2
        have r3 : ∀ gg : Gw wr, gg.1.cell? ⟨g', o' + j * 5 + 3, none⟩ = some t3' := fun gg => by rw [hk2]; exact b3
        have r4 : ∀ gg : Gw wr, gg.1.cell? ⟨g', o' + j * 5 + 4, none⟩ = some t4' := fun gg => by rw [hk2]; exact b4
        have e4g : ∀ gg : Gw wr, gg.1.cell? ⟨w.heap.size, 4, none⟩ = some (.slice (some ⟨g, o, none⟩) m cap) := fun gg => by rw [gg.2.cell (p := ⟨w.heap.size, 4, none⟩) (show w.heap.size < wr.heap.size by omega)]; exact e4
        have f4g : ∀ gg : Gw wr, gg.1.cell? ⟨w.heap.size + 1, 4, none⟩ = some (.slice (some ⟨g', o', none⟩) m cap') := fun gg => by rw [gg.2.cell (p := ⟨w.heap.size + 1, 4, none⟩) (show w.heap.size + 1 < wr.heap.size by omega)]; exact f4
        have HC : Hid (∀ gg : Gw wr, Calls Try.prog 14 #[.agg #[t0, t1, t2, t3, t4], .agg #[t0', t1', t2', t3', t4']] gg.1 fun x w' => x = .returned (.bool true) ∧ Grew wr w') := Lib.hid (fun gg =>
          grew_call (HI.out x (List.mem_of_getElem? hx) _ _ gg.1 ((Holds.below hvx.holds HBW.out).below gg.2) ((Holds.below hvx'.holds HBW.out).below gg.2)))
        have hjm : (j : Int) < (m : Int) := by omega
        clear hx hvx hvx' hk1 hk2 a0 a1 a2 a3 a4 b0 b1 b2 b3 b4
        go_wp2
        refine wp_region_grew (by kernel_rfl) (by kernel_rfl) ?_
        repeat (go_big_quiet_step ((with_reducible exact HC.out _)))
        refine wpQuiet_nil ?_
        intro gg
        have HBG : Hid (Below (w.heap.size + 2) W0 gg.1) := Lib.hid (HB.out.trans (gg.2.mono hzr))
        obtain ⟨w1, hw1⟩ : ∃ w1, gg.1 = w1 := ⟨_, rfl⟩
        rw [hw1] at HBG ⊢
        clear hw1 gg q0 q1 q2 q3 q4 r0 r1 r2 r3 r4 e4g f4g
        go_wp2
        go_roundw
        case rel => exact ⟨j + 1, by omega, by go_num, HBG⟩
        case measure => simp [intOf]; omega
      · obtain rfl : j = m := by omega
        go_wp2
        go_ret
        exact ⟨rfl, HBW.out⟩
end Go.Proofs.Ytncbgonanoihfaa

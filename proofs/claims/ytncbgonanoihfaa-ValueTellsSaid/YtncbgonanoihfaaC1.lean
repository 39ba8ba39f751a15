/- Is a value small enough? By contract. No condition but that it is a value. -/
import Derived.Test.YtncbgonanoihfaaW1
namespace Go.Proofs.Ytncbgonanoihfaa
open Go.RowKit Go.Own
theorem fewV_eq (k n : Int) (s : ByteArray) (b : Bool) (l : List V) (d : Nat) :
    fewV (.mk k n s b l) d = (!(decide (10 < d) || decide (70000 < s.size) || decide (300 < l.length) || (decide (1 < d) && decide (5 < l.length))) && l.all (fewV · (d + 1))) := by
  rw [fewV, fewVs_all]
theorem few_cases (k n : Int) (s : ByteArray) (b : Bool) (l : List V) (d : Nat) :
    (fewV (.mk k n s b l) d = false ∧ 10 < d) ∨ (fewV (.mk k n s b l) d = false ∧ d ≤ 10 ∧ 70000 < s.size) ∨ (fewV (.mk k n s b l) d = false ∧ d ≤ 10 ∧ s.size ≤ 70000 ∧ 300 < l.length) ∨
      (fewV (.mk k n s b l) d = false ∧ d ≤ 10 ∧ s.size ≤ 70000 ∧ l.length ≤ 300 ∧ 1 < d ∧ 5 < l.length) ∨ (d ≤ 10 ∧ s.size ≤ 70000 ∧ l.length ≤ 300 ∧ d ≤ 1 ∧ fewV (.mk k n s b l) d = l.all (fewV · (d + 1))) ∨
      (d ≤ 10 ∧ s.size ≤ 70000 ∧ l.length ≤ 300 ∧ 1 < d ∧ l.length ≤ 5 ∧ fewV (.mk k n s b l) d = l.all (fewV · (d + 1))) := by
  rw [fewV_eq]
  by_cases h1 : 10 < d
  · exact Or.inl ⟨by simp [h1], h1⟩
  by_cases h2 : 70000 < s.size
  · exact Or.inr (Or.inl ⟨by simp [h2], by omega, h2⟩)
  by_cases h3 : 300 < l.length
  · exact Or.inr (Or.inr (Or.inl ⟨by simp [h3], by omega, by omega, h3⟩))
  by_cases h4 : 1 < d
  · by_cases h5 : 5 < l.length
    · exact Or.inr (Or.inr (Or.inr (Or.inl ⟨by simp [h4, h5], by omega, by omega, by omega, h4, h5⟩)))
    · refine Or.inr (Or.inr (Or.inr (Or.inr (Or.inr ⟨by omega, by omega, by omega, h4, by omega, ?_⟩))))
      simp [h1, h2, h3, h5]
  · refine Or.inr (Or.inr (Or.inr (Or.inr (Or.inl ⟨by omega, by omega, by omega, by omega, ?_⟩))))
    simp [h1, h2, h3, h4]
def FewQ (b : Bool) (w : World) (e : Ending) (w' : World) : Prop := e = .returned (.bool b) ∧ Below w.heap.size w w'
set_option maxRecDepth 100000 in
set_option maxHeartbeats 1000000 in
theorem few_any (x : V) : ∀ (d : Nat) (v : Value) (w : World), d ≤ 11 → Holds w v x → Calls Try.prog 8 #[v, .int .i64 (d : Int)] w (FewQ (fewV x d) w) := by
  induction x using V.ind with
  | h k n s b l ih =>
    intro d v w hd hv
    obtain ⟨p, cap, hp⟩ := VAt.parts hv
    have hcs := few_cases k n s b l d
    obtain ⟨rfl, _, _, hs, hle, hcap, hsub⟩ := hp
    obtain ⟨m, hm⟩ : ∃ m, l.length = m := ⟨_, rfl⟩
    rw [hm] at hcs hle ⊢
    have HM := Lib.hid hm
    have HI := Lib.hid ih
    have HSUB := Lib.hid hsub
    clear hm hv ih hsub
    rcases hcs with ⟨hf, h1⟩ | ⟨hf, h1, h2⟩ | ⟨hf, h1, h2, h3⟩ | ⟨hf, h1, h2, h3, h4, h5⟩ | ⟨h1, h2, h3, h4, hf⟩ | ⟨h1, h2, h3, h4, h5, hf⟩
    all_goals
      have HF := Lib.hid hf
      clear hf
      try have d1 : decide ((10 : Int) < (d : Int)) = true := by simp; omega
      try have d1 : decide ((10 : Int) < (d : Int)) = false := by simp; omega
      try have d2 : decide ((70000 : Int) < (s.size : Int)) = true := by simp; omega
      try have d2 : decide ((70000 : Int) < (s.size : Int)) = false := by simp; omega
      try have d3 : decide ((300 : Int) < (m : Int)) = true := by simp; omega
      try have d3 : decide ((300 : Int) < (m : Int)) = false := by simp; omega
      try have d4 : decide ((1 : Int) < (d : Int)) = true := by simp; omega
      try have d4 : decide ((1 : Int) < (d : Int)) = false := by simp; omega
      try have d5 : decide ((5 : Int) < (m : Int)) = true := by simp; omega
      try have d5 : decide ((5 : Int) < (m : Int)) = false := by simp; omega
      go_enter Try.func8, Try.ntmps8
      go_wp2
    · go_ret
      exact ⟨by rw [HF.out]; rfl, (Below.refl _ w).alloc (Nat.le_refl _) _⟩
    · go_ret
      exact ⟨by rw [HF.out]; rfl, (Below.refl _ w).alloc (Nat.le_refl _) _⟩
    · go_ret
      exact ⟨by rw [HF.out]; rfl, (Below.refl _ w).alloc (Nat.le_refl _) _⟩
    · go_ret
      exact ⟨by rw [HF.out]; rfl, (Below.refl _ w).alloc (Nat.le_refl _) _⟩
    all_goals
      have HW0 : Hid (Below w.heap.size w (w.alloc (.cells #[.int .i64 k, .int .i64 n, .string s, .bool b, .slice p m cap] 24))) := Lib.hid ((Below.refl _ w).alloc (Nat.le_refl _) _)
      have HC4 : Hid ((w.alloc (.cells #[.int .i64 k, .int .i64 n, .string s, .bool b, .slice p m cap] 24)).cell? ⟨w.heap.size, 4, none⟩ = some (.slice p m cap)) := Lib.hid (cell_new _ _ _ _)
      have HZ0 : Hid ((w.alloc (.cells #[.int .i64 k, .int .i64 n, .string s, .bool b, .slice p m cap] 24)).heap.size = w.heap.size + 1) := Lib.hid (by simp)
      generalize w.alloc (.cells #[.int .i64 k, .int .i64 n, .string s, .bool b, .slice p m cap] 24) = W0 at *
      go_loopw [5] (fun i wr => ∃ j : Nat, j ≤ m ∧ i = .int .i64 (j : Int) ∧ Hid (∀ x ∈ l.take j, fewV x (d + 1) = true) ∧ Hid (Below (w.heap.size + 1) W0 wr)) (fun i _ => m - (intOf i).toNat)
      case atStart => exact ⟨0, Nat.zero_le _, rfl, Lib.hid (fun x hx => by simp at hx), Lib.hid (Below.refl _ _)⟩
      case round =>
        obtain ⟨j, hj, rfl, HJ, HB⟩ := hrel
        have c4 : wr.cell? ⟨w.heap.size, 4, none⟩ = some (.slice p m cap) := by rw [HB.out.cell (p := ⟨w.heap.size, 4, none⟩) (by simp)]; exact HC4.out
        have HBW : Hid (Below w.heap.size w wr) := Lib.hid (HW0.out.trans (HB.out.mono (by omega)))
        have hzr : w.heap.size + 1 ≤ wr.heap.size := by have := HB.out.size; rw [HZ0.out] at this; exact this
        by_cases hlt : j < m
        · obtain ⟨x, hx⟩ : ∃ x, l[j]? = some x := ⟨_, List.getElem?_eq_getElem (by rw [HM.out]; exact hlt)⟩
          obtain ⟨g, o, u0, u1, u2, u3, u4, rfl, _, hg, hvx, e0, e1, e2, e3, e4⟩ := HSUB.out j x hx
          have hk : ∀ i, wr.cell? ⟨g, i, none⟩ = w.cell? ⟨g, i, none⟩ := fun i => HBW.out.cell (p := ⟨g, i, none⟩) hg
          rw [← hk] at e0 e1 e2 e3 e4
          have HC : Hid (Calls Try.prog 8 #[.agg #[u0, u1, u2, u3, u4], .int .i64 ((d : Int) + 1)] wr (FewQ (fewV x (d + 1)) wr)) :=
            Lib.hid (HI.out x (List.mem_of_getElem? hx) (d + 1) _ wr (by omega) (Holds.below hvx.holds HBW.out))
          clear hk hvx
          cases hfx : fewV x (d + 1) with
          | false =>
            have HZ : Hid (fewV (.mk k n s b l) d = false) := Lib.hid (by
              rw [HF.out, List.all_eq_false]
              exact ⟨x, List.mem_of_getElem? hx, by simp [hfx]⟩)
            rw [hfx] at HC
            clear hx hfx
            go_wp2_with (go_at_call 8; fail)
            refine HC.out.mono ?_
            rintro e w1 ⟨rfl, hb1⟩
            replace hb1 := Lib.hid hb1
            go_wp2
            go_ret
            exact ⟨by rw [HZ.out]; rfl, HBW.out.trans (hb1.out.mono (by omega))⟩
          | true =>
            have HJ1 : Hid (∀ y ∈ l.take (j + 1), fewV y (d + 1) = true) := Lib.hid (by
              intro y hy
              rw [List.take_add_one, hx] at hy
              rcases List.mem_append.1 hy with h | h
              · exact HJ.out y h
              · simp at h; rw [h]; exact hfx)
            rw [hfx] at HC
            clear hx hfx
            go_wp2_with (go_at_call 8; fail)
            refine HC.out.mono ?_
            rintro e w1 ⟨rfl, hb1⟩
            have HB1 : Hid (Below (w.heap.size + 1) W0 w1) := Lib.hid (HB.out.trans (hb1.mono hzr))
            clear hb1
            go_wp2
            go_roundw
            case rel => exact ⟨j + 1, by omega, by go_num, HJ1, HB1⟩
            case measure => simp [intOf]; omega
        · obtain rfl : j = m := by omega
          have HT : Hid (fewV (.mk k n s b l) d = true) := Lib.hid (by
            rw [HF.out, List.all_eq_true]
            intro x hx
            exact HJ.out x (by rw [List.take_of_length_le (by rw [HM.out]; exact Nat.le_refl _)]; exact hx))
          go_wp2
          go_ret
          exact ⟨by rw [HT.out]; rfl, HBW.out⟩
end Go.Proofs.Ytncbgonanoihfaa

/- Of: the document's value as one that is told by its type, by contract. No condition but that it is small enough. -/
import Derived.Test.YtncbgonanoihfaaC1
import Derived.Test.YtncbgonanoihfaaW2
namespace Go.Proofs.Ytncbgonanoihfaa
open Go.RowKit Go.Own
/-- The answer is a, in new memory. -/
def NewA (a : A) (w : World) (e : Ending) (w' : World) : Prop := ∃ r, e = .returned r ∧ AAt w' (fun b => w.heap.size ≤ b) r a ∧ Below w.heap.size w w'
theorem fewV_parts {k n : Int} {s : ByteArray} {b : Bool} {l : List V} {d : Nat} (h : fewV (.mk k n s b l) d = true) : s.size ≤ 70000 ∧ l.length ≤ 300 ∧ ∀ x ∈ l, fewV x (d + 1) = true := by
  rcases few_cases k n s b l d with ⟨hf, _⟩ | ⟨hf, _⟩ | ⟨hf, _⟩ | ⟨hf, _⟩ | ⟨h1, h2, h3, h4, hf⟩ | ⟨h1, h2, h3, h4, h5, hf⟩
  · rw [h] at hf; cases hf
  · rw [h] at hf; cases hf
  · rw [h] at hf; cases hf
  · rw [h] at hf; cases hf
  · rw [hf, List.all_eq_true] at h; exact ⟨h2, h3, h⟩
  · rw [hf, List.all_eq_true] at h; exact ⟨h2, h3, h⟩
theorem take_snoc {l : List A} {j : Nat} {x : A} (h : l[j]? = some x) : l.take (j + 1) = l.take j ++ [x] := by
  rw [List.take_add_one, h]; rfl
theorem kinds (k : Int) : k = 1 ∨ k = 2 ∨ k = 3 ∨ k = 4 ∨ (k ≠ 1 ∧ k ≠ 2 ∧ k ≠ 3 ∧ k ≠ 4) := by omega
set_option maxRecDepth 100000 in
set_option maxHeartbeats 1000000 in
theorem of_any (x : V) : ∀ (d : Nat) (v : Value) (w : World), fewV x d = true → Holds w v x → Calls Try.prog 10 #[v] w (NewA (ofV x) w) := by
  induction x using V.ind with
  | h k n s b l ih =>
    intro d v w hf hv
    obtain ⟨p, cap, hp⟩ := VAt.parts hv
    obtain ⟨hf1, hf2, hf3⟩ := fewV_parts hf
    obtain ⟨rfl, _, hn, hs, hle, hcap, hsub⟩ := hp
    clear hf
    rcases kinds k with rfl | rfl | rfl | rfl | ⟨k1, k2, k3, k4⟩
    · have HE : Hid (ofV (.mk 1 n s b l) = .num n) := Lib.hid (by simp [ofV])
      have HN := Lib.hid hn
      clear hv ih hsub hf3 hn
      go_enter Try.func10, Try.ntmps10
      go_wp2
      go_ret
      exact ⟨_, rfl, by rw [HE.out]; exact .num n HN.out, (Below.refl _ w).alloc (Nat.le_refl _) _⟩
    · have HE : Hid (ofV (.mk 2 n s b l) = .str s) := Lib.hid (by simp [ofV])
      clear hv ih hsub hf3 hn
      go_enter Try.func10, Try.ntmps10
      go_wp2
      go_ret
      exact ⟨_, rfl, by rw [HE.out]; exact .str s hs, (Below.refl _ w).alloc (Nat.le_refl _) _⟩
    · have HE : Hid (ofV (.mk 3 n s b l) = .bool b) := Lib.hid (by simp [ofV])
      clear hv ih hsub hf3 hn
      go_enter Try.func10, Try.ntmps10
      go_wp2
      go_ret
      exact ⟨_, rfl, by rw [HE.out]; exact .bool b, (Below.refl _ w).alloc (Nat.le_refl _) _⟩
    · have HE : Hid (ofV (.mk 4 n s b l) = .list (l.map ofV)) := Lib.hid (by simp [ofV, ofVs_map])
      obtain ⟨m, hm⟩ : ∃ m, l.length = m := ⟨_, rfl⟩
      rw [hm] at hle hf2 ⊢
      have HM := Lib.hid hm
      have HI := Lib.hid ih
      have HSUB := Lib.hid hsub
      have HF3 := Lib.hid hf3
      clear hv ih hsub hf3 hn hm
      go_enter Try.func10, Try.ntmps10
      go_wp2
      have HW0 : Hid (Below w.heap.size w (w.alloc (.cells #[.int .i64 4, .int .i64 n, .string s, .bool b, .slice p m cap] 24))) := Lib.hid ((Below.refl _ w).alloc (Nat.le_refl _) _)
      have HC4 : Hid ((w.alloc (.cells #[.int .i64 4, .int .i64 n, .string s, .bool b, .slice p m cap] 24)).cell? ⟨w.heap.size, 4, none⟩ = some (.slice p m cap)) := Lib.hid (cell_new _ _ _ _)
      have HZ0 : Hid ((w.alloc (.cells #[.int .i64 4, .int .i64 n, .string s, .bool b, .slice p m cap] 24)).heap.size = w.heap.size + 1) := Lib.hid (by simp)
      generalize w.alloc (.cells #[.int .i64 4, .int .i64 n, .string s, .bool b, .slice p m cap] 24) = W0 at *
      go_loopw [3, 4] (fun o i wr => ∃ j : Nat, j ≤ m ∧ i = .int .i64 (j : Int) ∧ Hid (RowA wr (w.heap.size + 1) o ((l.map ofV).take j)) ∧ Hid (Below (w.heap.size + 1) W0 wr)) (fun _ i _ => m - (intOf i).toNat)
      case atStart =>
        refine ⟨0, Nat.zero_le _, rfl, Lib.hid ?_, Lib.hid ?_⟩
        · have h := RowA.made (w := W0) (B := w.heap.size + 1) (by rw [HZ0.out]; omega) #[] 0 (by omega) rfl
          rw [HZ0.out] at h
          simpa using h
        · exact (Below.refl _ _).alloc (by rw [HZ0.out]; omega) _
      case round =>
        obtain ⟨j, hj, rfl, HR, HB⟩ := hrel
        have c4 : wr.cell? ⟨w.heap.size, 4, none⟩ = some (.slice p m cap) := by rw [HB.out.cell (p := ⟨w.heap.size, 4, none⟩) (by simp)]; exact HC4.out
        have HBW : Hid (Below w.heap.size w wr) := Lib.hid (HW0.out.trans (HB.out.mono (by omega)))
        have hzr : w.heap.size + 1 ≤ wr.heap.size := by have := HB.out.size; rw [HZ0.out] at this; exact this
        have HLJ : Hid (((l.map ofV).take j).length = j) := Lib.hid (by rw [List.length_take, List.length_map, HM.out]; omega)
        by_cases hlt : j < m
        · obtain ⟨x, hx⟩ : ∃ x, l[j]? = some x := ⟨_, List.getElem?_eq_getElem (by rw [HM.out]; exact hlt)⟩
          obtain ⟨g, o, t0, t1, t2, t3, t4, rfl, _, hg, hvx, e0, e1, e2, e3, e4⟩ := HSUB.out j x hx
          have hk : ∀ i, wr.cell? ⟨g, i, none⟩ = w.cell? ⟨g, i, none⟩ := fun i => HBW.out.cell (p := ⟨g, i, none⟩) hg
          rw [← hk] at e0 e1 e2 e3 e4
          have HC : Hid (Calls Try.prog 10 #[.agg #[t0, t1, t2, t3, t4]] wr (NewA (ofV x) wr)) :=
            Lib.hid (HI.out x (List.mem_of_getElem? hx) (d + 1) _ wr (HF3.out x (List.mem_of_getElem? hx)) (Holds.below hvx.holds HBW.out))
          have HX : Hid ((l.map ofV).take (j + 1) = (l.map ofV).take j ++ [ofV x]) := Lib.hid (take_snoc (by simp [hx]))
          obtain ⟨y, hy⟩ : ∃ y, ofV x = y := ⟨_, rfl⟩
          rw [hy] at HC HX
          clear hk hvx hx hy
          have hbl := HR.out.lt
          go_wp2_with (go_at_call 10; fail)
          refine HC.out.mono ?_
          rintro e w1 ⟨r, rfl, hr, hb1⟩
          have HR1 := Lib.hid (HR.out.below hb1)
          have HB1 : Hid (Below (w.heap.size + 1) W0 w1) := Lib.hid (HB.out.trans (hb1.mono hzr))
          have hz1r : wr.heap.size ≤ w1.heap.size := hb1.size
          have HY1 : Hid (AAt w1 (fun b => w.heap.size + 1 ≤ b ∧ u3.ownBlock ≠ some b) r y) := Lib.hid (hr.keep (fun b hb _ => ⟨by omega, fun e => by have := (hbl b e).2; omega⟩) (Nat.le_refl _) (fun _ _ _ => rfl))
          have hform := hr.form
          clear hr hb1 hbl
          rcases hform with ⟨ty, u, rfl⟩ | rfl
          all_goals
            go_wp2_with (at_builtin; refine wpList_push rfl (.tmp 32) (.tmp 39) rfl w1 (w.heap.size + 1) _ _ y _ rfl rfl HR1.out HY1.out rfl (by rw [HLJ.out]; omega) (by omega) ?_)
            intro v2 w2 hr2 hb2
            have HR2 : Hid (RowA w2 (w.heap.size + 1) v2 ((l.map ofV).take (j + 1))) := Lib.hid (by rw [HX.out]; exact hr2)
            have HB2 : Hid (Below (w.heap.size + 1) W0 w2) := Lib.hid (HB1.out.trans hb2)
            clear hr2 hb2
            go_wp2
            go_roundw
            case rel => exact ⟨j + 1, by omega, by go_num, HR2, HB2⟩
            case measure => simp [intOf]; omega
        · obtain rfl : j = m := by omega
          have HF : Hid (AAt wr (fun b => w.heap.size + 1 ≤ b) (.iface 48 u3) (.list (l.map ofV))) := Lib.hid (by
            have h := HR.out.has
            rwa [List.take_of_length_le (by rw [List.length_map, HM.out]; exact Nat.le_refl _)] at h)
          go_wp2
          go_ret
          exact ⟨_, rfl, by rw [HE.out]; exact HF.out.keep (fun b hb _ => by omega) (Nat.le_refl _) (fun _ _ _ => rfl), HBW.out⟩
    · have HE : Hid (ofV (.mk k n s b l) = .none) := Lib.hid (by simp [ofV, k1, k2, k3, k4])
      have e1 : (k == 1) = false := by simp [k1]
      have e2 : (k == 2) = false := by simp [k2]
      have e3 : (k == 3) = false := by simp [k3]
      have e4 : (k == 4) = false := by simp [k4]
      clear hv ih hsub hf3 hn k1 k2 k3 k4
      go_enter Try.func10, Try.ntmps10
      go_wp2
      go_ret
      exact ⟨_, rfl, by rw [HE.out]; exact .none, (Below.refl _ w).alloc (Nat.le_refl _) _⟩
end Go.Proofs.Ytncbgonanoihfaa

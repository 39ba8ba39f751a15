/- What a failure may leave of a byte, plainly. No condition. -/
import Derived.Test.YtafbphgfdnmilaaN2
namespace Go.Proofs.Ytafbphgfdnmilaa
open Go.RowKit Go.Own

theorem spl_nil (s : List Nat) (o : Nat) : spl s o [] = s := by
  unfold spl
  rw [List.append_nil, List.length_nil, Nat.add_zero, List.take_append_drop]
theorem sec_spl {x y : List Nat} {a n : Nat} (hx : x.length = n * 64) (ha : a < n) (hy : y.length = 64) : sec (spl x (a * 64) y) a = y := by
  unfold sec spl
  have h1 : (x.take (a * 64)).length = a * 64 := by rw [List.length_take, hx]; omega
  rw [List.append_assoc, List.drop_append, List.drop_of_length_le (by omega), List.nil_append, h1, Nat.sub_self, List.drop_zero, List.take_append_of_le_length (by omega), List.take_of_length_le (by omega)]
theorem tear_mem (k : Nat) (t last : Int) {n a b : Nat} (ha : a < n) (hb : b < 64) : ∀ (ws : List (Nat × List Nat)) (i : Nat) (x : List Nat), x.length = n * 64 → (∀ p ∈ ws, p.1 < n ∧ p.2.length = 64) →
    gi (tearL k t last i x ws) (a * 64 + b) = gi x (a * 64 + b) ∨ ∃ y, (a, y) ∈ ws ∧ gi (tearL k t last i x ws) (a * 64 + b) = gi y b
  | [], _, _, _, _ => .inl rfl
  | p :: ws, i, x, hx, hp => by
    have hp0 := hp p (by simp)
    have hkl := keptN_le k t last i
    have htl : (p.2.take (keptN k t last i)).length = keptN k t last i := by rw [List.length_take, hp0.2]; omega
    have hfit : p.1 * 64 + 64 ≤ n * 64 := by omega
    have ih := tear_mem k t last ha hb ws (i + 1) (spl x (p.1 * 64) (p.2.take (keptN k t last i))) (put_length hx hp0.1 (by omega)) fun q hq => hp q (by simp [hq])
    show gi (tearL k t last (i + 1) _ ws) _ = _ ∨ _
    rcases ih with h | ⟨y, hy, h⟩
    · rw [gi_spl (by omega), htl] at h
      by_cases hin : p.1 * 64 ≤ a * 64 + b ∧ a * 64 + b < p.1 * 64 + keptN k t last i
      · rw [if_pos hin] at h
        obtain rfl : p.1 = a := by omega
        have e : p.1 * 64 + b - p.1 * 64 = b := by omega
        rw [e, gi_take (by omega)] at h
        exact .inr ⟨p.2, by simp, h⟩
      · rw [if_neg hin] at h
        exact .inl h
    · exact .inr ⟨y, by simp [hy], h⟩
theorem shr64_zero (i : Nat) : shr64 0 i = 0 := by simp [shr64]
theorem tear_zero (t last : Int) : ∀ (ws : List (Nat × List Nat)) (i : Nat) (x : List Nat), tearL 0 t last i x ws = x
  | [], _, _ => rfl
  | p :: ws, i, x => by
    have e : keptN 0 t last i = 0 := by
      unfold keptN
      rw [shr64_zero]
      rfl
    show tearL 0 t last (i + 1) (spl x (p.1 * 64) (p.2.take (keptN 0 t last i))) ws = x
    rw [e, List.take_zero, spl_nil]
    exact tear_zero t last ws (i + 1) x

/-- A disk of four sectors that is on, with nothing armed, and fewer than so many writes that wait. -/
structure Quiet (c : Nat) (M : Dk) : Prop where
  off : M.off = false
  n : M.n = 4
  cat : M.cat = 0
  count : M.count ≤ c
theorem Quiet.counted {c : Nat} {M : Dk} (h : Quiet c M) : M.counted = (M, 0) := by
  unfold Dk.counted
  rw [if_pos h.cat]
theorem Quiet.bad {c : Nat} {M : Dk} (_ : Quiet c M) {x : Int} {s : List Nat} (hx : ¬ (refE M.off M.n x = 0 ∧ s.length ≤ 64)) : (M.write x s).1 = M ∧ (M.write x s).2 ≠ 0 := by
  unfold Dk.write
  by_cases hr : refE M.off M.n x = 0
  · rw [if_pos hr, if_pos (by omega)]
    exact ⟨rfl, fun e => by cases e⟩
  · rw [if_neg hr]
    exact ⟨rfl, hr⟩
theorem Quiet.good {c : Nat} {M : Dk} (h : Quiet c M) {x : Int} {s : List Nat} (hr : refE M.off M.n x = 0) (hs : s.length ≤ 64) : M.write x s = (M.waited x.toNat (filL s), 0) := by
  unfold Dk.write
  rw [if_pos hr, if_neg (by omega)]
  unfold Dk.counted
  rw [if_pos (show (M.waited _ _).cat = 0 from h.cat)]
theorem Quiet.waited {c : Nat} {M : Dk} (h : Quiet c M) (a : Nat) (y : List Nat) : Quiet (c + 1) (M.waited a y) := ⟨h.off, h.n, h.cat, by have := h.count; show M.count + 1 ≤ _; omega⟩
theorem Quiet.write {c : Nat} {M : Dk} (h : Quiet c M) (x : Int) (s : List Nat) : Quiet (c + 1) (M.write x s).1 := by
  by_cases hx : refE M.off M.n x = 0 ∧ s.length ≤ 64
  · rw [h.good hx.1 hx.2]; exact h.waited _ _
  · rw [(h.bad hx).1]; exact ⟨h.off, h.n, h.cat, by have := h.count; omega⟩
theorem Quiet.flush {c : Nat} {M : Dk} (h : Quiet c M) : M.flush = (M.flushed, 0) := by
  unfold Dk.flush
  rw [if_neg (by rw [h.off]; simp), h.counted]
  rfl
theorem Quiet.flushed {c : Nat} {M : Dk} (h : Quiet c M) : Quiet 0 M.flushed := ⟨h.off, h.n, h.cat, Nat.zero_le _⟩
theorem newK_quiet : Quiet 0 (newK 4) := ⟨rfl, rfl, rfl, Nat.le_refl _⟩

/-- What was read behind each write: of sector a the texts ms a. -/
structure Seen (M : Dk) (U : List Nat) (ms : Nat → List ByteArray) : Prop where
  last : M.last = U
  wait : ∀ p ∈ M.wait, ∃ s ∈ ms p.1, s = mkS p.2
  size : ∀ a, ∀ s ∈ ms a, s.size = 64
def upd {α : Type} (f : Nat → α) (a : Nat) (v : α) : Nat → α := fun b => if b = a then v else f b
theorem upd_same {α : Type} (f : Nat → α) (a : Nat) (v : α) : upd f a v a = v := if_pos rfl
theorem upd_other {α : Type} (f : Nat → α) {a b : Nat} (v : α) (h : b ≠ a) : upd f a v b = f b := if_neg h
theorem Seen.next {M : Dk} {U : List Nat} {ms : Nat → List ByteArray} (h : Seen M U ms) (a : Nat) {y : List Nat} (hy : y.length = 64) : Seen (M.waited a y) U (upd ms a (ms a ++ [mkS y])) := by
  refine ⟨h.last, fun p hp => ?_, fun b s hs => ?_⟩
  · have hp' : p ∈ M.wait ∨ p = (a, y) := by
      simp only [Dk.waited] at hp
      split at hp
      · rcases List.mem_append.1 hp with h | h
        · exact .inl h
        · exact .inr (List.mem_singleton.1 h)
      · exact .inl hp
    rcases hp' with hp' | rfl
    · obtain ⟨s, hs, e⟩ := h.wait p hp'
      refine ⟨s, ?_, e⟩
      by_cases hpa : p.1 = a
      · rw [hpa, upd_same]; exact List.mem_append_left _ (hpa ▸ hs)
      · rw [upd_other _ _ hpa]; exact hs
    · exact ⟨mkS y, by show mkS y ∈ upd ms a _ a; rw [upd_same]; simp, rfl⟩
  · by_cases hpa : b = a
    · subst hpa
      rw [upd_same] at hs
      rcases List.mem_append.1 hs with hs | hs
      · exact h.size b s hs
      · rw [List.mem_singleton.1 hs, mkS_size, hy]
    · rw [upd_other _ _ hpa] at hs
      exact h.size b s hs
/-- Is the byte as it was, or as one of the first so many texts has it? -/
def okB (x : Nat) (u b : Nat) (ss : List ByteArray) : Nat → Bool
  | 0 => decide (x = u)
  | k + 1 => okB x u b ss k || decide (x = gi (bys (ss.getD k ByteArray.empty)) b)
theorem okB_mono {x u b : Nat} {ss : List ByteArray} : ∀ {k m : Nat}, k ≤ m → okB x u b ss k = true → okB x u b ss m = true
  | k, 0, h, e => by
    obtain rfl : k = 0 := by omega
    exact e
  | k, m + 1, h, e => by
    by_cases hk : k = m + 1
    · subst hk; exact e
    · show (okB x u b ss m || _) = true
      rw [okB_mono (by omega : k ≤ m) e]; rfl
theorem okB_hit {x u b : Nat} {ss : List ByteArray} {s : ByteArray} (hs : s ∈ ss) (hx : x = gi (bys s) b) : okB x u b ss ss.length = true := by
  obtain ⟨j, hj⟩ := List.getElem?_of_mem hs
  have hlt := (List.getElem?_eq_some_iff.1 hj).1
  refine okB_mono (k := j + 1) hlt ?_
  show (_ || decide (x = gi (bys (ss.getD j ByteArray.empty)) b)) = true
  rw [List.getD_eq_getElem?_getD, hj]
  simp [hx]
theorem okB_all {c : Nat} {M : Dk} {U : List Nat} {ms : Nat → List ByteArray} (h : Seen M U ms) (hq : Quiet c M) (hok : M.Ok) (k : Nat) (t : Int) {a b : Nat} (ha : a < 4) (hb : b < 64) :
    okB (gi (M.crash k t).last (a * 64 + b)) (gi U (a * 64 + b)) b (ms a) (ms a).length = true ∧ (k = 0 → gi (M.crash k t).last (a * 64 + b) = gi U (a * 64 + b)) := by
  have e : (M.crash k t).last = tearL k t ((M.count : Int) - 1) 0 U M.wait := by
    unfold Dk.crash
    rw [if_neg (by rw [hq.off]; simp), ← h.last]
    rfl
  rw [e]
  have hU : U.length = 4 * 64 := by rw [← h.last, hok.lastL, hq.n]
  have hm := tear_mem k t ((M.count : Int) - 1) ha hb M.wait 0 U hU fun p hp => ⟨by have := (hok.waitO p hp).1; rw [hq.n] at this; exact this, (hok.waitO p hp).2.1⟩
  refine ⟨?_, fun hk => by subst hk; rw [tear_zero]⟩
  rcases hm with h1 | ⟨y, hy, h1⟩
  · refine okB_mono (k := 0) (Nat.zero_le _) ?_
    show decide _ = true
    rw [h1]; simp
  · obtain ⟨s, hs, rfl⟩ := h.wait (a, y) hy
    refine okB_hit hs ?_
    rw [h1, bys_mkS y (hok.waitO (a, y) hy).2.2]
end Go.Proofs.Ytafbphgfdnmilaa

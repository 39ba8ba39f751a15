/- A journal on a disk whose power is on: opened, one text more, made anew; opened again it is the same. No condition. | Between two texts of a journal that is made anew: what lies in memory; one text more. No condition. -/
import Derived.Test.YtjgfljckmckhcaaDoorZ36
import Derived.Test.YtjgfljckmckhcaaDoorZ34
namespace Go.Proofs.YtjgfljckmckhcaaDoor
open Go.RowKit Go.Own
/-- A journal that is just what lies on its disk. -/
structure Inv (J : Jn) (M : Dk) : Prop where
  live : Live M
  off : J.off = false
  half : M.n = J.now.size + J.now.size
  big : 8 ≤ M.n
  first : J.now.first = 0 ∨ J.now.first = J.now.size
  now : toldB M.seen J.now.first J.now.size = J.now
  less : J.now.first = 0 → (toldB M.seen J.now.size J.now.size).gen ≤ J.now.gen
  more : J.now.first = J.now.size → (toldB M.seen 0 J.now.size).gen < J.now.gen
theorem Inv.fs {J : Jn} {M : Dk} (h : Inv J M) : J.now.first + J.now.size ≤ M.n := by
  have h1 := h.half
  have h2 := h.first
  omega
theorem Inv.small {J : Jn} {M : Dk} (h : Inv J M) : 4 ≤ J.now.size ∧ J.now.size ≤ 2048 := by
  have h1 := h.half
  have h2 := h.big
  have h3 := h.live.ok.n2
  omega
theorem Inv.good {J : Jn} {M : Dk} (h : Inv J M) : Good J.now := by
  have := (toldB_ok h.live.ok.seenL h.live.ok.seenB h.fs).1
  rwa [h.now] at this
theorem Inv.ok {J : Jn} {M : Dk} (h : Inv J M) : J.Ok := by
  have h1 := h.small
  have h2 := h.good
  have h3 := sumS_ge J.now.texts
  have h4 := h2.used
  exact ⟨by have := h.first; omega, by omega, h2.fits, by omega, h2.gen⟩
theorem open_live {M : Dk} (h : Live M) (h8 : 8 ≤ M.n) (h2 : M.n % 2 = 0) : openJ M = (if (toldB M.seen 0 (M.n / 2)).gen < (toldB M.seen (M.n / 2) (M.n / 2)).gen then some ⟨toldB M.seen (M.n / 2) (M.n / 2), false⟩ else some ⟨toldB M.seen 0 (M.n / 2), false⟩, 0) := by
  have e1 : (⟨0, M.n / 2, 0, 0, []⟩ : Hf).told M = toldB M.seen 0 (M.n / 2) := told_eq h _ _ (by omega)
  have e2 : (⟨0, M.n / 2, 0, 0, []⟩ : Hf).other.told M = toldB M.seen (M.n / 2) (M.n / 2) := told_eq h _ _ (by show M.n / 2 - 0 + M.n / 2 ≤ M.n; omega)
  unfold openJ
  rw [if_neg (by omega), if_neg (by rw [h.on]; simp), e1, e2]
  split <;> rfl
theorem open_inv {M : Dk} (h : Live M) (h8 : 8 ≤ M.n) (h2 : M.n % 2 = 0) : ∃ J, openJ M = (some J, 0) ∧ Inv J M := by
  rw [open_live h h8 h2]
  have a := toldB_ok h.ok.seenL h.ok.seenB (F := 0) (S := M.n / 2) (n := M.n) (by omega)
  have b := toldB_ok h.ok.seenL h.ok.seenB (F := M.n / 2) (S := M.n / 2) (n := M.n) (by omega)
  by_cases hc : (toldB M.seen 0 (M.n / 2)).gen < (toldB M.seen (M.n / 2) (M.n / 2)).gen
  · rw [if_pos hc]
    refine ⟨_, rfl, h, rfl, ?_, h8, .inr ?_, ?_, fun h0 => ?_, fun _ => ?_⟩
    · show M.n = (toldB M.seen (M.n / 2) (M.n / 2)).size + (toldB M.seen (M.n / 2) (M.n / 2)).size
      rw [b.2.2.1]; omega
    · show (toldB M.seen (M.n / 2) (M.n / 2)).first = (toldB M.seen (M.n / 2) (M.n / 2)).size
      rw [b.2.1, b.2.2.1]
    · show toldB M.seen (toldB M.seen (M.n / 2) (M.n / 2)).first (toldB M.seen (M.n / 2) (M.n / 2)).size = _
      rw [b.2.1, b.2.2.1]
    · have h0' : (toldB M.seen (M.n / 2) (M.n / 2)).first = 0 := h0
      rw [b.2.1] at h0'; omega
    · show (toldB M.seen 0 (toldB M.seen (M.n / 2) (M.n / 2)).size).gen < _
      rw [b.2.2.1]; exact hc
  · rw [if_neg hc]
    refine ⟨_, rfl, h, rfl, ?_, h8, .inl a.2.1, ?_, fun _ => ?_, fun h0 => ?_⟩
    · show M.n = (toldB M.seen 0 (M.n / 2)).size + (toldB M.seen 0 (M.n / 2)).size
      rw [a.2.2.1]; omega
    · show toldB M.seen (toldB M.seen 0 (M.n / 2)).first (toldB M.seen 0 (M.n / 2)).size = _
      rw [a.2.1, a.2.2.1]
    · show (toldB M.seen (toldB M.seen 0 (M.n / 2)).size (toldB M.seen 0 (M.n / 2)).size).gen ≤ _
      rw [a.2.2.1]
      show _ ≤ (toldB M.seen 0 (M.n / 2)).gen
      omega
    · have h0' : (toldB M.seen 0 (M.n / 2)).first = (toldB M.seen 0 (M.n / 2)).size := h0
      rw [a.2.1, a.2.2.1] at h0'; omega
/-- Opened again. -/
theorem Inv.again {J : Jn} {M : Dk} (h : Inv J M) : openJ M = (some J, 0) := by
  have hh := h.half
  have e : M.n / 2 = J.now.size := by omega
  have h4 := h.small
  have hJ : J = ⟨J.now, false⟩ := by
    have := h.off
    cases J
    simp only at this
    rw [this]
  rw [open_live h.live h.big (by omega), e]
  have hnow := h.now
  rcases h.first with h0 | h0
  · rw [h0] at hnow
    have := h.less h0
    rw [hnow, if_neg (by omega), ← hJ]
  · rw [h0] at hnow
    have := h.more h0
    rw [hnow, if_pos this, ← hJ]
theorem laying_end (h : Hf) (t : List Nat) : ∃ ss, h.laying t = ss ++ [.f] := ⟨_, rfl⟩
/-- A turn, where all steps may be done. -/
theorem turn_live {J : Jn} {M : Dk} (h : Live M) (next : Hf) (ss : List Stp) (hs : ∀ s ∈ ss, s.fits M.n) (he : ∃ r, ss = r ++ [.f]) :
    ∃ M', J.turn M next ss = (⟨next, J.off⟩, M', 0) ∧ Live M' ∧ M'.n = M.n ∧ M'.seen = seenS M.seen ss ∧ M'.count = 0 := by
  obtain ⟨h1, h2, h3, h4⟩ := runS_live ss M h hs
  obtain ⟨r, rfl⟩ := he
  refine ⟨_, ?_, h2, h3, h4, runS_count0 r M h fun s hs' => hs s (by simp [hs'])⟩
  unfold Jn.turn
  rw [if_pos h1]
/-- A text more. -/
theorem Inv.append {J : Jn} {M : Dk} (h : Inv J M) (t : List Nat) (ht : B8 t) :
    (J.now.room < (t.length : Int) → J.append M t = (J, M, 6)) ∧
    (¬ J.now.room < (t.length : Int) → ∃ M', J.append M t = (⟨({ J.now with gen := max J.now.gen 1 } : Hf).with t, false⟩, M', 0) ∧ Inv ⟨({ J.now with gen := max J.now.gen 1 } : Hf).with t, false⟩ M' ∧ M'.n = M.n ∧ M'.count = 0) := by
  refine ⟨fun hr => ?_, fun hr => ?_⟩
  · unfold Jn.append
    rw [if_neg (by rw [h.off]; simp), if_pos hr]
  · have h1 := room_ok hr
    have hf := h.fs
    have hsm := h.small
    have hgd := h.good
    obtain ⟨k, hk⟩ : ∃ k, ({ J.now with gen := max J.now.gen 1 } : Hf).with t = k := ⟨_, rfl⟩
    have hkF : k.first = J.now.first := by rw [← hk]; rfl
    have hkz : k.size = J.now.size := by rw [← hk]; rfl
    have hku : k.used = J.now.used + secs t.length := by rw [← hk]; rfl
    have hkg : k.gen = max J.now.gen 1 := by rw [← hk]; rfl
    have hin : ∀ s ∈ k.ending ++ ({ J.now with gen := max J.now.gen 1 } : Hf).laying t, s.inR J.now.first (J.now.first + J.now.size) := by
      intro s hs
      rcases List.mem_append.1 hs with hs | hs
      · have := ending_in k (n := J.now.first + J.now.size) (by omega) (by omega) s hs
        rwa [hkF] at this
      · exact laying_in ({ J.now with gen := max J.now.gen 1 } : Hf) t ht (n := J.now.first + J.now.size) (by show J.now.first + J.now.used + _ ≤ _; omega) s hs
    obtain ⟨r, hr2⟩ := laying_end ({ J.now with gen := max J.now.gen 1 } : Hf) t
    obtain ⟨M', e1, e2, e3, e4, e5⟩ := turn_live (J := J) h.live k (k.ending ++ ({ J.now with gen := max J.now.gen 1 } : Hf).laying t) (fun s hs => (hin s hs).fits hf) ⟨k.ending ++ r, by rw [hr2, List.append_assoc]⟩
    have hnow := append_told h.live.ok.seenL h.live.ok.seenB hf (by omega) t h1.1 (by rw [h.now]; exact h1.2)
    rw [h.now, hk, ← e4] at hnow
    rw [hk]
    refine ⟨M', ?_, ⟨e2, rfl, ?_, ?_, ?_, ?_, fun h0 => ?_, fun h0 => ?_⟩, e3, e5⟩
    · unfold Jn.append
      rw [if_neg (by rw [h.off]; simp), if_neg hr, hk, e1, h.off]
    · show M'.n = k.size + k.size
      rw [e3, hkz]; exact h.half
    · rw [e3]; exact h.big
    · show k.first = 0 ∨ k.first = k.size
      rw [hkF, hkz]; exact h.first
    · show toldB M'.seen k.first k.size = k
      rw [hkF, hkz]; exact hnow
    · have h0' : J.now.first = 0 := by rw [← hkF]; exact h0
      show (toldB M'.seen k.size k.size).gen ≤ k.gen
      have ep : part M'.seen J.now.size J.now.size = part M.seen J.now.size J.now.size := by
        rw [e4]; exact seenS_out (.inr (by omega)) hf _ _ h.live.ok.seenL hin
      have et : toldB M'.seen J.now.size J.now.size = toldB M.seen J.now.size J.now.size := by unfold toldB; rw [ep]
      rw [hkz, et, hkg]
      have := h.less h0'
      omega
    · have h0' : J.now.first = J.now.size := by rw [← hkF, ← hkz]; exact h0
      show (toldB M'.seen 0 k.size).gen < k.gen
      have ep : part M'.seen 0 J.now.size = part M.seen 0 J.now.size := by
        rw [e4]; exact seenS_out (.inl (by omega)) hf _ _ h.live.ok.seenL hin
      have et : toldB M'.seen 0 J.now.size = toldB M.seen 0 J.now.size := by unfold toldB; rw [ep]
      rw [hkz, et, hkg]
      have := h.more h0'
      omega
theorem someL_ne (l : List (List Nat)) : someL l ≠ [] := by
  unfold someL
  split
  · simp
  · assumption
theorem someL_B8 {l : List (List Nat)} (h : ∀ t ∈ l, B8 t) : ∀ t ∈ someL l, B8 t := by
  unfold someL
  split
  · intro t ht
    obtain rfl := List.mem_singleton.1 ht
    intro x hx; cases hx
  · exact h
/-- Made anew. -/
theorem Inv.anew {J : Jn} {M : Dk} (h : Inv J M) (l : List (List Nat)) (hl : ∀ t ∈ l, B8 t) (hg : J.now.gen ≠ 1099511627776) :
    ((⟨J.now.size - J.now.first, J.now.size, J.now.gen + 1, 0, []⟩ : Hf).lays (someL l) = none → J.anew M l = (J, M, 6)) ∧
    ∀ k ls, (⟨J.now.size - J.now.first, J.now.size, J.now.gen + 1, 0, []⟩ : Hf).lays (someL l) = some (k, ls) → ∃ M', J.anew M l = (⟨k, false⟩, M', 0) ∧ Inv ⟨k, false⟩ M' ∧ M'.n = M.n ∧ M'.count = 0 := by
  have hoff : ¬ J.off = true := by rw [h.off]; simp
  have eo : ({ J.now.other with gen := J.now.gen + 1 } : Hf) = ⟨J.now.size - J.now.first, J.now.size, J.now.gen + 1, 0, []⟩ := rfl
  refine ⟨fun hn => ?_, fun k ls e => ?_⟩
  · unfold Jn.anew
    rw [if_neg hoff, if_neg hg, eo, hn]
  · obtain ⟨F, hF⟩ : ∃ F, J.now.size - J.now.first = F := ⟨_, rfl⟩
    have hsm := h.small
    have hfst := h.first
    have hFS : F + J.now.size ≤ M.n := by have := h.half; omega
    rw [hF] at e eo
    have ho := lays_ok _ _ _ _ e
    have hkF : k.first = F := ho.first
    have hkz : k.size = J.now.size := ho.size
    have hkg : k.gen = J.now.gen + 1 := ho.gen
    have hkS : k.used ≤ k.size := by have := ho.fits (Nat.zero_le _); exact this
    have hgen := h.good.gen
    have hin : ∀ s ∈ [Stp.w F [], .f] ++ k.ending ++ ls.reverse.flatten, s.inR F (F + J.now.size) := by
      intro s hs
      rcases List.mem_append.1 hs with hs | hs
      · rcases List.mem_append.1 hs with hs | hs
        · simp only [List.mem_cons, List.not_mem_nil, or_false] at hs
          rcases hs with rfl | rfl
          · exact ⟨Nat.le_refl _, by omega, by simp, fun x hx => by cases hx⟩
          · trivial
        · have := ending_in k (n := F + J.now.size) hkS (by omega) s hs
          rwa [hkF] at this
      · have hmem : s ∈ ls.flatten := by
          obtain ⟨r, hr, hsr⟩ := List.mem_flatten.1 hs
          exact List.mem_flatten.2 ⟨r, List.mem_reverse.1 hr, hsr⟩
        exact lays_in (someL l) ⟨F, J.now.size, J.now.gen + 1, 0, []⟩ k ls (n := F + J.now.size) e (someL_B8 hl) (Nat.zero_le _) (Nat.le_refl _) s hmem
    have hend : ∃ r, [Stp.w F [], .f] ++ k.ending ++ ls.reverse.flatten = r ++ [.f] := by
      cases hc : someL l with
      | nil => exact absurd hc (someL_ne l)
      | cons t r =>
        rw [hc, Hf.lays] at e
        by_cases hr : (⟨F, J.now.size, J.now.gen + 1, 0, []⟩ : Hf).room < (t.length : Int)
        · rw [if_pos hr] at e; cases e
        · rw [if_neg hr] at e
          cases hc2 : ((⟨F, J.now.size, J.now.gen + 1, 0, []⟩ : Hf).with t).lays r with
          | none => rw [hc2] at e; cases e
          | some p =>
            rw [hc2] at e
            simp only [Option.some.injEq, Prod.mk.injEq] at e
            obtain ⟨r2, hr2⟩ := laying_end (⟨F, J.now.size, J.now.gen + 1, 0, []⟩ : Hf) t
            obtain ⟨_, rfl⟩ := e
            exact ⟨[Stp.w F [], .f] ++ k.ending ++ p.2.reverse.flatten ++ r2, by rw [List.reverse_cons, List.flatten_append, hr2]; simp⟩
    obtain ⟨M', e1, e2, e3, e4, e5⟩ := turn_live (J := J) h.live k _ (fun s hs => (hin s hs).fits hFS) hend
    have hnow := anew_told h.live.ok.seenL h.live.ok.seenB hFS (by omega) (g := J.now.gen + 1) (by omega) (by omega) (someL l) (someL_ne l) (someL_B8 hl) k ls e
    rw [← e4] at hnow
    have ep : part M'.seen J.now.first J.now.size = part M.seen J.now.first J.now.size := by
      rw [e4]; exact seenS_out (by omega) hFS _ _ h.live.ok.seenL hin
    have et : toldB M'.seen J.now.first J.now.size = J.now := by
      rw [← h.now]
      unfold toldB
      rw [show (Hf.tell (part M.seen J.now.first J.now.size) (J.now.size + 1) ⟨J.now.first, J.now.size, 0, 0, []⟩) = J.now from h.now, ep]
      exact h.now
    refine ⟨M', ?_, ⟨e2, rfl, ?_, ?_, ?_, ?_, fun h0 => ?_, fun h0 => ?_⟩, e3, e5⟩
    · unfold Jn.anew
      rw [if_neg hoff, if_neg hg, eo, e]
      show J.turn M k ([.w J.now.other.first [], .f] ++ k.ending ++ ls.reverse.flatten) = _
      rw [show J.now.other.first = F from hF, e1, h.off]
    · show M'.n = k.size + k.size
      rw [e3, hkz]; exact h.half
    · rw [e3]; exact h.big
    · show k.first = 0 ∨ k.first = k.size
      rw [hkF, hkz]; omega
    · show toldB M'.seen k.first k.size = k
      rw [hkF, hkz]; exact hnow
    · have h0' : F = 0 := by rw [← hkF]; exact h0
      show (toldB M'.seen k.size k.size).gen ≤ k.gen
      have ef : J.now.first = J.now.size := by omega
      rw [ef] at et
      rw [hkz, et, hkg]; omega
    · have h0' : F = J.now.size := by rw [← hkF, ← hkz]; exact h0
      show (toldB M'.seen 0 k.size).gen < k.gen
      have ef : J.now.first = 0 := by omega
      rw [ef] at et
      rw [hkz, et, hkg]; omega
end Go.Proofs.YtjgfljckmckhcaaDoor
namespace Go.Proofs.YtjgfljckmckhcaaDoor
open Go Go.RowKit Go.Own
structure AnI (w : World) (L3 : List Obj) (b5 i : Nat) (h0 : Hf) (bs : List ByteArray) (k : Nat) (L : List Obj) (v7 vt : Value) (H : Hf) (lss : List (List Stp)) (R : List Value) (css : List (List Value)) : Prop where
  lays : h0.lays ((bs.take k).map bys) = some (H, lss)
  box : L[b5]? = some (.cells (hcl (.pointer (some ⟨w.heap.size + i, 0, none⟩)) H.first H.size H.gen vt H.used) 61 (0, 0))
  row7 : RowV (fun p => L3.length ≤ p ∧ NotAt w vt p) w L 1 k v7 R
  rowt : RowV (fun p => L3.length ≤ p ∧ NotAt w v7 p) w L 1 k vt (strs ((bs.take k).map bys))
  cl : css.length = k
  each : ∀ (j : Nat) x vs ss, R[j]? = some x → css[j]? = some vs → lss[j]? = some ss → RowV (fun p => L3.length ≤ p ∧ NotAt w v7 p ∧ NotAt w vt p) w L 1 vs.length x vs ∧ Steps w L (fun p => L3.length ≤ p ∧ NotAt w v7 p ∧ NotAt w vt p) i vs ss
  keep : L3.length ≤ L.length ∧ ∀ p, p < L3.length → p ≠ b5 → L[p]? = L3[p]?
theorem notAt_nil (w : World) (p : Nat) : NotAt w (.slice none 0 0) p := fun n c e => by simp at e
theorem AnI.start {w : World} {L3 : List Obj} {b5 i : Nat} {h0 : Hf} {bs : List ByteArray} (hb : L3[b5]? = some (.cells (hcl (.pointer (some ⟨w.heap.size + i, 0, none⟩)) h0.first h0.size h0.gen (.slice none 0 0) h0.used) 61 (0, 0))) : AnI w L3 b5 i h0 bs 0 L3 (.slice none 0 0) (.slice none 0 0) h0 [] [] [] :=
  ⟨rfl, hb, .inl ⟨rfl, rfl, rfl⟩, .inl ⟨rfl, rfl, rfl⟩, rfl, fun j x vs ss h => by simp at h, Nat.le_refl _, fun _ _ _ => rfl⟩
theorem rowV_lt {A : Nat → Prop} {w : World} {l : List Obj} {sz n : Nat} {v : Value} {C : List Value} (h : RowV A w l sz n v C) {p : Nat} (hp : ¬ NotAt w v p) : p < l.length := by
  rcases Nat.lt_or_ge p l.length with h' | h'
  · exact h'
  · exact absurd (h.beyond h') hp
theorem AnI.step {w : World} {L3 : List Obj} {b5 i : Nat} {h0 : Hf} {bs : List ByteArray} {k : Nat} {L : List Obj} {v7 vt : Value} {H : Hf} {lss : List (List Stp)} {R : List Value} {css : List (List Value)} (h : AnI w L3 b5 i h0 bs k L v7 vt H lss R css) (hb5 : b5 < L3.length)
    {s : ByteArray} (hs : bs[k]? = some s) (hroom : ¬ H.room < ((bys s).length : Int)) {La Lb Lc : List Obj} {v v7' vt' : Value} {vs : List Value}
    (ha : L.length ≤ La.length ∧ ∀ p, p < L.length → La[p]? = L[p]?) (hv : RowV (fun p => L.length ≤ p) w La 1 vs.length v vs) (hst : Steps w La (fun p => L.length ≤ p) i vs (H.laying (bys s)))
    (hb : La.length ≤ Lb.length ∧ ∀ p, p < La.length → NotAt w v7 p → Lb[p]? = La[p]?) (h7 : RowV (fun p => ¬ NotAt w v7 p ∨ La.length ≤ p) w Lb 1 (k + 1) v7' (R ++ [v]))
    (hc : Lb.length ≤ Lc.length ∧ ∀ p, p < Lb.length → NotAt w vt p → Lc[p]? = Lb[p]?) (ht : RowV (fun p => ¬ NotAt w vt p ∨ Lb.length ≤ p) w Lc 1 (k + 1) vt' (strs ((bs.take k).map bys ++ [bys s]))) :
    AnI w L3 b5 i h0 bs (k + 1) (Lc.set b5 (.cells (hcl (.pointer (some ⟨w.heap.size + i, 0, none⟩)) H.first H.size H.gen vt' (H.used + secs s.size)) 61 (0, 0))) v7' vt' (H.with (bys s)) (lss ++ [H.laying (bys s)]) (R ++ [v]) (css ++ [vs]) := by
  have hL3 := h.keep.1
  have e1 : (bs.take (k + 1)).map bys = (bs.take k).map bys ++ [bys s] := by rw [List.take_add_one, hs]; simp
  have hRl : R.length = k := by have := h.row7.length; omega
  have hll : lss.length = k := by
    have := (lays_ok _ _ _ _ h.lays).len
    rw [this, List.length_map, List.length_take]
    have := (List.getElem?_eq_some_iff.1 hs).1
    omega
  have k0 : ∀ p, p < L3.length → NotAt w v7 p ∧ NotAt w vt p := fun p hp => ⟨rowV_off h.row7 fun h' => by omega, rowV_off h.rowt fun h' => by omega⟩
  have kset : ∀ p, p ≠ b5 → (Lc.set b5 (.cells (hcl (.pointer (some ⟨w.heap.size + i, 0, none⟩)) H.first H.size H.gen vt' (H.used + secs s.size)) 61 (0, 0)))[p]? = Lc[p]? := fun p hp => List.getElem?_set_ne fun e => hp e.symm
  have kk : ∀ p, p < La.length → p ≠ b5 → NotAt w v7 p → NotAt w vt p → (Lc.set b5 (.cells (hcl (.pointer (some ⟨w.heap.size + i, 0, none⟩)) H.first H.size H.gen vt' (H.used + secs s.size)) 61 (0, 0)))[p]? = La[p]? := fun p hp hne n1 n2 => by
    rw [kset p hne, hc.2 p (by omega) n2, hb.2 p hp n1]
  have o7 : ∀ p, p < La.length → NotAt w v7 p → NotAt w v7' p := fun p hp hn => rowV_off h7 fun h' => h'.elim (fun h2 => h2 hn) fun h2 => by omega
  have ot : ∀ p, p < Lb.length → NotAt w vt p → NotAt w vt' p := fun p hp hn => rowV_off ht fun h' => h'.elim (fun h2 => h2 hn) fun h2 => by omega
  refine ⟨?_, ?_, ?_, ?_, by rw [List.length_append, h.cl]; rfl, fun j x us ss h1 h2 h3 => ?_, by rw [List.length_set]; omega, fun p hp hne => ?_⟩
  · rw [e1, lays_snoc, h.lays]
    simp only
    rw [if_neg hroom]
  · rw [set_some (show Lc[b5]? = some (Lc[b5]'(by omega)) from List.getElem?_eq_getElem _), ← bys_length]
    rfl
  · refine h7.mono fun p hp hlt => ?_
    have hp2 : L3.length ≤ p ∧ NotAt w vt p := by
      rcases hp with hp | hp
      · exact rowV_on h.row7 hp
      · exact ⟨by omega, h.rowt.beyond (by omega)⟩
    exact ⟨⟨hp2.1, ot p hlt hp2.2⟩, by rw [kset p (by omega), hc.2 p hlt hp2.2]⟩
  · rw [e1]
    refine ht.mono fun p hp hlt => ?_
    have hp2 : L3.length ≤ p ∧ NotAt w v7' p := by
      rcases hp with hp | hp
      · have h1 := rowV_on h.rowt hp
        have h2 := rowV_lt h.rowt hp
        exact ⟨h1.1, o7 p (by omega) h1.2⟩
      · exact ⟨by omega, h7.beyond hp⟩
    exact ⟨hp2, kset p (by omega)⟩
  · by_cases hj : j < k
    · rw [List.getElem?_append_left (by omega)] at h1
      rw [List.getElem?_append_left (by rw [h.cl]; omega)] at h2
      rw [List.getElem?_append_left (by omega)] at h3
      have h4 := h.each j x us ss h1 h2 h3
      have hm : ∀ p, (L3.length ≤ p ∧ NotAt w v7 p ∧ NotAt w vt p) → p < L.length → (L3.length ≤ p ∧ NotAt w v7' p ∧ NotAt w vt' p) ∧ (Lc.set b5 (.cells (hcl (.pointer (some ⟨w.heap.size + i, 0, none⟩)) H.first H.size H.gen vt' (H.used + secs s.size)) 61 (0, 0)))[p]? = L[p]? := fun p hp hlt =>
        ⟨⟨hp.1, o7 p (by omega) hp.2.1, ot p (by omega) hp.2.2⟩, by rw [kk p (by omega) (by omega) hp.2.1 hp.2.2, ha.2 p hlt]⟩
      exact ⟨h4.1.mono hm, h4.2.mono hm⟩
    · have hjk : j = k := by
        have := (List.getElem?_eq_some_iff.1 h1).1
        rw [List.length_append, List.length_singleton] at this; omega
      subst hjk
      rw [List.getElem?_append_right (by omega), hRl, Nat.sub_self] at h1
      rw [List.getElem?_append_right (by rw [h.cl]; omega), h.cl, Nat.sub_self] at h2
      rw [List.getElem?_append_right (by omega), hll, Nat.sub_self] at h3
      simp at h1 h2 h3
      subst h1; subst h2; subst h3
      have hm : ∀ p, L.length ≤ p → p < La.length → (L3.length ≤ p ∧ NotAt w v7' p ∧ NotAt w vt' p) ∧ (Lc.set b5 (.cells (hcl (.pointer (some ⟨w.heap.size + i, 0, none⟩)) H.first H.size H.gen vt' (H.used + secs s.size)) 61 (0, 0)))[p]? = La[p]? := fun p hp hlt =>
        have n1 := h.row7.beyond hp
        have n2 := h.rowt.beyond hp
        ⟨⟨by omega, o7 p hlt n1, ot p (by omega) n2⟩, kk p hlt (by omega) n1 n2⟩
      exact ⟨hv.mono hm, hst.mono hm⟩
  · rw [kk p (by omega) hne (k0 p hp).1 (k0 p hp).2, ha.2 p (by omega)]
    exact h.keep.2 p hp hne
theorem map_rev_get {α : Type} (l : List α) (j n : Nat) (hn : l.length = n) (hj : j < n) : l.reverse[j]? = l[n - 1 - j]? := by
  rw [List.getElem?_reverse (by omega), hn]
/-- Behind the last one: the rows in the other order. -/
theorem AnI.rev {w : World} {L3 : List Obj} {b5 i B : Nat} {h0 : Hf} {bs : List ByteArray} {n : Nat} {L : List Obj} {v7 vt : Value} {H : Hf} {lss : List (List Stp)} {R : List Value} {css : List (List Value)} (h : AnI w L3 b5 i h0 bs n L v7 vt H lss R css) (hB : B ≤ L3.length) (hn : bs.length = n) (hn1 : 1 ≤ n) {b cap : Nat} {X : List Value} {T : TypeId} {Y : Array Value}
    (hv : v7 = .slice (some ⟨w.heap.size + b, 0, none⟩) n cap) (hX : X.take n = R) (hbl : b < L.length) (hb3 : L3.length ≤ b) (h1 : ∀ j, j < n → Y[j]? = X[n - 1 - j]?) (d : Nat) :
    rrB w B i lss.reverse v7 (Wd w (L.set b (.cells Y T (0, 0))) d) := by
  have hll : lss.length = n := by
    have := (lays_ok _ _ _ _ h.lays).len
    rw [this, List.length_map, List.length_take]; omega
  have hRl : R.length = n := by have := h.row7.length; omega
  have hXl : n ≤ X.length := by rw [← hX, List.length_take] at hRl; omega
  have hYs : n ≤ Y.size := by
    have e := h1 (n - 1) (by omega)
    rw [show n - 1 - (n - 1) = 0 by omega, List.getElem?_eq_getElem (by omega)] at e
    have := (Array.getElem?_eq_some_iff.1 e).1
    omega
  refine ⟨b, cap, Y.toList, T, css.reverse, _, d, rfl, by rw [List.length_set]; have := h.keep.1; omega, by omega, by rw [List.length_reverse, hll]; exact hv, by rw [Array.toArray_toList]; exact set_some (show L[b]? = some (L[b]'hbl) from List.getElem?_eq_getElem _), by rw [List.length_reverse, hll, Array.length_toList]; exact hYs, by rw [List.length_reverse, List.length_reverse, h.cl, hll], fun k x vs ss e1 e2 e3 => ?_⟩
  have hk : k < n := by
    have := (List.getElem?_eq_some_iff.1 e2).1
    rw [List.length_reverse, h.cl] at this; exact this
  rw [Array.getElem?_toList, h1 k hk] at e1
  rw [map_rev_get _ _ n h.cl hk] at e2
  rw [map_rev_get _ _ n hll hk] at e3
  have e1' : R[n - 1 - k]? = some x := by rw [← hX, List.getElem?_take_of_lt (by omega)]; exact e1
  have h4 := h.each _ x vs ss e1' e2 e3
  have hm : ∀ p, (L3.length ≤ p ∧ NotAt w v7 p ∧ NotAt w vt p) → p < L.length → B ≤ p ∧ (L.set b (.cells Y T (0, 0)))[p]? = L[p]? := fun p hp _ => ⟨by omega, List.getElem?_set_ne fun e => hp.2.1 n cap (by rw [hv, e])⟩
  exact ⟨h4.1.mono hm, h4.2.mono hm⟩
end Go.Proofs.YtjgfljckmckhcaaDoor

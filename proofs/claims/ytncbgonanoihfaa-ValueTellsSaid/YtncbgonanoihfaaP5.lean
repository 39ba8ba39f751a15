/- Parse, by contract. No condition but the text's size. -/
import Derived.Test.YtncbgonanoihfaaP4
namespace Go.Own
/-- The value of which a text is the bytes. -/
def pa (t : List Nat) : Option A := match rd 8 t with
  | some (a, []) => some a
  | _ => none
theorem pa_pr {a : A} (h : er a 0 = 0) (ho : okA a) : pa (pr a) = some a := by
  have h1 := rd_pr a 0 (by omega) h ho []
  rw [List.append_nil] at h1
  rw [pa, h1]
theorem pa_was {t : List Nat} (hb : ∀ c ∈ t, c < 256) {a : A} (h : pa t = some a) : t = pr a ∧ er a 0 = 0 ∧ okA a := by
  unfold pa at h
  split at h
  · rename_i b hb2
    cases h
    have hw := pr_rd 8 (by omega) t hb a [] hb2
    exact ⟨by simpa using hw.text, hw.fine, hw.ok⟩
  · cases h
end Go.Own
namespace Go.Proofs.Ytncbgonanoihfaa
open Go.RowKit Go.Own
/-- What Parse answers. -/
def ParseQ (r : Option A) (w : World) (e : Ending) (w' : World) : Prop :=
  (∃ a v, r = some a ∧ e = .returned (.tuple #[v, .int .i64 0]) ∧ Has w' v a ∧ Below w.heap.size w w') ∨ (r = none ∧ e = .returned (.tuple #[.nilIface, .int .i64 2]) ∧ Below w.heap.size w w')
theorem below_but {w w1 : World} {o : Obj} (h : (w.alloc o).grownBy w1 (some w.heap.size)) : Below w.heap.size w w1 := by
  have hs := h.size
  simp at hs
  refine ⟨h.os, h.tape, h.output, by omega, fun k hk => ?_⟩
  rw [h.block k (by simp; omega) (fun e => by have := Option.some.inj e; omega)]
  exact ((Below.refl w.heap.size w).alloc (Nat.le_refl _) o).block k hk
theorem below_box {w w1 w2 : World} {B : Nat} (h : Below B w w1) (hg : w1.grownBy w2 (some B)) (hB : B ≤ w1.heap.size) : Below B w w2 :=
  h.grown hg hB (fun k hk => by have := Option.some.inj hk; omega)
set_option maxRecDepth 100000 in
set_option maxHeartbeats 1000000 in
theorem parse_any (t : List Nat) (hb : ∀ c ∈ t, c < 256) (w : World) : Calls Try.prog 12 #[.string (mkS t)] w (ParseQ (pa t) w) := by
  have HR := Lib.hid (read_any 8 (by omega) t w.heap.size (w.alloc (.cells #[.string (mkS t)] 9)) 0 hb (by omega) (box_new w _))
  have HPA : Hid (pa t = match rd 8 t with
    | some (a, []) => some a
    | _ => none) := Lib.hid rfl
  obtain ⟨p, hp⟩ : ∃ p, pa t = p := ⟨_, rfl⟩
  obtain ⟨r, hr⟩ : ∃ r, rd 8 t = r := ⟨_, rfl⟩
  rw [hr] at HR HPA
  rw [hp] at HPA ⊢
  obtain ⟨q, hq⟩ : ∃ q, mkS t = q := ⟨_, rfl⟩
  rw [hq] at HR ⊢
  clear hb hp hr hq
  go_enter Try.func12, Try.ntmps12
  go_wp2_with fail
  refine (taker_any q w).mono ?_
  rintro e w' ⟨rfl, rfl⟩
  go_wp2_with (go_at_call 28; fail)
  refine HR.out.mono ?_
  intro e w2 hrq
  rcases hrq with ⟨a, t', v, rfl, rfl, hv, hb2, hg2⟩ | ⟨rfl, v, s, rfl, hb2, hg2⟩
  · have HV := Lib.hid hv.has
    have hbl2 := below_but hg2
    have hz2 : w.heap.size ≤ w2.heap.size := hbl2.size
    cases t' with
    | nil =>
      have HT := Lib.hid (take_no w.heap.size 1 (mkS []) (by rw [mkS_size]; exact Nat.zero_lt_one) w2 hb2)
      have HP : Hid (p = some a) := HPA
      have HBL := Lib.hid hbl2
      clear hv hb2 hg2 hbl2
      go_wp2_with (go_at_call 40; fail)
      refine HT.out.mono ?_
      rintro e w3 ⟨rfl, rfl⟩
      go_wp2
      go_ret2
      exact Or.inl ⟨a, v, HP.out, rfl, HV.out, HBL.out⟩
    | cons c t' =>
      have HT := Lib.hid (take_ok w.heap.size 1 (c :: t') (by simp) w2 hb2)
      have HP : Hid (p = none) := HPA
      have HBL := Lib.hid hbl2
      clear hv hb2 hg2 hbl2
      go_wp2_with (go_at_call 40; fail)
      refine HT.out.mono ?_
      rintro e w3 ⟨rfl, hb3, hg3⟩
      have HB3 := Lib.hid (below_box HBL.out hg3 hz2)
      clear hb3 hg3
      go_wp2
      go_ret2
      exact Or.inr ⟨HP.out, rfl, HB3.out⟩
  · have HP : Hid (p = none) := HPA
    have HBL := Lib.hid (below_but hg2)
    have hz2 : w.heap.size ≤ w2.heap.size := HBL.out.size
    by_cases h1 : s.size < 1
    · have HT := Lib.hid (take_no w.heap.size 1 s h1 w2 hb2)
      clear hb2 hg2 h1
      go_wp2_with (go_at_call 40; fail)
      refine HT.out.mono ?_
      rintro e w3 ⟨rfl, rfl⟩
      go_wp2
      go_ret2
      exact Or.inr ⟨HP.out, rfl, HBL.out⟩
    · have HT := Lib.hid (take_yes w.heap.size 1 s (by omega) w2 hb2)
      clear hb2 hg2 h1
      go_wp2_with (go_at_call 40; fail)
      refine HT.out.mono ?_
      rintro e w3 ⟨rfl, hb3, hg3⟩
      have HB3 := Lib.hid (below_box HBL.out hg3 hz2)
      clear hb3 hg3
      go_wp2
      go_ret2
      exact Or.inr ⟨HP.out, rfl, HB3.out⟩
end Go.Proofs.Ytncbgonanoihfaa

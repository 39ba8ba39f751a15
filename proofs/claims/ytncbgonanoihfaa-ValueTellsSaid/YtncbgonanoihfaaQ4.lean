/- A list within a value; Same; MustText of a text: by contract. No condition but the sizes. -/
import Derived.Test.YtncbgonanoihfaaQ3
namespace Go.Proofs.Ytncbgonanoihfaa
open Go.RowKit Go.Own
def GotL (r : List A × Int) (w : World) (e : Ending) (w' : World) : Prop := ∃ sl, e = .returned (.tuple #[sl, .int .i64 r.2]) ∧ Has w (.iface 48 sl) (.list r.1) ∧ w = w'
theorem fList_other {a : A} (h : ∀ l, a ≠ .list l) : fList (0, a) = ([], 9) := by
  cases a with
  | list l => exact absurd rfl (h l)
  | _ => rfl
set_option maxRecDepth 100000 in
set_option maxHeartbeats 1000000 in
theorem found_list (a : A) (zs : List Int) (v vz : Value) (w : World) (hv : Has w v a) (hz : Ints w vz zs) : Calls Try.prog 33 #[v, vz] w (GotL (fList (cm a zs)) w) := by
  have HC := Lib.hid (come_any a zs v vz w hv hz)
  obtain ⟨⟨c, x⟩, hq⟩ : ∃ q, cm a zs = q := ⟨_, rfl⟩
  rw [hq] at HC ⊢
  clear hq hv hz
  by_cases h0 : c = 0
  · subst h0
    go_enter Try.func33, Try.ntmps33
    go_wp2_with (go_at_call 44; fail)
    refine HC.out.mono ?_
    rintro e w' ⟨v2, rfl, hx, rfl⟩
    rcases a_cases x with hnl | ⟨l, rfl⟩
    · have HE := Lib.hid (fList_other hnl)
      have hsh := no_list hx hnl
      clear hx hnl
      rcases hsh with ⟨ty, u, rfl, rfl | rfl | rfl | rfl⟩ | rfl
      all_goals
        go_wp2
        go_ret2
        rw [HE.out]
        exact ⟨_, rfl, .nil, rfl⟩
    · have HX := Lib.hid hx
      obtain ⟨p2, c2, hp2⟩ := AAt.parts hx
      obtain ⟨heq2, _, _⟩ := hp2
      subst heq2
      clear hx
      go_wp2
      go_ret2
      exact ⟨_, rfl, HX.out, rfl⟩
  · have e1 : (c == 0) = false := by simp [h0]
    have e2 : (c != 0) = true := by simp [h0]
    have HF : Hid (fList (c, x) = ([], c)) := Lib.hid (if_neg h0)
    clear h0
    go_enter Try.func33, Try.ntmps33
    go_wp2_with (go_at_call 44; fail)
    refine HC.out.mono ?_
    rintro e w' ⟨v2, rfl, hx, rfl⟩
    clear hx
    go_wp2
    go_ret2
    rw [HF.out]
    exact ⟨_, rfl, .nil, rfl⟩
/-- What List answers. -/
def ListQ (r : List A × Int) (w : World) (e : Ending) (w' : World) : Prop :=
  ∃ p c, e = .returned (.tuple #[.slice p r.1.length c, .int .i64 r.2]) ∧ AAt w' (fun b => w.heap.size ≤ b) (.iface 48 (.slice p r.1.length c)) (.list r.1) ∧ Below w.heap.size w w'
theorem sm_fList {q : Int × A} (h : smA q.2) : smA (.list (fList q).1) := by
  unfold fList
  split
  · split
    · rename_i l hl; rw [hl] at h; exact h
    · exact ⟨by simp, trivial⟩
  · exact ⟨by simp, trivial⟩
set_option maxRecDepth 100000 in
set_option maxHeartbeats 1000000 in
theorem list_any (a : A) (zs : List Int) (v vz : Value) (w : World) (hs : smA a) (hv : Has w v a) (hz : Ints w vz zs) : Calls Try.prog 21 #[v, vz] w (ListQ (fList (cm a zs)) w) := by
  have HC := Lib.hid (found_list a zs v vz w hv hz)
  have HS := Lib.hid (sm_fList (sm_cm zs a hs))
  obtain ⟨⟨l, c⟩, hq⟩ : ∃ q, fList (cm a zs) = q := ⟨_, rfl⟩
  rw [hq] at HC HS ⊢
  have HCP := Lib.hid (fun v w hv => copied_any (.list l) HS.out l rfl v w hv)
  obtain ⟨n, hn⟩ : ∃ n, l.length = n := ⟨_, rfl⟩
  have HPOST : Hid (∀ e w', (∃ p d, e = .returned (.tuple #[.slice p n d, .int .i64 c]) ∧ AAt w' (fun b => w.heap.size ≤ b) (.iface 48 (.slice p n d)) (.list l) ∧ Below w.heap.size w w') → ListQ (l, c) w e w') := Lib.hid (fun e w' h => by unfold ListQ; simp only; rw [hn]; exact h)
  unfold CopyQ at HCP
  rw [hn] at HCP
  clear hq hv hz hs hn
  go_enter Try.func21, Try.ntmps21
  go_wp2_with (go_at_call 33; fail)
  refine HC.out.mono ?_
  rintro e w' ⟨sl, rfl, hx, rfl⟩
  have HX := Lib.hid hx
  clear hx
  go_wp2_with (go_at_call 34; fail)
  refine (HCP.out _ _ HX.out).mono ?_
  rintro e w2 ⟨p, d, rfl, hv2, hb2⟩
  have HV2 := Lib.hid hv2
  have HB2 := Lib.hid hb2
  clear hv2 hb2
  go_wp2
  go_ret2
  exact HPOST.out _ _ ⟨p, d, rfl, HV2.out, HB2.out⟩
theorem str_ff {a b : ByteArray} (h : a ≠ b) : (a.toList == b.toList) = false := by
  rw [ByteArray.toList_eq, ByteArray.toList_eq]
  exact beq_eq_false_iff_ne.2 fun e => h (ByteArray.ext (Array.toList_inj.1 e))
/-- Have both bytes, and the same? -/
noncomputable def sameB (a b : A) : Bool := decide (er a 0 = 0) && decide (er b 0 = 0) && decide (prt a = prt b)
def SameQ (r : Bool) (w : World) (e : Ending) (w' : World) : Prop := e = .returned (.bool r) ∧ Below w.heap.size w w'
set_option maxRecDepth 100000 in
set_option maxHeartbeats 1000000 in
theorem same_any (a b : A) (v u : Value) (w : World) (hv : Has w v a) (hu : Has w u b) (ha : sz a 0 ≤ 140737488355328) (hb : sz b 0 ≤ 140737488355328) : Calls Try.prog 23 #[v, u] w (SameQ (sameB a b) w) := by
  have HA := Lib.hid (print_any a v w hv ha)
  have HB := Lib.hid (fun W (h : Below w.heap.size w W) => print_any b u W (hu.below h) hb)
  have hcs : (er a 0 ≠ 0 ∧ sameB a b = false) ∨ (er a 0 = 0 ∧ er b 0 ≠ 0 ∧ sameB a b = false) ∨ (er a 0 = 0 ∧ er b 0 = 0 ∧ prt a ≠ prt b ∧ sameB a b = false) ∨ (er a 0 = 0 ∧ er b 0 = 0 ∧ prt a = prt b ∧ sameB a b = true) := by
    unfold sameB
    by_cases h1 : er a 0 = 0
    · by_cases h2 : er b 0 = 0
      · by_cases h3 : prt a = prt b
        · exact Or.inr (Or.inr (Or.inr ⟨h1, h2, h3, by simp [h1, h2, h3]⟩))
        · exact Or.inr (Or.inr (Or.inl ⟨h1, h2, h3, by simp [h3]⟩))
      · exact Or.inr (Or.inl ⟨h1, h2, by simp [h2]⟩)
    · exact Or.inl ⟨h1, by simp [h1]⟩
  unfold PrintQ at HA HB
  obtain ⟨c, hc⟩ : ∃ c, er a 0 = c := ⟨_, rfl⟩
  obtain ⟨d, hd⟩ : ∃ d, er b 0 = d := ⟨_, rfl⟩
  obtain ⟨s, hs⟩ : ∃ s, prt a = s := ⟨_, rfl⟩
  obtain ⟨t, ht⟩ : ∃ t, prt b = t := ⟨_, rfl⟩
  obtain ⟨r, hr⟩ : ∃ r, sameB a b = r := ⟨_, rfl⟩
  rw [hc, hs] at HA
  rw [hd, ht] at HB
  rw [hc, hd, hs, ht, hr] at hcs
  rw [hr]
  clear hc hd hs ht hr hv hu ha hb
  have fin : ∀ (e : Ending) (W : World), e = .returned (.bool r) → Below w.heap.size w W → SameQ r w e W := fun e W h1 h2 => ⟨h1, h2⟩
  have HF := Lib.hid fin
  clear fin
  rcases hcs with ⟨h1, rfl⟩ | ⟨rfl, h2, rfl⟩ | ⟨rfl, rfl, h3, rfl⟩ | ⟨rfl, rfl, rfl, rfl⟩
  · have e1 : (c == 0) = false := by simp [h1]
    clear h1
    go_enter Try.func23, Try.ntmps23
    go_wp2_with (go_at_call 9; fail)
    refine HA.out.mono ?_
    rintro e w1 ⟨rfl, hb1⟩
    have HB1 := Lib.hid hb1
    clear hb1
    go_wp2_with (go_at_call 9; fail)
    refine (HB.out _ HB1.out).mono ?_
    rintro e w2 ⟨rfl, hb2⟩
    have HB2 := Lib.hid (HB1.out.trans (hb2.mono HB1.out.size))
    clear hb2
    go_wp2
    go_ret
    exact HF.out _ _ rfl HB2.out
  · have e1 : (d == 0) = false := by simp [h2]
    clear h2
    go_enter Try.func23, Try.ntmps23
    go_wp2_with (go_at_call 9; fail)
    refine HA.out.mono ?_
    rintro e w1 ⟨rfl, hb1⟩
    have HB1 := Lib.hid hb1
    clear hb1
    go_wp2_with (go_at_call 9; fail)
    refine (HB.out _ HB1.out).mono ?_
    rintro e w2 ⟨rfl, hb2⟩
    have HB2 := Lib.hid (HB1.out.trans (hb2.mono HB1.out.size))
    clear hb2
    go_wp2
    go_ret
    exact HF.out _ _ rfl HB2.out
  · have e1 := str_ff h3
    clear h3
    go_enter Try.func23, Try.ntmps23
    go_wp2_with (go_at_call 9; fail)
    refine HA.out.mono ?_
    rintro e w1 ⟨rfl, hb1⟩
    have HB1 := Lib.hid hb1
    clear hb1
    go_wp2_with (go_at_call 9; fail)
    refine (HB.out _ HB1.out).mono ?_
    rintro e w2 ⟨rfl, hb2⟩
    have HB2 := Lib.hid (HB1.out.trans (hb2.mono HB1.out.size))
    clear hb2
    go_wp2
    go_ret
    exact HF.out _ _ rfl HB2.out
  · go_enter Try.func23, Try.ntmps23
    go_wp2_with (go_at_call 9; fail)
    refine HA.out.mono ?_
    rintro e w1 ⟨rfl, hb1⟩
    have HB1 := Lib.hid hb1
    clear hb1
    go_wp2_with (go_at_call 9; fail)
    refine (HB.out _ HB1.out).mono ?_
    rintro e w2 ⟨rfl, hb2⟩
    have HB2 := Lib.hid (HB1.out.trans (hb2.mono HB1.out.size))
    clear hb2
    go_wp2
    go_ret
    exact HF.out _ _ rfl HB2.out
end Go.Proofs.Ytncbgonanoihfaa

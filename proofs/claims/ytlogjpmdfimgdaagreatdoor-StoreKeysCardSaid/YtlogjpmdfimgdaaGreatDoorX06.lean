/- A list within a value; Same; MustText of a text: by contract. No condition but the sizes. | What a change does, told by its list (store's readOne), and doing it: by contract. No condition but the keys' sizes. | Doing a change to a map: by contract. No condition but the sizes. -/
import Derived.Test.YtlogjpmdfimgdaaGreatDoorX05
import Derived.Test.YtlogjpmdfimgdaaGreatDoorX03
import Derived.Test.YtlogjpmdfimgdaaGreatDoorX04
import Derived.StillTail
import Derived.StillTailTactics
namespace Go.Proofs.YtlogjpmdfimgdaaGreatDoor
open Go.RowKit Go.Own
def GotL (r : List A × Int) (w : World) (e : Ending) (w' : World) : Prop := ∃ sl, e = .returned (.tuple #[sl, .int .i64 r.2]) ∧ Has w (.iface 67 sl) (.list r.1) ∧ w = w'
theorem fList_other {a : A} (h : ∀ l, a ≠ .list l) : fList (0, a) = ([], 9) := by
  cases a with
  | list l => exact absurd rfl (h l)
  | _ => rfl
set_option maxRecDepth 100000 in
set_option maxHeartbeats 1000000 in
theorem found_list (a : A) (zs : List Int) (v vz : Value) (w : World) (hv : Has w v a) (hz : Ints w vz zs) : Calls Tryz.prog 65 #[v, vz] w (GotL (fList (cm a zs)) w) := by
  have HC := Lib.hid (come_any a zs v vz w hv hz)
  obtain ⟨⟨c, x⟩, hq⟩ : ∃ q, cm a zs = q := ⟨_, rfl⟩
  rw [hq] at HC ⊢
  clear hq hv hz
  by_cases h0 : c = 0
  · subst h0
    go_enter Tryz.func65, Tryz.ntmps65
    go_wp2_with (go_at_call 91; fail)
    refine HC.out.mono ?_
    rintro e w' ⟨v2, rfl, hx, rfl⟩
    rcases a_cases x with hnl | ⟨l, rfl⟩
    · have HE := Lib.hid (fList_other hnl)
      have hsh := no_list hx hnl
      clear hx hnl
      rcases hsh with ⟨ty, u, rfl, rfl | rfl | rfl | rfl⟩ | rfl
      all_goals
        go_wp2
        go_ret2
        rw [HE.out]
        exact ⟨_, rfl, .nil, rfl⟩
    · have HX := Lib.hid hx
      obtain ⟨p2, c2, hp2⟩ := AAt.parts hx
      obtain ⟨heq2, _, _⟩ := hp2
      subst heq2
      clear hx
      go_wp2
      go_ret2
      exact ⟨_, rfl, HX.out, rfl⟩
  · have e1 : (c == 0) = false := by simp [h0]
    have e2 : (c != 0) = true := by simp [h0]
    have HF : Hid (fList (c, x) = ([], c)) := Lib.hid (if_neg h0)
    clear h0
    go_enter Tryz.func65, Tryz.ntmps65
    go_wp2_with (go_at_call 91; fail)
    refine HC.out.mono ?_
    rintro e w' ⟨v2, rfl, hx, rfl⟩
    clear hx
    go_wp2
    go_ret2
    rw [HF.out]
    exact ⟨_, rfl, .nil, rfl⟩
/-- What List answers. -/
def ListQ (r : List A × Int) (w : World) (e : Ending) (w' : World) : Prop :=
  ∃ p c, e = .returned (.tuple #[.slice p r.1.length c, .int .i64 r.2]) ∧ AAt w' (fun b => w.heap.size ≤ b) (.iface 67 (.slice p r.1.length c)) (.list r.1) ∧ Below w.heap.size w w'
theorem sm_fList {q : Int × A} (h : smA q.2) : smA (.list (fList q).1) := by
  unfold fList
  split
  · split
    · rename_i l hl; rw [hl] at h; exact h
    · exact ⟨by simp, trivial⟩
  · exact ⟨by simp, trivial⟩
set_option maxRecDepth 100000 in
set_option maxHeartbeats 1000000 in
theorem list_any (a : A) (zs : List Int) (v vz : Value) (w : World) (hs : smA a) (hv : Has w v a) (hz : Ints w vz zs) : Calls Tryz.prog 38 #[v, vz] w (ListQ (fList (cm a zs)) w) := by
  have HC := Lib.hid (found_list a zs v vz w hv hz)
  have HS := Lib.hid (sm_fList (sm_cm zs a hs))
  obtain ⟨⟨l, c⟩, hq⟩ : ∃ q, fList (cm a zs) = q := ⟨_, rfl⟩
  rw [hq] at HC HS ⊢
  have HCP := Lib.hid (fun v w hv => copied_any (.list l) HS.out l rfl v w hv)
  obtain ⟨n, hn⟩ : ∃ n, l.length = n := ⟨_, rfl⟩
  have HPOST : Hid (∀ e w', (∃ p d, e = .returned (.tuple #[.slice p n d, .int .i64 c]) ∧ AAt w' (fun b => w.heap.size ≤ b) (.iface 67 (.slice p n d)) (.list l) ∧ Below w.heap.size w w') → ListQ (l, c) w e w') := Lib.hid (fun e w' h => by unfold ListQ; simp only; rw [hn]; exact h)
  unfold CopyQ at HCP
  rw [hn] at HCP
  clear hq hv hz hs hn
  go_enter Tryz.func38, Tryz.ntmps38
  go_wp2_with (go_at_call 65; fail)
  refine HC.out.mono ?_
  rintro e w' ⟨sl, rfl, hx, rfl⟩
  have HX := Lib.hid hx
  clear hx
  go_wp2_with (go_at_call 66; fail)
  refine (HCP.out _ _ HX.out).mono ?_
  rintro e w2 ⟨p, d, rfl, hv2, hb2⟩
  have HV2 := Lib.hid hv2
  have HB2 := Lib.hid hb2
  clear hv2 hb2
  go_wp2
  go_ret2
  exact HPOST.out _ _ ⟨p, d, rfl, HV2.out, HB2.out⟩
theorem str_ff {a b : ByteArray} (h : a ≠ b) : (a.toList == b.toList) = false := by
  rw [ByteArray.toList_eq, ByteArray.toList_eq]
  exact beq_eq_false_iff_ne.2 fun e => h (ByteArray.ext (Array.toList_inj.1 e))
/-- Have both bytes, and the same? -/
noncomputable def sameB (a b : A) : Bool := decide (er a 0 = 0) && decide (er b 0 = 0) && decide (prt a = prt b)
def SameQ (r : Bool) (w : World) (e : Ending) (w' : World) : Prop := e = .returned (.bool r) ∧ Below w.heap.size w w'
set_option maxRecDepth 100000 in
set_option maxHeartbeats 1000000 in
theorem same_any (a b : A) (v u : Value) (w : World) (hv : Has w v a) (hu : Has w u b) (ha : sz a 0 ≤ 140737488355328) (hb : sz b 0 ≤ 140737488355328) : Calls Tryz.prog 19 #[v, u] w (SameQ (sameB a b) w) := by
  have HA := Lib.hid (print_any a v w hv ha)
  have HB := Lib.hid (fun W (h : Below w.heap.size w W) => print_any b u W (hu.below h) hb)
  have hcs : (er a 0 ≠ 0 ∧ sameB a b = false) ∨ (er a 0 = 0 ∧ er b 0 ≠ 0 ∧ sameB a b = false) ∨ (er a 0 = 0 ∧ er b 0 = 0 ∧ prt a ≠ prt b ∧ sameB a b = false) ∨ (er a 0 = 0 ∧ er b 0 = 0 ∧ prt a = prt b ∧ sameB a b = true) := by
    unfold sameB
    by_cases h1 : er a 0 = 0
    · by_cases h2 : er b 0 = 0
      · by_cases h3 : prt a = prt b
        · exact Or.inr (Or.inr (Or.inr ⟨h1, h2, h3, by simp [h1, h2, h3]⟩))
        · exact Or.inr (Or.inr (Or.inl ⟨h1, h2, h3, by simp [h3]⟩))
      · exact Or.inr (Or.inl ⟨h1, h2, by simp [h2]⟩)
    · exact Or.inl ⟨h1, by simp [h1]⟩
  unfold PrintQ at HA HB
  obtain ⟨c, hc⟩ : ∃ c, er a 0 = c := ⟨_, rfl⟩
  obtain ⟨d, hd⟩ : ∃ d, er b 0 = d := ⟨_, rfl⟩
  obtain ⟨s, hs⟩ : ∃ s, prt a = s := ⟨_, rfl⟩
  obtain ⟨t, ht⟩ : ∃ t, prt b = t := ⟨_, rfl⟩
  obtain ⟨r, hr⟩ : ∃ r, sameB a b = r := ⟨_, rfl⟩
  rw [hc, hs] at HA
  rw [hd, ht] at HB
  rw [hc, hd, hs, ht, hr] at hcs
  rw [hr]
  clear hc hd hs ht hr hv hu ha hb
  have fin : ∀ (e : Ending) (W : World), e = .returned (.bool r) → Below w.heap.size w W → SameQ r w e W := fun e W h1 h2 => ⟨h1, h2⟩
  have HF := Lib.hid fin
  clear fin
  rcases hcs with ⟨h1, rfl⟩ | ⟨rfl, h2, rfl⟩ | ⟨rfl, rfl, h3, rfl⟩ | ⟨rfl, rfl, rfl, rfl⟩
  · have e1 : (c == 0) = false := by simp [h1]
    clear h1
    go_enter Tryz.func19, Tryz.ntmps19
    go_wp2_with (go_at_call 39; fail)
    refine HA.out.mono ?_
    rintro e w1 ⟨rfl, hb1⟩
    have HB1 := Lib.hid hb1
    clear hb1
    go_wp2_with (go_at_call 39; fail)
    refine (HB.out _ HB1.out).mono ?_
    rintro e w2 ⟨rfl, hb2⟩
    have HB2 := Lib.hid (HB1.out.trans (hb2.mono HB1.out.size))
    clear hb2
    go_wp2
    go_ret
    exact HF.out _ _ rfl HB2.out
  · have e1 : (d == 0) = false := by simp [h2]
    clear h2
    go_enter Tryz.func19, Tryz.ntmps19
    go_wp2_with (go_at_call 39; fail)
    refine HA.out.mono ?_
    rintro e w1 ⟨rfl, hb1⟩
    have HB1 := Lib.hid hb1
    clear hb1
    go_wp2_with (go_at_call 39; fail)
    refine (HB.out _ HB1.out).mono ?_
    rintro e w2 ⟨rfl, hb2⟩
    have HB2 := Lib.hid (HB1.out.trans (hb2.mono HB1.out.size))
    clear hb2
    go_wp2
    go_ret
    exact HF.out _ _ rfl HB2.out
  · have e1 := str_ff h3
    clear h3
    go_enter Tryz.func19, Tryz.ntmps19
    go_wp2_with (go_at_call 39; fail)
    refine HA.out.mono ?_
    rintro e w1 ⟨rfl, hb1⟩
    have HB1 := Lib.hid hb1
    clear hb1
    go_wp2_with (go_at_call 39; fail)
    refine (HB.out _ HB1.out).mono ?_
    rintro e w2 ⟨rfl, hb2⟩
    have HB2 := Lib.hid (HB1.out.trans (hb2.mono HB1.out.size))
    clear hb2
    go_wp2
    go_ret
    exact HF.out _ _ rfl HB2.out
  · go_enter Tryz.func19, Tryz.ntmps19
    go_wp2_with (go_at_call 39; fail)
    refine HA.out.mono ?_
    rintro e w1 ⟨rfl, hb1⟩
    have HB1 := Lib.hid hb1
    clear hb1
    go_wp2_with (go_at_call 39; fail)
    refine (HB.out _ HB1.out).mono ?_
    rintro e w2 ⟨rfl, hb2⟩
    have HB2 := Lib.hid (HB1.out.trans (hb2.mono HB1.out.size))
    clear hb2
    go_wp2
    go_ret
    exact HF.out _ _ rfl HB2.out
end Go.Proofs.YtlogjpmdfimgdaaGreatDoor
namespace Go.Own
/-- A change: of a key, gone or not. -/
abbrev Ch := ByteArray × Option A
def chOf : A → Option Ch
  | .list [.str k] => some (k, none)
  | .list [.str k, v] => some (k, some v)
  | _ => none
end Go.Own
namespace Go.Proofs.YtlogjpmdfimgdaaGreatDoor
open Go.RowKit Go.Own Go.Maps Go.WideMaps
/-- The function cv does the change c; what it has lies in blocks of S. -/
def OneAt (w : World) (S : Nat → Prop) (cv : Value) (c : Ch) : Prop :=
  (c.2 = none ∧ ∃ kb, cv = .func (.func 78) #[] #[.pointer (some ⟨kb, 0, none⟩)] ∧ S kb ∧ kb < w.heap.size ∧ w.heap[kb]? = some (.cells #[.string c.1] 9 (0, 0))) ∨
  (∃ a lb kb sb off cap v, c.2 = some a ∧ cv = .func (.func 79) #[] #[.pointer (some ⟨lb, 0, none⟩), .pointer (some ⟨kb, 0, none⟩)] ∧ S kb ∧ S lb ∧ S sb ∧ kb < w.heap.size ∧ lb < w.heap.size ∧ sb < w.heap.size ∧
    w.heap[kb]? = some (.cells #[.string c.1] 9 (0, 0)) ∧ w.heap[lb]? = some (.cells #[.slice (some ⟨sb, off, none⟩) 2 cap] 67 (0, 0)) ∧ w.cell? ⟨sb, off + 1, none⟩ = some v ∧ AAt w S v a)
theorem OneAt.keep {w w' : World} {S T : Nat → Prop} {cv : Value} {c : Ch} (h : OneAt w S cv c) (hT : ∀ b, S b → b < w.heap.size → T b) (hz : w.heap.size ≤ w'.heap.size) (hk : ∀ b, S b → b < w.heap.size → w'.heap[b]? = w.heap[b]?) : OneAt w' T cv c := by
  rcases h with ⟨h0, kb, h1, h2, h3, h4⟩ | ⟨a, lb, kb, sb, off, cap, v, h0, h1, h2, h3, h4, h5, h6, h7, h8, h9, h10, h11⟩
  · exact Or.inl ⟨h0, kb, h1, hT _ h2 h3, by omega, (hk _ h2 h3).trans h4⟩
  · exact Or.inr ⟨a, lb, kb, sb, off, cap, v, h0, h1, hT _ h2 h5, hT _ h3 h6, hT _ h4 h7, by omega, by omega, by omega, (hk _ h2 h5).trans h8, (hk _ h3 h6).trans h9, (World.cell?_of_block (w := w) (hk _ h4 h7)).trans h10, h11.keep hT hz hk⟩
/-- What readOne answers. -/
def ReadOneQ (r : Option Ch) (S : Nat → Prop) (w : World) (e : Ending) (w' : World) : Prop :=
  Below w.heap.size w w' ∧ ((r = none ∧ ∃ v, e = .returned (.tuple #[v, .bool false])) ∨ ∃ c cv, r = some c ∧ e = .returned (.tuple #[cv, .bool true]) ∧ OneAt w' (fun b => S b ∨ w.heap.size ≤ b) cv c)
theorem chOf_none {a : A} (h : ∀ l, a ≠ .list l) : chOf a = none := by
  cases a <;> first | rfl | exact absurd rfl (h _)
set_option maxRecDepth 100000 in
set_option maxHeartbeats 2000000 in
theorem readOne_any (a : A) (S : Nat → Prop) (v : Value) (w : World) (hv : AAt w S v a) : Calls Tryz.prog 54 #[v] w (ReadOneQ (chOf a) S w) := by
  rcases a_cases a with hn | ⟨l, rfl⟩
  · rw [chOf_none hn]
    have hQ : Hid (∀ w', Below w.heap.size w w' → ∀ v, ReadOneQ none S w (.returned (.tuple #[v, .bool false])) w') := Lib.hid fun w' hB v => ⟨hB, Or.inl ⟨rfl, v, rfl⟩⟩
    cases hv
    case list => exact absurd rfl (hn _)
    case nil => exact absurd rfl (hn _)
    all_goals
      clear hn
      go_enter Tryz.func54, Tryz.ntmps54
      go_wp2
      go_ret2
      exact hQ.out _ ((Below.refl _ w).alloc (Nat.le_refl _) _) _
  · have hlist : ∀ r, chOf (.list l) = r → (∀ w', Below w.heap.size w w' → r = none → ∀ v, ReadOneQ (chOf (.list l)) S w (.returned (.tuple #[v, .bool false])) w') := fun r hr w' hB h0 v => by
      rw [hr, h0]
      exact ⟨hB, Or.inl ⟨rfl, v, rfl⟩⟩
    cases hv with
    | nil =>
      have hQ := Lib.hid (hlist none rfl)
      clear hlist
      go_enter Tryz.func54, Tryz.ntmps54
      go_wp2
      go_ret2
      exact hQ.out _ ((Below.refl _ w).alloc (Nat.le_refl _) _) trivial _
    | list b o n cap _ U hn hS hb hle hm hc ha =>
      match l, hn with
      | [], hn =>
        have hQ := Lib.hid (hlist none rfl)
        have hn0 : (n : Int) = 0 := by simp at hn; omega
        clear hlist hc ha
        subst hn
        go_enter Tryz.func54, Tryz.ntmps54
        go_wp2
        go_ret2
        exact hQ.out _ ((Below.refl _ w).alloc (Nat.le_refl _) _) trivial _
      | x :: y :: z :: r, hn =>
        have hQ := Lib.hid (hlist none (by cases x <;> rfl))
        have hn2 : (2 : Int) < (n : Int) := by simp at hn; omega
        have hn1 : ¬ (n : Int) < 1 := by omega
        clear hlist hc ha hn
        go_enter Tryz.func54, Tryz.ntmps54
        go_wp2
        go_ret2
        exact hQ.out _ ((Below.refl _ w).alloc (Nat.le_refl _) _) trivial _
      | [x], hn =>
        have c0 := hc 0 x rfl
        have a0 := ha 0 x rfl
        rw [Nat.add_zero] at c0
        generalize U 0 = u at c0 a0
        have hn1 : (n : Int) = 1 := by simp at hn; omega
        have hb0 : 0 < n := by simp at hn; omega
        clear hc ha hn
        cases a0
        case str k hk =>
          clear hlist
          go_enter Tryz.func54, Tryz.ntmps54
          go_wp2
          go_ret2
          exact ⟨((Below.refl _ w).alloc (Nat.le_refl _) _).alloc (by simp) _, Or.inr ⟨(k, none), _, rfl, rfl, Or.inl ⟨rfl, w.heap.size + 1, rfl, Or.inr (by omega), by simp, by
            have h := heap_alloc_new (w.alloc (Obj.cells #[Value.slice (some { block := b, off := o }) n cap] 67)) (Obj.cells #[Value.string k] 9)
            simpa using h⟩⟩⟩
        all_goals
          have hQ := Lib.hid (hlist none rfl)
          clear hlist
          go_enter Tryz.func54, Tryz.ntmps54
          go_wp2
          go_ret2
          exact hQ.out _ (((Below.refl _ w).alloc (Nat.le_refl _) _).alloc (by simp) _) trivial _
      | [x, y], hn =>
        have c0 := hc 0 x rfl
        have a0 := ha 0 x rfl
        have c1 := hc 1 y rfl
        have a1 := ha 1 y rfl
        rw [Nat.add_zero] at c0
        generalize U 0 = u at c0 a0
        generalize U 1 = u1 at c1 a1
        obtain rfl : n = 2 := by simp at hn; omega
        clear hc ha hn
        cases a0
        case str k hk =>
          clear hlist
          have hB := Lib.hid (((Below.refl _ w).alloc (Nat.le_refl _) (.cells #[.slice (some ⟨b, o, none⟩) 2 cap] 67)).alloc (by simp) (.cells #[.string k] 9))
          have h9 : Hid (((w.alloc (.cells #[.slice (some ⟨b, o, none⟩) 2 cap] 67)).alloc (.cells #[.string k] 9)).heap[w.heap.size + 1]? = some (.cells #[.string k] 9 (0, 0))) := Lib.hid (by
            have h := heap_alloc_new (w.alloc (Obj.cells #[Value.slice (some { block := b, off := o }) 2 cap] 67)) (Obj.cells #[Value.string k] 9)
            simpa using h)
          have h8 : Hid (((w.alloc (.cells #[.slice (some ⟨b, o, none⟩) 2 cap] 67)).alloc (.cells #[.string k] 9)).heap[w.heap.size]? = some (.cells #[.slice (some ⟨b, o, none⟩) 2 cap] 67 (0, 0))) := Lib.hid ((heap_alloc_old _ _ (by simp)).trans (heap_alloc_new w _))
          have hsz : Hid (((w.alloc (.cells #[.slice (some ⟨b, o, none⟩) 2 cap] 67)).alloc (.cells #[.string k] 9)).heap.size = w.heap.size + 2) := Lib.hid (by simp)
          have C1 := Lib.hid c1
          have A1 := Lib.hid a1
          clear c1 a1
          go_enter Tryz.func54, Tryz.ntmps54
          go_wp2
          go_ret2
          refine ⟨hB.out, Or.inr ⟨(k, some y), _, rfl, rfl, Or.inr ⟨y, w.heap.size, w.heap.size + 1, b, o, cap, u1, rfl, rfl, Or.inr (by omega), Or.inr (Nat.le_refl _), Or.inl hS, by rw [hsz.out]; omega, by rw [hsz.out]; omega, by rw [hsz.out]; omega, h9.out, h8.out, ?_, ?_⟩⟩⟩
          · exact (hB.out.cell (p := ⟨b, o + 1, none⟩) hb).trans C1.out
          · exact A1.out.keep (fun _ h _ => Or.inl h) hB.out.size (fun b _ h => hB.out.block b h)
        all_goals
          have hQ := Lib.hid (hlist none rfl)
          clear hlist
          go_enter Tryz.func54, Tryz.ntmps54
          go_wp2
          go_ret2
          exact hQ.out _ (((Below.refl _ w).alloc (Nat.le_refl _) _).alloc (by simp) _) trivial _
end Go.Proofs.YtlogjpmdfimgdaaGreatDoor
namespace Go.Own
/-- A change, to what stands at the keys. -/
def chF (g : ByteArray → Option A) (c : Ch) : ByteArray → Option A := fun t => if t = c.1 then c.2 else g t
end Go.Own
namespace Go.Proofs.YtlogjpmdfimgdaaGreatDoor
open Go.RowKit Go.Own Go.Maps Go.WideMaps
/-- Block b is a map of at most n keys; at each key there stands, as a value, what g says; the values' lists lie in blocks of S. -/
def MapA (w : World) (S : Nat → Prop) (b n : Nat) (g : ByteArray → Option A) : Prop :=
  ¬ S b ∧ ∃ f, MapV w b n f ∧ ∀ s, (f s = none ∧ g s = none) ∨ ∃ v a, f s = some v ∧ g s = some a ∧ AAt w S v a
theorem MapA.keep {w w' : World} {S T : Nat → Prop} {b n : Nat} {g : ByteArray → Option A} (h : MapA w S b n g) (hb : ¬ T b) (hT : ∀ k, S k → k < w.heap.size → T k) (hz : w.heap.size ≤ w'.heap.size) (hk : ∀ k, S k → k < w.heap.size → w'.heap[k]? = w.heap[k]?) (hm : ∀ f, MapV w b n f → MapV w' b n f) : MapA w' T b n g := by
  obtain ⟨_, f, h1, h2⟩ := h
  refine ⟨hb, f, hm f h1, fun s => ?_⟩
  rcases h2 s with h | ⟨v, a, e1, e2, h3⟩
  · exact Or.inl h
  · exact Or.inr ⟨v, a, e1, e2, h3.keep hT hz hk⟩
theorem MapA.below {w w' : World} {S : Nat → Prop} {b n : Nat} {g : ByteArray → Option A} (h : MapA w S b n g) (hB : Below w.heap.size w w') : MapA w' S b n g :=
  h.keep h.1 (fun _ h _ => h) hB.size (fun k _ hk => hB.block k hk) (fun _ hm => hm.below hB)
theorem MapA.lt {w : World} {S : Nat → Prop} {b n : Nat} {g : ByteArray → Option A} (h : MapA w S b n g) : b < w.heap.size := by
  obtain ⟨_, f, h1, _⟩ := h
  exact h1.lt
/-- What doing leaves. -/
def DoneQ (S : Nat → Prop) (b n : Nat) (g : ByteArray → Option A) (w : World) (e : Ending) (w' : World) : Prop :=
  e = .returned (.tuple #[]) ∧ MapA w' S b n g ∧ w.grownBy w' (some b)
theorem done_one {w w' : World} {S : Nat → Prop} {b : Nat} {g : ByteArray → Option A} {f : ByteArray → Option Value} (hS : ¬ S b) (hf : ∀ s, (f s = none ∧ g s = none) ∨ ∃ v a, f s = some v ∧ g s = some a ∧ AAt w S v a) (hg : w.grownBy w' (some b)) {c : Ch} {r : Option Value}
    (hr : (r = none ∧ c.2 = none) ∨ ∃ v a, r = some v ∧ c.2 = some a ∧ AAt w S v a) {m : Nat} (hm : MapV w' b m (fun t => if t = c.1 then r else f t)) : MapA w' S b m (chF g c) := by
  have hk : ∀ k, S k → k < w.heap.size → w'.heap[k]? = w.heap[k]? := fun k hk hlt => hg.block k hlt (fun e => hS (by cases e; exact hk))
  refine ⟨hS, _, hm, fun s => ?_⟩
  unfold chF
  by_cases e : s = c.1
  · rw [if_pos e, if_pos e]
    rcases hr with h | ⟨v, a, e1, e2, h3⟩
    · exact Or.inl h
    · exact Or.inr ⟨v, a, e1, e2, h3.keep (fun _ h _ => h) hg.size hk⟩
  · rw [if_neg e, if_neg e]
    rcases hf s with h | ⟨v, a, e1, e2, h3⟩
    · exact Or.inl h
    · exact Or.inr ⟨v, a, e1, e2, h3.keep (fun _ h _ => h) hg.size hk⟩
set_option maxRecDepth 100000 in
theorem gone_any (k : ByteArray) (hk : k.size ≤ maxLen) (S : Nat → Prop) (b n kb : Nat) (g : ByteArray → Option A) (w : World) (h : MapA w S b n g) (h9 : w.heap[kb]? = some (.cells #[.string k] 9 (0, 0))) :
    Calls Tryz.prog 78 #[.map (some b), .pointer (some ⟨kb, 0, none⟩)] w (DoneQ S b n (chF g (k, none)) w) := by
  obtain ⟨hS, f, h1, h2⟩ := h
  obtain ⟨w', hrun, h3, h4⟩ := h1.del k hk 0
  have hQ : Hid (DoneQ S b n (chF g (k, none)) w (.returned (.tuple #[])) w') := Lib.hid ⟨rfl, done_one hS h2 h4 (Or.inl ⟨rfl, rfl⟩) h3, h4⟩
  have c0 := cell_of_one h9
  clear hS h1 h2 h3 h4 h9
  go_enter Tryz.func78, Tryz.ntmps78
  go_wp2
  go_end0
  exact hQ.out
set_option maxRecDepth 100000 in
theorem given_any (k : ByteArray) (hk : k.size ≤ maxLen) (S : Nat → Prop) (b n lb kb sb off cap : Nat) (v : Value) (a : A) (g : ByteArray → Option A) (w : World) (h : MapA w S b n g) (hn : n < maxLen) (h9 : w.heap[kb]? = some (.cells #[.string k] 9 (0, 0)))
    (h8 : w.heap[lb]? = some (.cells #[.slice (some ⟨sb, off, none⟩) 2 cap] 67 (0, 0))) (hc : w.cell? ⟨sb, off + 1, none⟩ = some v) (ha : AAt w S v a) (_ : v.oneCell' = true) :
    Calls Tryz.prog 79 #[.map (some b), .pointer (some ⟨lb, 0, none⟩), .pointer (some ⟨kb, 0, none⟩)] w (DoneQ S b (n + 1) (chF g (k, some a)) w) := by
  obtain ⟨W, hW⟩ : ∃ W, w.drew = W := ⟨_, rfl⟩
  have hBW : Below w.heap.size w W := by subst hW; exact ⟨rfl, rfl, rfl, Nat.le_refl _, fun _ _ => rfl⟩
  have hHW : W.heap = w.heap := by subst hW; rfl
  have h' := h.below hBW
  obtain ⟨hS, f, h1, h2⟩ := h'
  obtain ⟨w', hrun, h3, h4⟩ := h1.put hn k hk v
  have hQ : Hid (DoneQ S b (n + 1) (chF g (k, some a)) w (.returned (.tuple #[])) w') := Lib.hid ⟨rfl, done_one hS h2 h4 (Or.inr ⟨v, a, rfl, rfl, ha.keep (fun _ h _ => h) hBW.size (fun b _ h => hBW.block b h)⟩) h3,
    ⟨h4.os.trans hBW.os, h4.tape.trans hBW.tape, h4.output.trans hBW.output, by have := h4.size; rw [hHW] at this; exact this, fun i hi hne => (h4.block i (by rw [hHW]; exact hi) hne).trans (by rw [hHW])⟩⟩
  have c0 := cell_of_one (h9.symm ▸ congrArg (·[kb]?) hHW : W.heap[kb]? = some (.cells #[.string k] 9 (0, 0)))
  have c1 := cell_of_one (h8.symm ▸ congrArg (·[lb]?) hHW : W.heap[lb]? = some (.cells #[.slice (some ⟨sb, off, none⟩) 2 cap] 67 (0, 0)))
  have c2 : W.cell? ⟨sb, off + 1, none⟩ = some v := by rw [← hc]; unfold World.cell?; rw [hHW]
  clear hS h1 h2 h3 h4 h9 h8 ha h hBW hHW hc
  go_enter Tryz.func79, Tryz.ntmps79
  go_wp2
  refine wp_region_still_tail 5 (by kernel_rfl) (by kernel_rfl) ?_
  simp only [List.take_succ_cons, List.take_zero, List.drop_succ_cons, List.drop_zero]
  change wpStill _ _ w.drew _ _ _
  rw [hW]
  repeat (first | still_step)
  refine wpStill_nil ?_
  change wpList _ _ _ _ _ w.drew
  rw [hW]
  clear hW
  go_wp2
  go_end0
  exact hQ.out
/-- A change is done by its function. -/
theorem one_any (cv : Value) (c : Ch) (hk : c.1.size ≤ maxLen) (S T : Nat → Prop) (b n : Nat) (g : ByteArray → Option A) (w : World) (h : MapA w S b n g) (hn : n < maxLen) (ho : OneAt w T cv c) (hT : ∀ k, T k → S k) :
    (∃ kb, cv = .func (.func 78) #[] #[.pointer (some ⟨kb, 0, none⟩)] ∧ Calls Tryz.prog 78 #[.map (some b), .pointer (some ⟨kb, 0, none⟩)] w (DoneQ S b (n + 1) (chF g c) w)) ∨
    (∃ lb kb, cv = .func (.func 79) #[] #[.pointer (some ⟨lb, 0, none⟩), .pointer (some ⟨kb, 0, none⟩)] ∧ Calls Tryz.prog 79 #[.map (some b), .pointer (some ⟨lb, 0, none⟩), .pointer (some ⟨kb, 0, none⟩)] w (DoneQ S b (n + 1) (chF g c) w)) := by
  obtain ⟨k, r⟩ := c
  rcases ho with ⟨h0, kb, h1, h2, h3, h4⟩ | ⟨a, lb, kb, sb, off, cap, v, h0, h1, h2, h3, h4, h5, h6, h7, h8, h9, h10, h11⟩
  · simp only at h0
    subst h0
    exact Or.inl ⟨kb, h1, (gone_any k hk S b n kb g w h h4).mono fun e w' ⟨e1, ⟨m1, f, m2, m3⟩, e3⟩ => ⟨e1, ⟨m1, f, m2.mono (Nat.le_succ _), m3⟩, e3⟩⟩
  · simp only at h0
    subst h0
    have h12 := h11.keep (T := S) (fun k hk _ => hT k hk) (Nat.le_refl _) (fun _ _ _ => rfl)
    exact Or.inr ⟨lb, kb, h1, given_any k hk S b n lb kb sb off cap v a g w h hn h8 h9 h10 h12 h12.one⟩
/-- The function cv does the changes cs, one by one. -/
def AllAt (w : World) (T : Nat → Prop) (cv : Value) (cs : List Ch) : Prop :=
  ∃ ab p cap, cv = .func (.func 55) #[] #[.pointer (some ⟨ab, 0, none⟩)] ∧ T ab ∧ ab < w.heap.size ∧ w.heap[ab]? = some (.cells #[.slice p cs.length cap] 125 (0, 0)) ∧ cs.length ≤ cap ∧
    ∀ j c, cs[j]? = some c → ∃ rb off u, p = some ⟨rb, off, none⟩ ∧ T rb ∧ rb < w.heap.size ∧ w.cell? ⟨rb, off + j, none⟩ = some u ∧ OneAt w T u c
theorem AllAt.keep {w w' : World} {S T : Nat → Prop} {cv : Value} {cs : List Ch} (h : AllAt w S cv cs) (hT : ∀ b, S b → b < w.heap.size → T b) (hz : w.heap.size ≤ w'.heap.size) (hk : ∀ b, S b → b < w.heap.size → w'.heap[b]? = w.heap[b]?) : AllAt w' T cv cs := by
  obtain ⟨ab, p, cap, h1, h2, h3, h4, h5, h6⟩ := h
  refine ⟨ab, p, cap, h1, hT _ h2 h3, by omega, (hk _ h2 h3).trans h4, h5, fun j c hc => ?_⟩
  obtain ⟨rb, off, u, e1, e2, e3, e4, e5⟩ := h6 j c hc
  exact ⟨rb, off, u, e1, hT _ e2 e3, by omega, (World.cell?_of_block (w := w) (hk _ e2 e3)).trans e4, e5.keep hT hz hk⟩
theorem foldl_take_succ {α β : Type} (f : β → α → β) (b : β) (l : List α) (j : Nat) (x : α) (h : l[j]? = some x) : (l.take (j + 1)).foldl f b = f ((l.take j).foldl f b) x := by
  rw [List.take_add_one, h, List.foldl_append]
  rfl
set_option maxRecDepth 100000 in
set_option maxHeartbeats 2000000 in
theorem doAll_any (ab : Nat) (cs : List Ch) (hcs : cs.length ≤ 1000) (hk : ∀ c ∈ cs, c.1.size ≤ maxLen) (S T : Nat → Prop) (hTS : ∀ k, T k → S k) (b n : Nat) (hn : n ≤ 1000000) (g : ByteArray → Option A) (w : World) (h : MapA w S b n g) (ha : AllAt w T (.func (.func 55) #[] #[.pointer (some ⟨ab, 0, none⟩)]) cs) :
    Calls Tryz.prog 55 #[.map (some b), .pointer (some ⟨ab, 0, none⟩)] w (DoneQ S b (n + cs.length) (cs.foldl chF g) w) := by
  obtain ⟨ab', p, cap, e0, h2, h3, h4, h5, h6⟩ := ha
  obtain rfl : ab = ab' := by simpa using e0
  have c0 := cell_of_one h4
  have hnb := h.1
  obtain ⟨m, hm⟩ : ∃ m, cs.length = m := ⟨_, rfl⟩
  rw [hm] at c0 h5 hcs
  have H6 := Lib.hid h6
  have HH := Lib.hid h
  have HM := Lib.hid hm
  have hmax : 1001000 ≤ maxLen := by unfold maxLen; omega
  clear e0 h2 h3 h4 h6 h hm
  go_enter Tryz.func55, Tryz.ntmps55
  go_wp2
  go_loopw [7] (fun i wr => ∃ j : Nat, j ≤ m ∧ i = .int .i64 (j : Int) ∧ Hid (MapA wr S b (n + j) ((cs.take j).foldl chF g)) ∧ Hid (w.grownBy wr (some b))) (fun i _ => m - (intOf i).toNat)
  case atStart => exact ⟨0, Nat.zero_le _, rfl, HH, Lib.hid ⟨rfl, rfl, rfl, Nat.le_refl _, fun _ _ _ => rfl⟩⟩
  case round =>
    obtain ⟨j, hj, rfl, hM, hG⟩ := hrel
    by_cases hlt : j < m
    · have hlti : (j : Int) < (m : Int) := by omega
      obtain ⟨c, hc⟩ : ∃ c, cs[j]? = some c := ⟨cs[j]'(by have := HM.out; omega), List.getElem?_eq_getElem _⟩
      obtain ⟨rb, off, u, rfl, e2, e3, e4, e5⟩ := H6.out j c hc
      have hkeep : ∀ k, T k → k < w.heap.size → wr.heap[k]? = w.heap[k]? := fun k hk hlt => hG.out.block k hlt (fun e => by cases e; exact hnb (hTS _ hk))
      have cu : wr.cell? ⟨rb, off + j, none⟩ = some u := (World.cell?_of_block (w := w) (hkeep _ e2 e3)).trans e4
      have hO := e5.keep (T := T) (fun _ h _ => h) hG.out.size hkeep
      have hfold := foldl_take_succ chF g cs j c hc
      have hjl : j < cap := by omega
      clear e4 e5
      rcases one_any u c (hk c (List.mem_of_getElem? hc)) S T b (n + j) _ wr hM.out (by omega) hO hTS with ⟨kb, rfl, hcall⟩ | ⟨lb, kb, rfl, hcall⟩
      all_goals
        rw [← hfold] at hcall
        have hcall := Lib.hid hcall
        clear hfold hO
        go_wp2_with fail
        refine hcall.out.mono ?_
        rintro e w' ⟨rfl, hM2, hG2⟩
        have hM3 := Lib.hid hM2
        have hG3 := Lib.hid (hG.out.andThen hG2 (fun j hj => Or.inr hj))
        clear hM2 hG2 hcall
        go_wp2
        go_roundw
        case rel => exact ⟨j + 1, by omega, by go_num, hM3, hG3⟩
        case measure => simp [intOf]; omega
    · obtain rfl : j = m := by omega
      have hQ : Hid (DoneQ S b (n + cs.length) (cs.foldl chF g) w (.returned (.tuple #[])) wr) := Lib.hid ⟨rfl, by
        have := hM.out
        rw [List.take_of_length_le (by rw [HM.out]; exact Nat.le_refl _)] at this
        rw [HM.out]
        exact this, hG.out⟩
      have hlti : ¬ (j : Int) < (j : Int) := by omega
      go_wp2
      go_end0
      exact hQ.out
end Go.Proofs.YtlogjpmdfimgdaaGreatDoor

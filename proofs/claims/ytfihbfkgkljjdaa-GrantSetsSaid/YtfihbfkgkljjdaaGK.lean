/- GrantSets' own walk. -/
import Derived.Test.YtfihbfkgkljjdaaGI
import Derived.Test.YtfihbfkgkljjdaaGP
import Derived.Test.YtfihbfkgkljjdaaO2
namespace Go.Proofs.Ytfihbfkgkljjdaa
open Go.RowKit Go.Own Go.Maps Go.WideMaps
attribute [-go_sem] run_string_add_if
set_option maxRecDepth 100000 in
set_option maxHeartbeats 4000000 in
theorem sets_few (g : Gr) (sg : sane g) (x : List P2) (hx : x.length ≤ 9223372036854775807) (hxs : ∀ y ∈ x, y.1.size ≤ 9223372036854775807 ∧ y.2.size ≤ 9223372036854775807) (q : Option Addr) (qcap : Nat) (op : Int) (own : ByteArray) (vg : Value) (w : World) (hg : GrAt w vg g) (hq : PsC w (.slice q x.length qcap) x) (h : fewG g = false ∨ fewB x = false) :
    Calls Try.prog 5 #[vg, .slice q x.length qcap, .int .i64 op, .string own] w fun e w' => e = .returned (.bool true) ∧ Below w.heap.size w w' := by
  have HAW := Lib.hid (fun W => awake_any W)
  have HF1 := Lib.hid (fun W h => fewG_any g sg vg W h)
  have HF4 := Lib.hid (fun W h => few_any x q qcap hx hxs W h)
  have HGA := Lib.hid hg
  have HQ := Lib.hid hq
  obtain ⟨pa, ca, rfl, _⟩ := hg
  obtain ⟨fa, hfa⟩ : ∃ f, fewG g = f := ⟨_, rfl⟩
  obtain ⟨fx, hfx⟩ : ∃ f, fewB x = f := ⟨_, rfl⟩
  rw [hfa, hfx] at h
  rw [hfa] at HF1
  rw [hfx] at HF4
  have HS := Lib.hid (And.intro (Bx.new w g (.slice pa g.need.length ca) 29) ((Below.refl w.heap.size w).alloc (Nat.le_refl _) (.cells #[.int .i64 g.id, .string g.who, .string g.ret, .int .i64 g.ops, .slice pa g.need.length ca, .bool g.eq] 29)))
  obtain ⟨ia, wa, ra1, oa, na, ea⟩ := g
  simp only [grV] at HF1 HF4 HGA HS ⊢
  obtain ⟨la, hla⟩ : ∃ n, na.length = n := ⟨_, rfl⟩
  obtain ⟨lx, hlx⟩ : ∃ n, x.length = n := ⟨_, rfl⟩
  simp only [hla, hlx] at HF1 HF4 HGA HS HQ ⊢
  clear sg hx hxs hq hla hlx hfa hfx
  cases fa
  ·
    go_enter Try.func5, Try.ntmps5
    go_wp2_with fail
    refine (HAW.out _).mono ?_
    rintro e w1 ⟨rfl, hw⟩
    replace HS := Lib.hid (And.intro (HS.out.1.below hw) (HS.out.2.trans (hw.mono HS.out.2.size)))
    clear hw
    obtain ⟨c0, c1, c2, c3, c4, c5⟩ := HS.out.1
    dsimp only at c0 c1 c2 c3 c4 c5
    go_wp2_with fail
    refine (HF1.out _ (HGA.out.below HS.out.2)).mono ?_
    rintro e w2 ⟨rfl, hw⟩
    clear c0 c1 c2 c3 c4 c5
    replace HS := Lib.hid (And.intro (HS.out.1.below hw) (HS.out.2.trans (hw.mono HS.out.2.size)))
    clear hw
    obtain ⟨c0, c1, c2, c3, c4, c5⟩ := HS.out.1
    dsimp only at c0 c1 c2 c3 c4 c5
    go_wp2
    go_ret
    exact ⟨rfl, HS.out.2⟩
  cases fx
  ·
    go_enter Try.func5, Try.ntmps5
    go_wp2_with fail
    refine (HAW.out _).mono ?_
    rintro e w1 ⟨rfl, hw⟩
    replace HS := Lib.hid (And.intro (HS.out.1.below hw) (HS.out.2.trans (hw.mono HS.out.2.size)))
    clear hw
    obtain ⟨c0, c1, c2, c3, c4, c5⟩ := HS.out.1
    dsimp only at c0 c1 c2 c3 c4 c5
    go_wp2_with fail
    refine (HF1.out _ (HGA.out.below HS.out.2)).mono ?_
    rintro e w2 ⟨rfl, hw⟩
    clear c0 c1 c2 c3 c4 c5
    replace HS := Lib.hid (And.intro (HS.out.1.below hw) (HS.out.2.trans (hw.mono HS.out.2.size)))
    clear hw
    obtain ⟨c0, c1, c2, c3, c4, c5⟩ := HS.out.1
    dsimp only at c0 c1 c2 c3 c4 c5
    go_wp2_with fail
    refine (HF4.out _ (HQ.out.below HS.out.2)).mono ?_
    rintro e w3 ⟨rfl, hw⟩
    cases hw
    go_wp2
    go_ret
    exact ⟨rfl, HS.out.2⟩
  · simp at h
set_option maxRecDepth 100000 in
set_option maxHeartbeats 4000000 in
theorem sets_skip (g : Gr) (sg : sane g) (x : List P2) (hx : x.length ≤ 9223372036854775807) (hxs : ∀ y ∈ x, y.1.size ≤ 9223372036854775807 ∧ y.2.size ≤ 9223372036854775807) (q : Option Addr) (qcap : Nat) (op : Int) (own : ByteArray) (vg : Value) (w : World) (hg : GrAt w vg g) (hq : PsC w (.slice q x.length qcap) x) (hfa0 : fewG g = true) (hfx0 : fewB x = true) (ho : -9223372036854775808 ≤ op ∧ op < 9223372036854775808) (hown : own.size ≤ 9223372036854775807) (h : op < 0 ∨ 7 < op ∨ g.right = false ∨ 200 < own.size) :
    Calls Try.prog 5 #[vg, .slice q x.length qcap, .int .i64 op, .string own] w fun e w' => e = .returned (.bool true) ∧ Below w.heap.size w w' := by
  have HAW := Lib.hid (fun W => awake_any W)
  have HF1 := Lib.hid (fun W h => fewG_any g sg vg W h)
  have HF4 := Lib.hid (fun W h => few_any x q qcap hx hxs W h)
  have HGA := Lib.hid hg
  have HQ := Lib.hid hq
  have HRI := Lib.hid (fun W h => right_grant g (fewG_small hfa0) vg W h)
  obtain ⟨pa, ca, rfl, _⟩ := hg
  obtain ⟨fa, hfa⟩ : ∃ f, fewG g = f := ⟨_, rfl⟩
  obtain ⟨fx, hfx⟩ : ∃ f, fewB x = f := ⟨_, rfl⟩
  obtain rfl : fa = true := hfa.symm.trans hfa0
  obtain rfl : fx = true := hfx.symm.trans hfx0
  rw [hfa] at HF1
  rw [hfx] at HF4
  have HS := Lib.hid (And.intro (Bx.new w g (.slice pa g.need.length ca) 29) ((Below.refl w.heap.size w).alloc (Nat.le_refl _) (.cells #[.int .i64 g.id, .string g.who, .string g.ret, .int .i64 g.ops, .slice pa g.need.length ca, .bool g.eq] 29)))
  obtain ⟨ri, hri⟩ : ∃ r, g.right = r := ⟨_, rfl⟩
  rw [hri] at HRI h
  clear hri
  obtain ⟨ia, wa, ra1, oa, na, ea⟩ := g
  simp only [grV] at HF1 HF4 HGA HS HRI ⊢
  obtain ⟨la, hla⟩ : ∃ n, na.length = n := ⟨_, rfl⟩
  obtain ⟨lx, hlx⟩ : ∃ n, x.length = n := ⟨_, rfl⟩
  simp only [hla, hlx] at HF1 HF4 HGA HS HRI HQ ⊢
  clear hfa0 hfx0 sg hx hxs hq hla hlx hfa hfx
  rcases (by omega : op < 0 ∨ 7 < op ∨ (0 ≤ op ∧ op ≤ 7)) with h0 | h0 | h0
  ·
    have d1 : decide (op < (0 : Int)) = true := by simp; omega
    clear h
    go_enter Try.func5, Try.ntmps5
    go_wp2_with fail
    refine (HAW.out _).mono ?_
    rintro e w1 ⟨rfl, hw⟩
    replace HS := Lib.hid (And.intro (HS.out.1.below hw) (HS.out.2.trans (hw.mono HS.out.2.size)))
    clear hw
    obtain ⟨c0, c1, c2, c3, c4, c5⟩ := HS.out.1
    dsimp only at c0 c1 c2 c3 c4 c5
    go_wp2_with fail
    refine (HF1.out _ (HGA.out.below HS.out.2)).mono ?_
    rintro e w2 ⟨rfl, hw⟩
    clear c0 c1 c2 c3 c4 c5
    replace HS := Lib.hid (And.intro (HS.out.1.below hw) (HS.out.2.trans (hw.mono HS.out.2.size)))
    clear hw
    obtain ⟨c0, c1, c2, c3, c4, c5⟩ := HS.out.1
    dsimp only at c0 c1 c2 c3 c4 c5
    go_wp2_with fail
    refine (HF4.out _ (HQ.out.below HS.out.2)).mono ?_
    rintro e w3 ⟨rfl, hw⟩
    cases hw
    go_wp2
    go_ret
    exact ⟨rfl, HS.out.2⟩
  ·
    have d1 : decide (op < (0 : Int)) = false := by simp; omega
    have d2 : decide ((7 : Int) < op) = true := by simp; omega
    clear h
    go_enter Try.func5, Try.ntmps5
    go_wp2_with fail
    refine (HAW.out _).mono ?_
    rintro e w1 ⟨rfl, hw⟩
    replace HS := Lib.hid (And.intro (HS.out.1.below hw) (HS.out.2.trans (hw.mono HS.out.2.size)))
    clear hw
    obtain ⟨c0, c1, c2, c3, c4, c5⟩ := HS.out.1
    dsimp only at c0 c1 c2 c3 c4 c5
    go_wp2_with fail
    refine (HF1.out _ (HGA.out.below HS.out.2)).mono ?_
    rintro e w2 ⟨rfl, hw⟩
    clear c0 c1 c2 c3 c4 c5
    replace HS := Lib.hid (And.intro (HS.out.1.below hw) (HS.out.2.trans (hw.mono HS.out.2.size)))
    clear hw
    obtain ⟨c0, c1, c2, c3, c4, c5⟩ := HS.out.1
    dsimp only at c0 c1 c2 c3 c4 c5
    go_wp2_with fail
    refine (HF4.out _ (HQ.out.below HS.out.2)).mono ?_
    rintro e w3 ⟨rfl, hw⟩
    cases hw
    go_wp2
    go_ret
    exact ⟨rfl, HS.out.2⟩
  have d1 : decide (op < (0 : Int)) = false := by simp; omega
  have d2 : decide ((7 : Int) < op) = false := by simp; omega
  cases ri
  ·
    clear h
    go_enter Try.func5, Try.ntmps5
    go_wp2_with fail
    refine (HAW.out _).mono ?_
    rintro e w1 ⟨rfl, hw⟩
    replace HS := Lib.hid (And.intro (HS.out.1.below hw) (HS.out.2.trans (hw.mono HS.out.2.size)))
    clear hw
    obtain ⟨c0, c1, c2, c3, c4, c5⟩ := HS.out.1
    dsimp only at c0 c1 c2 c3 c4 c5
    go_wp2_with fail
    refine (HF1.out _ (HGA.out.below HS.out.2)).mono ?_
    rintro e w2 ⟨rfl, hw⟩
    clear c0 c1 c2 c3 c4 c5
    replace HS := Lib.hid (And.intro (HS.out.1.below hw) (HS.out.2.trans (hw.mono HS.out.2.size)))
    clear hw
    obtain ⟨c0, c1, c2, c3, c4, c5⟩ := HS.out.1
    dsimp only at c0 c1 c2 c3 c4 c5
    go_wp2_with fail
    refine (HF4.out _ (HQ.out.below HS.out.2)).mono ?_
    rintro e w3 ⟨rfl, hw⟩
    cases hw
    go_wp2_with fail
    refine (HRI.out _ (HGA.out.below HS.out.2)).mono ?_
    rintro e w4 ⟨rfl, hw⟩
    clear c0 c1 c2 c3 c4 c5
    replace HS := Lib.hid (And.intro (HS.out.1.below hw) (HS.out.2.trans (hw.mono HS.out.2.size)))
    clear hw
    obtain ⟨c0, c1, c2, c3, c4, c5⟩ := HS.out.1
    dsimp only at c0 c1 c2 c3 c4 c5
    go_wp2
    go_ret
    exact ⟨rfl, HS.out.2⟩
  ·
    have d3 : decide ((200 : Int) < (own.size : Int)) = true := by simp; simp at h; omega
    clear h
    go_enter Try.func5, Try.ntmps5
    go_wp2_with fail
    refine (HAW.out _).mono ?_
    rintro e w1 ⟨rfl, hw⟩
    replace HS := Lib.hid (And.intro (HS.out.1.below hw) (HS.out.2.trans (hw.mono HS.out.2.size)))
    clear hw
    obtain ⟨c0, c1, c2, c3, c4, c5⟩ := HS.out.1
    dsimp only at c0 c1 c2 c3 c4 c5
    go_wp2_with fail
    refine (HF1.out _ (HGA.out.below HS.out.2)).mono ?_
    rintro e w2 ⟨rfl, hw⟩
    clear c0 c1 c2 c3 c4 c5
    replace HS := Lib.hid (And.intro (HS.out.1.below hw) (HS.out.2.trans (hw.mono HS.out.2.size)))
    clear hw
    obtain ⟨c0, c1, c2, c3, c4, c5⟩ := HS.out.1
    dsimp only at c0 c1 c2 c3 c4 c5
    go_wp2_with fail
    refine (HF4.out _ (HQ.out.below HS.out.2)).mono ?_
    rintro e w3 ⟨rfl, hw⟩
    cases hw
    go_wp2_with fail
    refine (HRI.out _ (HGA.out.below HS.out.2)).mono ?_
    rintro e w4 ⟨rfl, hw⟩
    clear c0 c1 c2 c3 c4 c5
    replace HS := Lib.hid (And.intro (HS.out.1.below hw) (HS.out.2.trans (hw.mono HS.out.2.size)))
    clear hw
    obtain ⟨c0, c1, c2, c3, c4, c5⟩ := HS.out.1
    dsimp only at c0 c1 c2 c3 c4 c5
    go_wp2
    go_ret
    exact ⟨rfl, HS.out.2⟩
/-- A grant with another set. -/
def setG (g : Gr) (o : Int) : Gr := { g with ops := o }
theorem right_set {g : Gr} {o : Int} (h : g.right = true) (ho : 0 ≤ o ∧ o < 256) : (setG g o).right = true := by
  simp only [Gr.right, setG, Bool.and_eq_true] at h ⊢
  exact ⟨⟨⟨⟨h.1.1.1.1, by simp only [opsB, Bool.and_eq_true, decide_eq_true_eq]; exact ho⟩, h.1.1.2⟩, h.1.2⟩, h.2⟩
theorem allow_set {g : Gr} {o i : Int} {c : List P2} (h : g.right = true) (ho : 0 ≤ o ∧ o < 256) (hi : opB i = true) : allowB (setG g o) g.who i c = (hasB o i && takesB g c) := by
  unfold allowB
  rw [right_set h ho, hi, show (setG g o).who = g.who from rfl, show (setG g o).ops = o from rfl, show takesB (setG g o) c = takesB g c from rfl]
  simp
set_option maxRecDepth 100000 in
set_option maxHeartbeats 8000000 in
theorem sets_main (g : Gr) (sg : sane g) (x : List P2) (hx : x.length ≤ 9223372036854775807) (hxs : ∀ y ∈ x, y.1.size ≤ 9223372036854775807 ∧ y.2.size ≤ 9223372036854775807) (q : Option Addr) (qcap : Nat) (op : Int) (own : ByteArray) (vg : Value) (w : World) (hg : GrAt w vg g) (hq : PsC w (.slice q x.length qcap) x) (hfa0 : fewG g = true) (hfx0 : fewB x = true) (hri0 : g.right = true) (ho : 0 ≤ op ∧ op ≤ 7) (hown : own.size ≤ 200) :
    Calls Try.prog 5 #[vg, .slice q x.length qcap, .int .i64 op, .string own] w fun e w' => e = .returned (.bool true) ∧ Below w.heap.size w w' := by
  have HAW := Lib.hid (fun W => awake_any W)
  have HF1 := Lib.hid (fun W h => fewG_any g sg vg W h)
  have HF4 := Lib.hid (fun W h => few_any x q qcap hx hxs W h)
  have HGA := Lib.hid hg
  have HQ := Lib.hid hq
  have hrr := right_ops hri0
  have hop : opB op = true := by simp [opB]; omega
  have hpw := (pow_bits hop hop).2
  have hsm := fewG_small hfa0
  have hmr := more_range (o := g.ops) (p := (2 : Int) ^ op.toNat) hrr hpw
  have hlr := less_range (o := g.ops) (p := (2 : Int) ^ op.toNat) hrr
  have hfx1 : fitsL x := by rw [fewB_iff] at hfx0; exact ⟨by omega, fun y hy => by have := hfx0.2 y hy; omega⟩
  have HRI : Hid (∀ W, GrAt W vg g → Calls Try.prog 9 #[vg] W fun e w' => e = .returned (.bool true) ∧ Below W.heap.size W w') := Lib.hid (fun W h => by have := right_grant g hsm vg W h; rwa [hri0] at this)
  have HAG := Lib.hid (fun W h1 h2 => allows_any g hsm vg g.who op x hfx1 q qcap W h1 h2)
  have HAM := Lib.hid (fun v i W h1 h2 => allows_any (setG g (moreS g.ops (2 ^ op.toNat))) hsm v g.who i x hfx1 q qcap W h1 h2)
  have HAL := Lib.hid (fun v i W h1 h2 => allows_any (setG g (lessS g.ops (2 ^ op.toNat))) hsm v g.who i x hfx1 q qcap W h1 h2)
  have HNA : Hid (∀ v u W, GrAt W v (setG g (lessS g.ops (2 ^ op.toNat))) → GrAt W u (setG g (moreS g.ops (2 ^ op.toNat))) → Calls Try.prog 13 #[v, u] W fun e w' => e = .returned (.bool true) ∧ Below W.heap.size W w') := Lib.hid (fun v u W h1 h2 => by
    have := narrower_any (setG g (lessS g.ops (2 ^ op.toNat))) (setG g (moreS g.ops (2 ^ op.toNat))) hsm hsm v u W h1 h2
    rwa [show narrowB (setG g (lessS g.ops (2 ^ op.toNat))) (setG g (moreS g.ops (2 ^ op.toNat))) = true from narrow_parts.2 ⟨right_set hri0 hlr, right_set hri0 hmr, less_more, by
      have h1 := narrow_self g
      rw [hri0, narrow_parts] at h1
      exact h1.2.2.2.1, id⟩] at this)
  have HAN1 : Hid (∀ i, opB i = true → ∀ W, Calls Try.prog 15 #[.slice none 0 0, .string own, .string own, .int .i64 i, .slice none 0 0] W fun e w' => e = .returned (.bool (decide (own.size ≠ 0))) ∧ Below W.heap.size W w') := Lib.hid (fun i hi W => by
    have := any_any [] (by simp) (fun g hg => by simp at hg) none 0 own own i [] fit_nil none 0 W (RowG.nil W) (ps_nil W)
    rwa [show anyB [] own own i [] = decide (own.size ≠ 0) by unfold anyB; rw [hi]; simp [show rightP [] = true by decide]] at this)
  have HAN2 : Hid (∀ i, opB i = true → ∀ W, Calls Try.prog 15 #[.slice none 0 0, .string own, .string (own ++ { data := #[120] }), .int .i64 i, .slice none 0 0] W fun e w' => e = .returned (.bool false) ∧ Below W.heap.size W w') := Lib.hid (fun i hi W => by
    have := any_any [] (by simp) (fun g hg => by simp at hg) none 0 own (own ++ { data := #[120] }) i [] fit_nil none 0 W (RowG.nil W) (ps_nil W)
    rwa [show anyB [] own (own ++ { data := #[120] }) i [] = false by
      have hne : ¬ own ++ { data := #[120] } = own := fun e => by
        have h1 := congrArg ByteArray.size e
        rw [ByteArray.size_append] at h1
        have h2 : ({ data := #[120] } : ByteArray).size = 1 := rfl
        omega
      unfold anyB; simp [hne]] at this)
  have hadd : ∀ W, (Op.stringOp .add own { data := #[120] }).run Try.prog W = .ok (.string (own ++ { data := #[120] })) W := fun W => run_string_add_sum W own { data := #[120] } (by have h2 : ({ data := #[120] } : ByteArray).size = 1 := rfl; omega)
  have HWE := Lib.hid (ret_empty own)
  have HE1 : Hid (allowB g g.who op x = (hasB g.ops op && allowB (setG g (moreS g.ops (2 ^ op.toNat))) g.who op x)) := Lib.hid (by
    rw [allow_set hri0 hmr hop, show allowB g g.who op x = allowB (setG g g.ops) g.who op x from rfl, allow_set hri0 hrr hop, has_more hrr hop hop]; simp)
  have HE2 : Hid (allowB (setG g (lessS g.ops (2 ^ op.toNat))) g.who op x = false) := Lib.hid (by
    rw [allow_set hri0 hlr hop, has_less hrr hop hop]; simp)
  have HE3 : Hid (∀ i, opB i = true → i ≠ op → allowB (setG g (lessS g.ops (2 ^ op.toNat))) g.who i x = allowB (setG g (moreS g.ops (2 ^ op.toNat))) g.who i x) := Lib.hid (fun i hi hne => by
    rw [allow_set hri0 hlr hi, allow_set hri0 hmr hi, has_less hrr hop hi, has_more hrr hop hi, decide_eq_false (fun e => hne e.symm)]; simp)
  have HBT := Lib.hid (bit_rem g.ops op hrr.1 hrr.2)
  have HPW := Lib.hid hpw
  have HWO := Lib.hid hown
  obtain ⟨pa, ca, rfl, _⟩ := hg
  obtain ⟨fa, hfa⟩ : ∃ f, fewG g = f := ⟨_, rfl⟩
  obtain ⟨fx, hfx⟩ : ∃ f, fewB x = f := ⟨_, rfl⟩
  obtain rfl : fa = true := hfa.symm.trans hfa0
  obtain rfl : fx = true := hfx.symm.trans hfx0
  rw [hfa] at HF1
  rw [hfx] at HF4
  have HS := Lib.hid (And.intro (Bx.new w g (.slice pa g.need.length ca) 29) ((Below.refl w.heap.size w).alloc (Nat.le_refl _) (.cells #[.int .i64 g.id, .string g.who, .string g.ret, .int .i64 g.ops, .slice pa g.need.length ca, .bool g.eq] 29)))
  obtain ⟨mo, hmo⟩ : ∃ m, moreS g.ops (2 ^ op.toNat) = m := ⟨_, rfl⟩
  obtain ⟨le, hle⟩ : ∃ m, lessS g.ops (2 ^ op.toNat) = m := ⟨_, rfl⟩
  obtain ⟨pw, hpwe⟩ : ∃ m, (2 : Int) ^ op.toNat = m := ⟨_, rfl⟩
  simp only [hmo] at HAM HNA HE1 HE3
  simp only [hle] at HAL HNA HE2 HE3
  have HMO : Hid (bits .or .i64 g.ops pw = mo) := Lib.hid (by rw [← hpwe]; exact hmo)
  have HLE : Hid (bits .andNot .i64 g.ops pw = le) := Lib.hid (by rw [← hpwe]; exact hle)
  have HPE := Lib.hid hpwe
  have HW64 : Hid (wrap64 (2 ^ op.toNat) = pw) := Lib.hid (by rw [hpwe]; rw [hpwe] at hpw; exact IntWalk.wrap64_in _ ⟨by omega, by omega⟩)
  clear hmo hle hpwe hrr hpw hsm hmr hlr hfx1 hri0 hown
  obtain ⟨ia, wa, ra1, oa, na, ea⟩ := g
  simp only [grV, setG] at HF1 HF4 HGA HS HRI HAG HAM HAL HNA HE1 HE2 HE3 HBT HMO HLE ⊢
  obtain ⟨la, hla⟩ : ∃ n, na.length = n := ⟨_, rfl⟩
  obtain ⟨lx, hlx⟩ : ∃ n, x.length = n := ⟨_, rfl⟩
  simp only [hla, hlx] at HF1 HF4 HGA HS HRI HAG HAM HAL HNA HE1 HE2 HE3 HBT HMO HLE HQ ⊢
  clear hfa0 hfx0 sg hx hxs hq hla hlx hfa hfx
  have d1 : decide (op < (0 : Int)) = false := by simp; omega
  have d2 : decide ((7 : Int) < op) = false := by simp; omega
  have d3 : decide ((200 : Int) < (own.size : Int)) = false := by simp; have := HWO.out; omega
  go_enter Try.func5, Try.ntmps5
  go_wp2_with fail
  refine (HAW.out _).mono ?_
  rintro e w1 ⟨rfl, hw⟩
  replace HS := Lib.hid (And.intro (HS.out.1.below hw) (HS.out.2.trans (hw.mono HS.out.2.size)))
  clear hw
  obtain ⟨c0, c1, c2, c3, c4, c5⟩ := HS.out.1
  dsimp only at c0 c1 c2 c3 c4 c5
  go_wp2_with fail
  refine (HF1.out _ (HGA.out.below HS.out.2)).mono ?_
  rintro e w2 ⟨rfl, hw⟩
  clear c0 c1 c2 c3 c4 c5
  replace HS := Lib.hid (And.intro (HS.out.1.below hw) (HS.out.2.trans (hw.mono HS.out.2.size)))
  clear hw
  obtain ⟨c0, c1, c2, c3, c4, c5⟩ := HS.out.1
  dsimp only at c0 c1 c2 c3 c4 c5
  go_wp2_with fail
  refine (HF4.out _ (HQ.out.below HS.out.2)).mono ?_
  rintro e w3 ⟨rfl, hw⟩
  cases hw
  go_wp2_with fail
  refine (HRI.out _ (HGA.out.below HS.out.2)).mono ?_
  rintro e w4 ⟨rfl, hw⟩
  clear c0 c1 c2 c3 c4 c5
  replace HS := Lib.hid (And.intro (HS.out.1.below hw) (HS.out.2.trans (hw.mono HS.out.2.size)))
  clear hw
  obtain ⟨c0, c1, c2, c3, c4, c5⟩ := HS.out.1
  dsimp only at c0 c1 c2 c3 c4 c5
  have l0 : w.heap.size < w4.heap.size := World.block_lt_of_cell? w4 _ HS.out.1.1
  have hwr : IntKind.u64.wrap op = op := by rw [IntKind.wrap_u64]; omega
  go_wp2
  simp only [HW64.out, HMO.out, HLE.out]
  obtain ⟨w5, hw5⟩ : ∃ w5, w4.alloc (.cells #[.int .i64 ia, .string wa, .string ra1, .int .i64 mo, .slice pa la ca, .bool ea] 29) = w5 := ⟨_, rfl⟩
  have z5 : w5.heap.size = w4.heap.size + 1 := by rw [← hw5]; simp
  have b5 : Below w4.heap.size w4 w5 := by rw [← hw5]; exact below_new _ _
  have m5 : Bx w5 w4.heap.size ⟨ia, wa, ra1, mo, na, ea⟩ (.slice pa la ca) := by rw [← hw5]; exact Bx.new w4 ⟨ia, wa, ra1, mo, na, ea⟩ _ 29
  rw [hw5]
  obtain ⟨W, hW⟩ : ∃ W, w5.alloc (.cells #[.int .i64 ia, .string wa, .string ra1, .int .i64 le, .slice pa la ca, .bool ea] 29) = W := ⟨_, rfl⟩
  have b6 : Below w5.heap.size w5 W := by rw [← hW]; exact below_new _ _
  have m6 : Bx W (w4.heap.size + 1) ⟨ia, wa, ra1, le, na, ea⟩ (.slice pa la ca) := by rw [← hW, ← z5]; exact Bx.new w5 ⟨ia, wa, ra1, le, na, ea⟩ _ 29
  rw [hW]
  have b46 := b5.trans (b6.mono b5.size)
  have HX : Hid (Bx W w.heap.size ⟨ia, wa, ra1, oa, na, ea⟩ (.slice pa la ca) ∧ Bx W w4.heap.size ⟨ia, wa, ra1, mo, na, ea⟩ (.slice pa la ca) ∧ Bx W (w4.heap.size + 1) ⟨ia, wa, ra1, le, na, ea⟩ (.slice pa la ca) ∧ Below w.heap.size w W) := Lib.hid ⟨HS.out.1.below b46, m5.below b6, m6, HS.out.2.trans (b46.mono HS.out.2.size)⟩
  clear hw5 z5 b5 m5 hW b6 m6 b46 l0 hwr c0 c1 c2 c3 c4 c5 HS
  have HGO : Hid (∀ V o, Below w.heap.size w V → GrAt V (.agg #[.int .i64 ia, .string wa, .string ra1, .int .i64 o, .slice pa la ca, .bool ea]) ⟨ia, wa, ra1, o, na, ea⟩) := Lib.hid (fun V o h => by
    obtain ⟨p, c, e, hp⟩ := HGA.out.below h
    simp only [grV, Value.agg.injEq, Array.mk.injEq, List.cons.injEq, Value.slice.injEq, true_and, and_true] at e
    obtain ⟨rfl, hl, rfl⟩ := e
    exact ⟨pa, ca, by simp only [grV, hl], hp⟩)
  have HXg : Hid (∀ g : Gw W, Bx g.1 w.heap.size ⟨ia, wa, ra1, oa, na, ea⟩ (.slice pa la ca) ∧ Bx g.1 w4.heap.size ⟨ia, wa, ra1, mo, na, ea⟩ (.slice pa la ca) ∧ Bx g.1 (w4.heap.size + 1) ⟨ia, wa, ra1, le, na, ea⟩ (.slice pa la ca) ∧ Below w.heap.size w g.1) := Lib.hid fun g => ⟨HX.out.1.below g.2, HX.out.2.1.below g.2, HX.out.2.2.1.below g.2, HX.out.2.2.2.trans (g.2.mono HX.out.2.2.2.size)⟩
  have c0 := fun g => (HXg.out g).1.1
  have c1 := fun g => (HXg.out g).1.2.1
  have c2 := fun g => (HXg.out g).1.2.2.1
  have c3 := fun g => (HXg.out g).1.2.2.2.1
  have c4 := fun g => (HXg.out g).1.2.2.2.2.1
  have c5 := fun g => (HXg.out g).1.2.2.2.2.2
  have d0 := fun g => (HXg.out g).2.1.1
  have d1 := fun g => (HXg.out g).2.1.2.1
  have d2 := fun g => (HXg.out g).2.1.2.2.1
  have d3 := fun g => (HXg.out g).2.1.2.2.2.1
  have d4 := fun g => (HXg.out g).2.1.2.2.2.2.1
  have d5 := fun g => (HXg.out g).2.1.2.2.2.2.2
  have e0 := fun g => (HXg.out g).2.2.1.1
  have e1 := fun g => (HXg.out g).2.2.1.2.1
  have e2 := fun g => (HXg.out g).2.2.1.2.2.1
  have e3 := fun g => (HXg.out g).2.2.1.2.2.2.1
  have e4 := fun g => (HXg.out g).2.2.1.2.2.2.2.1
  have e5 := fun g => (HXg.out g).2.2.1.2.2.2.2.2
  dsimp only at c0 c1 c2 c3 c4 c5 d0 d1 d2 d3 d4 d5 e0 e1 e2 e3 e4 e5
  obtain ⟨t1, ht1⟩ : ∃ t, allowB ⟨ia, wa, ra1, oa, na, ea⟩ wa op x = t := ⟨_, rfl⟩
  obtain ⟨t2, ht2⟩ : ∃ t, allowB ⟨ia, wa, ra1, mo, na, ea⟩ wa op x = t := ⟨_, rfl⟩
  have HAGt : Hid (∀ V, Below w.heap.size w V → Calls Try.prog 11 #[.agg #[.int .i64 ia, .string wa, .string ra1, .int .i64 oa, .slice pa la ca, .bool ea], .string wa, .int .i64 op, .slice q lx qcap] V fun e w' => e = .returned (.bool t1) ∧ Below V.heap.size V w') := Lib.hid (fun V h => by have := HAG.out V (HGO.out V _ h) (HQ.out.below h); rwa [ht1] at this)
  have HAMt : Hid (∀ V, Below w.heap.size w V → Calls Try.prog 11 #[.agg #[.int .i64 ia, .string wa, .string ra1, .int .i64 mo, .slice pa la ca, .bool ea], .string wa, .int .i64 op, .slice q lx qcap] V fun e w' => e = .returned (.bool t2) ∧ Below V.heap.size V w') := Lib.hid (fun V h => by have := HAM.out _ op V (HGO.out V _ h) (HQ.out.below h); rwa [ht2] at this)
  have HALt : Hid (∀ V, Below w.heap.size w V → Calls Try.prog 11 #[.agg #[.int .i64 ia, .string wa, .string ra1, .int .i64 le, .slice pa la ca, .bool ea], .string wa, .int .i64 op, .slice q lx qcap] V fun e w' => e = .returned (.bool false) ∧ Below V.heap.size V w') := Lib.hid (fun V h => by have := HAL.out _ op V (HGO.out V _ h) (HQ.out.below h); rwa [HE2.out] at this)
  have R1 := Lib.hid (fun g : Gw W => grew_call (HAGt.out g.1 (HXg.out g).2.2.2))
  have R2 := Lib.hid (fun g : Gw W => grew_call (HAMt.out g.1 (HXg.out g).2.2.2))
  have R3 := Lib.hid (fun g : Gw W => grew_call (HALt.out g.1 (HXg.out g).2.2.2))
  have R4 := Lib.hid (fun g : Gw W => grew_call (HNA.out _ _ g.1 (HGO.out g.1 le (HXg.out g).2.2.2) (HGO.out g.1 mo (HXg.out g).2.2.2)))
  have hE1 := HE1.out
  rw [ht1, ht2] at hE1
  have hwr : IntKind.u64.wrap op = op := by rw [IntKind.wrap_u64]; omega
  have HCASE : Hid (((oa / 2 ^ op.toNat).tmod 2 = 0 ∧ t1 = false) ∨ ((oa / 2 ^ op.toNat).tmod 2 = 1 ∧ t1 = t2)) := Lib.hid (by
    rcases HBT.out with ⟨h1, h2⟩ | ⟨h1, h2⟩
    · exact .inl ⟨h1, by rw [hE1, h2]; rfl⟩
    · exact .inr ⟨h1, by rw [hE1, h2]; rfl⟩)
  clear hE1 HAGt HAMt HALt ht1 ht2
  rcases HCASE.out with ⟨hbt, rfl⟩ | ⟨hbt, rfl⟩
  all_goals
    refine wp_region_grew (by kernel_rfl) (by kernel_rfl) ?_
    repeat (go_big_quiet_step ((first | (with_reducible exact R1.out _) | (with_reducible exact R2.out _) | (with_reducible exact R3.out _) | (with_reducible exact R4.out _))))
    refine wpQuiet_nil ?_
    intro g
    replace HX := Lib.hid (HXg.out g)
    obtain ⟨W6, hW6⟩ : ∃ W6, g.1 = W6 := ⟨_, rfl⟩
    rw [hW6] at HX ⊢
    clear hW6 HXg R1 R2 R3 R4 hbt hwr c0 c1 c2 c3 c4 c5 d0 d1 d2 d3 d4 d5 e0 e1 e2 e3 e4 e5 g HCASE
    obtain ⟨b2, hb2⟩ : ∃ b, decide (own.size = 0) = b := ⟨_, rfl⟩
    rw [show decide (own.size ≠ 0) = !decide (own.size = 0) by by_cases h : own.size = 0 <;> simp [h], hb2] at HAN1
    rw [hb2] at HWE
    clear hb2
    have hE := HWE.out
    cases b2
    all_goals
      simp only [Bool.not_true, Bool.not_false] at HAN1
      go_wp2
      go_loopw [11] (fun i wr => ∃ k : Nat, k ≤ 8 ∧ i = .int .i64 (k : Int) ∧ Hid (Below W6.heap.size W6 wr)) (fun i _ => 8 - (intOf i).toNat)
      case atStart => exact ⟨0, by omega, rfl, Lib.hid (Below.refl _ _)⟩
      case round =>
        obtain ⟨k, hk, rfl, HB⟩ := hrel
        by_cases hlt : k < 8
        · have hop : opB (k : Int) = true := by simp [opB]; omega
          have hk8 : (k : Int) < 8 := by omega
          have HXg : Hid (∀ g : Gw wr, Bx g.1 w.heap.size ⟨ia, wa, ra1, oa, na, ea⟩ (.slice pa la ca) ∧ Bx g.1 w4.heap.size ⟨ia, wa, ra1, mo, na, ea⟩ (.slice pa la ca) ∧ Bx g.1 (w4.heap.size + 1) ⟨ia, wa, ra1, le, na, ea⟩ (.slice pa la ca) ∧ Below w.heap.size w g.1) := Lib.hid fun g => by
            have hg := HB.out.trans (g.2.mono HB.out.size)
            exact ⟨HX.out.1.below hg, HX.out.2.1.below hg, HX.out.2.2.1.below hg, HX.out.2.2.2.trans (hg.mono HX.out.2.2.2.size)⟩
          have c0 := fun g => (HXg.out g).1.1
          have c1 := fun g => (HXg.out g).1.2.1
          have c2 := fun g => (HXg.out g).1.2.2.1
          have c3 := fun g => (HXg.out g).1.2.2.2.1
          have c4 := fun g => (HXg.out g).1.2.2.2.2.1
          have c5 := fun g => (HXg.out g).1.2.2.2.2.2
          have d0 := fun g => (HXg.out g).2.1.1
          have d1 := fun g => (HXg.out g).2.1.2.1
          have d2 := fun g => (HXg.out g).2.1.2.2.1
          have d3 := fun g => (HXg.out g).2.1.2.2.2.1
          have d4 := fun g => (HXg.out g).2.1.2.2.2.2.1
          have d5 := fun g => (HXg.out g).2.1.2.2.2.2.2
          have e0 := fun g => (HXg.out g).2.2.1.1
          have e1 := fun g => (HXg.out g).2.2.1.2.1
          have e2 := fun g => (HXg.out g).2.2.1.2.2.1
          have e3 := fun g => (HXg.out g).2.2.1.2.2.2.1
          have e4 := fun g => (HXg.out g).2.2.1.2.2.2.2.1
          have e5 := fun g => (HXg.out g).2.2.1.2.2.2.2.2
          dsimp only at c0 c1 c2 c3 c4 c5 d0 d1 d2 d3 d4 d5 e0 e1 e2 e3 e4 e5
          have HANa := Lib.hid (HAN1.out (k : Int) hop)
          have HANb := Lib.hid (HAN2.out (k : Int) hop)
          obtain ⟨t1, ht1⟩ : ∃ t, allowB ⟨ia, wa, ra1, mo, na, ea⟩ wa (k : Int) x = t := ⟨_, rfl⟩
          have R1 : Hid (∀ g : Gw wr, Calls Try.prog 11 #[.agg #[.int .i64 ia, .string wa, .string ra1, .int .i64 mo, .slice pa la ca, .bool ea], .string wa, .int .i64 (k : Int), .slice q lx qcap] g.1 fun e w' => e = .returned (.bool t1) ∧ Grew wr w') := Lib.hid (fun g => grew_call (by
            have := HAM.out _ (k : Int) g.1 (HGO.out g.1 mo (HXg.out g).2.2.2) (HQ.out.below (HXg.out g).2.2.2)
            rwa [ht1] at this))
          have R2 : Hid ((k : Int) ≠ op → ∀ g : Gw wr, Calls Try.prog 11 #[.agg #[.int .i64 ia, .string wa, .string ra1, .int .i64 le, .slice pa la ca, .bool ea], .string wa, .int .i64 (k : Int), .slice q lx qcap] g.1 fun e w' => e = .returned (.bool t1) ∧ Grew wr w') := Lib.hid (fun hne g => grew_call (by
            have := HAL.out _ (k : Int) g.1 (HGO.out g.1 le (HXg.out g).2.2.2) (HQ.out.below (HXg.out g).2.2.2)
            rwa [HE3.out _ hop hne, ht1] at this))
          clear ht1 hop
          have HKO : Hid (((k : Int) != op) = false ∨ (((k : Int) != op) = true ∧ (k : Int) ≠ op)) := Lib.hid (by
            by_cases h : (k : Int) = op
            · exact .inl (by simp [h])
            · exact .inr ⟨by simp [h], h⟩)
          rcases HKO.out with hne | ⟨hne, hne2⟩
          · go_wp2
            refine wp_region_grew (by kernel_rfl) (by kernel_rfl) ?_
            repeat (go_big_quiet_step (fail))
            refine wpQuiet_nil ?_
            intro g
            replace HB := Lib.hid (HB.out.trans (g.2.mono HB.out.size))
            obtain ⟨W7, hW7⟩ : ∃ W7, g.1 = W7 := ⟨_, rfl⟩
            rw [hW7] at HB ⊢
            clear hW7 HXg R1 R2 hne c0 c1 c2 c3 c4 c5 d0 d1 d2 d3 d4 d5 e0 e1 e2 e3 e4 e5 g
            go_wp2_with fail
            refine (HANa.out _).mono ?_
            rintro e W8 ⟨rfl, hw⟩
            replace HB := Lib.hid (HB.out.trans (hw.mono HB.out.size))
            clear hw
            go_wp2_with fail
            refine (HANb.out _).mono ?_
            rintro e W9 ⟨rfl, hw⟩
            replace HB := Lib.hid (HB.out.trans (hw.mono HB.out.size))
            clear hw
            go_wp2
            go_roundw
            case rel => exact ⟨k + 1, by omega, by simp, HB⟩
            case measure => simp [intOf]; omega
          · replace R2 := Lib.hid (R2.out hne2)
            clear hne2
            go_wp2
            refine wp_region_grew (by kernel_rfl) (by kernel_rfl) ?_
            repeat (go_big_quiet_step ((first | (with_reducible exact R1.out _) | (with_reducible exact R2.out _))))
            refine wpQuiet_nil ?_
            intro g
            replace HB := Lib.hid (HB.out.trans (g.2.mono HB.out.size))
            obtain ⟨W7, hW7⟩ : ∃ W7, g.1 = W7 := ⟨_, rfl⟩
            rw [hW7] at HB ⊢
            clear hW7 HXg R1 R2 hne c0 c1 c2 c3 c4 c5 d0 d1 d2 d3 d4 d5 e0 e1 e2 e3 e4 e5 g
            go_wp2_with fail
            refine (HANa.out _).mono ?_
            rintro e W8 ⟨rfl, hw⟩
            replace HB := Lib.hid (HB.out.trans (hw.mono HB.out.size))
            clear hw
            go_wp2_with fail
            refine (HANb.out _).mono ?_
            rintro e W9 ⟨rfl, hw⟩
            replace HB := Lib.hid (HB.out.trans (hw.mono HB.out.size))
            clear hw
            go_wp2
            go_roundw
            case rel => exact ⟨k + 1, by omega, by simp, HB⟩
            case measure => simp [intOf]; omega
        · have hk8 : k = 8 := by omega
          subst hk8
          have HZ := Lib.hid (HX.out.2.2.2.trans (HB.out.mono HX.out.2.2.2.size))
          go_wp2
          go_ret
          exact ⟨rfl, HZ.out⟩
end Go.Proofs.Ytfihbfkgkljjdaa

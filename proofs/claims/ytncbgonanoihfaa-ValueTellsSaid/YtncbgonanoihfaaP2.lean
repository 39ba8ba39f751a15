/- A value read off a text: texts and lists; by contract. No condition but the sizes. -/
import Derived.Test.YtncbgonanoihfaaP1
import Derived.Test.YtncbgonanoihfaaC2
namespace Go.Proofs.Ytncbgonanoihfaa
open Go.RowKit Go.Own
/-- What is read, or nothing. -/
def ReadQ (B : Nat) (r : Option (A × List Nat)) (w : World) (e : Ending) (w' : World) : Prop :=
  (∃ a t' v, r = some (a, t') ∧ e = .returned (.tuple #[v, .bool true]) ∧ AAt w' (fun b => w.heap.size ≤ b) v a ∧ Box w' B (mkS t') ∧ w.grownBy w' (some B)) ∨
  (r = none ∧ ∃ v s, e = .returned (.tuple #[v, .bool false]) ∧ Box w' B s ∧ w.grownBy w' (some B))
theorem ReadQ.ok {B : Nat} {a : A} {t : List Nat} {v : Value} {w w' : World} (h1 : AAt w' (fun b => w.heap.size ≤ b) v a) (h2 : Box w' B (mkS t)) (h3 : w.grownBy w' (some B)) : ReadQ B (some (a, t)) w (.returned (.tuple #[v, .bool true])) w' :=
  Or.inl ⟨a, t, v, rfl, rfl, h1, h2, h3⟩
theorem ReadQ.no {B : Nat} {v : Value} {s : ByteArray} {w w' : World} (h2 : Box w' B s) (h3 : w.grownBy w' (some B)) : ReadQ B none w (.returned (.tuple #[v, .bool false])) w' :=
  Or.inr ⟨rfl, v, s, rfl, h2, h3⟩
theorem grown_below {w w1 w2 : World} {B B0 : Nat} (h : w.grownBy w1 (some B)) (hb : Below B0 w1 w2) (h0 : w.heap.size ≤ B0) : w.grownBy w2 (some B) :=
  ⟨hb.os.trans h.os, hb.tape.trans h.tape, hb.output.trans h.output, Nat.le_trans h.size hb.size, fun k hk hne => by
    rw [hb.block k (by omega)]; exact h.block k hk hne⟩
theorem grown_two {w w1 w2 : World} {B : Nat} (h : w.grownBy w1 (some B)) (k : w1.grownBy w2 (some B)) : w.grownBy w2 (some B) :=
  ⟨k.os.trans h.os, k.tape.trans h.tape, k.output.trans h.output, Nat.le_trans h.size k.size, fun i hi hne => by
    rw [k.block i (Nat.lt_of_lt_of_le hi h.size) hne]; exact h.block i hi hne⟩
theorem RowA.past {w w' : World} {B B0 : Nat} {v : Value} {l : List A} (h : RowA w B0 v l) (hg : w.grownBy w' (some B)) (hB : B < B0) : RowA w' B0 v l := by
  have hlt := h.lt
  obtain ⟨us, h1, h2⟩ := h
  refine ⟨us, h1.kept hg (by
    cases hv : v.ownBlock with
    | none => exact Or.inl rfl
    | some g => exact Or.inr (by simp; have := (hlt g hv).1; omega)), fun i x hx => ?_⟩
  obtain ⟨u, hu, ha⟩ := h2 i x hx
  exact ⟨u, hu, ha.keep (fun _ h _ => h) hg.size (fun b hb hlt => hg.block b hlt (by simp; omega))⟩
/-- The text that is told at a text's head. -/
def textR (t : List Nat) : Option (A × List Nat) :=
  if t.length < 2 then none else if t.length - 2 < val (t.take 2) then none else some (.str (mkS ((t.drop 2).take (val (t.take 2)))), (t.drop 2).drop (val (t.take 2)))
set_option maxRecDepth 100000 in
set_option maxHeartbeats 1000000 in
theorem rtext_any (B : Nat) (t : List Nat) (hb : ∀ c ∈ t, c < 256) (w : World) (hB : Box w B (mkS t)) :
    Calls Try.prog 42 #[.func (.func 40) #[] #[.pointer (some ⟨B, 0, none⟩)]] w (ReadQ B (textR t) w) := by
  by_cases h : t.length < 2
  · have HE : Hid (textR t = none) := Lib.hid (by rw [textR, if_pos h])
    have HT := Lib.hid (num_no B 2 (mkS t) (by rw [mkS_size]; exact h) w hB)
    have HB := Lib.hid hB
    clear hB
    go_enter Try.func42, Try.ntmps42
    go_wp2_with (go_at_call 41; fail)
    refine HT.out.mono ?_
    rintro e w' ⟨rfl, rfl⟩
    go_wp2
    go_ret2
    rw [HE.out]
    exact ReadQ.no HB.out (grown_refl _ _)
  · have HT := Lib.hid (num_yes B 2 t hb (by omega) (by omega) w hB)
    have hvl : val (t.take 2) < 65536 := by
      have h1 := val_lt (t.take 2) (fun c hc => hb c (List.mem_of_mem_take hc))
      rw [show (t.take 2).length = 2 by rw [List.length_take]; omega] at h1
      exact h1
    have HE : Hid (textR t = if t.length - 2 < val (t.take 2) then none else some (.str (mkS ((t.drop 2).take (val (t.take 2)))), (t.drop 2).drop (val (t.take 2)))) := Lib.hid (by rw [textR, if_neg h])
    obtain ⟨n, hn⟩ : ∃ n, val (t.take 2) = n := ⟨_, rfl⟩
    obtain ⟨r, hr⟩ : ∃ r, t.drop 2 = r := ⟨_, rfl⟩
    have hrl : r.length = t.length - 2 := by rw [← hr, List.length_drop]
    rw [hn] at HT HE hvl
    rw [hr] at HT HE
    rw [← hrl] at HE
    clear hB hn hr hrl h
    by_cases h2 : r.length < n
    · have HTN := Lib.hid (fun w hB => take_no B n (mkS r) (by rw [mkS_size]; exact h2) w hB)
      have HCL := Lib.hid (clone_any { data := #[] } (by simp [ByteArray.size]))
      have HE2 : Hid (textR t = none) := Lib.hid (by rw [HE.out, if_pos h2])
      clear h2
      go_enter Try.func42, Try.ntmps42
      go_wp2_with (go_at_call 41; fail)
      refine HT.out.mono ?_
      rintro e w1 ⟨rfl, hb1, hg1⟩
      have HB1 := Lib.hid hb1
      have HG1 := Lib.hid hg1
      clear hb1 hg1
      go_wp2_with (go_at_call 40; fail)
      refine (HTN.out _ HB1.out).mono ?_
      rintro e w' ⟨rfl, rfl⟩
      go_wp2_with (go_at_call 45; fail)
      refine (HCL.out _).mono ?_
      rintro e w2 ⟨rfl, hb2⟩
      have HB2 := Lib.hid (HB1.out.below hb2)
      have HG2 := Lib.hid (grown_below HG1.out hb2 HG1.out.size)
      clear hb2
      go_wp2
      go_ret2
      rw [HE2.out]
      exact ReadQ.no HB2.out HG2.out
    · have HTY := Lib.hid (fun w hB => take_ok B n r (by omega) w hB)
      have HCL := Lib.hid (clone_any (mkS (r.take n)) (by rw [mkS_size, List.length_take]; omega))
      have HE2 : Hid (textR t = some (.str (mkS (r.take n)), r.drop n)) := Lib.hid (by rw [HE.out, if_neg h2])
      have HSZ : Hid ((mkS (r.take n)).size ≤ 9223372036854775807) := Lib.hid (by rw [mkS_size, List.length_take]; omega)
      obtain ⟨q, hq⟩ : ∃ q, mkS (r.take n) = q := ⟨_, rfl⟩
      rw [hq] at HTY HCL HE2 HSZ
      clear h2 hq
      go_enter Try.func42, Try.ntmps42
      go_wp2_with (go_at_call 41; fail)
      refine HT.out.mono ?_
      rintro e w1 ⟨rfl, hb1, hg1⟩
      have HB1 := Lib.hid hb1
      have HG1 := Lib.hid hg1
      clear hb1 hg1
      go_wp2_with (go_at_call 40; fail)
      refine (HTY.out _ HB1.out).mono ?_
      rintro e w2 ⟨rfl, hb2, hg2⟩
      have HB2 := Lib.hid hb2
      have HG2 := Lib.hid (grown_two HG1.out hg2)
      clear hb2 hg2
      go_wp2_with (go_at_call 45; fail)
      refine (HCL.out _).mono ?_
      rintro e w3 ⟨rfl, hb3⟩
      have HB3 := Lib.hid (HB2.out.below hb3)
      have HG3 := Lib.hid (grown_below HG2.out hb3 HG2.out.size)
      clear hb3
      go_wp2
      go_ret2
      rw [HE2.out]
      exact ReadQ.ok (.str q HSZ.out) HB3.out HG3.out
end Go.Proofs.Ytncbgonanoihfaa

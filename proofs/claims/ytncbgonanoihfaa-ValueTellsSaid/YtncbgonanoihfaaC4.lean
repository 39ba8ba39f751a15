/- A text's bytes behind others; a number's: by contract. No condition but the sizes. -/
import Derived.Test.YtncbgonanoihfaaC3
namespace Go.Proofs.Ytncbgonanoihfaa
open Go.RowKit Go.Own
/-- The answer holds L, in a row of the call's own, or is the error c. -/
def PrQ (B : Nat) (c : Int) (L : List Nat) (w : World) (e : Ending) (w' : World) : Prop :=
  (c = 0 ∧ ∃ v', e = .returned (.tuple #[v', .int .i64 0]) ∧ OwnB w' B v' L ∧ Below B w w') ∨ (c ≠ 0 ∧ e = .returned (.tuple #[.slice none 0 0, .int .i64 c]) ∧ Below B w w')
theorem PrQ.ok {B : Nat} {L : List Nat} {w w' : World} {v' : Value} (h1 : OwnB w' B v' L) (h2 : Below B w w') : PrQ B 0 L w (.returned (.tuple #[v', .int .i64 0])) w' := Or.inl ⟨rfl, v', rfl, h1, h2⟩
theorem PrQ.bad {B : Nat} {c : Int} {L : List Nat} {w w' : World} (hc : c ≠ 0) (h2 : Below B w w') : PrQ B c L w (.returned (.tuple #[.slice none 0 0, .int .i64 c])) w' := Or.inr ⟨hc, rfl, h2⟩
set_option maxRecDepth 100000 in
set_option maxHeartbeats 1000000 in
theorem ptext_any (s : ByteArray) (hs : s.size ≤ 9223372036854775807) (l : List Nat) (hl : l.length + sz (.str s) 0 ≤ 140737488355328) (v : Value) (B : Nat) (w : World) (hB : B ≤ w.heap.size) (hv : OwnB w B v l) :
    Calls Try.prog 38 #[v, .string s] w (PrQ B (er (.str s) 0) (l ++ pr (.str s)) w) := by
  by_cases h : 65535 < s.size
  · have HE : Hid (er (.str s) 0 = 3) := Lib.hid (by rw [er, if_pos h])
    have d1 : decide ((65535 : Int) < (s.size : Int)) = true := by simp; omega
    clear hv
    go_enter Try.func38, Try.ntmps38
    go_wp2
    go_ret2
    rw [HE.out]
    exact PrQ.bad (by decide) (Below.refl _ _)
  · have HE : Hid (er (.str s) 0 = 0) := Lib.hid (by rw [er, if_neg h])
    rw [sz, if_neg h] at hl
    have d1 : decide ((65535 : Int) < (s.size : Int)) = false := by simp; omega
    have HV := Lib.hid hv
    have hs2 : s.size ≤ 65535 := by omega
    have HH := Lib.hid (fun (L : List Nat) (hL : L.length + 2 ≤ 140737488355328) v B w hB hv => high_any 2 s.size (by omega) (by omega) L hL v B w hB hv)
    clear hv h
    go_enter Try.func38, Try.ntmps38
    go_wp2_with (at_builtin; refine wpList_byte rfl (.tmp 9) (.tmp 10) rfl w B _ l 115 rfl rfl HV.out rfl (by omega) hB ?_)
    intro v1 w1 hv1 hb1
    have HO1 := Lib.hid hv1
    have HB1 := Lib.hid hb1
    clear hv1 hb1
    go_wp2_with (go_at_call 37; fail)
    go_goals
    refine (HH.out _ (by simp; omega) _ _ _ (Nat.le_trans hB HB1.out.size) HO1.out).mono ?_
    rintro e w2 ⟨v2, rfl, hv2, hb2⟩
    have HO2 := Lib.hid hv2
    have HB2 := Lib.hid (HB1.out.trans hb2)
    have hl2 : (l ++ [115] ++ be 2 s.size).length = l.length + 3 := by simp [be_length]
    have HL2 := Lib.hid hl2
    have hB2 := Nat.le_trans hB HB2.out.size
    clear hv2 hb2 hl2
    go_wp2_with (at_builtin; refine wpList_text rfl (.tmp 16) (.tmp 17) rfl B _ _ s rfl HO2.out rfl (by rw [HL2.out]; omega) hB2 ?_)
    intro v3 w3 hv3 hb3
    have HO3 : Hid (OwnB w3 B v3 (l ++ pr (.str s))) := Lib.hid (by simpa [pr] using hv3)
    have HB3 := Lib.hid (HB2.out.trans hb3)
    clear hv3 hb3
    go_wp2
    go_ret2
    rw [HE.out]
    exact PrQ.ok HO3.out HB3.out
end Go.Proofs.Ytncbgonanoihfaa

/- The document's Print, by contract; how long what is printed is at most. No condition but that the value is small enough. -/
import Derived.Test.YtncbgonanoihfaaD2
namespace Go.Own
theorem bnd_top : ∀ (d f : Nat), f + d = 8 → bnd f d ≤ bnd 8 0
  | 0, f, h => by obtain rfl : f = 8 := by omega
                  exact Nat.le_refl _
  | d + 1, f, h => Nat.le_trans (bnd_mono f d) (bnd_top d (f + 1) (by omega))
theorem sz_top (v : V) (d : Nat) (hd : d ≤ 8) (hv : fewV v d = true) : sz (ofV v) d ≤ 100000000000000 :=
  Nat.le_trans (sz_bnd v (8 - d) d (by omega) hv) (Nat.le_trans (bnd_top d (8 - d) (by omega)) bnd_le)
end Go.Own
namespace Go.Proofs.Ytncbgonanoihfaa
open Go.RowKit Go.Own
theorem told_any (x : V) : ToldB x := by
  induction x using V.ind with
  | h k n s b l ih =>
    intro d v w hd hf hv
    have hz := sz_top _ d hd hf
    rcases kinds k with rfl | rfl | rfl | rfl | hk
    · rw [show ofV (.mk 1 n s b l) = .num n by simp [ofV]]
      exact told_num n s b l d v w hv
    · rw [show ofV (.mk 2 n s b l) = .str s by simp [ofV]]
      exact told_text n s b l d v w (fewV_parts hf).1 hv
    · rw [show ofV (.mk 3 n s b l) = .bool b by simp [ofV]]
      exact told_bool n s b l d v w hv
    · rw [show ofV (.mk 4 n s b l) = .list (l.map ofV) by simp [ofV, ofVs_map]] at hz ⊢
      exact told_list n s b l ih d v w hd hf hv (by omega)
    · rw [show ofV (.mk k n s b l) = .none by simp [ofV, hk]]
      exact told_none k n s b l d v w hk hv
theorem VAt.five {w : World} {S : Nat → Prop} {v : Value} {x : V} (h : VAt w S v x) : ∃ c0 c1 c2 c3 c4, v = .agg #[c0, c1, c2, c3, c4] := by
  cases h <;> exact ⟨_, _, _, _, _, rfl⟩
set_option maxRecDepth 100000 in
set_option maxHeartbeats 1000000 in
theorem rprint_any (x : V) (v : Value) (w : World) (hf : fewV x 0 = true) (hv : Holds w v x) : Calls Try.prog 11 #[v] w (PrintQ (ofV x) w) := by
  obtain ⟨c0, c1, c2, c3, c4, rfl⟩ := VAt.five hv
  have HC := Lib.hid (told_any x 0 (.agg #[c0, c1, c2, c3, c4]) (w.alloc (.cells #[c0, c1, c2, c3, c4] 24)) (by omega) hf (hv.below ((Below.refl _ w).alloc (Nat.le_refl _) _)))
  have HP : Hid ((if er (ofV x) 0 = 0 then mkS (pr (ofV x)) else { data := #[] }) = prt (ofV x)) := Lib.hid rfl
  unfold ToldQ at HC
  rw [HP.out] at HC
  unfold PrintQ
  obtain ⟨z, hz⟩ : ∃ z, er (ofV x) 0 = z := ⟨_, rfl⟩
  obtain ⟨t, ht⟩ : ∃ t, prt (ofV x) = t := ⟨_, rfl⟩
  rw [hz, ht] at HC ⊢
  clear hf hv hz ht HP
  go_enter Try.func11, Try.ntmps11
  go_wp2_with (go_at_call 26; fail)
  refine HC.out.mono ?_
  rintro e w3 ⟨rfl, hb3⟩
  have HB3 : Hid (Below w.heap.size w w3) := Lib.hid (((Below.refl _ w).alloc (Nat.le_refl _) _).trans (hb3.mono (by simp)))
  clear hb3
  go_wp2
  go_ret2
  exact ⟨rfl, HB3.out⟩
end Go.Proofs.Ytncbgonanoihfaa

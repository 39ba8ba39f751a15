/- The document's own boxes and words, by contract. -/
import Derived.Test.YtmhhekiliojifaaB2
import Derived.Test.YtmhhekiliojifaaApp
namespace Go.Proofs.Ytmhhekiliojifaa
open Go.RowKit Go.Own
attribute [local go_sem] ag5 cs5 sz5 isa5

theorem br30 : ByteRow Try.prog 30 5 := by
  have h : (Try.prog.info? 5).map (fun i => (i.zero, i.size, i.bytes)) = some (some (.int .u8 0), 1, 1) := by kernel_rfl
  refine ⟨Try.underlying30, ?_⟩
  cases hi : Try.prog.info? 5 with
  | none => rw [hi] at h; cases h
  | some i =>
    rw [hi] at h
    simp at h
    exact ⟨i, rfl, h.1, h.2.1, h.2.2⟩
set_option maxRecDepth 100000 in
set_option maxHeartbeats 1000000 in
theorem refBoxes_any (w : World) :
    Calls Try.prog 34 #[] w fun e w' => ∃ v l d, e = .returned v ∧ w' = Wd w l d ∧ Has w l v boxes := by
  have hbl := boxes_length
  refine calls_wd ?_
  go_enter Try.func34, Try.ntmps34
  go_wp2
  go_loopw [1, 2] (fun v i wr => ∃ (k d : Nat) (l : List Obj), k ≤ 256 ∧ i = .int .i64 k ∧ Hid (Has0 w l v (boxes.take k)) ∧ wr = Wd w l d) (fun _ i _ => 256 - (intOf i).toNat)
  case atStart => exact ⟨0, 0, [], by omega, rfl, Or.inl ⟨rfl, rfl⟩, rfl⟩
  case round =>
    obtain ⟨k, d, l, hk, rfl, HS, rfl⟩ := hrel
    by_cases hlt : k < 256
    · have hwk : IntKind.u8.wrap (k : Int) = (k : Int) := by rw [wrap8]; congr 1; omega
      have HT := Lib.hid (show boxes.take k ++ [gi boxes k] = boxes.take (k + 1) by
        rw [List.take_succ_eq_append_getElem (by omega)]
        congr 2
        simp [gi, List.getD, hbl, hlt])
      go_wp2_with fail
      refine (refBox_any k hlt _).mono ?_
      rintro e w' ⟨rfl, rfl⟩
      go_wp2_with (at_builtin; refine stop ?_)
      unfold Stop
      refine wpList_app rfl (.tmp 7) (.tmp 11) 30 5 rfl br30 u1 (boxes.take k) rfl (HS.out.more _) l.length 0 1 1 rfl [gi boxes k] 5 (0, 0) (at_mid _ _ _) (show 0 + 1 ≤ 1 by decide) (by decide) (by simp; omega) ?_
      intro v' l' d' H1 _
      have H1' := H1.out
      rw [show List.take 1 (List.drop 0 [gi boxes k]) = [gi boxes k] from rfl, HT.out] at H1'
      have H2 := Lib.hid H1'; clear H1 H1'
      go_wp2
      go_roundw
      case rel => exact ⟨k + 1, _, _, by omega, by go_num, Or.inr H2.out, rfl⟩
      case measure => simp [intOf]; omega
    · obtain rfl : k = 256 := by omega
      have HB : Has w l u1 boxes := by
        rcases HS.out with ⟨_, h⟩ | h
        · have := congrArg List.length h
          simp [hbl] at this
        · rwa [List.take_of_length_le (by omega)] at h
      have HH := Lib.hid HB; clear HB
      go_wp2
      go_ret
      exact ⟨_, _, _, rfl, rfl, HH.out⟩
end Go.Proofs.Ytmhhekiliojifaa

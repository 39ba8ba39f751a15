/- Image: by contract. No condition. -/
import Derived.Test.YtafbphgfdnmilaaC7
namespace Go.Proofs.Ytafbphgfdnmilaa
open Go.RowKit Go.Own

theorem mk60 {w : World} {l : List Obj} {d n : Nat} (hn : n ≤ 4096) :
    mkX Try.prog 60 (.int .u8 0) w l d 0 ((n : Int) * 64) = .ok (.slice (some ⟨w.heap.size + l.length, 0, none⟩) 0 (n * 64)) (Wd w (l ++ [.cells (cv .u8 (rep (n * 64))) 5 (0, 0)]) d) := by
  have h := mkX_cv (P := Try.prog) (T := 60) (w := w) (l := l) (d := d) (n := 0) (c := n * 64) (k := .u8) Try.underlying60 (by kernel_rfl) (by omega) (by omega)
  have e : ((n : Int) * 64) = ((n * 64 : Nat) : Int) := by omega
  rw [e]
  exact h
/-- The image's first k sectors, bytes 0 behind them. -/
def imgL (x : List Nat) (n k : Nat) : List Nat := x.take (k * 64) ++ rep ((n - k) * 64)
theorem imgL_length {x : List Nat} {n k : Nat} (hx : x.length = n * 64) (hk : k ≤ n) : (imgL x n k).length = n * 64 := by
  unfold imgL
  rw [List.length_append, List.length_take, rep_length, hx]
  have : (n - k) * 64 = n * 64 - k * 64 := Nat.sub_mul _ _ _
  omega
theorem imgL_step {x : List Nat} {n k : Nat} (hx : x.length = n * 64) (hk : k < n) : spl (imgL x n k) (k * 64) (sec x k) = imgL x n (k + 1) := by
  have h1 : (x.take (k * 64)).length = k * 64 := by rw [List.length_take, hx]; omega
  have h2 := sec_length hx hk
  unfold spl imgL
  rw [List.take_append_of_le_length (by omega), List.take_of_length_le (by omega), List.drop_append, List.drop_of_length_le (by omega), List.nil_append, h1, h2, Nat.add_sub_cancel_left]
  congr 1
  · unfold sec
    rw [Nat.add_mul, Nat.one_mul, List.take_add]
  · unfold rep
    rw [List.drop_replicate]
    congr 1
    rw [Nat.sub_mul, Nat.sub_mul]; omega
attribute [local go_sem] mk60 sec_eq set_same app_left set_left at_mid' set_mid' at_mid2' set_mid2'
set_option maxRecDepth 100000 in
set_option maxHeartbeats 1000000 in
theorem image_any (w : World) (l : List Obj) (d i s q : Nat) (vw : Value) (O : Nat → Prop) (M : Dk) (h : DAt w l i s q vw O M) :
    Calls Try.prog 24 #[.pointer (some ⟨w.heap.size + i, 0, none⟩)] (Wd w l d) fun e w' => e = .returned (.string (mkS M.last)) ∧ ∃ g d', w' = Wd w (l ++ g) d' := by
  have hd := h.hd
  have hq := h.hq
  have hn := h.ok.n2
  have hL := Lib.hid h.ok.lastL
  clear h
  obtain ⟨n, seen, last, wait, count, cat, keep, torn, off⟩ := M
  simp only at hd hq hn hL
  go_enter Try.func24, Try.ntmps24
  go_wp2
  go_loopw [3, 18] (fun v i wr => ∃ (k : Nat) (g : List Obj) (e : Nat), k ≤ n ∧ i = .int .i64 k ∧ v = .slice (some ⟨w.heap.size + l.length, 0, none⟩) (k * 64) (n * 64) ∧ wr = Wd w (l ++ (.cells (cv .u8 (imgL last n k)) 5 (0, 0) :: g)) e) (fun _ i _ => n - (intOf i).toNat)
  case atStart => exact ⟨0, [], _, by omega, rfl, by rw [Nat.zero_mul], by unfold imgL; rw [Nat.zero_mul, List.take_zero, List.nil_append]; rfl⟩
  case round =>
    obtain ⟨k, g, e, hk, rfl, rfl, rfl⟩ := hrel
    have hIl := imgL_length (n := n) (k := k) hL.out hk
    by_cases hlt : k < n
    · have HST := Lib.hid (imgL_step (n := n) (k := k) hL.out hlt)
      have hsl := sec_length (k := k) hL.out hlt
      have hfit : k * 64 + 64 ≤ n * 64 := by omega
      have hll := hL.out
      obtain ⟨S, hS⟩ : ∃ S, imgL last n k = S := ⟨_, rfl⟩
      rw [hS] at hIl HST ⊢
      clear hS
      go_wp2
      go_roundw
      case rel => exact ⟨k + 1, _, _, by omega, by go_num, by rw [Nat.add_mul, Nat.one_mul], by rw [HST.out]⟩
      case measure => simp [intOf]; omega
    · obtain rfl : k = n := by omega
      have HE := Lib.hid (show imgL last k k = last by unfold imgL; rw [Nat.sub_self, Nat.zero_mul, List.take_of_length_le (by rw [hL.out]; exact Nat.le_refl _)]; exact List.append_nil _)
      go_wp2
      go_ret
      exact ⟨by rw [HE.out]; rfl, _, _, rfl⟩
end Go.Proofs.Ytafbphgfdnmilaa

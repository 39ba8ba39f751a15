/- Names: the program's and the document's count of runes, by contract. No condition but the string's size. -/
import Derived.Test.YtfihbfkgkljjdaaProg
import Derived.Test.YtfihbfkgkljjdaaN1
import Derived.WalkLawsBesides
import Derived.WalkSpells
import Derived.Lib.OthersKept
import Derived.BigQuiet
import Derived.Deep.QuietTactic
namespace Go.Proofs.Ytfihbfkgkljjdaa
open Go.RowKit Go.Own
set_option maxRecDepth 100000 in
theorem ofn_any (r : Nat) (hr : r ≤ 2147483647) (w : World) : Calls Try.prog 41 #[.int .i32 (r : Int)] w fun e w' => e = .returned (.bool (inName r)) ∧ w = w' := by
  have hc : r < 45 ∨ r = 45 ∨ (45 < r ∧ r < 48) ∨ (48 ≤ r ∧ r ≤ 57) ∨ (57 < r ∧ r < 97) ∨ (97 ≤ r ∧ r ≤ 122) ∨ (122 < r ∧ r < 945) ∨ (945 ≤ r ∧ r ≤ 969) ∨ 969 < r := by omega
  rcases hc with h | h | h | h | h | h | h | h | h
  all_goals
    try have d57 : decide ((r : Int) ≤ 57) = false := by simp; omega
    try have d122 : decide ((r : Int) ≤ 122) = false := by simp; omega
    try have d969 : decide ((r : Int) ≤ 969) = false := by simp; omega
    try have d57 : decide ((r : Int) ≤ 57) = true := by simp; omega
    try have d122 : decide ((r : Int) ≤ 122) = true := by simp; omega
    try have d969 : decide ((r : Int) ≤ 969) = true := by simp; omega
    try have h45 : ((r : Int) == 45) = false := by simp; omega
    try have h45 : ((r : Int) == 45) = true := by simp; omega
    try have H : Hid (inName r = true) := Lib.hid (by simp only [inName, Bool.or_eq_true, Bool.and_eq_true, decide_eq_true_eq]; omega)
    try have H : Hid (inName r = false) := Lib.hid (by simp only [inName, Bool.or_eq_false_iff, Bool.and_eq_false_iff, decide_eq_false_iff_not]; omega)
    go_enter Try.func41, Try.ntmps41
    go_wp2
    go_ret
    exact ⟨by rw [H.out]; rfl, rfl⟩
theorem ofn_bool (r : Nat) (b : Bool) (hr : r ≤ 2147483647) (h : inName r = b) (w : World) : Calls Try.prog 41 #[.int .i32 (r : Int)] w fun e w' => e = .returned (.bool b) ∧ w = w' := by
  have := ofn_any r hr w
  rwa [h] at this
theorem below_iter (w : World) (s : ByteArray) (pos : Nat) : Below w.heap.size w (w.iter s pos) := (Below.refl w.heap.size w).alloc (Nat.le_refl _) _
set_option maxRecDepth 1000000 in
set_option maxHeartbeats 1000000 in
theorem runes_any (s : ByteArray) (w : World) : Calls Try.prog 31 #[.string s] w fun e w' => e = .returned (.int .i64 ((runesN s : Nat) : Int)) ∧ Below w.heap.size w w' := by
  go_enter Try.func31, Try.ntmps31
  go_wp2
  go_loopw [3] (fun n wr => ∃ pos k : Nat, wr = w.iter s pos ∧ n = .int .i64 (k : Int) ∧ Hid (Gone s pos k) ∧ k ≤ 32) (fun _ wr => s.size - wr.iterPos w.heap.size)
  case atStart => exact ⟨0, 0, rfl, rfl, Lib.hid (Gone.start s), by omega⟩
  case round =>
    obtain ⟨pos, k, rfl, rfl, HG, hk⟩ := hrel
    by_cases hp : pos < s.size
    · have hnx : ∀ ty, (Instr.next (.pointer (some ⟨w.heap.size, 0, none⟩)) true ty).run Try.prog (w.iter s pos) = _ := fun ty => run_next_any w s pos ty hp
      have hle := decode_le s pos
      have hst := nm_step s pos (decide (pos = 0)) hp
      obtain ⟨r, hr⟩ : ∃ r, (Utf8.decode s pos).1 = r := ⟨_, rfl⟩
      obtain ⟨j, hj⟩ : ∃ j, (Utf8.decode s pos).2 = j := ⟨_, rfl⟩
      rw [hr] at hle hst
      rw [hj] at hst
      simp only [hr, hj] at hnx
      clear hr hj
      rcases hst with ⟨hI, hno, he, hj1, hj2, hj3⟩ | ⟨hI, he⟩ | ⟨hI, hz, h45, he⟩
      · have HE := Lib.hid he
        have HO := Lib.hid (ofn_bool r true hle hI)
        have h0 : ((pos : Int) == 0) = false ∨ (((pos : Int) == 0) = true ∧ ((r : Int) == 45) = false) := by
          by_cases e : pos = 0
          · right; refine ⟨by simp [e], ?_⟩
            have : r ≠ 45 := fun e2 => hno ⟨by simp [e], e2⟩
            simp; omega
          · left; simp; omega
        clear hI hno he
        by_cases h32 : k = 32
        · have HZ : Hid (runesN s = 0) := Lib.hid (HG.out.many (by omega) HE.out)
          have hk32 : ((k : Int) == 32) = true := by simp; omega
          rcases h0 with h0 | ⟨h0, h1⟩
          all_goals
            go_wp2_with (go_at_call 41; refine (HO.out _).mono ?_; rintro e w' ⟨rfl, rfl⟩)
            go_ret
            exact ⟨by rw [HZ.out]; rfl, below_iter _ _ _⟩
        · have HN := Lib.hid (HG.out.next hj2 hj1 HE.out)
          have hk32 : ((k : Int) == 32) = false := by simp; omega
          rcases h0 with h0 | ⟨h0, h1⟩
          all_goals
            go_wp2_with (go_at_call 41; refine (HO.out _).mono ?_; rintro e w' ⟨rfl, rfl⟩)
            go_roundw
            case rel => exact ⟨_, k + 1, rfl, by go_num, HN, by omega⟩
            case measure => simp; omega
      · have HO := Lib.hid (ofn_bool r false hle hI)
        have HZ : Hid (runesN s = 0) := Lib.hid (HG.out.bad he)
        clear hI he
        go_wp2_with (go_at_call 41; refine (HO.out _).mono ?_; rintro e w' ⟨rfl, rfl⟩)
        go_ret
        exact ⟨by rw [HZ.out]; rfl, below_iter _ _ _⟩
      · have HO := Lib.hid (ofn_bool r true hle hI)
        have HZ : Hid (runesN s = 0) := Lib.hid (HG.out.bad he)
        have h0 : ((pos : Int) == 0) = true := by simpa using hz
        have h1 : ((r : Int) == 45) = true := by simp; omega
        clear hI he hz h45
        go_wp2_with (go_at_call 41; refine (HO.out _).mono ?_; rintro e w' ⟨rfl, rfl⟩)
        go_ret
        exact ⟨by rw [HZ.out]; rfl, below_iter _ _ _⟩
    · have hnx : ∀ ty, (Instr.next (.pointer (some ⟨w.heap.size, 0, none⟩)) true ty).run Try.prog (w.iter s pos) = _ := fun ty => run_next_end w s pos ty hp
      have HZ : Hid (runesN s = k) := Lib.hid (HG.out.end (by omega) hk)
      go_wp2
      go_ret
      exact ⟨by rw [HZ.out]; rfl, below_iter _ _ _⟩
set_option maxRecDepth 100000 in
theorem right_any (s : ByteArray) (w : World) : Calls Try.prog 19 #[.string s] w fun e w' => e = .returned (.bool (decide (0 < runesN s))) ∧ Below w.heap.size w w' := by
  have HR := Lib.hid (runes_any s w)
  obtain ⟨n, hn⟩ : ∃ n, runesN s = n := ⟨_, rfl⟩
  rw [hn] at HR ⊢
  clear hn
  by_cases h : 0 < n
  · have HD : Hid (decide (0 < n) = true) := Lib.hid (decide_eq_true h)
    go_enter Try.func19, Try.ntmps19
    go_wp2_with fail
    refine HR.out.mono ?_
    rintro e w' ⟨rfl, hb⟩
    replace hb := Lib.hid hb
    go_wp2
    go_ret
    exact ⟨by rw [HD.out]; rfl, hb.out⟩
  · have HD : Hid (decide (0 < n) = false) := Lib.hid (decide_eq_false h)
    go_enter Try.func19, Try.ntmps19
    go_wp2_with fail
    refine HR.out.mono ?_
    rintro e w' ⟨rfl, hb⟩
    replace hb := Lib.hid hb
    have hn : decide (0 < (n : Int)) = false := by simp; omega
    go_wp2
    go_ret
    exact ⟨by rw [HD.out]; rfl, hb.out⟩
end Go.Proofs.Ytfihbfkgkljjdaa

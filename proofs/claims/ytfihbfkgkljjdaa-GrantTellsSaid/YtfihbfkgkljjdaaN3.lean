/- Names: the document's count of runes, by contract. No condition but the string's size. -/
import Derived.Test.YtfihbfkgkljjdaaN2
namespace Go.Proofs.Ytfihbfkgkljjdaa
open Go.RowKit Go.Own
theorem ixS (t : ByteArray) (k : IntKind) (i : Nat) (W : World) (h1 : i < t.size) :
    (Instr.index 9 (.string t) (.int k (i : Int))).run Try.prog W = .ok (.int .u8 ((gi (bys t) i : Nat) : Int)) W := by
  rw [gi_at t i h1]
  rw [run_index_string W 9 t k i Try.underlying9, dif_pos ⟨by omega, by omega⟩]
  simp
set_option maxRecDepth 1000000 in
set_option maxHeartbeats 2000000 in
theorem refRunes_any (s : ByteArray) (hs : s.size ≤ 1099511627776) (w : World) : Calls Try.prog 21 #[.string s] w fun e w' => e = .returned (.int .i64 ((runesN s : Nat) : Int)) ∧ w = w' := by
  go_enter Try.func21, Try.ntmps21
  go_wp2
  go_loop [3, 4] (fun n i => ∃ pos k : Nat, i = .int .i64 (pos : Int) ∧ n = .int .i64 (k : Int) ∧ Hid (Gone s pos k)) (fun _ i => s.size - (intOf i).toNat)
  case atStart => exact ⟨0, 0, rfl, rfl, Lib.hid (Gone.start s)⟩
  case round =>
    obtain ⟨pos, k, rfl, rfl, HG⟩ := hrel
    have hkp := HG.out.2.2.2
    have hps := HG.out.2.1
    by_cases hp : pos < s.size
    · obtain ⟨c, hc⟩ : ∃ c, gi (bys s) pos = c := ⟨_, rfl⟩
      have hcb : c < 256 := by rw [← hc]; exact gi_bys_lt s pos
      have hxc : ∀ (kk : IntKind) W, (Instr.index 9 (.string s) (.int kk (pos : Int))).run Try.prog W = .ok (.int .u8 (c : Int)) W := fun kk W => by rw [ixS s kk pos W hp, hc]
      have HC := Lib.hid hc
      clear hc
      by_cases h1 : ok1 c (decide (pos = 0)) = true
      · have HN := Lib.hid (HG.out.next (j := 1) (by omega) (by omega) (nm_byte1 s pos _ hp (by rw [HC.out]; exact h1)))
        have h2 : (97 ≤ c ∧ c ≤ 122) ∨ (48 ≤ c ∧ c ≤ 57) ∨ (c = 45 ∧ 0 < pos) := by
          simp only [ok1, Bool.or_eq_true, Bool.and_eq_true, decide_eq_true_eq, Bool.not_eq_true', decide_eq_false_iff_not] at h1; omega
        clear h1
        rcases h2 with h2 | h2 | h2
        all_goals
          try have d97 : decide ((97 : Int) ≤ (c : Int)) = false := by simp; omega
          try have d97 : decide ((97 : Int) ≤ (c : Int)) = true := by simp; omega
          try have d122 : decide ((c : Int) ≤ 122) = true := by simp; omega
          try have d48 : decide ((48 : Int) ≤ (c : Int)) = true := by simp; omega
          try have d48 : decide ((48 : Int) ≤ (c : Int)) = false := by simp; omega
          try have d57 : decide ((c : Int) ≤ 57) = true := by simp; omega
          try have h45 : ((c : Int) == 45) = true := by simp; omega
          go_wp2
          go_round
          case rel => exact ⟨pos + 1, k + 1, by go_num, by go_num, HN⟩
          case measure => simp [intOf]; omega
      · have h1' : ok1 c (decide (pos = 0)) = false := by simpa using h1
        have h2 : (c < 45 ∨ (c = 45 ∧ pos = 0) ∨ (45 < c ∧ c < 48)) ∨ (57 < c ∧ c < 97) ∨ 122 < c := by
          simp only [ok1, Bool.or_eq_false_iff, Bool.and_eq_false_iff, decide_eq_false_iff_not, Bool.not_eq_false', decide_eq_true_eq] at h1'; omega
        by_cases hp1 : pos + 1 < s.size
        · obtain ⟨d, hd⟩ : ∃ d, gi (bys s) (pos + 1) = d := ⟨_, rfl⟩
          have hdb : d < 256 := by rw [← hd]; exact gi_bys_lt s (pos + 1)
          have hxd : ∀ (kk : IntKind) W, (Instr.index 9 (.string s) (.int kk ((pos : Int) + 1))).run Try.prog W = .ok (.int .u8 (d : Int)) W := fun kk W => by
            have := ixS s kk (pos + 1) W hp1
            rw [hd] at this
            exact this
          have HD := Lib.hid hd
          clear hd
          by_cases h3 : ok2 c d = true
          · have HN := Lib.hid (HG.out.next (j := 2) (by omega) (by omega) (nm_byte2 s pos _ hp1 (by rw [HC.out]; exact h1') (by rw [HC.out, HD.out]; exact h3)))
            have h4 : (c = 206 ∧ 177 ≤ d ∧ d ≤ 191) ∨ (c = 207 ∧ 128 ≤ d ∧ d ≤ 137) := by
              simp only [ok2, Bool.or_eq_true, Bool.and_eq_true, decide_eq_true_eq] at h3; omega
            clear h1 h1' h2 h3
            rcases h4 with ⟨h4, h5, h6⟩ | ⟨h4, h5, h6⟩
            all_goals
              have d97 : decide ((97 : Int) ≤ (c : Int)) = true := by simp; omega
              have d122 : decide ((c : Int) ≤ 122) = false := by simp; omega
              have d48 : decide ((48 : Int) ≤ (c : Int)) = true := by simp; omega
              have d57 : decide ((c : Int) ≤ 57) = false := by simp; omega
              have h45 : ((c : Int) == 45) = false := by simp; omega
              try have e206 : ((c : Int) == 206) = true := by simp; omega
              try have e206 : ((c : Int) == 206) = false := by simp; omega
              try have e207 : ((c : Int) == 207) = true := by simp; omega
              try have q1 : decide ((177 : Int) ≤ (d : Int)) = true := by simp; omega
              try have q2 : decide ((d : Int) ≤ 191) = true := by simp; omega
              try have q3 : decide ((128 : Int) ≤ (d : Int)) = true := by simp; omega
              try have q4 : decide ((d : Int) ≤ 137) = true := by simp; omega
              clear h4
              go_wp2
              go_round
              case rel => exact ⟨pos + 2, k + 1, by go_num, by go_num, HN⟩
              case measure => simp [intOf]; omega
          · have HZ : Hid (runesN s = 0) := Lib.hid (HG.out.bad (nm_none2 s pos _ hp1 (by rw [HC.out]; exact h1') (by rw [HC.out, HD.out]; simpa using h3)))
            have h5 : (c = 206 ∧ d < 177) ∨ (c = 206 ∧ 177 ≤ d ∧ 191 < d) ∨ (c = 207 ∧ d < 128) ∨ (c = 207 ∧ 128 ≤ d ∧ 137 < d) ∨ (c ≠ 206 ∧ c ≠ 207 ∧ c < 45) ∨ (c = 45 ∧ pos = 0) ∨ (45 < c ∧ c < 48) ∨ (57 < c ∧ c < 97) ∨ (c ≠ 206 ∧ c ≠ 207 ∧ 122 < c) := by
              simp only [ok2, Bool.or_eq_true, Bool.and_eq_true, decide_eq_true_eq] at h3; omega
            clear h1 h1' h2 h3
            rcases h5 with h5 | h5 | h5 | h5 | h5 | h5 | h5 | h5 | h5
            all_goals
              try have d97 : decide ((97 : Int) ≤ (c : Int)) = false := by simp; omega
              try have d97 : decide ((97 : Int) ≤ (c : Int)) = true := by simp; omega
              try have d122 : decide ((c : Int) ≤ 122) = false := by simp; omega
              try have d122 : decide ((c : Int) ≤ 122) = true := by simp; omega
              try have d48 : decide ((48 : Int) ≤ (c : Int)) = true := by simp; omega
              try have d48 : decide ((48 : Int) ≤ (c : Int)) = false := by simp; omega
              try have d57 : decide ((c : Int) ≤ 57) = true := by simp; omega
              try have d57 : decide ((c : Int) ≤ 57) = false := by simp; omega
              try have h45 : ((c : Int) == 45) = true := by simp; omega
              try have h45 : ((c : Int) == 45) = false := by simp; omega
              try have hp0 : ¬ 0 < pos := by omega
              try have e206 : ((c : Int) == 206) = true := by simp; omega
              try have e206 : ((c : Int) == 206) = false := by simp; omega
              try have e207 : ((c : Int) == 207) = true := by simp; omega
              try have e207 : ((c : Int) == 207) = false := by simp; omega
              try have q1 : decide ((177 : Int) ≤ (d : Int)) = true := by simp; omega
              try have q1 : decide ((177 : Int) ≤ (d : Int)) = false := by simp; omega
              try have q2 : decide ((d : Int) ≤ 191) = true := by simp; omega
              try have q2 : decide ((d : Int) ≤ 191) = false := by simp; omega
              try have q3 : decide ((128 : Int) ≤ (d : Int)) = true := by simp; omega
              try have q3 : decide ((128 : Int) ≤ (d : Int)) = false := by simp; omega
              try have q4 : decide ((d : Int) ≤ 137) = true := by simp; omega
              try have q4 : decide ((d : Int) ≤ 137) = false := by simp; omega
              clear h5
              go_wp2
              first | (go_ret; exact ⟨by rw [HZ.out]; rfl, rfl⟩) | go_ways
        · have HZ : Hid (runesN s = 0) := Lib.hid (HG.out.bad (nm_none1 s pos _ (by omega) (by rw [HC.out]; exact h1')))
          have h5 : c < 45 ∨ (c = 45 ∧ pos = 0) ∨ (45 < c ∧ c < 48) ∨ (57 < c ∧ c < 97) ∨ 122 < c := by omega
          have hend : (s.size : Int) ≤ (pos : Int) + 1 := by omega
          clear h1 h1' h2
          rcases h5 with h5 | h5 | h5 | h5 | h5
          all_goals
            try have d97 : decide ((97 : Int) ≤ (c : Int)) = false := by simp; omega
            try have d97 : decide ((97 : Int) ≤ (c : Int)) = true := by simp; omega
            try have d122 : decide ((c : Int) ≤ 122) = false := by simp; omega
            try have d122 : decide ((c : Int) ≤ 122) = true := by simp; omega
            try have d48 : decide ((48 : Int) ≤ (c : Int)) = true := by simp; omega
            try have d48 : decide ((48 : Int) ≤ (c : Int)) = false := by simp; omega
            try have d57 : decide ((c : Int) ≤ 57) = true := by simp; omega
            try have d57 : decide ((c : Int) ≤ 57) = false := by simp; omega
            try have h45 : ((c : Int) == 45) = true := by simp; omega
            try have h45 : ((c : Int) == 45) = false := by simp; omega
            try have hp0 : ¬ 0 < pos := by omega
            clear h5
            go_wp2
            go_ret
            exact ⟨by rw [HZ.out]; rfl, rfl⟩
    · have hpe : ¬ (pos : Int) < (s.size : Int) := by omega
      by_cases hk : k ≤ 32
      · have HZ : Hid (runesN s = k) := Lib.hid (HG.out.end (by omega) hk)
        go_wp2
        go_ret
        exact ⟨by rw [HZ.out]; rfl, rfl⟩
      · have HZ : Hid (runesN s = 0) := Lib.hid (HG.out.over (by omega) (by omega))
        go_wp2
        go_ret
        exact ⟨by rw [HZ.out]; rfl, rfl⟩
end Go.Proofs.Ytfihbfkgkljjdaa

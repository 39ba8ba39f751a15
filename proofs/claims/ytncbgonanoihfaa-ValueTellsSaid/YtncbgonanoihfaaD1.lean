/- The document's told, by contract. No condition but that the value is small enough. -/
import Derived.Test.YtncbgonanoihfaaC5
import Derived.Laws.Concat
namespace Go.Proofs.Ytncbgonanoihfaa
open Go.RowKit Go.Own
attribute [-go_sem] run_string_add_if
theorem bytes_own (W : World) (B : Nat) (cs : List Nat) (hB : B ≤ W.heap.size) (hl : cs.length ≤ 1000) : OwnB (W.alloc (.cells (nb cs).toArray 5)) B (.slice (some ⟨W.heap.size, 0, none⟩) cs.length cs.length) cs :=
  ⟨by simp [nb], Or.inr ⟨W.heap.size, cs.length, (nb cs).toArray, rfl, hB, heap_alloc_new W _, by simp, by unfold maxLen; omega, by simp [nb], List.take_of_length_le (by simp [nb])⟩⟩
theorem conv_one (W : World) (H : Nat) (x : Int) (c : Nat) (hx : x = (c : Int)) (hH : W.heap.size = H) :
    (convert 56 9 (.slice (some ⟨H, 0, none⟩) 1 1)).run Try.prog (W.alloc (.cells #[.int .u8 x] 5)) = .ok (.string (mkS [c])) (W.alloc (.cells #[.int .u8 x] 5)) := by
  subst hx hH
  exact OwnB.str (bytes_own W 0 [c] (Nat.zero_le _) (by simp))
theorem conv_two (W : World) (H : Nat) (x y : Int) (c d : Nat) (hx : x = (c : Int)) (hy : y = (d : Int)) (hH : W.heap.size = H) :
    (convert 56 9 (.slice (some ⟨H, 0, none⟩) 2 2)).run Try.prog (W.alloc (.cells #[.int .u8 x, .int .u8 y] 5)) = .ok (.string (mkS [c, d])) (W.alloc (.cells #[.int .u8 x, .int .u8 y] 5)) := by
  subst hx hy hH
  exact OwnB.str (bytes_own W 0 [c, d] (Nat.zero_le _) (by simp))
theorem add_run (a b : ByteArray) (l : List Nat) (h : a ++ b = mkS l) (hs : a.size + b.size ≤ 9223372036854775807) (W : World) : (Op.stringOp .add a b).run Try.prog W = .ok (.string (mkS l)) W := by
  rw [← h]; exact run_string_add_sum W a b hs
theorem cat_l (c : Nat) (l : List Nat) : mkS [c] ++ mkS l = mkS (c :: l) := by rw [← mkS_append]; rfl
theorem cat_s (l : List Nat) (s : ByteArray) : mkS l ++ s = mkS (l ++ bys s) := by rw [mkS_append, mkS_bys]
/-- What the document's told answers. -/
def ToldQ (a : A) (d : Nat) (w : World) (e : Ending) (w' : World) : Prop :=
  e = .returned (.tuple #[.string (if er a d = 0 then mkS (pr a) else { data := #[] }), .int .i64 (er a d)]) ∧ Below w.heap.size w w'
def ToldB (x : V) : Prop := ∀ (d : Nat) (v : Value) (w : World), d ≤ 8 → fewV x d = true → Holds w v x → Calls Try.prog 26 #[v, .int .i64 (d : Int)] w (ToldQ (ofV x) d w)
set_option maxRecDepth 100000 in
set_option maxHeartbeats 1000000 in
theorem told_text (n : Int) (s : ByteArray) (b : Bool) (l : List V) (d : Nat) (v : Value) (w : World) (hs : s.size ≤ 70000) (hv : Holds w v (.mk 2 n s b l)) :
    Calls Try.prog 26 #[v, .int .i64 (d : Int)] w (ToldQ (.str s) d w) := by
  obtain ⟨p, cap, hp⟩ := VAt.parts hv
  obtain ⟨rfl, _, _, _, _, _, _⟩ := hp
  by_cases h : 65535 < s.size
  · have HE : Hid (er (.str s) d = 3) := Lib.hid (by rw [er, if_pos h])
    have d1 : decide ((65535 : Int) < (s.size : Int)) = true := by simp; omega
    clear hv
    go_enter Try.func26, Try.ntmps26
    go_wp2
    go_ret2
    exact ⟨by rw [HE.out]; rfl, (Below.refl _ w).alloc (Nat.le_refl _) _⟩
  · have HE : Hid (er (.str s) d = 0) := Lib.hid (by rw [er, if_neg h])
    have d1 : decide ((65535 : Int) < (s.size : Int)) = false := by simp; omega
    clear hv
    have hcv := conv_two (w.alloc (.cells #[.int .i64 2, .int .i64 n, .string s, .bool b, .slice p l.length cap] 24)) (w.heap.size + 1) ((s.size : Int) / 256) ((s.size : Int) % 256) (s.size / 256) (s.size % 256) (by omega) (by omega) (by simp)
    have e2 : [s.size / 256, s.size % 256] = be 2 s.size := by simp [be]; omega
    rw [e2] at hcv
    have ha1 := add_run { data := #[115] } (mkS (be 2 s.size)) (115 :: be 2 s.size) (cat_l 115 _) (by rw [mkS_size, be_length]; simp [ByteArray.size])
    have ha2 := add_run (mkS (115 :: be 2 s.size)) s (115 :: be 2 s.size ++ bys s) (cat_s _ _) (by rw [mkS_size, List.length_cons, be_length]; omega)
    clear e2
    go_enter Try.func26, Try.ntmps26
    go_wp2
    go_ret2
    exact ⟨by rw [HE.out]; rfl, ((Below.refl _ w).alloc (Nat.le_refl _) _).alloc (by simp) _⟩
theorem low_byte (n : Int) (j : Nat) (hj : j < 8) : n / 256 ^ j % 256 = ((u64 n / 256 ^ j % 256 : Nat) : Int) := by
  obtain ⟨r, hr⟩ : ∃ r : Nat, (r : Int) = n % (two64 : Int) := ⟨(n % (two64 : Int)).toNat, Int.toNat_of_nonneg (Int.emod_nonneg _ (by unfold two64; omega))⟩
  have hu : u64 n = r := by unfold u64; omega
  have hn : n = (r : Int) + 256 ^ j * (256 * (256 ^ (7 - j) * (n / (two64 : Int)))) := by
    have h1 := Int.emod_add_mul_ediv n (two64 : Int)
    have h2 : (two64 : Int) = 256 ^ j * (256 * 256 ^ (7 - j)) := by
      rw [← Int.pow_succ', ← Int.pow_add, show j + (7 - j + 1) = 8 by omega]
      rfl
    rw [← hr] at h1
    rw [← Int.mul_assoc 256, ← Int.mul_assoc (256 ^ j), ← h2]
    exact h1.symm
  rw [hu, hn, Int.add_mul_ediv_left _ _ (by exact Int.ne_of_gt (Int.pow_pos (by omega)))]
  have h3 : (r : Int) / 256 ^ j = ((r / 256 ^ j : Nat) : Int) := by simp
  rw [h3]
  omega
set_option maxRecDepth 100000 in
set_option maxHeartbeats 1000000 in
theorem told_num (n : Int) (s : ByteArray) (b : Bool) (l : List V) (d : Nat) (v : Value) (w : World) (hv : Holds w v (.mk 1 n s b l)) :
    Calls Try.prog 26 #[v, .int .i64 (d : Int)] w (ToldQ (.num n) d w) := by
  obtain ⟨p, cap, hp⟩ := VAt.parts hv
  obtain ⟨rfl, _, _, _, _, _, _⟩ := hp
  have HE : Hid (er (.num n) d = 0) := Lib.hid rfl
  clear hv
  go_enter Try.func26, Try.ntmps26
  go_wp2
  have HW0 : Hid (Below w.heap.size w (w.alloc (.cells #[.int .i64 1, .int .i64 n, .string s, .bool b, .slice p l.length cap] 24))) := Lib.hid ((Below.refl _ w).alloc (Nat.le_refl _) _)
  generalize w.alloc (.cells #[.int .i64 1, .int .i64 n, .string s, .bool b, .slice p l.length cap] 24) = W0 at *
  go_loopw [6, 7, 8] (fun t x i wr => ∃ (j : Nat) (z : Int) (q : ByteArray), j ≤ 8 ∧ i = .int .i64 (j : Int) ∧ x = .int .i64 z ∧ t = .string q ∧ Hid (z = n / 256 ^ j) ∧ Hid (q = mkS (be j (u64 n))) ∧ Hid (Below w.heap.size w wr)) (fun _ _ i _ => 8 - (intOf i).toNat)
  case atStart => exact ⟨0, n, _, by omega, rfl, rfl, rfl, Lib.hid (by simp), Lib.hid rfl, HW0⟩
  case round =>
    obtain ⟨j, z, q, hj, rfl, rfl, rfl, HZ, HQ, HB⟩ := hrel
    by_cases hlt : j < 8
    · have hji : (j : Int) < 8 := by omega
      have hcv := conv_one wr wr.heap.size (z % 256) (u64 n / 256 ^ j % 256) (by rw [HZ.out]; exact low_byte n j hlt) rfl
      have ha := add_run (mkS [u64 n / 256 ^ j % 256]) q (u64 n / 256 ^ j % 256 :: be j (u64 n)) (by rw [HQ.out]; exact cat_l _ _) (by rw [HQ.out, mkS_size, mkS_size, be_length]; simp; omega)
      have HZ2 : Hid (z / 256 = n / 256 ^ (j + 1)) := Lib.hid (by
        rw [HZ.out, Int.ediv_ediv_of_nonneg (Int.pow_nonneg (by omega)), Int.pow_succ])
      have HQ2 : Hid (mkS (u64 n / 256 ^ j % 256 :: be j (u64 n)) = mkS (be (j + 1) (u64 n))) := Lib.hid rfl
      obtain ⟨q2, hq2⟩ : ∃ q2, mkS (u64 n / 256 ^ j % 256 :: be j (u64 n)) = q2 := ⟨_, rfl⟩
      obtain ⟨q1, hq1⟩ : ∃ q1, mkS [u64 n / 256 ^ j % 256] = q1 := ⟨_, rfl⟩
      rw [hq2] at ha HQ2
      rw [hq1] at ha hcv
      clear hq1 hq2
      have HB2 : Hid (Below w.heap.size w (wr.alloc (.cells #[.int .u8 (z % 256)] 5))) := Lib.hid (HB.out.alloc HB.out.size _)
      go_wp2
      go_roundw
      case rel => exact ⟨j + 1, _, q2, by omega, by go_num, rfl, rfl, HZ2, HQ2, HB2⟩
      case measure => simp [intOf]; omega
    · obtain rfl : j = 8 := by omega
      have HT : Hid (mkS (105 :: be 8 (u64 n)) = if er (.num n) d = 0 then mkS (pr (.num n)) else { data := #[] }) := Lib.hid (by rw [HE.out]; rfl)
      have ha := add_run { data := #[105] } q (105 :: be 8 (u64 n)) (by rw [HQ.out]; exact cat_l _ _) (by rw [HQ.out, mkS_size, be_length]; simp [ByteArray.size])
      obtain ⟨q2, hq2⟩ : ∃ q2, mkS (105 :: be 8 (u64 n)) = q2 := ⟨_, rfl⟩
      rw [hq2] at ha HT
      clear hq2
      go_wp2
      go_ret2
      exact ⟨by rw [← HT.out, HE.out]; rfl, HB.out⟩
end Go.Proofs.Ytncbgonanoihfaa

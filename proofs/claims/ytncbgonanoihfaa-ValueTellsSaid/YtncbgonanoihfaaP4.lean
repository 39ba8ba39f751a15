/- A value read off a text; Parse: by contract. No condition but the sizes. -/
import Derived.Test.YtncbgonanoihfaaP3
namespace Go.Proofs.Ytncbgonanoihfaa
open Go.RowKit Go.Own
theorem str_one (c : Nat) (h : c < 256) (W : World) : (Instr.index 9 (.string (mkS [c])) (.int .i64 0)).run Try.prog W = .ok (.int .u8 (c : Int)) W := by
  have := gi_mkS [c] 0 (by simp) (fun x hx => by simp at hx; omega) W
  exact this
/-- What a text's head is, where no list stands. -/
theorem body_cases (g : Option (List Nat → Option (A × List Nat))) (c : Nat) (t : List Nat) :
    (c = 105 ∧ body g (c :: t) = if t.length < 8 then none else some (.num (s64 (val (t.take 8))), t.drop 8)) ∨ (c = 115 ∧ body g (c :: t) = textR t) ∨ (c = 121 ∧ body g (c :: t) = some (.bool true, t)) ∨ (c = 110 ∧ body g (c :: t) = some (.bool false, t)) ∨
      (c = 108 ∧ body g (c :: t) = listR g t) ∨ (c ≠ 105 ∧ c ≠ 115 ∧ c ≠ 121 ∧ c ≠ 110 ∧ c ≠ 108 ∧ body g (c :: t) = none) := by
  rw [body]
  by_cases h1 : c = 105
  · exact Or.inl ⟨h1, by rw [if_pos h1]⟩
  rw [if_neg h1]
  by_cases h2 : c = 115
  · exact Or.inr (Or.inl ⟨h2, by rw [if_pos h2]; rfl⟩)
  rw [if_neg h2]
  by_cases h3 : c = 121
  · exact Or.inr (Or.inr (Or.inl ⟨h3, by rw [if_pos h3]⟩))
  rw [if_neg h3]
  by_cases h4 : c = 110
  · exact Or.inr (Or.inr (Or.inr (Or.inl ⟨h4, by rw [if_pos h4]⟩)))
  rw [if_neg h4]
  by_cases h5 : c = 108
  · exact Or.inr (Or.inr (Or.inr (Or.inr (Or.inl ⟨h5, by rw [if_pos h5]⟩))))
  exact Or.inr (Or.inr (Or.inr (Or.inr (Or.inr ⟨h1, h2, h3, h4, h5, by rw [if_neg h5]⟩))))
set_option maxRecDepth 100000 in
set_option maxHeartbeats 1000000 in
theorem read_none (B : Nat) (z : Int) (w : World) (hB : Box w B (mkS [])) :
    Calls Try.prog 28 #[.func (.func 40) #[] #[.pointer (some ⟨B, 0, none⟩)], .int .i64 z] w (ReadQ B none w) := by
  have HT := Lib.hid (take_no B 1 (mkS []) (by rw [mkS_size]; exact Nat.zero_lt_one) w hB)
  have HB := Lib.hid hB
  clear hB
  go_enter Try.func28, Try.ntmps28
  go_wp2_with (go_at_call 40; fail)
  refine HT.out.mono ?_
  rintro e w' ⟨rfl, rfl⟩
  go_wp2
  go_ret2
  exact ReadQ.no HB.out (grown_refl _ _)
theorem ReadQ.past {B : Nat} {r : Option (A × List Nat)} {w w1 w2 : World} {e : Ending} (hg : w.grownBy w1 (some B)) (h : ReadQ B r w1 e w2) : ReadQ B r w e w2 := by
  rcases h with ⟨a, t', v, rfl, rfl, hv, hb, hg2⟩ | ⟨rfl, v, s, rfl, hb, hg2⟩
  · exact ReadQ.ok (hv.keep (fun b h _ => Nat.le_trans hg.size h) (Nat.le_refl _) (fun _ _ _ => rfl)) hb (grown_two hg hg2)
  · exact ReadQ.no hb (grown_two hg hg2)
set_option maxRecDepth 100000 in
set_option maxHeartbeats 1000000 in
theorem read_some (m : Nat) (hm : m ≤ 8) (ih : ∀ k, m = k + 1 → ReadsB k) (c : Nat) (t : List Nat) (B : Nat) (w : World) (z : Int) (hb : ∀ x ∈ c :: t, x < 256) (hz : z + m = 8) (hB : Box w B (mkS (c :: t))) :
    Calls Try.prog 28 #[.func (.func 40) #[] #[.pointer (some ⟨B, 0, none⟩)], .int .i64 z] w (ReadQ B (rd m (c :: t)) w) := by
  have HT := Lib.hid (take_ok B 1 (c :: t) (by simp) w hB)
  have e1 : (c :: t).take 1 = [c] := by simp
  have e2 : (c :: t).drop 1 = t := rfl
  rw [e1, e2] at HT
  have hc : c < 256 := hb c (by simp)
  have hbt : ∀ x ∈ t, x < 256 := fun x hx => hb x (by simp [hx])
  have hix := str_one c hc
  obtain ⟨q, hq⟩ : ∃ q, mkS [c] = q := ⟨_, rfl⟩
  rw [hq] at HT hix
  clear hB hb e1 e2 hq
  have HTB := Lib.hid hbt
  clear hbt
  obtain ⟨g, hg, hgm⟩ := rd_body m
  rw [hg]
  rcases body_cases g c t with ⟨rfl, he⟩ | ⟨rfl, he⟩ | ⟨rfl, he⟩ | ⟨rfl, he⟩ | ⟨rfl, he⟩ | ⟨n1, n2, n3, n4, n5, he⟩
  · rw [he]
    clear he hg hgm ih
    by_cases hl : t.length < 8
    · rw [if_pos hl]
      have HN := Lib.hid (fun w hB => num_no B 8 (mkS t) (by rw [mkS_size]; exact hl) w hB)
      clear hl
      go_enter Try.func28, Try.ntmps28
      go_wp2_with (go_at_call 40; fail)
      refine HT.out.mono ?_
      rintro e w1 ⟨rfl, hb1, hg1⟩
      have HB1 := Lib.hid hb1
      have HG1 := Lib.hid hg1
      clear hb1 hg1
      go_wp2_with (go_at_call 41; fail)
      refine (HN.out _ HB1.out).mono ?_
      rintro e w2 ⟨rfl, rfl⟩
      go_wp2
      go_ret2
      exact ReadQ.no HB1.out HG1.out
    · rw [if_neg hl]
      have HN := Lib.hid (fun w hB => num_yes B 8 t HTB.out (by omega) (by omega) w hB)
      have hv : val (t.take 8) < 18446744073709551616 := by
        have h1 := val_lt (t.take 8) (fun c hc => HTB.out c (List.mem_of_mem_take hc))
        rw [show (t.take 8).length = 8 by rw [List.length_take]; omega] at h1
        exact h1
      have HW : Hid (wrap64 ((val (t.take 8) : Nat) : Int) = s64 (val (t.take 8))) := Lib.hid (by rw [← wrap_s64 _ hv]; unfold wrap64; simp [IntKind.wrap, IntKind.bits, IntKind.signed]; omega)
      have HIN := Lib.hid (s64_in (n := val (t.take 8)) (by unfold two64; exact hv))
      obtain ⟨n, hn⟩ : ∃ n, val (t.take 8) = n := ⟨_, rfl⟩
      rw [hn] at HN HW HIN ⊢
      clear hl hn hv
      go_enter Try.func28, Try.ntmps28
      go_wp2_with (go_at_call 40; fail)
      refine HT.out.mono ?_
      rintro e w1 ⟨rfl, hb1, hg1⟩
      have HB1 := Lib.hid hb1
      have HG1 := Lib.hid hg1
      clear hb1 hg1
      go_wp2_with (go_at_call 41; fail)
      refine (HN.out _ HB1.out).mono ?_
      rintro e w2 ⟨rfl, hb2, hg2⟩
      have HB2 := Lib.hid hb2
      have HG2 := Lib.hid (grown_two HG1.out hg2)
      clear hb2 hg2
      go_wp2
      go_ret2
      rw [← HW.out] at HIN ⊢
      exact ReadQ.ok (.num _ HIN.out) HB2.out HG2.out
  · rw [he]
    have HC := Lib.hid (fun w hB => rtext_any B t HTB.out w hB)
    obtain ⟨r, hr⟩ : ∃ r, textR t = r := ⟨_, rfl⟩
    rw [hr] at HC ⊢
    clear he hg hgm ih hr
    go_enter Try.func28, Try.ntmps28
    go_wp2_with (go_at_call 40; fail)
    refine HT.out.mono ?_
    rintro e w1 ⟨rfl, hb1, hg1⟩
    have HB1 := Lib.hid hb1
    have HG1 := Lib.hid hg1
    clear hb1 hg1
    go_wp2_with (go_at_call 42; fail)
    refine (HC.out _ HB1.out).mono ?_
    intro e w2 hrq
    have HQ := Lib.hid (hrq.past HG1.out)
    rcases hrq with ⟨a, t', v, rfl, rfl, _, _, _⟩ | ⟨rfl, v, s, rfl, _, _⟩
    · go_wp2
      go_ret2
      exact HQ.out
    · go_wp2
      go_ret2
      exact HQ.out
  · rw [he]
    clear he hg hgm ih
    go_enter Try.func28, Try.ntmps28
    go_wp2_with (go_at_call 40; fail)
    refine HT.out.mono ?_
    rintro e w1 ⟨rfl, hb1, hg1⟩
    have HB1 := Lib.hid hb1
    have HG1 := Lib.hid hg1
    clear hb1 hg1
    go_wp2
    go_ret2
    exact ReadQ.ok (.bool true) HB1.out HG1.out
  · rw [he]
    clear he hg hgm ih
    go_enter Try.func28, Try.ntmps28
    go_wp2_with (go_at_call 40; fail)
    refine HT.out.mono ?_
    rintro e w1 ⟨rfl, hb1, hg1⟩
    have HB1 := Lib.hid hb1
    have HG1 := Lib.hid hg1
    clear hb1 hg1
    go_wp2
    go_ret2
    exact ReadQ.ok (.bool false) HB1.out HG1.out
  · rw [he]
    have HC : Hid (∀ w, Box w B (mkS t) → Calls Try.prog 43 #[.func (.func 40) #[] #[.pointer (some ⟨B, 0, none⟩)], .int .i64 (z + 1)] w (ReadQ B (listR g t) w)) := Lib.hid fun w hB => by
      have bad : listR g t = none → (t = [] ∨ 8 < z + 1) → Calls Try.prog 43 #[.func (.func 40) #[] #[.pointer (some ⟨B, 0, none⟩)], .int .i64 (z + 1)] w (ReadQ B (listR g t) w) := fun h1 h2 => by
        rw [h1]
        exact (rlist_bad B t HTB.out (z + 1) h2 w hB).mono fun e w' ⟨v, s, he, h3, h4⟩ => Or.inr ⟨rfl, v, s, he, h3, h4⟩
      rcases hgm with ⟨rfl, hm0⟩ | ⟨k, hk, rfl⟩
      · exact bad rfl (Or.inr (by omega))
      · cases t with
        | nil => exact bad rfl (Or.inl rfl)
        | cons n t => exact rlist_any k (by omega) (ih k hk) B n t HTB.out (z + 1) (by omega) w hB
    obtain ⟨r, hr⟩ : ∃ r, listR g t = r := ⟨_, rfl⟩
    rw [hr] at HC ⊢
    clear he hg hgm ih hr
    have hz1 : -1000 ≤ z := by omega
    have hz2 : z ≤ 1000 := by omega
    clear hz
    go_enter Try.func28, Try.ntmps28
    go_wp2_with (go_at_call 40; fail)
    refine HT.out.mono ?_
    rintro e w1 ⟨rfl, hb1, hg1⟩
    have HB1 := Lib.hid hb1
    have HG1 := Lib.hid hg1
    clear hb1 hg1
    go_wp2_with (go_at_call 43; fail)
    refine (HC.out _ HB1.out).mono ?_
    intro e w2 hrq
    have HQ := Lib.hid (hrq.past HG1.out)
    rcases hrq with ⟨a, t', v, rfl, rfl, _, _, _⟩ | ⟨rfl, v, s, rfl, _, _⟩
    · go_wp2
      go_ret2
      exact HQ.out
    · go_wp2
      go_ret2
      exact HQ.out
  · rw [he]
    have d1 : ((c : Int) == 105) = false := by simp; omega
    have d2 : ((c : Int) == 115) = false := by simp; omega
    have d3 : ((c : Int) == 121) = false := by simp; omega
    have d4 : ((c : Int) == 110) = false := by simp; omega
    have d5 : ((c : Int) == 108) = false := by simp; omega
    clear he hg hgm ih n1 n2 n3 n4 n5
    go_enter Try.func28, Try.ntmps28
    go_wp2_with (go_at_call 40; fail)
    refine HT.out.mono ?_
    rintro e w1 ⟨rfl, hb1, hg1⟩
    have HB1 := Lib.hid hb1
    have HG1 := Lib.hid hg1
    clear hb1 hg1
    go_wp2
    go_ret2
    exact ReadQ.no HB1.out HG1.out
theorem read_any : ∀ m, m ≤ 8 → ReadsB m
  | 0, _ => fun t B w z hb hz hB => by
    cases t with
    | nil => exact read_none B z w hB
    | cons c t => exact read_some 0 (by omega) (fun k hk => by omega) c t B w z hb hz hB
  | m + 1, hm => fun t B w z hb hz hB => by
    cases t with
    | nil => exact read_none B z w hB
    | cons c t => 
      have ih := read_any m (by omega)
      refine read_some (m + 1) hm (fun k hk => ?_) c t B w z hb hz hB
      obtain rfl : m = k := by omega
      exact ih
end Go.Proofs.Ytncbgonanoihfaa

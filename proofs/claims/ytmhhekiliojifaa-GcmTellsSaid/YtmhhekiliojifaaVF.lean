/- GcmStream's own walk. No condition. -/
import Derived.Test.YtmhhekiliojifaaVE
namespace Go.Proofs.Ytmhhekiliojifaa
open Go.RowKit Go.Own
attribute [local go_sem] z5 ag5 cs5 sz5 isa5 ixSe
attribute [-go_sem] run_string_add_if
theorem tL1_length (cs nonce : List Nat) (j : Nat) (p : List Nat) (h : p.length ≤ 16) : (tL1 cs nonce j p).length = p.length := by unfold tL1; simp; omega
theorem gi_map16 {n : Nat} {f : Nat → Nat} {j : Nat} (h : j < n) : gi ((List.range n).map f) j = f j := by simp [gi, List.getD, h]
theorem gi_takel {s : List Nat} {n i : Nat} (h : i < n) : gi (s.take n) i = gi s i := by simp [gi, List.getD, h]
theorem gi_appl {s t : List Nat} {i : Nat} (h : i < s.length) : gi (s ++ t) i = gi s i := by simp [gi, List.getD, List.getElem?_append_left h]
theorem gi_appr {s t : List Nat} {i : Nat} (h : s.length ≤ i) : gi (s ++ t) i = gi t (i - s.length) := by simp [gi, List.getD, List.getElem?_append_right h]
theorem gi_fill {p : List Nat} {i : Nat} (h : i < p.length) (h16 : i < 16) : gi (fillL p) i = gi p i := by
  unfold fillL
  rw [gi_appl (by rw [List.length_take]; omega), gi_takel h16]
theorem gi_tL1 (cs nonce : List Nat) (j : Nat) (p : List Nat) (h16 : p.length ≤ 16) (i : Nat) (h : i < p.length) : gi (tL1 cs nonce j p) i = xor8 (gi p i) (gi (pressL cs (nonce ++ hfL j 4)) i) := by
  unfold tL1
  rw [gi_takel h, gi_map16 (by omega)]
  unfold xorF
  rw [gi_fill h (by omega)]
theorem pcL_length (x : List Nat) (k : Nat) : (pcL x k).length = min 16 (x.length - 16 * k) := by unfold pcL; simp
theorem tLn_length (cs nonce x : List Nat) : ∀ k, (tLn cs nonce x k).length = min (16 * k) x.length
  | 0 => by simp [tLn]
  | k + 1 => by
    rw [tLn_succ, List.length_append, tLn_length cs nonce x k, tL1_length _ _ _ _ (by rw [pcL_length]; omega), pcL_length]
    omega
/-- The byte i of what is pressed of the counter. -/
def ksF (cs nonce : List Nat) (i : Nat) : Nat := gi (pressL cs (nonce ++ hfL (i / 16 + 2) 4)) (i % 16)
theorem gi_tLn (cs nonce x : List Nat) : ∀ k i, i < 16 * k → i < x.length → gi (tLn cs nonce x k) i = xor8 (gi x i) (ksF cs nonce i)
  | 0, i, h, _ => by omega
  | k + 1, i, h, hx => by
    rw [tLn_succ]
    have hl := tLn_length cs nonce x k
    by_cases h1 : i < 16 * k
    · rw [gi_appl (by rw [hl]; omega)]
      exact gi_tLn cs nonce x k i h1 hx
    · rw [gi_appr (by rw [hl]; omega), hl, show min (16 * k) x.length = 16 * k by omega, gi_tL1 _ _ _ _ (by rw [pcL_length]; omega) _ (by rw [pcL_length]; omega)]
      have e : gi (pcL x k) (i - 16 * k) = gi x i := by
        unfold pcL
        rw [gi_takel (by omega)]
        simp only [gi, List.getD_eq_getElem?_getD, List.getElem?_drop]
        congr 2; omega
      rw [e]
      unfold ksF
      rw [show i / 16 + 2 = k + 2 by omega, show i % 16 = i - 16 * k by omega]
theorem turnP_length (key nonce text : ByteArray) : (turnP key nonce text).length = text.size := by
  rw [turnP_tLn, tLn_length, bys_length]; omega
theorem gi_turnP (key nonce text : ByteArray) (i : Nat) (h : i < text.size) : gi (turnP key nonce text) i = xor8 (gi (bys text) i) (ksF (cipher (bys key)) (bys nonce) i) := by
  rw [turnP_tLn]
  exact gi_tLn _ _ _ _ _ (by omega) (by rw [bys_length]; exact h)
theorem B8_xorm (n : Nat) (x y : List Nat) : B8 ((List.range n).map (xorF x y)) := fun z hz => by
  obtain ⟨k, _, rfl⟩ := List.mem_map.1 hz
  exact xor8_lt _ _
theorem turnP_B8 (key nonce text : ByteArray) : B8 (turnP key nonce text) := by
  rw [turnP_tLn]
  intro z hz
  unfold tLn at hz
  obtain ⟨k, _, hz⟩ := List.mem_flatMap.1 hz
  exact B8_xorm 16 _ _ z (List.mem_of_mem_take hz)
theorem macP_B8 (key nonce bes body : ByteArray) : B8 (macP key nonce bes body) := B8_xorm 16 _ _
theorem sealed_any (key nonce bes text S : ByteArray) (hk : key.size = 32) (hn : nonce.size = 12) (hb : bes.size ≤ 65536) (ht : text.size ≤ 65536) (hS : mkS (turnP key nonce text ++ macP key nonce bes (mkS (turnP key nonce text))) = S) (W : World) :
    Calls Try.prog 7 #[.string key, .string nonce, .string bes, .string text] (Wd W [] 0) fun e w' => e = .returned (.tuple #[.string S, .int .i64 0]) ∧ Below W.heap.size W w' := by
  have := pseal_ok key nonce bes text hk hn hb ht (by rw [turnP_length]; exact ht) W
  rw [hS] at this
  exact wd0 this
theorem xor8_cancelv {a b k : Nat} (ha : a < 256) (hb : b < 256) (hk : k < 256) : xor8 (xor8 a k) (xor8 b k) = xor8 a b := by
  unfold xor8
  rw [Nat.mod_eq_of_lt (Nat.xor_lt_two_pow (n := 8) ha hk), Nat.mod_eq_of_lt (Nat.xor_lt_two_pow (n := 8) hb hk)]
  congr 1
  rw [Nat.xor_assoc, ← Nat.xor_assoc k b k, Nat.xor_comm k b, Nat.xor_assoc b k k, Nat.xor_self, Nat.xor_zero]
theorem ksF_lt (cs nonce : List Nat) (i : Nat) : ksF cs nonce i < 256 := by
  unfold ksF
  have : B8 (pressL cs (nonce ++ hfL (i / 16 + 2) 4)) := addL_B8 _ _ _
  exact this.gi _
set_option maxRecDepth 100000 in
set_option maxHeartbeats 4000000 in
theorem stream_ok (key nonce a b : ByteArray) (ck : Nat) (hk : key.size = 32) (hn : nonce.size = 12) (ha : a.size ≤ 500) (hb : b.size = a.size) (hc : ck ≤ a.size) (w : World) :
    Calls Try.prog 5 #[.string key, .string nonce, .string a, .string b, .int .i64 ck] w fun e w' => e = .returned (.bool true) ∧ Below w.heap.size w w' := by
  have HA : Hid (∀ W, Calls Try.prog 6 #[] (Wd W [] 0) fun e w' => e = .returned (.bool true) ∧ Below W.heap.size W w') := Lib.hid fun W => wd0 (awake_any W)
  obtain ⟨A2, hA2⟩ : ∃ A2, a.extract 0 ck = A2 := ⟨_, rfl⟩
  have hA2s : A2.size = ck := by rw [← hA2, ByteArray.size_extract]; omega
  obtain ⟨S, hS⟩ : ∃ S, mkS (turnP key nonce a ++ macP key nonce ({ data := #[] } : ByteArray) (mkS (turnP key nonce a))) = S := ⟨_, rfl⟩
  obtain ⟨T, hT⟩ : ∃ T, mkS (turnP key nonce A2 ++ macP key nonce ({ data := #[120] } : ByteArray) (mkS (turnP key nonce A2))) = T := ⟨_, rfl⟩
  obtain ⟨U, hU⟩ : ∃ U, mkS (turnP key nonce b ++ macP key nonce ({ data := #[] } : ByteArray) (mkS (turnP key nonce b))) = U := ⟨_, rfl⟩
  have bS : bys S = turnP key nonce a ++ macP key nonce ({ data := #[] } : ByteArray) (mkS (turnP key nonce a)) := by rw [← hS, bys_mkS _ ((turnP_B8 _ _ _).append (macP_B8 _ _ _ _))]
  have bT : bys T = turnP key nonce A2 ++ macP key nonce ({ data := #[120] } : ByteArray) (mkS (turnP key nonce A2)) := by rw [← hT, bys_mkS _ ((turnP_B8 _ _ _).append (macP_B8 _ _ _ _))]
  have bU : bys U = turnP key nonce b ++ macP key nonce ({ data := #[] } : ByteArray) (mkS (turnP key nonce b)) := by rw [← hU, bys_mkS _ ((turnP_B8 _ _ _).append (macP_B8 _ _ _ _))]
  have sS : S.size = a.size + 16 := by rw [← bys_length, bS, List.length_append, turnP_length, macP_length]
  have sT : T.size = ck + 16 := by rw [← bys_length, bT, List.length_append, turnP_length, macP_length, hA2s]
  have sU : U.size = a.size + 16 := by rw [← bys_length, bU, List.length_append, turnP_length, macP_length, hb]
  have H1 := Lib.hid fun W => sealed_any key nonce ({ data := #[] } : ByteArray) a S hk hn (by decide) (by omega) hS W
  have H2 := Lib.hid fun W => sealed_any key nonce ({ data := #[120] } : ByteArray) A2 T hk hn (by decide) (by omega) hT W
  have H3 := Lib.hid fun W => sealed_any key nonce ({ data := #[] } : ByteArray) b U hk hn (by decide) (by omega) hU W
  have hpre : S.extract 0 ck = T.extract 0 ck := by
    apply bys_inj
    rw [bys_extract, bys_extract, bS, bT, List.drop_zero, List.drop_zero, Nat.sub_zero]
    apply gi_exte
    · simp only [List.length_take, List.length_append, turnP_length, macP_length]; omega
    · intro i hi
      simp only [List.length_take, List.length_append, turnP_length, macP_length] at hi
      rw [gi_takel (by omega), gi_takel (by omega), gi_appl (by rw [turnP_length]; omega), gi_appl (by rw [turnP_length]; omega), gi_turnP _ _ _ _ (by omega), gi_turnP _ _ _ _ (by omega)]
      congr 1
      rw [← hA2, bys_extract, List.drop_zero, gi_takel (by omega)]
  have HX : Hid (∀ i, i < a.size → xor8 (gi (bys S) i) (gi (bys U) i) = xor8 (gi (bys a) i) (gi (bys b) i)) := Lib.hid fun i hi => by
    rw [bS, bU, gi_appl (by rw [turnP_length]; exact hi), gi_appl (by rw [turnP_length]; omega), gi_turnP _ _ _ _ hi, gi_turnP _ _ _ _ (by omega)]
    exact xor8_cancelv (gi_bys_lt _ _) (gi_bys_lt _ _) (ksF_lt _ _ _)
  obtain ⟨P, hP⟩ : ∃ P, T.extract 0 ck = P := ⟨_, rfl⟩
  rw [hP] at hpre
  have k1 : ((key.size : Int) != 32) = false := by simp; omega
  have k2 : ((nonce.size : Int) != 12) = false := by simp; omega
  have k3 : ¬ 500 < (a.size : Int) := by omega
  have k4 : ((b.size : Int) != (a.size : Int)) = false := by simp; omega
  have k5 : ¬ (ck : Int) < 0 := by omega
  have k6 : ¬ (a.size : Int) < (ck : Int) := by omega
  have k7 : (ck : Int) ≤ (a.size : Int) := by omega
  have k8 : (ck : Int) ≤ (S.size : Int) := by omega
  have k9 : (ck : Int) ≤ (T.size : Int) := by omega
  have HL := Lib.hid (And.intro sS (And.intro sU (And.intro hb ha)))
  clear bS bT bU hS hT hU hA2s sS sT sU hk hn
  refine calls_wd ?_
  go_enter Try.func5, Try.ntmps5
  go_wp2_with fail
  refine (HA.out _).mono ?_
  rintro e w1 ⟨rfl, hB⟩
  have HB1 := Lib.hid hB
  clear hB
  rw [← Wd_nil w1]
  go_wp2_with fail
  refine (H1.out _).mono ?_
  rintro e w2 ⟨rfl, hB⟩
  have HB2 := Lib.hid (same_le HB1.out hB)
  clear hB
  rw [← Wd_nil w2]
  go_wp2_with fail
  refine (H2.out _).mono ?_
  rintro e w3 ⟨rfl, hB⟩
  have HB3 := Lib.hid (same_le HB2.out hB)
  clear hB
  rw [← Wd_nil w3]
  go_wp2_with fail
  refine (H3.out _).mono ?_
  rintro e w4 ⟨rfl, hB⟩
  have HB4 := Lib.hid (same_le HB3.out hB)
  clear hB
  rw [← Wd_nil w4]
  go_wp2
  refine wp_region_read (by kernel_rfl) (by kernel_rfl) ?_
  repeat still_step
  refine wpStill_nil ?_
  go_wp2
  go_loopw [17] (fun i wr => ∃ k d : Nat, k ≤ a.size ∧ i = .int .i64 k ∧ wr = Wd w4 [] d) (fun i _ => a.size - (intOf i).toNat)
  case atStart => exact ⟨0, _, by omega, rfl, rfl⟩
  case round =>
    obtain ⟨k, d, hk, rfl, rfl⟩ := hrel
    by_cases hlt : k < a.size
    · have hlti : (k : Int) < (a.size : Int) := by omega
      have hkS : k < S.size := by have := HL.out.1; omega
      have hkU : k < U.size := by have := HL.out.2.1; omega
      have hkb : k < b.size := by have := HL.out.2.2.1; omega
      have hx := HX.out k hlt
      go_wp2
      refine wp_region_read (by kernel_rfl) (by kernel_rfl) ?_
      repeat still_step
      refine wpStill_nil ?_
      go_wp2
      go_roundw
      case rel => exact ⟨k + 1, _, by omega, by go_num, rfl⟩
      case measure => simp [intOf]; omega
    · have hlti : ¬ (k : Int) < (a.size : Int) := by omega
      go_wp2
      go_ret
      exact ⟨rfl, HB4.out.trans (((Same.refl w4).below [] d).mono HB4.out.size)⟩
set_option maxRecDepth 100000 in
set_option maxHeartbeats 4000000 in
theorem stream_skip (key nonce a b : ByteArray) (c : Int)
    (h : ¬ (key.size = 32 ∧ nonce.size = 12 ∧ a.size ≤ 500 ∧ b.size = a.size ∧ 0 ≤ c ∧ c ≤ (a.size : Int))) (w : World) :
    Calls Try.prog 5 #[.string key, .string nonce, .string a, .string b, .int .i64 c] w fun e w' => e = .returned (.bool true) ∧ Below w.heap.size w w' := by
  have HA : Hid (∀ W, Calls Try.prog 6 #[] (Wd W [] 0) fun e w' => e = .returned (.bool true) ∧ Below W.heap.size W w') := Lib.hid fun W => wd0 (awake_any W)
  have hcase : (((key.size : Int) != 32) = true) ∨ (((key.size : Int) != 32) = false ∧ ((nonce.size : Int) != 12) = true) ∨ (((key.size : Int) != 32) = false ∧ ((nonce.size : Int) != 12) = false ∧ 500 < (a.size : Int)) ∨
      (((key.size : Int) != 32) = false ∧ ((nonce.size : Int) != 12) = false ∧ ¬ 500 < (a.size : Int) ∧ ((b.size : Int) != (a.size : Int)) = true) ∨
      (((key.size : Int) != 32) = false ∧ ((nonce.size : Int) != 12) = false ∧ ¬ 500 < (a.size : Int) ∧ ((b.size : Int) != (a.size : Int)) = false ∧ c < 0) ∨
      (((key.size : Int) != 32) = false ∧ ((nonce.size : Int) != 12) = false ∧ ¬ 500 < (a.size : Int) ∧ ((b.size : Int) != (a.size : Int)) = false ∧ ¬ c < 0 ∧ (a.size : Int) < c) := by
    by_cases h1 : key.size = 32
    · by_cases h2 : nonce.size = 12
      · by_cases h3 : a.size ≤ 500
        · by_cases h4 : b.size = a.size
          · by_cases h5 : 0 ≤ c
            · have h6 : (a.size : Int) < c := by omega
              right; right; right; right; right
              exact ⟨by simp; omega, by simp; omega, by omega, by simp; omega, by omega, h6⟩
            · right; right; right; right; left
              exact ⟨by simp; omega, by simp; omega, by omega, by simp; omega, by omega⟩
          · right; right; right; left
            exact ⟨by simp; omega, by simp; omega, by omega, by simp; omega⟩
        · right; right; left
          exact ⟨by simp; omega, by simp; omega, by omega⟩
      · right; left
        exact ⟨by simp; omega, by simp; omega⟩
    · left; simp; omega
  clear h
  refine calls_wd ?_
  rcases hcase with h1 | ⟨h1, h2⟩ | ⟨h1, h2, h3⟩ | ⟨h1, h2, h3, h4⟩ | ⟨h1, h2, h3, h4, h5⟩ | ⟨h1, h2, h3, h4, h5, h6⟩
  all_goals
    go_enter Try.func5, Try.ntmps5
    go_wp2_with fail
    refine (HA.out _).mono ?_
    rintro e w9 ⟨rfl, hB⟩
    have HB1 := Lib.hid hB
    clear hB
    rw [← Wd_nil w9]
    go_wp2
    go_ret
    exact ⟨rfl, by rw [Wd_nil]; exact HB1.out⟩
theorem stream_any (key nonce a b : ByteArray) (c : Int) (w : World) :
    Calls Try.prog 5 #[.string key, .string nonce, .string a, .string b, .int .i64 c] w fun e w' => e = .returned (.bool true) ∧ Below w.heap.size w w' := by
  by_cases h : key.size = 32 ∧ nonce.size = 12 ∧ a.size ≤ 500 ∧ b.size = a.size ∧ 0 ≤ c ∧ c ≤ (a.size : Int)
  · obtain ⟨h1, h2, h3, h4, h5, h6⟩ := h
    obtain ⟨ck, rfl⟩ := Int.eq_ofNat_of_zero_le h5
    exact stream_ok key nonce a b ck h1 h2 h3 h4 (by omega) w
  · exact stream_skip key nonce a b c h w
end Go.Proofs.Ytmhhekiliojifaa

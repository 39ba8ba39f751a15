/- Layer 4 of the document: a number's bytes, texts by others, fillings: by contract. -/
import Derived.Test.YtmhhekiliojifaaT2
import Derived.Laws.Concat
namespace Go.Own
open Go.RowKit
theorem mkS_append (a b : List Nat) : mkS a ++ mkS b = mkS (a ++ b) := by
  apply ByteArray.ext
  simp [mkS, ByteArray.data_append]
theorem bys_cat (x : List Nat) (s : ByteArray) : mkS x ++ s = mkS (x ++ bys s) := by
  rw [← mkS_append, mkS_bys]
theorem cat_bys (x y : ByteArray) : x ++ y = mkS (bys x ++ bys y) := by
  rw [← mkS_append, mkS_bys, mkS_bys]
theorem rep_succ (j : Nat) : rep j ++ [0] = rep (j + 1) := by
  unfold rep
  rw [List.replicate_succ']
def bsN (T : TypeId) (n : Nat) (parts : Array (Nat × Value)) : Sem Value := Instr.buildSlice T n parts
@[go_sem ↓] theorem execOp_bs (ρ : Operand → Value) (dst : Option Tmp) (T : TypeId) (n : Nat) (parts : Array (Nat × Operand)) (ty : TypeId) (pos : String) (after : Array Edge) (guard : Option (Nat × Bool)) :
    execOp ρ { dst, op := .buildSlice T n parts, type := ty, pos, after, guard } = (bsN T n (parts.map fun (i, x) => (i, ρ x)) >>= fun v => pure (.value v)) := rfl
/-- A number's four bytes. -/
def fourL (n : Nat) : List Nat := [n / 16777216 % 256, n / 65536 % 256, n / 256 % 256, n % 256]
/-- Bytes by others. -/
def xorL (x y : List Nat) : List Nat := (List.range x.length).map fun i => xor8 (gi x i) (gi y i)
/-- Filled up. -/
def fillN (n : Nat) : Nat := (16 - n % 16) % 16
def wholeL (x : List Nat) : List Nat := x ++ rep (fillN x.length)
theorem xorL_length (x y : List Nat) : (xorL x y).length = x.length := by simp [xorL]
theorem xorL_B8 (x y : List Nat) : B8 (xorL x y) := fun n hn => by
  obtain ⟨i, _, rfl⟩ := List.mem_map.1 hn
  exact Nat.mod_lt _ (by decide)
theorem fourL_B8 (n : Nat) : B8 (fourL n) := fun k hk => by
  simp only [fourL, List.mem_cons, List.not_mem_nil, or_false] at hk
  rcases hk with rfl | rfl | rfl | rfl <;> exact Nat.mod_lt _ (by decide)
end Go.Own
namespace Go.Proofs.Ytmhhekiliojifaa
open Go.RowKit Go.Own
theorem bs4t (a b c e : Nat) (w : World) (l : List Obj) (d : Nat) : (bsN 30 4 #[(0, .int .u8 a), (1, .int .u8 b), (2, .int .u8 c), (3, .int .u8 e)]).run Try.prog (Wd w l d) =
    .ok (.slice (some ⟨w.heap.size + l.length, 0, none⟩) 4 4) (Wd w (l ++ [.cells (cv .u8 [a, b, c, e]) 5 (0, 0)]) d) := by
  rw [← Wd_alloc, ← Wd_size w l d]
  generalize Wd w l d = W
  kernel_rfl
theorem bs1t (a : Nat) (w : World) (l : List Obj) (d : Nat) : (bsN 30 1 #[(0, .int .u8 a)]).run Try.prog (Wd w l d) =
    .ok (.slice (some ⟨w.heap.size + l.length, 0, none⟩) 1 1) (Wd w (l ++ [.cells (cv .u8 [a]) 5 (0, 0)]) d) := by
  rw [← Wd_alloc, ← Wd_size w l d]
  generalize Wd w l d = W
  kernel_rfl
theorem br30t : ByteRow Try.prog 30 5 := by
  have h : (Try.prog.info? 5).map (fun i => (i.zero, i.size, i.bytes)) = some (some (.int .u8 0), 1, 1) := by kernel_rfl
  refine ⟨Try.underlying30, ?_⟩
  cases hi : Try.prog.info? 5 with
  | none => rw [hi] at h; cases h
  | some i =>
    rw [hi] at h
    simp at h
    exact ⟨i, rfl, h.1, h.2.1, h.2.2⟩
theorem gi_att {t : ByteArray} {i : Nat} (h : i < t.size) : gi (bys t) i = t[i].toNat := by
  have h3 : i < t.data.size := h
  simp only [gi, bys, List.getD_eq_getElem?_getD, List.getElem?_map]
  rw [List.getElem?_eq_getElem (by simpa using h3)]
  rfl
theorem ixSt (t : ByteArray) (k : IntKind) (i : Nat) (W : World) (h1 : i < t.size) :
    (ixN 9 (.string t) (.int k (i : Int))).run Try.prog W = .ok (.int .u8 ((gi (bys t) i : Nat) : Int)) W := by
  rw [gi_att h1]
  unfold ixN
  rw [run_index_string W 9 t k i Try.underlying9, dif_pos ⟨by omega, by omega⟩]
  simp
theorem cnil (W : World) : (convert 30 9 (.slice none 0 0)).run Try.prog W = .ok (.string (mkS [])) W := by kernel_rfl
attribute [local go_sem] ag5t cs5t sz5t isa5t bs4t bs1t ixSt cnil
attribute [-go_sem] run_string_add_if
set_option maxRecDepth 100000 in
theorem four_any (n : Nat) (hn : n < 4294967296) (w : World) :
    Calls Try.prog 37 #[.int .i64 (n : Int)] w fun e w' => e = .returned (.string (mkS (fourL n))) ∧ Grows w w' := by
  obtain ⟨a, ha⟩ : ∃ a, n / 16777216 = a := ⟨_, rfl⟩
  obtain ⟨b, hb⟩ : ∃ b, n / 65536 = b := ⟨_, rfl⟩
  obtain ⟨c, hc⟩ : ∃ c, n / 256 = c := ⟨_, rfl⟩
  have e1 : (n : Int).tdiv 16777216 = (a : Int) := by rw [Int.tdiv_eq_ediv_of_nonneg (by omega)]; omega
  have e2 : (n : Int).tdiv 65536 = (b : Int) := by rw [Int.tdiv_eq_ediv_of_nonneg (by omega)]; omega
  have e3 : (n : Int).tdiv 256 = (c : Int) := by rw [Int.tdiv_eq_ediv_of_nonneg (by omega)]; omega
  have f1 : (n : Int) / 16777216 = (a : Int) := by omega
  have f2 : (n : Int) / 65536 = (b : Int) := by omega
  have f3 : (n : Int) / 256 = (c : Int) := by omega
  have hF : Hid (fourL n = [a % 256, b % 256, c % 256, n % 256]) := Lib.hid (by rw [fourL, ha, hb, hc])
  have g1 : -9223372036854775808 ≤ (a : Int) ∧ (a : Int) ≤ 9223372036854775807 := by omega
  have g2 : -9223372036854775808 ≤ (b : Int) ∧ (b : Int) ≤ 9223372036854775807 := by omega
  have g3 : -9223372036854775808 ≤ (c : Int) ∧ (c : Int) ≤ 9223372036854775807 := by omega
  have h1 : wrap64 (a : Int) = a := IntWalk.wrap64_in _ g1
  have h2 : wrap64 (b : Int) = b := IntWalk.wrap64_in _ g2
  have h3 : wrap64 (c : Int) = c := IntWalk.wrap64_in _ g3
  have w1 := wrap8 a
  have w2 := wrap8 b
  have w3 := wrap8 c
  have w4 := wrap8 n
  generalize a % 256 = a' at *
  generalize b % 256 = b' at *
  generalize c % 256 = c' at *
  generalize n % 256 = n' at *
  clear ha hb hc g1 g2 g3 hn
  refine calls_wd ?_
  go_enter Try.func37, Try.ntmps37
  go_wp2
  go_ret
  exact ⟨by rw [hF.out]; rfl, Grows.of _ _ _⟩
set_option maxRecDepth 100000 in
set_option maxHeartbeats 1000000 in
theorem whole_any (s : ByteArray) (hs : s.size ≤ 1099511627776) (w : World) :
    Calls Try.prog 39 #[.string s] w fun e w' => e = .returned (.string (mkS (wholeL (bys s)))) ∧ Grows w w' := by
  obtain ⟨x, hx⟩ : ∃ x, bys s = x := ⟨_, rfl⟩
  have hsx : s = mkS x := by rw [← hx, mkS_bys]
  have hxl : Hid (x.length ≤ 1099511627776) := Lib.hid (by rw [← hx, bys_length]; exact hs)
  subst hsx
  obtain ⟨n, hn⟩ : ∃ n, x.length = n := ⟨_, rfl⟩
  obtain ⟨z, hz⟩ : ∃ z, fillN n = z := ⟨_, rfl⟩
  have HN := Lib.hid hn
  have hz15 : z ≤ 15 := by rw [← hz]; unfold fillN; omega
  have hzn : Hid ((n + z) % 16 = 0) := Lib.hid (by rw [← hz]; unfold fillN; omega)
  have hzl : Hid (∀ j, j < z → (n + j) % 16 ≠ 0) := Lib.hid (fun j hj => by rw [← hz] at hj; unfold fillN at hj; omega)
  have hW : Hid (wholeL (bys (mkS x)) = x ++ rep z) := Lib.hid (by rw [hx, wholeL, hn, hz])
  clear hx hn hz hs
  refine calls_wd ?_
  go_enter Try.func39, Try.ntmps39
  go_wp2
  go_loopw [0] (fun o wr => ∃ (j m d : Nat), j ≤ z ∧ n + j = m ∧ o = .string (mkS (x ++ rep j)) ∧ (mkS (x ++ rep j)).size = m ∧ wr = Wd w [] d) (fun o _ => match o with | .string y => n + z - y.size | _ => 0)
  case atStart => exact ⟨0, n, 0, by omega, rfl, by simp [rep], by rw [mkS_size, List.length_append, HN.out, rep_length]; rfl, rfl⟩
  case round =>
    obtain ⟨j, m, d, hj, hm, rfl, hsz, rfl⟩ := hrel
    obtain ⟨S, hS⟩ : ∃ S, mkS (x ++ rep j) = S := ⟨_, rfl⟩
    rw [hS] at hsz ⊢
    have HM := Lib.hid hm
    clear hm
    by_cases hlt : j < z
    · have hne : (((m : Int) % 16) != 0) = true := by
        have := hzl.out j hlt
        rw [HM.out] at this
        rw [bne_iff_ne]; omega
      obtain ⟨S2, hS2⟩ : ∃ S2, mkS (x ++ rep (j + 1)) = S2 := ⟨_, rfl⟩
      have hadd : ∀ W, (Op.stringOp .add S { data := #[0] }).run Try.prog W = .ok (.string S2) W := fun W => by
        rw [run_string_add_sum W _ _ (by rw [hsz]; show m + 1 ≤ _; have := HM.out; have := hxl.out; have := HN.out; omega), ← hS, bys_cat, ← hS2, ← rep_succ, ← List.append_assoc]
        rfl
      have hsz2 : S2.size = m + 1 := by rw [← hS2, mkS_size, List.length_append, rep_length, HN.out, ← HM.out]; rfl
      have HS2 := Lib.hid hS2
      clear hS hS2
      go_wp2
      go_roundw
      case rel => exact ⟨j + 1, m + 1, _, by omega, by have := HM.out; omega, by rw [HS2.out], by rw [HS2.out]; exact hsz2, rfl⟩
      case measure => have := HM.out; show n + z - S2.size < n + z - S.size; rw [hsz2, hsz]; omega
    · obtain rfl : j = z := by omega
      have hne : (((m : Int) % 16) != 0) = false := by
        have := hzn.out
        rw [HM.out] at this
        rw [bne_eq_false_iff_eq]; omega
      have HSS := Lib.hid hS
      clear hS
      go_wp2
      go_ret
      exact ⟨by rw [hW.out, HSS.out]; rfl, Grows.of _ _ _⟩
theorem xorL_step (x y : List Nat) (k : Nat) : (List.range k).map (fun i => xor8 (gi x i) (gi y i)) ++ [xor8 (gi x k) (gi y k)] = (List.range (k + 1)).map (fun i => xor8 (gi x i) (gi y i)) := by simp [List.range_succ]
def xorS (x y : List Nat) (k : Nat) : List Nat := (List.range k).map fun i => xor8 (gi x i) (gi y i)
set_option maxRecDepth 100000 in
set_option maxHeartbeats 1000000 in
theorem xor_any (a b : ByteArray) (hl : a.size ≤ b.size) (ha : a.size ≤ 1099511627776) (w : World) :
    Calls Try.prog 38 #[.string a, .string b] w fun e w' => e = .returned (.string (mkS (xorL (bys a) (bys b)))) ∧ Grows w w' := by
  obtain ⟨n, hn⟩ : ∃ n, a.size = n := ⟨_, rfl⟩
  have HN := Lib.hid hn
  have HL := Lib.hid hl
  have HR : Hid (xorL (bys a) (bys b) = xorS (bys a) (bys b) n) := Lib.hid (by unfold xorL xorS; rw [bys_length, hn])
  rw [hn] at ha
  clear hl
  refine calls_wd ?_
  go_enter Try.func38, Try.ntmps38
  go_wp2
  go_loopw [5, 6] (fun v i wr => ∃ (k d : Nat) (l : List Obj), k ≤ n ∧ i = .int .i64 k ∧ Hid (Has0 w l v (xorS (bys a) (bys b) k)) ∧ wr = Wd w l d) (fun _ i _ => n - (intOf i).toNat)
  case atStart => exact ⟨0, 0, [], by omega, rfl, Lib.hid (Or.inl ⟨rfl, rfl⟩), rfl⟩
  case round =>
    obtain ⟨k, d, l, hk, rfl, hH, rfl⟩ := hrel
    by_cases hlt : k < n
    · have hki : (k : Int) < n := by omega
      have hka : k < a.size := by omega
      have hkb : k < b.size := by have := HL.out; omega
      have hst : Hid (xorS (bys a) (bys b) k ++ [xor8 (gi (bys a) k) (gi (bys b) k)] = xorS (bys a) (bys b) (k + 1)) := Lib.hid (xorL_step _ _ k)
      obtain ⟨X, hX⟩ : ∃ X, xorS (bys a) (bys b) k = X := ⟨_, rfl⟩
      have hXl : Hid (X.length ≤ 1099511627775) := Lib.hid (by rw [← hX]; unfold xorS; simp; omega)
      rw [hX] at hH hst
      clear hX
      go_wp2
      refine wp_region_drew0 (v := u5) 8 (by kernel_rfl) (by kernel_rfl) (fun _ _ _ hh => hh) (Or.inl ⟨rfl, fun w => rfl⟩) ?_
      simp only [List.take_succ_cons, List.take_zero, List.drop_succ_cons, List.drop_zero, Nat.reduceSub, Act.put]
      go_simp
      repeat (go_big_quiet_step (fail))
      refine wpQuiet_nil ?_
      intro eR
      go_wp2_with (at_builtin; refine stop ?_)
      unfold Stop
      refine wpList_app rfl (.tmp 13) (.tmp 21) 30 5 rfl br30t u5 X rfl (hH.out.more _) l.length 0 1 1 rfl [xor8 (gi (bys a) k) (gi (bys b) k)] 5 (0, 0) List.getElem?_concat_length (show 0 + 1 ≤ 1 by decide) (by decide) (by have := hXl.out; omega) ?_
      intro v' l' d' H1 _
      rw [show List.take 1 (List.drop 0 [xor8 (gi (bys a) k) (gi (bys b) k)]) = [xor8 (gi (bys a) k) (gi (bys b) k)] from rfl, hst.out] at H1
      have H2 : Hid (Has0 w l' v' (xorS (bys a) (bys b) (k + 1))) := Lib.hid (Or.inr H1.out)
      obtain ⟨i2, S2, t2, f2, rfl, h2⟩ := H1.out
      clear h2 H1
      generalize (xorS (bys a) (bys b) (k + 1)).length = z at *
      go_wp2
      go_roundw
      case rel => exact ⟨k + 1, _, _, by omega, by go_num, H2, rfl⟩
      case measure => simp [intOf]; omega
    · obtain rfl : k = n := by omega
      rcases hH.out with ⟨rfl, he⟩ | hh
      · have hE : Hid (xorL (bys a) (bys b) = []) := Lib.hid (by rw [HR.out, he])
        clear he
        go_wp2
        go_ret
        exact ⟨by rw [hE.out]; rfl, Grows.of _ _ _⟩
      · obtain ⟨i2, S2, t2, f2, rfl, hi2, hf2, ht2, hle2⟩ := hh
        have hE : Hid (S2.take (xorS (bys a) (bys b) k).length = xorL (bys a) (bys b)) := Lib.hid (by rw [HR.out]; exact ht2)
        clear ht2 hH
        generalize (xorS (bys a) (bys b) k).length = z at *
        go_wp2
        go_ret
        exact ⟨by rw [← hE.out]; rfl, Grows.of _ _ _⟩
end Go.Proofs.Ytmhhekiliojifaa

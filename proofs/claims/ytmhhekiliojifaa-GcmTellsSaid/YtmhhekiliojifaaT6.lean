/- Layer 4 of the document: Seal and Open: by contract (the cipher's own contracts are asked). -/
import Derived.Test.YtmhhekiliojifaaT5
namespace Go.Own
open Go.RowKit
theorem alX_twot {P : Program} {T : TypeId} {w : World} {l : List Obj} {d : Nat} {a b : Value} (h : zeroOf P T = .agg #[a, b]) :
    alX P T (.agg #[a, b]) w l d = .ok (.pointer (some ⟨w.heap.size + l.length, 0, none⟩)) (Wd w (l ++ [.cells #[a, b] T (0, 0)]) d) := by
  simp [alX, alN, Instr.alloc, run_zeroOf h, newVar, newRow, Value.cells, Wd_size, Wd_alloc]
theorem stX_twot {P : Program} {T : TypeId} {w : World} {l : List Obj} {d i : Nat} {a b a' b' : Value} {t : TypeId}
    (h1 : (sizeOf T).run P (Wd w l d) = .ok 2 (Wd w l d)) (h2 : l[i]? = some (.cells #[a, b] t (0, 0))) (ha : a'.oneCell' = true) (hb : b'.oneCell' = true) :
    stX P T 2 (some (.cells #[a, b] t (0, 0))) w l d i 0 (.agg #[a', b']) = .ok () (Wd w (l.set i (.cells #[a', b'] t (0, 0))) d) := by
  have hr := run_storeCells_at P (w.heap.size + i) 0 t [a', b'] 0 #[a, b] (Wd w l d) (by rw [Wd_at]; exact h2) (by simp) (by simp [ha, hb])
  rw [Nat.add_zero] at hr
  simp only [List.take_zero, List.nil_append, List.length_cons, List.length_nil, Nat.zero_add, List.drop_of_length_le (show [a, b].length ≤ 1 + 1 by simp), List.append_nil] at hr
  rw [Wd_setRow _ _ _ _ _ _ _ _ h2] at hr
  simp [stX, stN, Instr.storeAt, Instr.sureAddr, storeVar, Value.cells, h1, hr]
theorem stX_sl {P : Program} {T : TypeId} {w : World} {l : List Obj} {d i : Nat} {a b : Value} {p q : Option Addr} {n c m e : Nat} {t : TypeId}
    (h1 : (sizeOf T).run P (Wd w l d) = .ok 2 (Wd w l d)) (h2 : l[i]? = some (.cells #[a, b] t (0, 0))) :
    stX P T 2 (some (.cells #[a, b] t (0, 0))) w l d i 0 (.agg #[.slice p n c, .slice q m e]) = .ok () (Wd w (l.set i (.cells #[.slice p n c, .slice q m e] t (0, 0))) d) := stX_twot h1 h2 rfl rfl
theorem bodyS_length (cip : List Nat → List Nat) (nonce x : List Nat) : ∀ c, (bodyS cip nonce x c).length = min (16 * c) x.length
  | 0 => by simp [bodyS]
  | c + 1 => by
    rw [bodyS_succ, List.length_append, bodyS_length cip nonce x c, pieceF, xorL_length, List.length_take, List.length_drop]
    omega
theorem bodyL_length (cip : List Nat → List Nat) (nonce x : List Nat) : (bodyL cip nonce x).length = x.length := by
  rw [bodyL, bodyS_length]; omega
theorem bodyL_B8 (cip : List Nat → List Nat) (nonce x : List Nat) : B8 (bodyL cip nonce x) := fun n hn => by
  unfold bodyL bodyS at hn
  obtain ⟨c, _, h⟩ := List.mem_flatMap.1 hn
  exact xorL_B8 _ _ n h
theorem tagG_length (cip : List Nat → List Nat) (nonce bes b : List Nat) : (tagG cip nonce bes b).length = 16 := by
  rw [tagG, xorL_length, hashS_length]
end Go.Own
namespace Go.Proofs.Ytmhhekiliojifaa
open Go.RowKit Go.Own
theorem sz44t (w : World) : (sizeOf 44).run Try.prog w = .ok 2 w := by kernel_rfl
theorem cs44t : Try.prog.cellsOf 44 = 2 := by kernel_rfl
theorem z44t : zeroOf Try.prog 44 = .agg #[.slice none 0 0, .slice none 0 0] := by kernel_rfl
attribute [local go_sem] ag5t cs5t sz5t isa5t ag44t sz44t cs44t z44t ldX32 alX_twot stX_sl
attribute [-go_sem] run_string_add_if
/-- What is asked of the cipher. -/
structure Cip (cip : List Nat → List Nat → List Nat) (Rdy : List Nat → Value → Value → World → Prop) : Prop where
  len : ∀ k t, (cip k t).length = 16
  b8 : ∀ k t, B8 (cip k t)
  keep : ∀ k x y (w w' : World), Rdy k x y w → Grows w w' → Rdy k x y w'
  new : ∀ (key : ByteArray) (W : World), key.size = 32 → Calls Try.prog 18 #[.string key] W fun e w' => ∃ p n c q m d, e = .returned (.tuple #[.agg #[.slice p n c, .slice q m d], .int .i64 0]) ∧ Grows W w' ∧ Rdy (bys key) (.slice p n c) (.slice q m d) w'
  bad : ∀ (key : ByteArray) (W : World), key.size ≠ 32 → Calls Try.prog 18 #[.string key] W fun e w' => e = .returned (.tuple #[.agg #[.slice none 0 0, .slice none 0 0], .int .i64 2]) ∧ Grows W w'
  press : ∀ k x y (W : World) (t : ByteArray), Rdy k x y W → t.size = 16 → Calls Try.prog 36 #[.agg #[x, y], .string t] W fun e w' => e = .returned (.tuple #[.string (mkS (cip k (bys t))), .int .i64 0]) ∧ Grows W w'
section
variable {cip : List Nat → List Nat → List Nat} {Rdy : List Nat → Value → Value → World → Prop}
set_option maxRecDepth 100000 in
set_option maxHeartbeats 1000000 in
theorem seal_key (H : Cip cip Rdy) (key nonce bes text : ByteArray) (h : key.size ≠ 32) (w : World) :
    Calls Try.prog 8 #[.string key, .string nonce, .string bes, .string text] w fun e w' => e = .returned (.tuple #[.string (mkS []), .int .i64 2]) ∧ Grows w w' := by
  have HB := Lib.hid fun W => H.bad key W h
  clear H h
  refine calls_wd ?_
  go_enter Try.func8, Try.ntmps8
  go_wp2_with fail
  refine (HB.out _).mono ?_
  rintro e w' ⟨rfl, g, d, rfl⟩
  rw [Wd_wd]
  go_wp2
  go_ret2
  exact ⟨rfl, Grows.of _ _ _⟩
set_option maxRecDepth 100000 in
set_option maxHeartbeats 1000000 in
theorem seal_bad (H : Cip cip Rdy) (key nonce bes text : ByteArray) (h : key.size = 32) (h2 : nonce.size ≠ 12 ∨ 65536 < bes.size ∨ 65536 < text.size) (w : World) :
    Calls Try.prog 8 #[.string key, .string nonce, .string bes, .string text] w fun e w' => e = .returned (.tuple #[.string (mkS []), .int .i64 (if nonce.size ≠ 12 then 2 else 3)]) ∧ Grows w w' := by
  have h' : (¬ (nonce.size : Int) = 12 ∧ nonce.size ≠ 12) ∨ ((nonce.size : Int) = 12 ∧ nonce.size = 12 ∧ 65536 < (bes.size : Int)) ∨ ((nonce.size : Int) = 12 ∧ nonce.size = 12 ∧ ¬ 65536 < (bes.size : Int) ∧ 65536 < (text.size : Int)) := by omega
  have HN := Lib.hid fun W => H.new key W h
  clear H h h2
  refine calls_wd ?_
  rcases h' with ⟨z, hz⟩ | ⟨z, hz, z2⟩ | ⟨z, hz, z2, z3⟩
  · rw [if_pos hz]
    go_enter Try.func8, Try.ntmps8
    go_wp2_with fail
    refine (HN.out _).mono ?_
    rintro e w' ⟨p, n, c, q, m, dd, rfl, ⟨g, d, rfl⟩, _⟩
    rw [Wd_wd]
    go_wp2
    go_ret2
    exact ⟨rfl, Grows.of _ _ _⟩
  all_goals
    rw [if_neg (by rw [hz]; decide)]
    go_enter Try.func8, Try.ntmps8
    go_wp2_with fail
    refine (HN.out _).mono ?_
    rintro e w' ⟨p, n, c, q, m, dd, rfl, ⟨g, d, rfl⟩, _⟩
    rw [Wd_wd]
    go_wp2
    go_ret2
    exact ⟨rfl, Grows.of _ _ _⟩
/-- What is sealed. -/
def sealL (cip : List Nat → List Nat) (nonce bes x : List Nat) : List Nat := bodyL cip nonce x ++ tagG cip nonce bes (bodyL cip nonce x)
set_option maxRecDepth 100000 in
set_option maxHeartbeats 2000000 in
theorem seal_ok (H : Cip cip Rdy) (key nonce bes text : ByteArray) (h : key.size = 32) (hn : nonce.size = 12) (hb : bes.size ≤ 65536) (ht : text.size ≤ 65536) (w : World) :
    Calls Try.prog 8 #[.string key, .string nonce, .string bes, .string text] w fun e w' => e = .returned (.tuple #[.string (mkS (sealL (cip (bys key)) (bys nonce) (bys bes) (bys text))), .int .i64 0]) ∧ Grows w w' := by
  have hni : (nonce.size : Int) = 12 := by omega
  have z2 : ¬ 65536 < (bes.size : Int) := by omega
  have z3 : ¬ 65536 < (text.size : Int) := by omega
  have HN := Lib.hid fun W => H.new key W h
  have HBODY : Hid (∀ x y (W : World), Rdy (bys key) x y W → Calls Try.prog 19 #[.agg #[x, y], .string nonce, .string text] W fun e w' => e = .returned (.string (mkS (bodyL (cip (bys key)) (bys nonce) (bys text)))) ∧ Grows W w') := Lib.hid fun x y W hW =>
    body_any x y (cip (bys key)) (H.len _) (H.b8 _) (Rdy (bys key) x y) (fun w w' => H.keep _ _ _ w w') (fun W t hW ht => H.press _ _ _ W t hW ht) nonce text hn (by omega) W hW
  have HTAG : Hid (∀ x y (W : World), Rdy (bys key) x y W → Calls Try.prog 20 #[.agg #[x, y], .string nonce, .string bes, .string (mkS (bodyL (cip (bys key)) (bys nonce) (bys text)))] W fun e w' => e = .returned (.string (mkS (tagG (cip (bys key)) (bys nonce) (bys bes) (bodyL (cip (bys key)) (bys nonce) (bys text))))) ∧ Grows W w') := Lib.hid fun x y W hW => by
    have := tag_any x y (cip (bys key)) (H.len _) (H.b8 _) (Rdy (bys key) x y) (fun w w' => H.keep _ _ _ w w') (fun W t hW ht => H.press _ _ _ W t hW ht) nonce bes (mkS (bodyL (cip (bys key)) (bys nonce) (bys text))) hn (by omega) (by rw [mkS_size, bodyL_length, bys_length]; omega) W hW
    rwa [bys_mkS _ (bodyL_B8 _ _ _)] at this
  have HK := Lib.hid H.keep
  have hS : Hid (sealL (cip (bys key)) (bys nonce) (bys bes) (bys text) = bodyL (cip (bys key)) (bys nonce) (bys text) ++ tagG (cip (bys key)) (bys nonce) (bys bes) (bodyL (cip (bys key)) (bys nonce) (bys text))) := rfl
  have hbl : (bodyL (cip (bys key)) (bys nonce) (bys text)).length ≤ 65536 := by rw [bodyL_length, bys_length]; exact ht
  have htl := tagG_length (cip (bys key)) (bys nonce) (bys bes) (bodyL (cip (bys key)) (bys nonce) (bys text))
  generalize bodyL (cip (bys key)) (bys nonce) (bys text) = B at *
  generalize tagG (cip (bys key)) (bys nonce) (bys bes) B = T at *
  have hadd : ∀ W, (Op.stringOp .add (mkS B) (mkS T)).run Try.prog W = .ok (.string (mkS (B ++ T))) W := fun W => add_mkS _ _ (by omega) W
  have HW := Lib.hid (Grows.refl w)
  clear H h hn hb ht hbl htl
  refine calls_wd ?_
  go_enter Try.func8, Try.ntmps8
  go_wp2_with fail
  refine (HN.out _).mono ?_
  rintro e w' ⟨p, n, c, q, m, dd, rfl, ⟨g, d, rfl⟩, hR⟩
  have HR := Lib.hid hR
  rw [Wd_wd] at HR ⊢
  clear hR
  go_wp2_with fail
  have HR2 := Lib.hid (HK.out _ _ _ _ _ HR.out (show Grows _ (Wd w (g ++ [Obj.cells #[Value.slice p n c, Value.slice q m dd] 44 (0, 0)]) d) from ⟨[Obj.cells #[Value.slice p n c, Value.slice q m dd] 44 (0, 0)], 0, by rw [Wd_wd]; simp⟩))
  refine (HBODY.out _ _ _ HR2.out).mono ?_
  rintro e w' ⟨rfl, g2, d2, rfl⟩
  have HR3 := Lib.hid (HK.out _ _ _ _ _ HR2.out (Grows.of _ g2 d2))
  rw [Wd_wd] at HR3 ⊢
  go_wp2_with fail
  refine (HTAG.out _ _ _ ?hr).mono ?_
  case hr => simpa using HR3.out
  rintro e w' ⟨rfl, g3, d3, rfl⟩
  rw [Wd_wd]
  go_wp2
  go_ret2
  exact ⟨by rw [hS.out]; rfl, Grows.of _ _ _⟩
set_option maxRecDepth 100000 in
set_option maxHeartbeats 1000000 in
theorem open_key (H : Cip cip Rdy) (key nonce bes sl : ByteArray) (h : key.size ≠ 32) (w : World) :
    Calls Try.prog 10 #[.string key, .string nonce, .string bes, .string sl] w fun e w' => e = .returned (.tuple #[.string (mkS []), .int .i64 2]) ∧ Grows w w' := by
  have HB := Lib.hid fun W => H.bad key W h
  clear H h
  refine calls_wd ?_
  go_enter Try.func10, Try.ntmps10
  go_wp2_with fail
  refine (HB.out _).mono ?_
  rintro e w' ⟨rfl, g, d, rfl⟩
  rw [Wd_wd]
  go_wp2
  go_ret2
  exact ⟨rfl, Grows.of _ _ _⟩
set_option maxRecDepth 100000 in
set_option maxHeartbeats 2000000 in
theorem open_bad (H : Cip cip Rdy) (key nonce bes sl : ByteArray) (h : key.size = 32) (h2 : nonce.size ≠ 12 ∨ sl.size < 16 ∨ 65536 < bes.size ∨ 65552 < sl.size) (hb : sl.size ≤ 1099511627776) (w : World) :
    Calls Try.prog 10 #[.string key, .string nonce, .string bes, .string sl] w fun e w' => e = .returned (.tuple #[.string (mkS []), .int .i64 (if nonce.size ≠ 12 ∨ sl.size < 16 then 2 else 3)]) ∧ Grows w w' := by
  obtain ⟨L, hL⟩ : ∃ L, sl.size - 16 = L := ⟨_, rfl⟩
  obtain ⟨B, hB⟩ : ∃ B, sl.extract 0 L = B := ⟨_, rfl⟩
  have hBs : L ≤ sl.size → B.size = L := fun h => by rw [← hB, ByteArray.size_extract]; omega
  have h' : (¬ (nonce.size : Int) = 12 ∧ nonce.size ≠ 12) ∨ ((nonce.size : Int) = 12 ∧ nonce.size = 12 ∧ (sl.size : Int) < 16 ∧ sl.size < 16) ∨ ((nonce.size : Int) = 12 ∧ nonce.size = 12 ∧ ¬ (sl.size : Int) < 16 ∧ ¬ sl.size < 16 ∧ 65536 < (bes.size : Int)) ∨ ((nonce.size : Int) = 12 ∧ nonce.size = 12 ∧ ¬ (sl.size : Int) < 16 ∧ ¬ sl.size < 16 ∧ ¬ 65536 < (bes.size : Int) ∧ 65536 < (L : Int)) := by omega
  have HN := Lib.hid fun W => H.new key W h
  clear H h h2
  refine calls_wd ?_
  rcases h' with ⟨z, hz⟩ | ⟨z, hz, z1, hz1⟩ | ⟨z, hz, z1, hz1, z2⟩ | ⟨z, hz, z1, hz1, z2, z3⟩
  · rw [if_pos (Or.inl hz)]
    clear hBs hL hB
    go_enter Try.func10, Try.ntmps10
    go_wp2_with fail
    refine (HN.out _).mono ?_
    rintro e w' ⟨p, n, c, q, m, dd, rfl, ⟨g, d, rfl⟩, _⟩
    rw [Wd_wd]
    go_wp2
    go_ret2
    exact ⟨rfl, Grows.of _ _ _⟩
  · rw [if_pos (Or.inr hz1)]
    clear hBs hL hB
    go_enter Try.func10, Try.ntmps10
    go_wp2_with fail
    refine (HN.out _).mono ?_
    rintro e w' ⟨p, n, c, q, m, dd, rfl, ⟨g, d, rfl⟩, _⟩
    rw [Wd_wd]
    go_wp2
    go_ret2
    exact ⟨rfl, Grows.of _ _ _⟩
  all_goals
    rw [if_neg (by omega)]
    have hLi : (sl.size : Int) - 16 = L := by omega
    have hLs : (L : Int) ≤ (sl.size : Int) := by omega
    have hBL := hBs (by omega)
    clear hBs hL
    go_enter Try.func10, Try.ntmps10
    go_wp2_with fail
    refine (HN.out _).mono ?_
    rintro e w' ⟨p, n, c, q, m, dd, rfl, ⟨g, d, rfl⟩, _⟩
    rw [Wd_wd]
    go_wp2
    go_ret2
    exact ⟨rfl, Grows.of _ _ _⟩
set_option maxRecDepth 100000 in
set_option maxHeartbeats 4000000 in
theorem open_any (H : Cip cip Rdy) (key nonce bes sl : ByteArray) (h : key.size = 32) (hn : nonce.size = 12) (hs : 16 ≤ sl.size) (hb : bes.size ≤ 65536) (hl : sl.size ≤ 65552) (w : World) :
    Calls Try.prog 10 #[.string key, .string nonce, .string bes, .string sl] w fun e w' => e = .returned (.tuple (
      if tagG (cip (bys key)) (bys nonce) (bys bes) ((bys sl).take (sl.size - 16)) = (bys sl).drop (sl.size - 16) then #[.string (mkS (bodyL (cip (bys key)) (bys nonce) ((bys sl).take (sl.size - 16)))), .int .i64 0] else #[.string (mkS []), .int .i64 8])) ∧ Grows w w' := by
  have hni : (nonce.size : Int) = 12 := by omega
  have z1 : ¬ (sl.size : Int) < 16 := by omega
  have z2 : ¬ 65536 < (bes.size : Int) := by omega
  obtain ⟨L, hL⟩ : ∃ L, sl.size - 16 = L := ⟨_, rfl⟩
  have hLi : (sl.size : Int) - 16 = L := by omega
  have hLs : (L : Int) ≤ (sl.size : Int) := by omega
  have hLn : L ≤ sl.size := by omega
  have z3 : ¬ 65536 < (L : Int) := by omega
  rw [hL]
  obtain ⟨B, hB⟩ : ∃ B, sl.extract 0 L = B := ⟨_, rfl⟩
  obtain ⟨E, hE⟩ : ∃ E, sl.extract L sl.size = E := ⟨_, rfl⟩
  have hBs : B.size = L := by rw [← hB, ByteArray.size_extract]; omega
  have hBb : bys B = (bys sl).take L := by rw [← hB, bys_extract]; simp
  have hEb : bys E = (bys sl).drop L := by rw [← hE, bys_extract, List.take_of_length_le (by rw [List.length_drop, bys_length]; exact Nat.le_refl _)]
  rw [← hBb, ← hEb]
  have HN := Lib.hid fun W => H.new key W h
  have HBODY : Hid (∀ x y (W : World), Rdy (bys key) x y W → Calls Try.prog 19 #[.agg #[x, y], .string nonce, .string B] W fun e w' => e = .returned (.string (mkS (bodyL (cip (bys key)) (bys nonce) (bys B)))) ∧ Grows W w') := Lib.hid fun x y W hW =>
    body_any x y (cip (bys key)) (H.len _) (H.b8 _) (Rdy (bys key) x y) (fun w w' => H.keep _ _ _ w w') (fun W t hW ht => H.press _ _ _ W t hW ht) nonce B hn (by omega) W hW
  have HTAG : Hid (∀ x y (W : World), Rdy (bys key) x y W → Calls Try.prog 20 #[.agg #[x, y], .string nonce, .string bes, .string B] W fun e w' => e = .returned (.string (mkS (tagG (cip (bys key)) (bys nonce) (bys bes) (bys B)))) ∧ Grows W w') := Lib.hid fun x y W hW =>
    tag_any x y (cip (bys key)) (H.len _) (H.b8 _) (Rdy (bys key) x y) (fun w w' => H.keep _ _ _ w w') (fun W t hW ht => H.press _ _ _ W t hW ht) nonce bes B hn (by omega) (by omega) W hW
  have HK := Lib.hid H.keep
  have hT8 : Hid (B8 (tagG (cip (bys key)) (bys nonce) (bys bes) (bys B))) := Lib.hid (xorL_B8 _ _)
  generalize bodyL (cip (bys key)) (bys nonce) (bys B) = D at *
  generalize tagG (cip (bys key)) (bys nonce) (bys bes) (bys B) = T at *
  have hcase : (T = bys E ∧ E = mkS T) ∨ (¬ T = bys E ∧ ((mkS T).toList == E.toList) = false ∧ ¬ (mkS T).toList = E.toList) := by
    by_cases e : T = bys E
    · exact Or.inl ⟨e, by rw [e, mkS_bys]⟩
    · refine Or.inr ⟨e, ?_⟩
      refine (fun hx => ⟨beq_eq_false_iff_ne.2 hx, hx⟩) ?_
      intro h2
      rw [ByteArray.toList_eq, ByteArray.toList_eq] at h2
      have h3 : mkS T = E := ByteArray.ext (Array.toList_inj.1 h2)
      exact e (by rw [← h3, bys_mkS _ hT8.out])
  obtain ⟨ANS, hANS⟩ : ∃ A, (if T = bys E then #[Value.string (mkS D), .int .i64 0] else #[Value.string (mkS []), .int .i64 8]) = A := ⟨_, rfl⟩
  rw [hANS]
  have HANS := Lib.hid hANS
  clear H h hn hs hb hl hBb hEb hL hANS
  refine calls_wd ?_
  go_enter Try.func10, Try.ntmps10
  go_wp2_with fail
  refine (HN.out _).mono ?_
  rintro e w' ⟨p, n, c, q, m, dd, rfl, ⟨g, d, rfl⟩, hR⟩
  have HR := Lib.hid hR
  rw [Wd_wd] at HR ⊢
  clear hR
  go_wp2
  obtain ⟨W, hW⟩ : ∃ W, Wd w g d = W := ⟨_, rfl⟩
  have hWs : w.heap.size + g.length = W.heap.size := by rw [← hW, Wd_size]
  have hWW : Wd w (g ++ [Obj.cells #[Value.slice p n c, Value.slice q m dd] 44 (0, 0)]) d = Wd W [Obj.cells #[Value.slice p n c, Value.slice q m dd] 44 (0, 0)] 0 := by rw [← hW, Wd_wd]; rfl
  have HGW : Hid (Grows w W) := Lib.hid (hW ▸ Grows.of _ _ _)
  have HRW : Hid (Rdy (bys key) (Value.slice p n c) (Value.slice q m dd) W) := Lib.hid (hW ▸ (by simpa using HR.out))
  rw [hWs, hWW]
  clear hWs hWW hW HR
  have HB1 := Lib.hid fun (g' : List Obj) (e : Nat) => big_call (L := fun g' => Obj.cells #[Value.slice p n c, Value.slice q m dd] 44 (0, 0) :: g') (g := g') (e := e) (w := W) (l0 := [Obj.cells #[Value.slice p n c, Value.slice q m dd] 44 (0, 0)]) (fun _ _ => rfl) (fun _ => rfl) (HTAG.out _ _ _ (HK.out _ _ _ _ _ HRW.out (Grows.of _ _ _)))
  refine wp_region_big_all (by kernel_rfl) (by kernel_rfl) ?_
  repeat (go_big_quiet_step ((intro _; with_reducible exact HB1.out _ _)))
  refine wpQuiet_nil ?_
  intro gR eR
  rcases hcase with ⟨h1, h2⟩ | ⟨h1, h2, h3⟩
  · have HA : Hid (ANS = #[Value.string (mkS D), .int .i64 0]) := Lib.hid (by rw [← HANS.out, if_pos h1])
    subst h2
    rw [show ((mkS T).toList == (mkS T).toList) = true from beq_self_eq_true _]
    have HBD := Lib.hid (HBODY.out _ _ _ (HK.out _ _ _ _ _ HRW.out (Grows.of W ([Obj.cells #[Value.slice p n c, Value.slice q m dd] 44 (0, 0)] ++ gR) eR)))
    clear h1
    go_wp2_with fail
    refine HBD.out.mono ?_
    rintro e w' ⟨rfl, g3, d3, rfl⟩
    rw [Wd_wd]
    go_wp2
    go_ret2
    exact ⟨by rw [HA.out]; rfl, HGW.out.trans (Grows.of _ _ _)⟩
  · have HA : Hid (ANS = #[Value.string (mkS []), .int .i64 8]) := Lib.hid (by rw [← HANS.out, if_neg h1])
    rw [h2]
    clear h1 h2 h3
    go_wp2
    go_ret2
    exact ⟨by rw [HA.out]; rfl, HGW.out.trans (Grows.of _ _ _)⟩
end
end Go.Proofs.Ytmhhekiliojifaa

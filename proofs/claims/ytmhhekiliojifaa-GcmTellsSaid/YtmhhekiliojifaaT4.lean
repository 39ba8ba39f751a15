/- Layer 4 of the document: a text turned, by what the cipher gives: by contract (the cipher's own contract is asked). -/
import Derived.Test.YtmhhekiliojifaaT3
namespace Go.Own
open Go.RowKit
theorem wp_region_big_all {P : Program} {id : Nat} {Q : Exit → Act → World → Prop} {a : Act} {w : World} {l0 : List Obj} {d : Nat} {l : List Oper} (hm : P.follows .mixedOrders = true) (hB : Region.lexB .any l.toArray = true)
    (h : wpQuiet P l.toArray (More w l0) (fun a' => ∀ g e, Q .normal a' (Wd w (l0 ++ g) e)) l a) : (Code.region id l.toArray true).wp P Q a (Wd w l0 d) := by
  refine wp_region_quiet (C := More w l0) hm hB ⟨[], d + 1, by rw [List.append_nil]; rfl⟩ ?_
  have e : (fun a' => ∀ w', More w l0 w' → Q .normal a' w') = fun a' => ∀ g e, Q .normal a' (Wd w (l0 ++ g) e) := by
    funext a'
    exact propext all_more
  rw [e]
  exact h
def bxN (T : TypeId) (v : Value) : Sem Value := Instr.box T v
@[go_sem ↓] theorem execOp_box (ρ : Operand → Value) (dst : Option Tmp) (T : TypeId) (x : Operand) (ty : TypeId) (pos : String) (after : Array Edge) (guard : Option (Nat × Bool)) :
    execOp ρ { dst, op := .box T x, type := ty, pos, after, guard } = (bxN T (ρ x) >>= fun v => pure (.value v)) := rfl
theorem bxN_two {P : Program} {T : TypeId} {x y : Value} {w : World} {l : List Obj} {d : Nat} :
    (bxN T (.agg #[x, y])).run P (Wd w l d) = .ok (.pointer (some ⟨w.heap.size + l.length, 0, none⟩)) (Wd w (l ++ [.cells #[x, y] T (0, 0)]) d) := by
  simp [bxN, Instr.box, newVar, newRow, Value.cells, Wd_size, Wd_alloc]
/-- The piece of 16 bytes of number c, turned. -/
def pieceF (cip : List Nat → List Nat) (nonce x : List Nat) (c : Nat) : List Nat := xorL ((x.drop (16 * c)).take 16) (cip (nonce ++ fourL (2 + c)))
def bodyS (cip : List Nat → List Nat) (nonce x : List Nat) (c : Nat) : List Nat := (List.range c).flatMap (pieceF cip nonce x)
theorem bodyS_succ (cip : List Nat → List Nat) (nonce x : List Nat) (c : Nat) : bodyS cip nonce x (c + 1) = bodyS cip nonce x c ++ pieceF cip nonce x c := by simp [bodyS, List.range_succ]
/-- The body. -/
def bodyL (cip : List Nat → List Nat) (nonce x : List Nat) : List Nat := bodyS cip nonce x ((x.length + 15) / 16)
end Go.Own
namespace Go.Proofs.Ytmhhekiliojifaa
open Go.RowKit Go.Own
theorem ag44t : aggSize Try.prog 44 = some 2 := by kernel_rfl
theorem ld32 {W : World} {b : Nat} {x y : Value} {t : TypeId} {f : Nat × Nat} (h : blk W b = some (.cells #[x, y] t f)) : (loadVar 44 ⟨b, 0, none⟩).run Try.prog W = .ok (.agg #[x, y]) W := by
  obtain ⟨ha, _⟩ := isAgg_of ag44t W
  have hl := run_loadCells_list (P := Try.prog) W ⟨b, 0, none⟩ [x, y] (fun j v hv => by
    have hadd : (⟨b, 0, none⟩ : Addr).add j = ⟨b, j, none⟩ := by unfold Addr.add; split <;> simp_all
    rw [hadd]
    simp only [World.cell?, show W.heap[b]? = _ from h, Option.isSome_none, Bool.false_eq_true, if_false]
    simpa using hv)
  have hl2 : (loadCells ⟨b, 0, none⟩ 2).run Try.prog W = .ok #[x, y] W := hl
  simp [loadVar, ha, hl2]
theorem ldX32 {W : World} {b : Nat} {x y : Value} {t : TypeId} {f : Nat × Nat} (h : blk W b = some (.cells #[x, y] t f)) :
    ldX Try.prog 44 (some 2) (some (.cells #[x, y] t f)) b 0 W = .ok (.agg #[x, y]) W := by
  have hl := ld32 h
  simpa [ldX, ldN, Instr.loadAt, Instr.sureAddr] using hl
attribute [local go_sem] ag5t cs5t sz5t isa5t ag44t ldX32 bxN_two
attribute [-go_sem] run_string_add_if
set_option maxRecDepth 100000 in
set_option maxHeartbeats 2000000 in
theorem body_any (kx ky : Value) (cip : List Nat → List Nat) (hcl : ∀ t, (cip t).length = 16) (hc8 : ∀ t, B8 (cip t)) (Rdy : World → Prop) (hrdy : ∀ w w' : World, Rdy w → Grows w w' → Rdy w')
    (HP : ∀ (W : World) (t : ByteArray), Rdy W → t.size = 16 → Calls Try.prog 36 #[.agg #[kx, ky], .string t] W fun e w' => e = .returned (.tuple #[.string (mkS (cip (bys t))), .int .i64 0]) ∧ Grows W w')
    (nonce text : ByteArray) (hn : nonce.size = 12) (ht : text.size ≤ 1000000) (w : World) (hR : Rdy w) :
    Calls Try.prog 19 #[.agg #[kx, ky], .string nonce, .string text] w fun e w' => e = .returned (.string (mkS (bodyL cip (bys nonce) (bys text)))) ∧ Grows w w' := by
  obtain ⟨x, hx⟩ : ∃ x, bys text = x := ⟨_, rfl⟩
  obtain ⟨n, hnn⟩ : ∃ n, text.size = n := ⟨_, rfl⟩
  have hxl : Hid (x.length = n) := Lib.hid (by rw [← hx, bys_length, hnn])
  have HX := Lib.hid hx
  have HTS := Lib.hid hnn
  obtain ⟨N, hN⟩ : ∃ N, (n + 15) / 16 = N := ⟨_, rfl⟩
  have hNB : Hid (bodyL cip (bys nonce) (bys text) = bodyS cip (bys nonce) x N) := Lib.hid (by rw [bodyL, hx, hxl.out, hN])
  have hNn : Hid (16 * N < n + 16 ∧ n ≤ 16 * N) := Lib.hid (by omega)
  have HRD := Lib.hid hR
  have HCL := Lib.hid hcl
  have HC8 := Lib.hid hc8
  have HPP := Lib.hid HP
  have HRR := Lib.hid hrdy
  have hNS := Lib.hid hn
  rw [hnn] at ht
  clear hx hN hR hcl hc8 HP hrdy hn
  refine calls_wd ?_
  go_enter Try.func19, Try.ntmps19
  go_wp2
  go_loopw [7, 8] (fun o i wr => ∃ (c at' d : Nat) (O : List Nat) (g : List Obj), c ≤ N ∧ 16 * c = at' ∧ i = .int .i64 at' ∧ o = .string (mkS O) ∧ Hid (bodyS cip (bys nonce) x c = O) ∧ Hid (O.length ≤ 16 * c) ∧ wr = Wd w (.cells #[kx, ky] 44 (0, 0) :: g) d) (fun _ i _ => n + 16 - (intOf i).toNat)
  case atStart => exact ⟨0, 0, _, [], [], by omega, rfl, rfl, rfl, Lib.hid rfl, Lib.hid (Nat.le_refl _), rfl⟩
  case round =>
    obtain ⟨c, p, d, O, g, hc, hp, rfl, rfl, hO, hOl, rfl⟩ := hrel
    have HPc := Lib.hid hp
    clear hp
    by_cases hlt : p < n
    · have hpi : (p : Int) < n := by omega
      obtain ⟨p2, hp2⟩ : ∃ p2, p + 16 = p2 := ⟨_, rfl⟩
      have hp2i : (p : Int) + 16 = p2 := by omega
      obtain ⟨en, hen⟩ : ∃ en, min p2 n = en := ⟨_, rfl⟩
      have HEN := Lib.hid hen
      have hcase : (n < p2 ∧ en = n) ∨ (¬ n < p2 ∧ en = p2) := by omega
      have hq : (p : Int).tdiv 16 = (c : Int) := by rw [Int.tdiv_eq_ediv_of_nonneg (by omega)]; have := HPc.out; omega
      have hq2 : (p : Int) / 16 = (c : Int) := by have := HPc.out; omega
      have hep : p < en := by omega
      have hen2 : en ≤ n := by omega
      have hepi : (p : Int) ≤ (en : Int) := by omega
      have heni : (en : Int) ≤ (n : Int) := by omega
      have hcN : c < N := by have := hNn.out; have := HPc.out; omega
      obtain ⟨m, hm⟩ : ∃ m, 2 + c = m := ⟨_, rfl⟩
      have hmi : 2 + (c : Int) = m := by omega
      have hmb : m < 4294967296 := by have := HPc.out; omega
      have H16 := Lib.hid (four_any m hmb)
      obtain ⟨t, hT⟩ : ∃ t, nonce ++ mkS (fourL m) = t := ⟨_, rfl⟩
      have htb : Hid (bys t = bys nonce ++ fourL m) := Lib.hid (by rw [← hT, cat_bys, bys_mkS _ (fourL_B8 m), bys_mkS _ ((B8.bys nonce).append (fourL_B8 m))])
      have hts : Hid (t.size = 16) := Lib.hid (by rw [← bys_length, htb.out, List.length_append, bys_length, hNS.out]; rfl)
      have hadd1 : ∀ W, (Op.stringOp .add nonce (mkS (fourL m))).run Try.prog W = .ok (.string t) W := fun W => by
        rw [run_string_add_sum W _ _ (by rw [hNS.out, mkS_size]; show 12 + 4 ≤ _; decide), hT]
      obtain ⟨S, hS⟩ : ∃ S, cip (bys t) = S := ⟨_, rfl⟩
      have hSl : Hid (S.length = 16) := Lib.hid (by rw [← hS]; exact HCL.out _)
      have hS8 : Hid (B8 S) := Lib.hid (by rw [← hS]; exact HC8.out _)
      have HPR : Hid (∀ W : World, Rdy W → Calls Try.prog 36 #[.agg #[kx, ky], .string t] W fun e w' => e = .returned (.tuple #[.string (mkS S), .int .i64 0]) ∧ Grows W w') := Lib.hid fun W hW => by
        have := HPP.out W t hW hts.out
        rwa [hS] at this
      obtain ⟨E, hE⟩ : ∃ E, text.extract p en = E := ⟨_, rfl⟩
      have hEb : Hid (bys E = (x.drop (16 * c)).take 16) := Lib.hid (by
        rw [← hE, bys_extract, HX.out, HPc.out]
        have hl : (x.drop p).length = n - p := by rw [List.length_drop, hxl.out]
        rcases hcase with ⟨h1, h2⟩ | ⟨h1, h2⟩
        · rw [List.take_of_length_le (by omega), List.take_of_length_le (by omega)]
        · rw [show en - p = 16 by omega])
      have hEs : Hid (E.size ≤ 16) := Lib.hid (by rw [← bys_length, hEb.out, List.length_take]; omega)
      have hXR := Lib.hid (xor_any E (mkS S) (by rw [mkS_size, hSl.out]; exact hEs.out) (by have := hEs.out; omega))
      have hPF : Hid (xorL (bys E) (bys (mkS S)) = pieceF cip (bys nonce) x c) := Lib.hid (by rw [pieceF, hEb.out, bys_mkS S hS8.out, ← hS, htb.out, hm])
      rw [hPF.out] at hXR
      obtain ⟨F, hF⟩ : ∃ F, pieceF cip (bys nonce) x c = F := ⟨_, rfl⟩
      rw [hF] at hXR
      have hFl : Hid (F.length ≤ 16) := Lib.hid (by rw [← hF, ← hPF.out, xorL_length, bys_length]; exact hEs.out)
      have hO2 : Hid (bodyS cip (bys nonce) x (c + 1) = O ++ F) := Lib.hid (by rw [bodyS_succ, hO.out, hF])
      have hadd2 : ∀ W, (Op.stringOp .add (mkS O) (mkS F)).run Try.prog W = .ok (.string (mkS (O ++ F))) W := fun W => by
        rw [run_string_add_sum W _ _ (by rw [mkS_size, mkS_size]; have := hOl.out; have := hFl.out; have := HPc.out; omega), mkS_append]
      obtain ⟨O2, hO2e⟩ : ∃ O2, O ++ F = O2 := ⟨_, rfl⟩
      rw [hO2e] at hadd2 hO2
      have hO2l : Hid (O2.length ≤ 16 * (c + 1)) := Lib.hid (by rw [← hO2e, List.length_append]; have := hOl.out; have := hFl.out; omega)
      have HB1 := Lib.hid fun (g' : List Obj) (e : Nat) => big_call (L := fun g' => Obj.cells #[kx, ky] 44 (0, 0) :: (g ++ g')) (g := g') (e := e) (w := w) (l0 := Obj.cells #[kx, ky] 44 (0, 0) :: g) (fun _ _ => by simp) (fun _ => rfl) (H16.out _)
      have HB2 := Lib.hid fun (g' : List Obj) (e : Nat) => big_call (L := fun g' => Obj.cells #[kx, ky] 44 (0, 0) :: (g ++ g')) (g := g') (e := e) (w := w) (l0 := Obj.cells #[kx, ky] 44 (0, 0) :: g) (fun _ _ => by simp) (fun _ => rfl) (HPR.out _ (HRR.out _ _ HRD.out (Grows.of _ _ _)))
      clear hm hT hS hF hO2e hmb
      have key : True := trivial
      have HP2 := Lib.hid hp2
      rcases hcase with ⟨hc1, hen3⟩ | ⟨hc1, hen3⟩
      · have hc1i : (n : Int) < (p2 : Int) := by omega
        subst hen3
        clear hp2 hen hepi
        have hepi : (p : Int) ≤ (en : Int) := by omega
        go_wp2
        refine wp_region_big_all (by kernel_rfl) (by kernel_rfl) ?_
        repeat (go_big_quiet_step ((intro _; first | (with_reducible exact HB1.out _ _) | (with_reducible exact HB2.out _ _))))
        refine wpQuiet_nil ?_
        intro gR eR
        go_wp2_with fail
        refine (hXR.out _).mono ?_
        rintro e w' ⟨rfl, g2, d2, rfl⟩
        rw [Wd_wd]
        go_wp2
        go_roundw
        case rel => exact ⟨c + 1, p2, _, O2, _, hcN, by have := HPc.out; have := HP2.out; omega, by go_num, rfl, hO2, hO2l, rfl⟩
        case measure => have := HP2.out; simp [intOf]; omega
      · have hc1i : ¬ (n : Int) < (p2 : Int) := by omega
        subst hen3
        clear hp2 hen
        go_wp2
        refine wp_region_big_all (by kernel_rfl) (by kernel_rfl) ?_
        repeat (go_big_quiet_step ((intro _; first | (with_reducible exact HB1.out _ _) | (with_reducible exact HB2.out _ _))))
        refine wpQuiet_nil ?_
        intro gR eR
        go_wp2_with fail
        refine (hXR.out _).mono ?_
        rintro e w' ⟨rfl, g2, d2, rfl⟩
        rw [Wd_wd]
        go_wp2
        go_roundw
        case rel => exact ⟨c + 1, en, _, O2, _, hcN, by have := HPc.out; have := HP2.out; omega, by go_num, rfl, hO2, hO2l, rfl⟩
        case measure => have := HP2.out; simp [intOf]; omega
    · have hpi : ¬ (p : Int) < n := by omega
      obtain rfl : c = N := by have := hNn.out; have := HPc.out; omega
      go_wp2
      go_ret
      exact ⟨by rw [hNB.out, hO.out]; rfl, Grows.of _ _ _⟩
end Go.Proofs.Ytmhhekiliojifaa

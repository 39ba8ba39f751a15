/- Product, and the closures that press blocks and count them: by contract. -/
import Derived.Test.YtmhhekiliojifaaV4
import Derived.Test.YtmhhekiliojifaaA7
namespace Go.Own
open Go.RowKit
theorem wp_region_bigq {P : Program} {id : Nat} {Q : Exit → Act → World → Prop} {a : Act} {w : World} {l0 : List Obj} {d : Nat} {l : List Oper} (hm : P.follows .mixedOrders = true) (hB : Region.lexB .any l.toArray = true)
    (h : wpQuiet P l.toArray (More w l0) (fun a' => ∀ g e, Q .normal a' (Wd w (l0 ++ g) e)) l a) : (Code.region id l.toArray true).wp P Q a (Wd w l0 d) := by
  refine wp_region_quiet (C := More w l0) hm hB ⟨[], d + 1, by rw [List.append_nil]; rfl⟩ ?_
  have e : (fun a' => ∀ w', More w l0 w' → Q .normal a' w') = fun a' => ∀ g e, Q .normal a' (Wd w (l0 ++ g) e) := by
    funext a'
    exact propext all_more
  rw [e]
  exact h
end Go.Own
namespace Go.Proofs.Ytmhhekiliojifaa
open Go.RowKit Go.Own
attribute [local go_sem] z5 ag5 cs5 sz5 isa5 ag40 cs40 sz40 z40 ag56 cs56 sz56 isa56
attribute [-go_sem] run_string_add_if
set_option maxRecDepth 100000 in
theorem prod_bad (a b : ByteArray) (h : a.size ≠ 16 ∨ b.size ≠ 16) (w : World) :
    Calls Try.prog 11 #[.string a, .string b] w fun e w' => e = .returned (.tuple #[.string (mkS []), .int .i64 2]) ∧ w = w' := by
  have h' : ((a.size : Int) != 16) = true ∨ (((a.size : Int) != 16) = false ∧ ((b.size : Int) != 16) = true) := by
    by_cases h1 : a.size = 16
    · right
      constructor
      · simp; omega
      · simp; omega
    · left; simp; omega
  clear h
  rcases h' with h1 | ⟨h1, h2⟩
  all_goals
    go_enter Try.func11, Try.ntmps11
    go_wp2
    go_ret2
    exact ⟨rfl, rfl⟩
set_option maxRecDepth 100000 in
theorem prod_ok (a b : ByteArray) (ha : a.size = 16) (hb : b.size = 16) (w : World) :
    Calls Try.prog 11 #[.string a, .string b] w fun e w' => e = .returned (.tuple #[.string (mkS (prodL (bys a) (bys b))), .int .i64 0]) ∧ Grows w w' := by
  have h1 : ((a.size : Int) != 16) = false := by simp; omega
  have h2 : ((b.size : Int) != 16) = false := by simp; omega
  have la : (bys a).length = 16 := by rw [bys_length, ha]
  have lb : (bys b).length = 16 := by rw [bys_length, hb]
  have HA : Hid (∀ W, Calls Try.prog 22 #[.string a] W fun e w' => e = .returned (.agg (cv .u8 (bys a))) ∧ Grows W w') := Lib.hid fun W => by
    have := filled_any a W; rwa [fillL_full la] at this
  have HB : Hid (∀ W, Calls Try.prog 22 #[.string b] W fun e w' => e = .returned (.agg (cv .u8 (bys b))) ∧ Grows W w') := Lib.hid fun W => by
    have := filled_any b W; rwa [fillL_full lb] at this
  have HT : Hid (∀ W, Calls Try.prog 23 #[.agg (cv .u8 (bys a)), .agg (cv .u8 (bys b))] W fun e w' => e = .returned (.agg (cv .u8 (prodL (bys a) (bys b)))) ∧ Grows W w') := Lib.hid fun W => by
    have := times_any (bys a) (bys b) la lb (gi_bys_lt a) (gi_bys_lt b) W
    rwa [timesL_prodL (gi_bys_lt a) (gi_bys_lt b)] at this
  have HX : Hid (∀ W, Calls Try.prog 24 #[.agg (cv .u8 (prodL (bys a) (bys b)))] W fun e w' => e = .returned (.string (mkS (prodL (bys a) (bys b)))) ∧ Grows W w') := Lib.hid fun W =>
    btext_any _ (prodL_length _ _) W
  clear ha hb la lb
  refine calls_wd ?_
  go_enter Try.func11, Try.ntmps11
  go_wp2_with fail
  refine (HA.out _).mono ?_
  rintro e w' ⟨rfl, g, d, rfl⟩
  rw [Wd_wd]
  go_wp2_with fail
  refine (HB.out _).mono ?_
  rintro e w' ⟨rfl, g, d, rfl⟩
  rw [Wd_wd]
  go_wp2_with fail
  refine (HT.out _).mono ?_
  rintro e w' ⟨rfl, g, d, rfl⟩
  rw [Wd_wd]
  go_wp2_with fail
  refine (HX.out _).mono ?_
  rintro e w' ⟨rfl, g, d, rfl⟩
  rw [Wd_wd]
  go_wp2
  go_ret2
  exact ⟨rfl, Grows.of _ _ _⟩
/-- A closure that presses: its variable in block vb, the cipher's cells in block cb. -/
structure Prs (w : World) (vb cb : Nat) (cs : List Nat) : Prop where
  var : blk w vb = some (.cells #[.pointer (some ⟨cb, 0, none⟩)] 52 (0, 0))
  cip : blk w cb = some (.cells (cv .u8 cs) 78 (0, 0))
  len : cs.length = 496
theorem Prs.grows {w w' : World} {vb cb : Nat} {cs : List Nat} (h : Prs w vb cb cs) (hg : Grows w w') : Prs w' vb cb cs := by
  obtain ⟨l, d, rfl⟩ := hg
  exact ⟨blk_old _ _ _ _ h.var, blk_old _ _ _ _ h.cip, h.len⟩
theorem isa52' (w : World) : (isAgg 52).run Try.prog w = .ok false w := by kernel_rfl
theorem ag52' : aggSize Try.prog 52 = none := by kernel_rfl
attribute [local go_sem] isa52' ag52'
set_option maxRecDepth 100000 in
set_option maxHeartbeats 1000000 in
theorem pressed_any (vb cb : Nat) (cs b : List Nat) (hb : b.length = 16) (hb8 : B8 b) (w : World) (H : Prs w vb cb cs) :
    Calls Try.prog 26 #[.agg (cv .u8 b), .pointer (some ⟨vb, 0, none⟩)] w fun e w' => e = .returned (.agg (cv .u8 (pressL cs b))) ∧ Grows w w' := by
  have hv := H.var
  have HPS := Lib.hid H
  have HTX := Lib.hid fun W => btext_any b hb W
  have hsz : (mkS b).size = 16 := by rw [mkS_size, hb]
  have hpl : (pressL cs b).length = 16 := by unfold pressL rndLast; exact addL_length _ _ _
  have hp8 : B8 (pressL cs b) := addL_B8 _ _ _
  have HP : Hid (∀ W, Grows w W → Calls Try.prog 27 #[.pointer (some ⟨cb, 0, none⟩), .string (mkS b)] W fun e w' => e = .returned (.tuple #[.string (mkS (pressL cs b)), .int .i64 0]) ∧ Grows W w') := Lib.hid fun W hW => by
    have := press_ok cb cs H.len (mkS b) hsz W (H.grows hW).cip
    rwa [bys_mkS _ hb8] at this
  have HF : Hid (∀ W, Calls Try.prog 22 #[.string (mkS (pressL cs b))] W fun e w' => e = .returned (.agg (cv .u8 (pressL cs b))) ∧ Grows W w') := Lib.hid fun W => by
    have := filled_any (mkS (pressL cs b)) W
    rwa [bys_mkS _ hp8, fillL_full hpl] at this
  clear H hsz hp8 hb8
  have hvW : ∀ l d, blk (Wd w l d) vb = some (.cells #[.pointer (some ⟨cb, 0, none⟩)] 52 (0, 0)) := fun l d => blk_old _ _ _ _ hv
  clear hv
  have HB1 := Lib.hid fun (g' : List Obj) (e : Nat) => big_call (L := fun g' => Obj.cells (cv .u8 b) 40 (0, 0) :: Obj.cells (cv .u8 (rep 16)) 40 (0, 0) :: g') (g := g') (e := e) (w := w) (l0 := [Obj.cells (cv .u8 b) 40 (0, 0), Obj.cells (cv .u8 (rep 16)) 40 (0, 0)]) (fun _ _ => rfl) (fun _ => rfl) (HTX.out _)
  have HB2 := Lib.hid fun (g' : List Obj) (e : Nat) => big_call (L := fun g' => Obj.cells (cv .u8 b) 40 (0, 0) :: Obj.cells (cv .u8 (rep 16)) 40 (0, 0) :: g') (g := g') (e := e) (w := w) (l0 := [Obj.cells (cv .u8 b) 40 (0, 0), Obj.cells (cv .u8 (rep 16)) 40 (0, 0)]) (fun _ _ => rfl) (fun _ => rfl) (HP.out _ (Grows.of _ _ _))
  refine calls_wd ?_
  go_enter Try.func26, Try.ntmps26
  go_wp2
  refine wp_region_bigq (by kernel_rfl) (by kernel_rfl) ?_
  repeat (go_big_quiet_step ((intro _; first | (with_reducible exact HB1.out _ _) | (with_reducible exact HB2.out _ _))))
  refine wpQuiet_nil ?_
  intro gR eR
  go_wp2_with fail
  refine (HF.out _).mono ?_
  rintro e w' ⟨rfl, g, d, rfl⟩
  rw [Wd_wd]
  go_wp2
  exact ret_cell (i := 1) rfl rfl ag40 rfl hpl rfl ⟨rfl, Grows.of _ _ _⟩
end Go.Proofs.Ytmhhekiliojifaa

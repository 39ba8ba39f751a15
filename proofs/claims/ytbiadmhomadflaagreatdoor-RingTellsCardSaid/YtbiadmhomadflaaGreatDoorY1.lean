/- The document's own Wrap: by contract. | The program's Wrap, by contract; what both refuse to wrap. | What is unwrapped: the model; the document's Unwrap, by contract. | The program's Unwrap, by contract; what both refuse to unwrap. | Layer 5's examples (awake) and WrapTells' own walk. -/
import Derived.Test.YtbiadmhomadflaaGreatDoorVG
import Derived.Test.YtbiadmhomadflaaGreatDoorY2
import Derived.Test.YtbiadmhomadflaaGreatDoorVC
namespace Go.Proofs.YtbiadmhomadflaaGreatDoor
open Go.RowKit Go.Own
/-- A wrapped key. -/
def wrapB (u n k : ByteArray) : ByteArray := nonB u n k ++ mkS (sealL (cipK (bys u)) (bys (nonB u n k)) (bys n) (bys k))
theorem sealL_length (c : List Nat → List Nat) (n b x : List Nat) : (sealL c n b x).length = x.length + 16 := by
  unfold sealL
  rw [List.length_append, bodyL_length, tagG_length]
theorem wrapB_size (u n k : ByteArray) : (wrapB u n k).size = 28 + k.size := by
  unfold wrapB
  rw [ByteArray.size_append, nonB_size, mkS_size, sealL_length, bys_length]
  omega
attribute [-go_sem] run_string_add_if
set_option maxRecDepth 100000 in
set_option maxHeartbeats 1000000 in
theorem refWrap_ok (u n k : ByteArray) (hu : u.size = 32) (hk : k.size = 32) (hn : n.size ≤ 64) (w : World) :
    Calls Tryz.prog 23 #[.string u, .string n, .string k] w fun e w' => e = .returned (.tuple #[.string (wrapB u n k), .int .i64 0]) ∧ Grows w w' := by
  have hui : (u.size : Int) = 32 := by omega
  have hki : (k.size : Int) = 32 := by omega
  have hni : ¬ 64 < (n.size : Int) := by omega
  obtain ⟨y1, hy1⟩ : ∃ y, n ++ mkS [0] = y := ⟨_, rfl⟩
  obtain ⟨y2, hy2⟩ : ∃ y, y1 ++ k = y := ⟨_, rfl⟩
  have hs1 : y1.size ≤ 65 := by rw [← hy1, ByteArray.size_append, mkS_size]; simpa using hn
  have hs2 : y2.size ≤ 97 := by rw [← hy2, ByteArray.size_append]; omega
  have hadd1 : ∀ W, (Op.stringOp .add n { data := #[0] }).run Tryz.prog W = .ok (.string y1) W := fun W => by
    rw [← mk0, run_string_add_sum W _ _ (by rw [mkS_size]; simp; omega), hy1]
  have hadd2 : ∀ W, (Op.stringOp .add y1 k).run Tryz.prog W = .ok (.string y2) W := fun W => by
    rw [run_string_add_sum W _ _ (by omega), hy2]
  obtain ⟨T, hT⟩ : ∃ T, mkS (Sm.tagL (bys u) (bys y2)) = T := ⟨_, rfl⟩
  have hTs : T.size = 32 := by rw [← hT, mkS_size, Sm.tagL_length]
  obtain ⟨N, hN⟩ : ∃ N, T.extract 0 12 = N := ⟨_, rfl⟩
  have hNs : N.size = 12 := by rw [← hN, ByteArray.size_extract, hTs]; decide
  obtain ⟨S, hS⟩ : ∃ S, mkS (sealL (cipK (bys u)) (bys N) (bys n) (bys k)) = S := ⟨_, rfl⟩
  have hSs : S.size = 48 := by rw [← hS, mkS_size, sealL_length, bys_length, hk]
  have hW : N ++ S = wrapB u n k := by
    unfold wrapB nonB
    rw [hy1, hy2, hT, hN, hS]
  have hadd3 : ∀ W, (Op.stringOp .add N S).run Tryz.prog W = .ok (.string (N ++ S)) W := fun W => by
    rw [run_string_add_sum W _ _ (by omega)]
  have HTAG : Hid (∀ W, Calls Tryz.prog 36 #[.string u, .string y2] W fun e w' => e = .returned (.string T) ∧ Grows W w') := Lib.hid fun W => by
    have := Sm.refTag_any u y2 (by omega) (by omega) W
    rwa [hT] at this
  have HSEAL : Hid (∀ W, Calls Tryz.prog 37 #[.string u, .string N, .string n, .string k] W fun e w' => e = .returned (.tuple #[.string S, .int .i64 0]) ∧ Grows W w') := Lib.hid fun W => by
    have := seal_ok cipKR u N n k hu hNs (by omega) (by omega) W
    rwa [hS] at this
  have HWR := Lib.hid hW
  clear hT hS hW hy1 hy2 hu hk hn hs1 hs2 hSs
  refine calls_wd ?_
  go_enter Tryz.func23, Tryz.ntmps23
  go_wp2_with fail
  refine (HTAG.out _).mono ?_
  rintro e w' ⟨rfl, g, d, rfl⟩
  rw [Wd_wd]
  go_wp2_with fail
  refine (HSEAL.out _).mono ?_
  rintro e w' ⟨rfl, g2, d2, rfl⟩
  rw [Wd_wd]
  go_wp2
  go_ret2
  exact ⟨by rw [HWR.out]; rfl, Grows.of _ _ _⟩
end Go.Proofs.YtbiadmhomadflaaGreatDoor
namespace Go.Proofs.YtbiadmhomadflaaGreatDoor
open Go.RowKit Go.Own
theorem sealP_eq (u N n k : ByteArray) (hn : n.size < 500000000) (hk : k.size < 500000000) :
    turnP u N k ++ macP u N n (mkS (turnP u N k)) = sealL (cipK (bys u)) (bys N) (bys n) (bys k) := by
  rw [macP_tagG _ _ _ _ hn (by rw [mkS_size, turnP_length]; exact hk), bys_mkS _ (turnP_B8 _ _ _), turnP_bodyL]
  rfl
attribute [-go_sem] run_string_add_if
set_option maxRecDepth 100000 in
set_option maxHeartbeats 1000000 in
theorem wrap_ok (u n k : ByteArray) (hu : u.size = 32) (hk : k.size = 32) (hn : n.size ≤ 64) (w : World) (hR : Sm.Roots w) :
    Calls Tryz.prog 40 #[.string u, .string n, .string k] w fun e w' => e = .returned (.tuple #[.string (wrapB u n k), .int .i64 0]) ∧ Below w.heap.size w w' := by
  have hki : (k.size : Int) = 32 := by omega
  have HREF : Hid (∀ W, Calls Tryz.prog 47 #[.string u, .string n, .bool true] W fun e w' => e = .returned (.int .i64 0) ∧ W = w') := Lib.hid fun W => by
    have := wrefused_any u n true W
    rwa [show wrefN u.size n.size true = 0 by unfold wrefN; rw [if_neg (by simp; omega), if_neg (by omega)]] at this
  have HN := Lib.hid fun W => noncer_any u n W
  have HNB : Hid (∀ (W : World) (bu bn : Nat), Sm.Roots W → blk W bu = some (.cells #[.string u] 9 (0, 0)) → blk W bn = some (.cells #[.string n] 9 (0, 0)) → Calls Tryz.prog 67 #[.string k, .pointer (some ⟨bu, 0, none⟩), .pointer (some ⟨bn, 0, none⟩)] W fun e w' => e = .returned (.string (nonB u n k)) ∧ Grows W w') :=
    Lib.hid fun W bu bn hr h1 h2 => nonce_any u n k (by omega) (by omega) (by omega) W hr bu bn h1 h2
  have hW : wrapB u n k = nonB u n k ++ mkS (sealL (cipK (bys u)) (bys (nonB u n k)) (bys n) (bys k)) := rfl
  have hNs := nonB_size u n k
  obtain ⟨N, hN⟩ : ∃ N, nonB u n k = N := ⟨_, rfl⟩
  rw [hN] at hW hNs HNB
  have HSEAL : Hid (∀ W, Calls Tryz.prog 51 #[.string u, .string N, .string n, .string k] W fun e w' => e = .returned (.tuple #[.string (mkS (sealL (cipK (bys u)) (bys N) (bys n) (bys k))), .int .i64 0]) ∧ Below W.heap.size W w') := Lib.hid fun W => by
    have := pseal_ok u N n k hu hNs (by omega) (by omega) (by rw [turnP_length]; omega) W
    rwa [sealP_eq _ _ _ _ (by omega) (by omega)] at this
  have hSs : (mkS (sealL (cipK (bys u)) (bys N) (bys n) (bys k))).size = 48 := by rw [mkS_size, sealL_length, bys_length, hk]
  obtain ⟨S, hS⟩ : ∃ S, mkS (sealL (cipK (bys u)) (bys N) (bys n) (bys k)) = S := ⟨_, rfl⟩
  rw [hS] at hW HSEAL hSs
  have hadd : ∀ W, (Op.stringOp .add N S).run Tryz.prog W = .ok (.string (N ++ S)) W := fun W => by
    rw [run_string_add_sum W _ _ (by omega)]
  have HW := Lib.hid hW
  have HR := Lib.hid hR
  clear hN hS hW hNs hSs hu hk hn hR
  refine calls_wd ?_
  go_enter Tryz.func40, Tryz.ntmps40
  go_wp2_with fail
  refine (HREF.out _).mono ?_
  rintro e w' ⟨rfl, rfl⟩
  go_wp2_with fail
  refine (HN.out _).mono ?_
  rintro e w' ⟨rfl, rfl⟩
  rw [Wd_nil]
  go_wp2_with fail
  refine (HNB.out (Wd w [.cells #[.string u] 9 (0, 0), .cells #[.string n] 9 (0, 0)] 0) _ _ (HR.out.wd _ _) (blk_at0 _ _ _) (blk_at _ _ _ 1)).mono ?_
  rintro e w' ⟨rfl, g, d, rfl⟩
  rw [Wd_wd]
  go_wp2_with fail
  refine (HSEAL.out _).mono ?_
  rintro e w2 ⟨rfl, hb⟩
  have HB : Hid (Below w.heap.size w w2) := Lib.hid ((Grows.of w _ _).below.trans (hb.mono (by rw [Wd_size]; omega)))
  clear hb
  rw [← Wd_nil w2]
  go_wp2
  go_ret2
  exact ⟨by rw [HW.out]; rfl, by rw [Wd_nil]; exact HB.out⟩
set_option maxRecDepth 100000 in
set_option maxHeartbeats 1000000 in
theorem wrap_bad (u n k : ByteArray) (h : wrefN u.size n.size (k.size == 32) ≠ 0) (w : World) :
    Calls Tryz.prog 40 #[.string u, .string n, .string k] w fun e w' => e = .returned (.tuple #[.string ByteArray.empty, .int .i64 ((wrefN u.size n.size (k.size == 32) : Nat) : Int)]) ∧ w = w' := by
  have HREF := Lib.hid fun W => wrefused_any u n (k.size == 32) W
  have hf : ((k.size : Int) == 32) = (k.size == 32) := by
    by_cases hk : k.size = 32
    · rw [hk]; rfl
    · rw [beq_eq_false_iff_ne.2 hk, beq_eq_false_iff_ne.2 (by omega)]
  generalize (k.size == 32) = fits at *
  generalize wrefN u.size n.size fits = r at *
  have hb : ((r : Int) != 0) = true := by simp; omega
  clear h
  go_enter Tryz.func40, Tryz.ntmps40
  go_wp2_with fail
  refine (HREF.out _).mono ?_
  rintro e w' ⟨rfl, rfl⟩
  go_wp2
  go_ret2
  exact ⟨rfl, rfl⟩
set_option maxRecDepth 100000 in
set_option maxHeartbeats 1000000 in
theorem refWrap_bad (u n k : ByteArray) (h : wrefN u.size n.size (k.size == 32) ≠ 0) (w : World) :
    Calls Tryz.prog 23 #[.string u, .string n, .string k] w fun e w' => e = .returned (.tuple #[.string ByteArray.empty, .int .i64 ((wrefN u.size n.size (k.size == 32) : Nat) : Int)]) ∧ w = w' := by
  obtain ⟨r, hr⟩ : ∃ r, wrefN u.size n.size (k.size == 32) = r := ⟨_, rfl⟩
  have hc : (((u.size : Int) != 32) = true ∧ r = 2) ∨ (((u.size : Int) != 32) = false ∧ ((k.size : Int) != 32) = true ∧ r = 2) ∨ (((u.size : Int) != 32) = false ∧ ((k.size : Int) != 32) = false ∧ 64 < (n.size : Int) ∧ r = 3) := by
    rw [hr] at h
    rw [← hr] at h ⊢
    unfold wrefN at h ⊢
    by_cases h1 : u.size = 32 <;> by_cases h2 : k.size = 32 <;> by_cases h3 : 64 < n.size <;> simp_all <;> omega
  rw [hr]
  clear h hr
  rcases hc with ⟨h1, rfl⟩ | ⟨h1, h2, rfl⟩ | ⟨h1, h2, h3, rfl⟩
  all_goals
    go_enter Tryz.func23, Tryz.ntmps23
    go_wp2
    go_ret2
    exact ⟨rfl, rfl⟩
end Go.Proofs.YtbiadmhomadflaaGreatDoor
namespace Go.Proofs.YtbiadmhomadflaaGreatDoor
open Go.RowKit Go.Own
/-- Nonce, sealed, body and tag of what is wrapped; the key in it. -/
def unN (W : ByteArray) : ByteArray := W.extract 0 12
def unS (W : ByteArray) : ByteArray := W.extract 12 W.size
def unB (W : ByteArray) : List Nat := (bys (unS W)).take 32
def unE (W : ByteArray) : List Nat := (bys (unS W)).drop 32
def unK (u W : ByteArray) : ByteArray := mkS (bodyL (cipK (bys u)) (bys (unN W)) (unB W))
def unTag (u n W : ByteArray) : Prop := tagG (cipK (bys u)) (bys (unN W)) (bys n) (unB W) = unE W
open Classical in
noncomputable def unAns (u n W : ByteArray) : Array Value := if unTag u n W ∧ wrapB u n (unK u W) = W then #[.string (unK u W), .int .i64 0] else #[.string ByteArray.empty, .int .i64 8]
theorem un_cases (u n W : ByteArray) : (¬ unTag u n W ∧ unAns u n W = #[.string ByteArray.empty, .int .i64 8]) ∨
    (unTag u n W ∧ wrapB u n (unK u W) ≠ W ∧ unAns u n W = #[.string ByteArray.empty, .int .i64 8]) ∨
    (unTag u n W ∧ wrapB u n (unK u W) = W ∧ unAns u n W = #[.string (unK u W), .int .i64 0]) := by
  unfold unAns
  by_cases h1 : unTag u n W
  · by_cases h2 : wrapB u n (unK u W) = W
    · exact Or.inr (Or.inr ⟨h1, h2, if_pos ⟨h1, h2⟩⟩)
    · exact Or.inr (Or.inl ⟨h1, h2, if_neg fun h => h2 h.2⟩)
  · exact Or.inl ⟨h1, if_neg fun h => h1 h.1⟩
theorem unN_size {W : ByteArray} (h : W.size = 60) : (unN W).size = 12 := by unfold unN; rw [ByteArray.size_extract, h]; decide
theorem unS_size {W : ByteArray} (h : W.size = 60) : (unS W).size = 48 := by unfold unS; rw [ByteArray.size_extract, h]; decide
theorem unB_length {W : ByteArray} (h : W.size = 60) : (unB W).length = 32 := by unfold unB; rw [List.length_take, bys_length, unS_size h]; decide
theorem unK_size (u : ByteArray) {W : ByteArray} (h : W.size = 60) : (unK u W).size = 32 := by unfold unK; rw [mkS_size, bodyL_length, unB_length h]
theorem unB_B8 (W : ByteArray) : B8 (unB W) := fun n hn => B8.bys (unS W) n (List.mem_of_mem_take hn)
theorem unBE (W : ByteArray) : mkS (unB W ++ unE W) = unS W := by unfold unB unE; rw [List.take_append_drop, mkS_bys]
theorem un_cat (W : ByteArray) : unN W ++ unS W = W := by
  apply bys_inj
  rw [show bys (unN W ++ unS W) = bys (unN W) ++ bys (unS W) by simp [bys, ByteArray.data_append]]
  unfold unN unS
  rw [bys_extract, bys_extract, List.drop_zero, Nat.sub_zero, List.take_of_length_le (l := (bys W).drop 12) (by rw [List.length_drop, bys_length]; exact Nat.le_refl _), List.take_append_drop]
theorem twice (u N : ByteArray) (x : List Nat) (hx : B8 x) : bodyL (cipK (bys u)) (bys N) (bodyL (cipK (bys u)) (bys N) x) = x := by
  have h := turn_twice u N (mkS x)
  rw [turnP_bodyL, bys_mkS _ (turnP_B8 _ _ _), turnP_bodyL, bys_mkS _ hx] at h
  exact h
/-- Whose tag is right is what Wrap makes just if its nonce is. -/
theorem wrap_iff (u n W : ByteArray) (ht : unTag u n W) : wrapB u n (unK u W) = W ↔ nonB u n (unK u W) = unN W := by
  constructor
  · intro e
    have h1 := congrArg (fun s : ByteArray => (bys s).take 12) e
    unfold wrapB at h1
    simp only [show ∀ a b : ByteArray, bys (a ++ b) = bys a ++ bys b from fun a b => by simp [bys, ByteArray.data_append]] at h1
    rw [List.take_append_of_le_length (by rw [bys_length, nonB_size]; exact Nat.le_refl _), List.take_of_length_le (by rw [bys_length, nonB_size]; exact Nat.le_refl _)] at h1
    apply bys_inj
    rw [h1]
    unfold unN
    rw [bys_extract]
    rfl
  · intro e
    have hB8 : B8 (bodyL (cipK (bys u)) (bys (unN W)) (unB W)) := bodyL_B8 _ _ _
    unfold wrapB
    rw [e]
    have h2 : sealL (cipK (bys u)) (bys (unN W)) (bys n) (bys (unK u W)) = unB W ++ unE W := by
      unfold sealL unK
      rw [bys_mkS _ hB8, twice _ _ _ (unB_B8 W), ht]
    rw [h2, unBE, un_cat W]
theorem str_case (X Y : ByteArray) (h : X ≠ Y) : (X.toList == Y.toList) = false ∧ ¬ X.toList = Y.toList := by
  refine (fun hx => ⟨beq_eq_false_iff_ne.2 hx, hx⟩) ?_
  intro h2
  rw [ByteArray.toList_eq, ByteArray.toList_eq] at h2
  exact h (ByteArray.ext (Array.toList_inj.1 h2))
theorem refOpen_no (u n W : ByteArray) (hu : u.size = 32) (hn : n.size ≤ 64) (hW : W.size = 60) (h : ¬ unTag u n W) (w : World) :
    Calls Tryz.prog 39 #[.string u, .string (unN W), .string n, .string (unS W)] w fun e w' => e = .returned (.tuple #[.string (mkS []), .int .i64 8]) ∧ Grows w w' := by
  have hS := unS_size hW
  have := open_any cipKR u (unN W) n (unS W) hu (unN_size hW) (by omega) (by omega) (by omega) w
  unfold unTag unB unE at h
  rw [hS] at this
  rwa [if_neg h] at this
theorem refOpen_yes (u n W : ByteArray) (hu : u.size = 32) (hn : n.size ≤ 64) (hW : W.size = 60) (h : unTag u n W) (w : World) :
    Calls Tryz.prog 39 #[.string u, .string (unN W), .string n, .string (unS W)] w fun e w' => e = .returned (.tuple #[.string (unK u W), .int .i64 0]) ∧ Grows w w' := by
  have hS := unS_size hW
  have := open_any cipKR u (unN W) n (unS W) hu (unN_size hW) (by omega) (by omega) (by omega) w
  unfold unTag unB unE at h
  rw [hS] at this
  rwa [if_pos h] at this
attribute [-go_sem] run_string_add_if
set_option maxRecDepth 100000 in
set_option maxHeartbeats 2000000 in
theorem refUnwrap_ok (u n W : ByteArray) (hu : u.size = 32) (hn : n.size ≤ 64) (hW : W.size = 60) (w : World) :
    Calls Tryz.prog 30 #[.string u, .string n, .string W] w fun e w' => e = .returned (.tuple (unAns u n W)) ∧ Grows w w' := by
  have hui : (u.size : Int) = 32 := by omega
  have hWi : (W.size : Int) = 60 := by omega
  have hni : ¬ 64 < (n.size : Int) := by omega
  have HWR := Lib.hid fun W2 => refWrap_ok u n (unK u W) hu (unK_size u hW) hn W2
  have HNO := Lib.hid fun h W2 => refOpen_no u n W hu hn hW h W2
  have HYES := Lib.hid fun h W2 => refOpen_yes u n W hu hn hW h W2
  have hc := un_cases u n W
  obtain ⟨N, hN⟩ : ∃ N, W.extract 0 12 = N := ⟨_, rfl⟩
  obtain ⟨S, hS⟩ : ∃ S, W.extract 12 W.size = S := ⟨_, rfl⟩
  rw [show unN W = N from hN, show unS W = S from hS] at HNO HYES
  have hS60 : W.extract 12 60 = S := by rw [← hW]; exact hS
  generalize unAns u n W = A at *
  generalize unK u W = K at *
  rcases hc with ⟨h1, rfl⟩ | ⟨h1, h2, rfl⟩ | ⟨h1, h2, rfl⟩
  · have HO := HNO.out h1
    have HB1 := Lib.hid fun (g' : List Obj) (e : Nat) => big_call (L := fun g' => g') (g := g') (e := e) (w := w) (l0 := []) (fun _ _ => rfl) (fun _ => rfl) (HO _)
    clear HO h1 hu hn HWR HNO HYES
    refine calls_wd ?_
    go_enter Tryz.func30, Tryz.ntmps30
    go_wp2
    refine wp_region_big_all (by kernel_rfl) (by kernel_rfl) ?_
    repeat (go_big_quiet_step ((intro _; with_reducible exact HB1.out _ _)))
    refine wpQuiet_nil ?_
    intro gR eR
    go_wp2
    go_ret2
    exact ⟨rfl, Grows.of _ _ _⟩
  all_goals
    have HO := HYES.out h1
    have HB1 := Lib.hid fun (g' : List Obj) (e : Nat) => big_call (L := fun g' => g') (g := g') (e := e) (w := w) (l0 := []) (fun _ _ => rfl) (fun _ => rfl) (HO _)
    have hcase := str_case (wrapB u n K) W
    generalize wrapB u n K = X at *
    clear HO h1 hu hn HNO HYES
  · obtain ⟨hx1, hx2⟩ := hcase h2
    clear hcase h2
    refine calls_wd ?_
    go_enter Tryz.func30, Tryz.ntmps30
    go_wp2
    refine wp_region_big_all (by kernel_rfl) (by kernel_rfl) ?_
    repeat (go_big_quiet_step ((intro _; with_reducible exact HB1.out _ _)))
    refine wpQuiet_nil ?_
    intro gR eR
    go_wp2_with fail
    refine (HWR.out _).mono ?_
    rintro e w' ⟨rfl, g, d, rfl⟩
    rw [Wd_wd]
    go_wp2
    go_ret2
    exact ⟨rfl, Grows.of _ _ _⟩
  · subst h2
    clear hcase
    refine calls_wd ?_
    go_enter Tryz.func30, Tryz.ntmps30
    go_wp2
    refine wp_region_big_all (by kernel_rfl) (by kernel_rfl) ?_
    repeat (go_big_quiet_step ((intro _; with_reducible exact HB1.out _ _)))
    refine wpQuiet_nil ?_
    intro gR eR
    go_wp2_with fail
    refine (HWR.out _).mono ?_
    rintro e w' ⟨rfl, g, d, rfl⟩
    rw [Wd_wd]
    go_wp2
    go_ret2
    exact ⟨rfl, Grows.of _ _ _⟩
end Go.Proofs.YtbiadmhomadflaaGreatDoor
namespace Go.Proofs.YtbiadmhomadflaaGreatDoor
open Go.RowKit Go.Own
theorem un_pieces (u n W : ByteArray) (hn : n.size ≤ 64) (hW : W.size = 60) :
    (sameB ((unS W).extract 32 48) (mkS (macP u (unN W) n ((unS W).extract 0 32))) = true ↔ unTag u n W) ∧ mkS (turnP u (unN W) ((unS W).extract 0 32)) = unK u W := by
  have hS := unS_size hW
  have hb : bys ((unS W).extract 0 32) = unB W := by rw [bys_extract]; rfl
  have he : bys ((unS W).extract 32 48) = unE W := by
    rw [bys_extract]
    unfold unE
    rw [List.take_of_length_le (by rw [List.length_drop, bys_length, hS]; decide)]
  have hT : macP u (unN W) n ((unS W).extract 0 32) = tagG (cipK (bys u)) (bys (unN W)) (bys n) (unB W) := by
    rw [macP_tagG _ _ _ _ (by omega) (by rw [ByteArray.size_extract, hS]; decide), hb]
  have hT8 := macP_B8 u (unN W) n ((unS W).extract 0 32)
  refine ⟨?_, by rw [turnP_bodyL, hb]; rfl⟩
  unfold sameB unTag
  rw [decide_eq_true_iff]
  rw [hT] at hT8 ⊢
  constructor
  · intro h
    rw [← he, h, bys_mkS _ hT8]
  · intro h
    apply bys_inj
    rw [bys_mkS _ hT8, h, he]
theorem popen_no (u n W : ByteArray) (hu : u.size = 32) (hn : n.size ≤ 64) (hW : W.size = 60) (h : ¬ unTag u n W) (w : World) :
    Calls Tryz.prog 48 #[.string u, .string (unN W), .string n, .string (unS W)] w fun e w' => e = .returned (.tuple #[.string (mkS []), .int .i64 8]) ∧ Below w.heap.size w w' := by
  have hS := unS_size hW
  have := popen_ok u (unN W) n (unS W) hu (unN_size hW) (by omega) (by omega) (by omega) w
  rw [hS] at this
  rw [if_neg (fun e => h ((un_pieces u n W hn hW).1.1 e))] at this
  exact this
theorem popen_yes (u n W : ByteArray) (hu : u.size = 32) (hn : n.size ≤ 64) (hW : W.size = 60) (h : unTag u n W) (w : World) :
    Calls Tryz.prog 48 #[.string u, .string (unN W), .string n, .string (unS W)] w fun e w' => e = .returned (.tuple #[.string (unK u W), .int .i64 0]) ∧ Below w.heap.size w w' := by
  have hS := unS_size hW
  have := popen_ok u (unN W) n (unS W) hu (unN_size hW) (by omega) (by omega) (by omega) w
  rw [hS] at this
  rw [if_pos ((un_pieces u n W hn hW).1.2 h), (un_pieces u n W hn hW).2] at this
  exact this
theorem sameB_true {a b : ByteArray} (h : a = b) : sameB a b = true := by unfold sameB; exact decide_eq_true h
theorem sameB_false {a b : ByteArray} (h : a ≠ b) : sameB a b = false := by unfold sameB; exact decide_eq_false h
attribute [-go_sem] run_string_add_if
set_option maxRecDepth 100000 in
set_option maxHeartbeats 2000000 in
theorem unwrap_ok (u n W : ByteArray) (hu : u.size = 32) (hn : n.size ≤ 64) (hW : W.size = 60) (w : World) (hR : Sm.Roots w) :
    Calls Tryz.prog 38 #[.string u, .string n, .string W] w fun e w' => e = .returned (.tuple (unAns u n W)) ∧ Below w.heap.size w w' := by
  have hWi : (W.size : Int) = 60 := by omega
  have HREF : Hid (∀ W2, Calls Tryz.prog 47 #[.string u, .string n, .bool true] W2 fun e w' => e = .returned (.int .i64 0) ∧ W2 = w') := Lib.hid fun W2 => by
    have := wrefused_any u n true W2
    rwa [show wrefN u.size n.size true = 0 by unfold wrefN; rw [if_neg (by simp; omega), if_neg (by omega)]] at this
  have HN := Lib.hid fun W2 => noncer_any u n W2
  have hKs := unK_size u hW
  have HNB : Hid (∀ (W2 : World) (bu bn : Nat), Sm.Roots W2 → blk W2 bu = some (.cells #[.string u] 9 (0, 0)) → blk W2 bn = some (.cells #[.string n] 9 (0, 0)) → Calls Tryz.prog 67 #[.string (unK u W), .pointer (some ⟨bu, 0, none⟩), .pointer (some ⟨bn, 0, none⟩)] W2 fun e w' => e = .returned (.string (nonB u n (unK u W))) ∧ Grows W2 w') :=
    Lib.hid fun W2 bu bn hr h1 h2 => nonce_any u n (unK u W) (by omega) (by omega) (by omega) W2 hr bu bn h1 h2
  have hNs := unN_size hW
  have HEQ : Hid (∀ W2, Calls Tryz.prog 49 #[.string (unN W), .string (nonB u n (unK u W))] W2 fun e w' => e = .returned (.bool (sameB (unN W) (nonB u n (unK u W)))) ∧ Grows W2 w') := Lib.hid fun W2 => equal_any _ _ (by omega) W2
  have HNO := Lib.hid fun h W2 => popen_no u n W hu hn hW h W2
  have HYES := Lib.hid fun h W2 => popen_yes u n W hu hn hW h W2
  have hc := un_cases u n W
  have hiff := wrap_iff u n W
  obtain ⟨N, hN⟩ : ∃ N, W.extract 0 12 = N := ⟨_, rfl⟩
  obtain ⟨S, hS⟩ : ∃ S, W.extract 12 W.size = S := ⟨_, rfl⟩
  rw [show unN W = N from hN, show unS W = S from hS] at HNO HYES
  rw [show unN W = N from hN] at HEQ hNs hiff
  have hS60 : W.extract 12 60 = S := by rw [← hW]; exact hS
  have HR := Lib.hid hR
  generalize unAns u n W = A at *
  generalize unK u W = K at *
  generalize wrapB u n K = X at *
  generalize nonB u n K = N2 at *
  rcases hc with ⟨h1, rfl⟩ | ⟨h1, h2, rfl⟩ | ⟨h1, h2, rfl⟩
  · have HO := Lib.hid (HNO.out h1)
    clear h1 hu hn HNO HYES HEQ HNB HN hKs hNs hiff hR
    refine calls_wd ?_
    go_enter Tryz.func38, Tryz.ntmps38
    go_wp2_with fail
    refine (HREF.out _).mono ?_
    rintro e w' ⟨rfl, rfl⟩
    go_wp2_with fail
    refine (HO.out _).mono ?_
    rintro e w2 ⟨rfl, hb⟩
    have HB : Hid (Below w.heap.size w w2) := Lib.hid (by rw [Wd_nil] at hb; exact hb)
    clear hb
    rw [← Wd_nil w2]
    go_wp2
    go_ret2
    exact ⟨rfl, by rw [Wd_nil]; exact HB.out⟩
  all_goals
    have HO := Lib.hid (HYES.out h1)
    have hs : (N2 = N ∧ sameB N N2 = true) ∨ (N2 ≠ N ∧ sameB N N2 = false) := by
      by_cases e : N2 = N
      · exact Or.inl ⟨e, sameB_true e.symm⟩
      · exact Or.inr ⟨e, sameB_false (Ne.symm e)⟩
    have hsb : sameB N N2 = decide (X = W) := by
      rcases hs with ⟨e, h⟩ | ⟨e, h⟩
      · rw [h]; exact (decide_eq_true ((hiff h1).2 e)).symm
      · rw [h]; exact (decide_eq_false fun hx => e ((hiff h1).1 hx)).symm
    clear h1 hu hn HNO HYES hKs hNs hiff hR hs
  · rw [hsb, decide_eq_false h2] at HEQ
    clear h2 hsb
    refine calls_wd ?_
    go_enter Tryz.func38, Tryz.ntmps38
    go_wp2_with fail
    refine (HREF.out _).mono ?_
    rintro e w' ⟨rfl, rfl⟩
    go_wp2_with fail
    refine (HO.out _).mono ?_
    rintro e w2 ⟨rfl, hb⟩
    have HB : Hid (Below w.heap.size w w2) := Lib.hid (by rw [Wd_nil] at hb; exact hb)
    have HR2 : Hid (Sm.Roots w2) := Lib.hid (roots_below HR.out HB.out)
    clear hb
    rw [← Wd_nil w2]
    go_wp2_with fail
    refine (HN.out _).mono ?_
    rintro e w' ⟨rfl, rfl⟩
    rw [Wd_nil]
    go_wp2_with fail
    refine (HNB.out (Wd w2 [.cells #[.string u] 9 (0, 0), .cells #[.string n] 9 (0, 0)] 0) _ _ (HR2.out.wd _ _) (blk_at0 _ _ _) (blk_at _ _ _ 1)).mono ?_
    rintro e w' ⟨rfl, g, d, rfl⟩
    rw [Wd_wd]
    go_wp2_with fail
    refine (HEQ.out _).mono ?_
    rintro e w' ⟨rfl, g2, d2, rfl⟩
    rw [Wd_wd]
    go_wp2
    go_ret2
    exact ⟨rfl, HB.out.trans ((Grows.of w2 _ _).below.mono HB.out.size)⟩
  · rw [hsb, decide_eq_true h2] at HEQ
    clear h2 hsb
    refine calls_wd ?_
    go_enter Tryz.func38, Tryz.ntmps38
    go_wp2_with fail
    refine (HREF.out _).mono ?_
    rintro e w' ⟨rfl, rfl⟩
    go_wp2_with fail
    refine (HO.out _).mono ?_
    rintro e w2 ⟨rfl, hb⟩
    have HB : Hid (Below w.heap.size w w2) := Lib.hid (by rw [Wd_nil] at hb; exact hb)
    have HR2 : Hid (Sm.Roots w2) := Lib.hid (roots_below HR.out HB.out)
    clear hb
    rw [← Wd_nil w2]
    go_wp2_with fail
    refine (HN.out _).mono ?_
    rintro e w' ⟨rfl, rfl⟩
    rw [Wd_nil]
    go_wp2_with fail
    refine (HNB.out (Wd w2 [.cells #[.string u] 9 (0, 0), .cells #[.string n] 9 (0, 0)] 0) _ _ (HR2.out.wd _ _) (blk_at0 _ _ _) (blk_at _ _ _ 1)).mono ?_
    rintro e w' ⟨rfl, g, d, rfl⟩
    rw [Wd_wd]
    go_wp2_with fail
    refine (HEQ.out _).mono ?_
    rintro e w' ⟨rfl, g2, d2, rfl⟩
    rw [Wd_wd]
    go_wp2
    go_ret2
    exact ⟨rfl, HB.out.trans ((Grows.of w2 _ _).below.mono HB.out.size)⟩
set_option maxRecDepth 100000 in
set_option maxHeartbeats 1000000 in
theorem unwrap_bad (u n W : ByteArray) (h : wrefN u.size n.size (W.size == 60) ≠ 0) (w : World) :
    Calls Tryz.prog 38 #[.string u, .string n, .string W] w fun e w' => e = .returned (.tuple #[.string ByteArray.empty, .int .i64 ((wrefN u.size n.size (W.size == 60) : Nat) : Int)]) ∧ w = w' := by
  have HREF := Lib.hid fun W2 => wrefused_any u n (W.size == 60) W2
  have hf : ((W.size : Int) == 60) = (W.size == 60) := by
    by_cases hk : W.size = 60
    · rw [hk]; rfl
    · rw [beq_eq_false_iff_ne.2 hk, beq_eq_false_iff_ne.2 (by omega)]
  generalize (W.size == 60) = fits at *
  generalize wrefN u.size n.size fits = r at *
  have hb : ((r : Int) != 0) = true := by simp; omega
  clear h
  go_enter Tryz.func38, Tryz.ntmps38
  go_wp2_with fail
  refine (HREF.out _).mono ?_
  rintro e w' ⟨rfl, rfl⟩
  go_wp2
  go_ret2
  exact ⟨rfl, rfl⟩
set_option maxRecDepth 100000 in
set_option maxHeartbeats 1000000 in
theorem refUnwrap_bad (u n W : ByteArray) (h : wrefN u.size n.size (W.size == 60) ≠ 0) (w : World) :
    Calls Tryz.prog 30 #[.string u, .string n, .string W] w fun e w' => e = .returned (.tuple #[.string ByteArray.empty, .int .i64 ((wrefN u.size n.size (W.size == 60) : Nat) : Int)]) ∧ w = w' := by
  obtain ⟨r, hr⟩ : ∃ r, wrefN u.size n.size (W.size == 60) = r := ⟨_, rfl⟩
  have hc : (((u.size : Int) != 32) = true ∧ r = 2) ∨ (((u.size : Int) != 32) = false ∧ ((W.size : Int) != 60) = true ∧ r = 2) ∨ (((u.size : Int) != 32) = false ∧ ((W.size : Int) != 60) = false ∧ 64 < (n.size : Int) ∧ r = 3) := by
    rw [hr] at h
    rw [← hr] at h ⊢
    unfold wrefN at h ⊢
    by_cases h1 : u.size = 32 <;> by_cases h2 : W.size = 60 <;> by_cases h3 : 64 < n.size <;> simp_all <;> omega
  rw [hr]
  clear h hr
  rcases hc with ⟨h1, rfl⟩ | ⟨h1, h2, rfl⟩ | ⟨h1, h2, h3, rfl⟩
  all_goals
    go_enter Tryz.func30, Tryz.ntmps30
    go_wp2
    go_ret2
    exact ⟨rfl, rfl⟩
end Go.Proofs.YtbiadmhomadflaaGreatDoor
namespace Go.Proofs.YtbiadmhomadflaaGreatDoor
open Go.RowKit Go.Own
theorem bys_app (a b : ByteArray) : bys (a ++ b) = bys a ++ bys b := by simp [bys, ByteArray.data_append]
theorem unN_wrap (u n k : ByteArray) : unN (wrapB u n k) = nonB u n k := by
  apply bys_inj
  unfold unN wrapB
  rw [bys_extract, bys_app, List.drop_zero, List.take_append_of_le_length (by rw [bys_length, nonB_size]; decide), List.take_of_length_le (by rw [bys_length, nonB_size]; decide)]
theorem sealL_B8 (c : List Nat → List Nat) (n b x : List Nat) : B8 (sealL c n b x) := (bodyL_B8 _ _ _).append (xorL_B8 _ _)
theorem unS_wrap (u n k : ByteArray) : bys (unS (wrapB u n k)) = sealL (cipK (bys u)) (bys (nonB u n k)) (bys n) (bys k) := by
  unfold unS
  rw [bys_extract, List.take_of_length_le (by rw [List.length_drop, bys_length]; exact Nat.le_refl _)]
  unfold wrapB
  rw [bys_app, List.drop_append_of_le_length (by rw [bys_length, nonB_size]; decide), List.drop_of_length_le (by rw [bys_length, nonB_size]; decide), List.nil_append, bys_mkS _ (sealL_B8 _ _ _ _)]
theorem unB_wrap (u n k : ByteArray) (hk : k.size = 32) : unB (wrapB u n k) = bodyL (cipK (bys u)) (bys (nonB u n k)) (bys k) := by
  unfold unB
  have hl : (bodyL (cipK (bys u)) (bys (nonB u n k)) (bys k)).length = 32 := by rw [bodyL_length, bys_length, hk]
  rw [unS_wrap]
  unfold sealL
  rw [List.take_append_of_le_length (by rw [hl]; decide), List.take_of_length_le (by rw [hl]; decide)]
theorem unE_wrap (u n k : ByteArray) (hk : k.size = 32) : unE (wrapB u n k) = tagG (cipK (bys u)) (bys (nonB u n k)) (bys n) (bodyL (cipK (bys u)) (bys (nonB u n k)) (bys k)) := by
  unfold unE
  have hl : (bodyL (cipK (bys u)) (bys (nonB u n k)) (bys k)).length = 32 := by rw [bodyL_length, bys_length, hk]
  rw [unS_wrap]
  unfold sealL
  rw [List.drop_append_of_le_length (by rw [hl]; decide), List.drop_of_length_le (by rw [hl]; decide), List.nil_append]
theorem unK_wrap (u n k : ByteArray) (hk : k.size = 32) : unK u (wrapB u n k) = k := by
  unfold unK
  rw [unN_wrap, unB_wrap u n k hk, twice _ _ _ (B8.bys k), mkS_bys]
theorem unTag_wrap (u n m k : ByteArray) (hk : k.size = 32) : unTag u m (wrapB u n k) ↔
    tagG (cipK (bys u)) (bys (nonB u n k)) (bys m) (bodyL (cipK (bys u)) (bys (nonB u n k)) (bys k)) = tagG (cipK (bys u)) (bys (nonB u n k)) (bys n) (bodyL (cipK (bys u)) (bys (nonB u n k)) (bys k)) := by
  unfold unTag
  rw [unN_wrap, unB_wrap u n k hk, unE_wrap u n k hk]
/-- What was wrapped is unwrapped. -/
theorem unAns_wrap (u n k : ByteArray) (hk : k.size = 32) : unAns u n (wrapB u n k) = #[.string k, .int .i64 0] := by
  rcases un_cases u n (wrapB u n k) with ⟨h, _⟩ | ⟨_, h, _⟩ | ⟨_, _, h⟩
  · exact absurd ((unTag_wrap u n n k hk).2 rfl) h
  · exact absurd (by rw [unK_wrap u n k hk]) h
  · rw [h, unK_wrap u n k hk]
def nameS : ByteArray := { data := #[110, 97, 109, 101] }
def otherS : ByteArray := { data := #[111, 116, 104, 101, 114] }
/-- The example's key, wrapped as 'name', is none as 'other'. -/
theorem unAns_other (k : ByteArray) (hk : k.size = 32) : unAns (cntB 9) otherS (wrapB (cntB 9) nameS k) = #[.string ByteArray.empty, .int .i64 8] := by
  rcases un_cases (cntB 9) otherS (wrapB (cntB 9) nameS k) with ⟨_, h⟩ | ⟨_, _, h⟩ | ⟨h, _, _⟩
  · exact h
  · exact h
  · exfalso
    have h1 := (unTag_wrap (cntB 9) nameS otherS k hk).1 h
    have hB8 : B8 (bodyL (cipK (bys (cntB 9))) (bys (nonB (cntB 9) nameS k)) (bys k)) := bodyL_B8 _ _ _
    have hbl : (bodyL (cipK (bys (cntB 9))) (bys (nonB (cntB 9) nameS k)) (bys k)).length = 32 := by rw [bodyL_length, bys_length, hk]
    generalize bodyL (cipK (bys (cntB 9))) (bys (nonB (cntB 9) nameS k)) (bys k) = B at *
    have hbs : (mkS B).size = 32 := by rw [mkS_size, hbl]
    refine mac_other (cntB 9) (nonB (cntB 9) nameS k) nameS otherS (mkS B) (by rw [bys_cntB 9 (by decide)]; decide) rfl rfl hbs ?_
    rw [macP_tagG _ _ _ _ (by decide) (by rw [hbs]; decide), macP_tagG _ _ _ _ (by decide) (by rw [hbs]; decide), bys_mkS _ hB8]
    exact h1.symm
theorem wrap_both (u n k : ByteArray) : ∃ (s : ByteArray) (r : Nat), (∀ w, Sm.Roots w → Calls Tryz.prog 40 #[.string u, .string n, .string k] w fun e w' => e = .returned (.tuple #[.string s, .int .i64 r]) ∧ Below w.heap.size w w') ∧
    (∀ w, Calls Tryz.prog 23 #[.string u, .string n, .string k] w fun e w' => e = .returned (.tuple #[.string s, .int .i64 r]) ∧ Grows w w') := by
  by_cases h : wrefN u.size n.size (k.size == 32) = 0
  · unfold wrefN at h
    have hc : u.size = 32 ∧ k.size = 32 ∧ n.size ≤ 64 := by
      by_cases h1 : u.size = 32 <;> by_cases h2 : k.size = 32 <;> by_cases h3 : 64 < n.size <;> simp_all
    exact ⟨wrapB u n k, 0, fun w hR => wrap_ok u n k hc.1 hc.2.1 hc.2.2 w hR, fun w => refWrap_ok u n k hc.1 hc.2.1 hc.2.2 w⟩
  · exact ⟨ByteArray.empty, _, fun w _ => (wrap_bad u n k h w).mono fun e w' he => ⟨he.1, he.2 ▸ Below.refl _ _⟩, fun w => (refWrap_bad u n k h w).mono fun e w' he => ⟨he.1, he.2 ▸ Grows.refl _⟩⟩
theorem unwrap_both (u n W : ByteArray) : ∃ (s : ByteArray) (r : Nat), (∀ w, Sm.Roots w → Calls Tryz.prog 38 #[.string u, .string n, .string W] w fun e w' => e = .returned (.tuple #[.string s, .int .i64 r]) ∧ Below w.heap.size w w') ∧
    (∀ w, Calls Tryz.prog 30 #[.string u, .string n, .string W] w fun e w' => e = .returned (.tuple #[.string s, .int .i64 r]) ∧ Grows w w') := by
  by_cases h : wrefN u.size n.size (W.size == 60) = 0
  · unfold wrefN at h
    have hc : u.size = 32 ∧ W.size = 60 ∧ n.size ≤ 64 := by
      by_cases h1 : u.size = 32 <;> by_cases h2 : W.size = 60 <;> by_cases h3 : 64 < n.size <;> simp_all
    have hp := fun w hR => unwrap_ok u n W hc.1 hc.2.2 hc.2.1 w hR
    have hd := fun w => refUnwrap_ok u n W hc.1 hc.2.2 hc.2.1 w
    rcases un_cases u n W with ⟨_, e⟩ | ⟨_, _, e⟩ | ⟨_, _, e⟩
    · rw [e] at hp hd; exact ⟨ByteArray.empty, 8, hp, hd⟩
    · rw [e] at hp hd; exact ⟨ByteArray.empty, 8, hp, hd⟩
    · rw [e] at hp hd; exact ⟨unK u W, 0, hp, hd⟩
  · exact ⟨ByteArray.empty, _, fun w _ => (unwrap_bad u n W h w).mono fun e w' he => ⟨he.1, he.2 ▸ Below.refl _ _⟩, fun w => (refUnwrap_bad u n W h w).mono fun e w' he => ⟨he.1, he.2 ▸ Grows.refl _⟩⟩
attribute [-go_sem] run_string_add_if
end Go.Proofs.YtbiadmhomadflaaGreatDoor

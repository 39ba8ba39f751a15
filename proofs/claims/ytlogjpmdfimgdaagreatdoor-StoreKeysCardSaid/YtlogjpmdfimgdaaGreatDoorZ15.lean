/- A record's small calls: number, highFirst, sectors: by contract. No condition but the sizes. | A record's bytes as they are laid: by contract. No condition but the text's length. -/
import Derived.Test.YtlogjpmdfimgdaaGreatDoorZ13
import Derived.Test.YtlogjpmdfimgdaaGreatDoorZ14
namespace Go.Proofs.YtlogjpmdfimgdaaGreatDoor.Jf
open Go.RowKit Go.Own.Jf
attribute [-go_sem] Sm.execOp_bs
attribute [local go_sem] Sm.ixS
theorem ag38x : aggSize Tryz.prog 39 = none := by kernel_rfl
set_option maxRecDepth 100000 in
theorem sectors_any (k : Nat) (hk : k ≤ 1099511627776) (w : World) :
    Calls Tryz.prog 81 #[.int .i64 (k : Int)] w fun e w' => e = .returned (.int .i64 ((secs k : Nat) : Int)) ∧ w' = w := by
  have h1 : ((50 : Int) + k + 64 - 1) / 64 = ((secs k : Nat) : Int) := by unfold secs; omega
  have H1 := Lib.hid h1
  clear h1
  go_enter Tryz.func81, Tryz.ntmps81
  go_wp2
  go_ret
  exact ⟨by rw [← H1.out]; rfl, rfl⟩
theorem val_lt (s : List Nat) (h : B8 s) : val s < 256 ^ s.length := by
  have aux : ∀ (s : List Nat) (a m : Nat), B8 s → a < m → s.foldl (fun n b => n * 256 + b) a < m * 256 ^ s.length := by
    intro s
    induction s with
    | nil => intro a m _ h; simpa using h
    | cons b r ih =>
      intro a m h8 h
      have hb := h8 b (by simp)
      have := ih (a * 256 + b) (m * 256) (fun x hx => h8 x (by simp [hx])) (by omega)
      simp only [List.foldl_cons, List.length_cons, Nat.pow_succ]
      rw [show m * (256 ^ r.length * 256) = m * 256 * 256 ^ r.length by rw [Nat.mul_comm (256 ^ r.length), Nat.mul_assoc]]
      exact this
  have := aux s 0 1 h (by decide)
  rw [Nat.one_mul] at this
  exact this
theorem or_byte (v b : Nat) (hv : v < 72057594037927936) (hb : b < 256) : or64 (shl64 v 8) b = v * 256 + b := by
  unfold or64 shl64
  rw [Nat.mod_eq_of_lt (by omega : v * 2 ^ 8 < _)]
  have h := Nat.shiftLeft_add_eq_or_of_lt (show b < 2 ^ 8 from hb) v
  rw [Nat.shiftLeft_eq] at h
  rw [← h]; omega
set_option maxRecDepth 100000 in
set_option maxHeartbeats 1000000 in
theorem number_any (s : ByteArray) (hs : s.size ≤ 8) (w : World) (l : List Obj) (d : Nat) :
    Calls Tryz.prog 98 #[.string s] (Wd w l d) fun e w' => e = .returned (.int .u64 ((val (bys s) : Nat) : Int)) ∧ ∃ d', w' = Wd w l d' := by
  go_enter Tryz.func98, Tryz.ntmps98
  go_wp2
  go_loopw [3, 4, 7] (fun n c i wr => ∃ (k d : Nat), k ≤ s.size ∧ i = .int .i64 k ∧ n = .int .u64 ((val ((bys s).take k) : Nat) : Int) ∧ wr = Wd w l d) (fun _ _ i _ => s.size - (intOf i).toNat)
  case atStart => exact ⟨0, _, by omega, rfl, rfl, rfl⟩
  case round =>
    obtain ⟨k, d, hk, rfl, rfl, rfl⟩ := hrel
    by_cases hlt : k < s.size
    · have hki : (k : Int) < s.size := by omega
      have h8 := gi_bys_lt s k
      have hst : val ((bys s).take (k + 1)) = val ((bys s).take k) * 256 + gi (bys s) k := by
        rw [List.take_add_one, List.getElem?_eq_getElem (by rw [bys_length]; exact hlt), Option.toList_some, val_snoc]
        simp [gi, List.getD, bys_length, hlt]
      have hb := val_lt ((bys s).take k) ((B8.bys s).take _)
      have hp : (256 : Nat) ^ ((bys s).take k).length ≤ 256 ^ 7 := Nat.pow_le_pow_right (by decide) (by rw [List.length_take, bys_length]; omega)
      obtain ⟨v, hv⟩ : ∃ v, val ((bys s).take k) = v := ⟨_, rfl⟩
      rw [hv] at hst hb ⊢
      obtain ⟨b, hb'⟩ : ∃ b, gi (bys s) k = b := ⟨_, rfl⟩
      have hv56 : v < 72057594037927936 := by omega
      have HST := Lib.hid hst
      have HIX := Lib.hid hb'
      have HO := Lib.hid (or_byte v b hv56 (by omega))
      clear hst hb hp hv
      go_wp2
      go_roundw
      case rel => exact ⟨k + 1, d, by omega, by go_num, by rw [HST.out, HIX.out, HO.out], rfl⟩
      case measure => simp [intOf]; omega
    · obtain rfl : k = s.size := by omega
      have HA : Hid ((bys s).take s.size = bys s) := Lib.hid (List.take_of_length_le (by rw [bys_length]; exact Nat.le_refl _))
      go_wp2
      go_ret
      exact ⟨by rw [HA.out]; rfl, d, rfl⟩
/-- A number's bytes, as they are made. -/
def hb (n long : Nat) (i : Nat) : Nat := n / 2 ^ (8 * (long - 1 - i)) % 256
def bt (n p : Nat) : Nat := shr64 n p % 256
theorem w8h (n p : Nat) : IntKind.u8.wrap ((shr64 n p : Nat) : Int) = ((bt n p : Nat) : Int) := wrap8 _
theorem hb_end (n long : Nat) : fin1 (hb n long) long (rep long) = be long n := by rw [fin1_end (by rw [rep_length]; exact Nat.le_refl _)]; rfl
attribute [local go_sem] w8h
set_option maxRecDepth 100000 in
set_option maxHeartbeats 1000000 in
theorem high_any (n long : Nat) (hl : long ≤ 8) (h0 : 1 ≤ long) (w : World) (l : List Obj) (d : Nat) :
    Calls Tryz.prog 121 #[.int .u64 (n : Int), .int .i64 (long : Int)] (Wd w l d) fun e w' => e = .returned (.string (mkS (be long n))) ∧ ∃ g d', w' = Wd w (l ++ g) d' := by
  have hmk : (Tryz.prog.info? 5).map (fun i => (i.zero, i.size, i.bytes)) = some (some (.int .u8 0), 1, 1) := by kernel_rfl
  have hz5 : zeroOf Tryz.prog 5 = .int .u8 0 := by kernel_rfl
  have hcb : long ≤ 140737488355328 := by omega
  have hlen : ∀ k, k ≤ long → (fin1 (hb n long) k (rep long)).length = long := fun k hk => by rw [fin1_length (by rw [rep_length]; exact hk), rep_length]
  go_enter Tryz.func121, Tryz.ntmps121
  go_wp2
  go_loopw [6, 11] (fun _ i wr => ∃ (k d : Nat), k ≤ long ∧ i = .int .i64 k ∧ wr = Wd w (l ++ [.cells (cv .u8 (fin1 (hb n long) k (rep long))) 5 (0, 0)]) d) (fun _ i _ => long - (intOf i).toNat)
  case atStart => exact ⟨0, _, by omega, rfl, by rw [fin1_zero]⟩
  case round =>
    obtain ⟨k, d, hk, rfl, rfl⟩ := hrel
    have hln := hlen k hk
    by_cases hlt : k < long
    · have hki : (k : Int) < long := by omega
      obtain ⟨p, hp⟩ : ∃ p, 8 * (long - 1 - k) = p := ⟨_, rfl⟩
      have hpi : (8 : Int) * ((long : Int) - 1 - k) = (p : Int) := by omega
      have hp64 : p ≤ 64 := by omega
      have HB : Hid (bt n p = hb n long k) := Lib.hid (by unfold bt shr64 hb; rw [hp])
      clear hlen
      go_wp2
      go_roundw
      case rel => exact ⟨k + 1, _, by omega, by go_num, by rw [HB.out, fin1_step]⟩
      case measure => simp [intOf]; omega
    · obtain rfl : k = long := by omega
      go_wp2
      go_ret
      exact ⟨by rw [← hb_end]; rfl, _, _, rfl⟩
end Go.Proofs.YtlogjpmdfimgdaaGreatDoor.Jf
namespace Go.Own.Jf
open Go Go.RowKit
theorem wp_region_big_all {P : Program} {id : Nat} {Q : Exit → Act → World → Prop} {a : Act} {w : World} {l0 : List Obj} {d : Nat} {l : List Oper} (hm : P.follows .mixedOrders = true) (hB : Region.lexB .any l.toArray = true)
    (h : wpQuiet P l.toArray (More w l0) (fun a' => ∀ g e, Q .normal a' (Wd w (l0 ++ g) e)) l a) : (Code.region id l.toArray true).wp P Q a (Wd w l0 d) := by
  refine wp_region_quiet (C := More w l0) hm hB ⟨[], d + 1, by rw [List.append_nil]; rfl⟩ ?_
  have e : (fun a' => ∀ w', More w l0 w' → Q .normal a' w') = fun a' => ∀ g e, Q .normal a' (Wd w (l0 ++ g) e) := by
    funext a'
    exact propext all_more
  rw [e]
  exact h
/-- A callee that makes but new blocks, wherever its own lie. -/
theorem grows_of {P : Program} {f : FuncId} {args : Array Value} {v : Value} (h : ∀ (w : World) (l : List Obj) (d : Nat), Calls P f args (Wd w l d) fun e w' => e = .returned v ∧ ∃ g d', w' = Wd w (l ++ g) d') (W : World) :
    Calls P f args W fun e w' => e = .returned v ∧ Grows W w' := by
  refine calls_wd ((h W [] W.drawn).mono ?_)
  rintro e w' ⟨rfl, g, d', rfl⟩
  exact ⟨rfl, Grows.of _ _ _⟩
theorem mkS_append (a b : List Nat) : mkS a ++ mkS b = mkS (a ++ b) := by
  apply ByteArray.ext
  simp [mkS, ByteArray.data_append]
theorem mkS_cut (s : List Nat) (a b : Nat) : (mkS s).extract a b = mkS ((s.drop a).take (b - a)) := by
  apply ByteArray.ext
  simp [mkS, List.extract_eq_take_drop, List.map_take, List.map_drop]
theorem add_mkS {P : Program} (a b : List Nat) (h : a.length + b.length ≤ 1099511627776) (W : World) : (Op.stringOp .add (mkS a) (mkS b)).run P W = .ok (.string (mkS (a ++ b))) W := by
  rw [run_string_add_sum W _ _ (by rw [mkS_size, mkS_size]; omega), mkS_append]
end Go.Own.Jf
namespace Go.Proofs.YtlogjpmdfimgdaaGreatDoor.Jf
open Go.RowKit Go.Own.Jf
attribute [-go_sem] Sm.execOp_bs run_string_add_if
theorem high8 (n : Nat) (W : World) : Calls Tryz.prog 121 #[.int .u64 (n : Int), .int .i64 8] W fun e w' => e = .returned (.string (mkS (be 8 n))) ∧ Grows W w' := grows_of (high_any n 8 (by decide) (by decide)) W
theorem high4 (n : Nat) (W : World) : Calls Tryz.prog 121 #[.int .u64 (n : Int), .int .i64 4] W fun e w' => e = .returned (.string (mkS (be 4 n))) ∧ Grows W w' := grows_of (high_any n 4 (by decide) (by decide)) W
theorem bsj32s (s : ByteArray) (w : World) (l : List Obj) (d : Nat) : (bsN 29 1 #[(0, .string s)]).run Tryz.prog (Wd w l d) = .ok (.slice (some ⟨w.heap.size + l.length, 0, none⟩) 1 1) (Wd w (l ++ [.cells #[.string s] 9 (0, 0)]) d) := bsj32 rfl w l d
/-- A literal row of one string, as the parts of a digest. -/
theorem parts_one {w : World} {l : List Obj} {d i : Nat} {s : ByteArray} (h : l[i]? = some (.cells #[.string s] 9 (0, 0))) : Sm.Parts (Wd w l d) (some ⟨w.heap.size + i, 0, none⟩) [s] := by
  intro j t hj
  obtain ⟨rfl, rfl⟩ : j = 0 ∧ s = t := by
    match j, hj with
    | 0, hj => exact ⟨rfl, by simpa using hj⟩
    | j + 1, hj => simp at hj
  exact ⟨_, _, _, _, rfl, by rw [blk_at]; exact h, rfl⟩
theorem of_one {w : World} {l : List Obj} {d i : Nat} (hR : Sm.Roots w) (s : ByteArray) (h : l[i]? = some (.cells #[.string s] 9 (0, 0))) (hs : s.size ≤ 1000000) :
    Calls Tryz.prog 100 #[.slice (some ⟨w.heap.size + i, 0, none⟩) 1 1] (Wd w l d) fun e w' => e = .returned (.string (mkS (Sm.digL (bys s)))) ∧ ∃ g d', w' = Wd w (l ++ g) d' := by
  have e : Sm.allB [s] = bys s := by simp [Sm.allB]
  refine (Sm.of_any (Wd w l d) (hR.wd _ _) _ 1 [s] (parts_one h) (by rw [e, bys_length]; omega) (by show 1 ≤ _; omega)).mono ?_
  rintro e' w' ⟨rfl, g, d', rfl⟩
  exact ⟨by rw [e], g, d', Wd_wd _ _ _ _ _⟩
attribute [local go_sem] agj88 szj88 csj88 agj38 isaj38 agj9 isaj9 csj9 szj9 ldR0 ldR1 ldR2 bsj32s
set_option maxRecDepth 100000 in
set_option maxHeartbeats 2000000 in
theorem laid_any (w : World) (hR : Sm.Roots w) (g n : Nat) (t : ByteArray) (ht : t.size ≤ 65535) :
    Calls Tryz.prog 85 #[.agg (rcl g n t)] w fun e w' => e = .returned (.string (mkS (laidL g n (bys t)))) ∧ Grows w w' := by
  have htl := bys_length t
  have htw : IntKind.u64.wrap (t.size : Int) = ((t.size : Nat) : Int) := by
    have : t.size < 18446744073709551616 := by omega
    simp only [IntKind.wrap, IntKind.bits, IntKind.signed]; simp; omega
  have hbl := body_length g n (bys t)
  have hal := all_length g n (bys t)
  have hdl := Sm.digL_length (bodyL g n (bys t))
  obtain ⟨Y1, hY1⟩ : ∃ y, [76] ++ be 8 g = y := ⟨_, rfl⟩
  obtain ⟨Y2, hY2⟩ : ∃ y, Y1 ++ be 4 n = y := ⟨_, rfl⟩
  obtain ⟨Y3, hY3⟩ : ∃ y, Y2 ++ be 4 t.size = y := ⟨_, rfl⟩
  obtain ⟨B, hB⟩ : ∃ y, bodyL g n (bys t) = y := ⟨_, rfl⟩
  have hB' : Y3 ++ bys t = B := by rw [← hB, ← hY3, ← hY2, ← hY1, ← htl]; rfl
  have l1 : Y1.length = 9 := by rw [← hY1]; simp [be_length]
  have l2 : Y2.length = 13 := by rw [← hY2, List.length_append, l1, be_length]
  have l3 : Y3.length = 17 := by rw [← hY3, List.length_append, l2, be_length]
  rw [hB] at hbl hdl
  obtain ⟨A, hA⟩ : ∃ y, allL g n (bys t) = y := ⟨_, rfl⟩
  have hA' : B ++ Sm.digL B = A := by rw [← hA, ← hB]; rfl
  have hAL : laidL g n (bys t) = A.take (min 63 A.length) ++ rep (63 - min 63 A.length) ++ [76] ++ A.drop (min 63 A.length) := by unfold laidL; rw [hA]
  rw [hA] at hal
  have a1 : ∀ W, (Op.stringOp .add { data := #[76] } (mkS (be 8 g))).run Tryz.prog W = .ok (.string (mkS Y1)) W := fun W => by
    have := add_mkS (P := Tryz.prog) [76] (be 8 g) (by simp [be_length]) W
    rw [hY1] at this; exact this
  have a2 : ∀ W, (Op.stringOp .add (mkS Y1) (mkS (be 4 n))).run Tryz.prog W = .ok (.string (mkS Y2)) W := fun W => by rw [add_mkS _ _ (by rw [l1, be_length]; decide), hY2]
  have a3 : ∀ W, (Op.stringOp .add (mkS Y2) (mkS (be 4 t.size))).run Tryz.prog W = .ok (.string (mkS Y3)) W := fun W => by rw [add_mkS _ _ (by rw [l2, be_length]; decide), hY3]
  have a4 : ∀ W, (Op.stringOp .add (mkS Y3) t).run Tryz.prog W = .ok (.string (mkS B)) W := fun W => by
    have := add_mkS (P := Tryz.prog) Y3 (bys t) (by rw [l3, htl]; omega) W
    rw [mkS_bys, hB'] at this; exact this
  have a5 : ∀ W, (Op.stringOp .add (mkS B) (mkS (Sm.digL B))).run Tryz.prog W = .ok (.string (mkS A)) W := fun W => by rw [add_mkS _ _ (by rw [hbl, hdl]; omega), hA']
  have HB1 := Lib.hid fun (g' : List Obj) (e : Nat) => big_call (L := fun g' => Obj.cells (rcl g n t) 145 (0, 0) :: g') (g := g') (e := e) (w := w) (l0 := [Obj.cells (rcl g n t) 145 (0, 0)]) (fun _ _ => rfl) (fun _ => rfl) (high8 g _)
  have HB2 := Lib.hid fun (g' : List Obj) (e : Nat) => big_call (L := fun g' => Obj.cells (rcl g n t) 145 (0, 0) :: g') (g := g') (e := e) (w := w) (l0 := [Obj.cells (rcl g n t) 145 (0, 0)]) (fun _ _ => rfl) (fun _ => rfl) (high4 n _)
  have HB3 := Lib.hid fun (g' : List Obj) (e : Nat) => big_call (L := fun g' => Obj.cells (rcl g n t) 145 (0, 0) :: g') (g := g') (e := e) (w := w) (l0 := [Obj.cells (rcl g n t) 145 (0, 0)]) (fun _ _ => rfl) (fun _ => rfl) (high4 t.size _)
  have hB8 : B8 B := by
    rw [← hB']
    refine B8.append ?_ (B8.bys t)
    rw [← hY3, ← hY2, ← hY1]
    refine ((B8.append (fun x hx => ?_) (be_B8 _ _)).append (be_B8 _ _)).append (be_B8 _ _)
    rw [List.mem_singleton.1 hx]; decide
  have HD : Hid (Sm.digL (bys (mkS B)) = Sm.digL B) := Lib.hid (by rw [bys_mkS _ hB8])
  obtain ⟨E, hE⟩ : ∃ E, min 63 A.length = E := ⟨_, rfl⟩
  rw [hE] at hAL
  have hE63 : E ≤ 63 := by omega
  have hEA : E ≤ A.length := by omega
  obtain ⟨Z, hZ⟩ : ∃ Z, 63 - E = Z := ⟨_, rfl⟩
  have hZi : (63 : Int) - (E : Int) = (Z : Int) := by omega
  rw [hZ] at hAL
  obtain ⟨M, hM⟩ : ∃ M, A.length = M := ⟨_, rfl⟩
  have hAs : (mkS A).size = M := by rw [mkS_size]; exact hM
  rw [hM] at hEA hE hal
  have hmin : min (63 : Int) (M : Int) = (E : Int) := by omega
  have hEi : (E : Int) ≤ (M : Int) := by omega
  obtain ⟨P1, hP1⟩ : ∃ P, (mkS A).extract 0 E = P := ⟨_, rfl⟩
  obtain ⟨P2, hP2⟩ : ∃ P, (mkS A).extract E M = P := ⟨_, rfl⟩
  have e1 : P1 = mkS (A.take E) := by rw [← hP1, mkS_cut, List.drop_zero, Nat.sub_zero]
  have e2 : P2 = mkS (A.drop E) := by rw [← hP2, mkS_cut, List.take_of_length_le (by rw [List.length_drop]; omega)]
  have lA1 : (A.take E).length ≤ 63 := by rw [List.length_take]; omega
  have lA2 : (A.drop E).length ≤ 65600 := by rw [List.length_drop]; omega
  obtain ⟨X1, hX1⟩ : ∃ X, A.take E ++ rep Z = X := ⟨_, rfl⟩
  obtain ⟨X2, hX2⟩ : ∃ X, X1 ++ [76] = X := ⟨_, rfl⟩
  have lX1 : X1.length ≤ 126 := by rw [← hX1, List.length_append, rep_length]; omega
  have lX2 : X2.length ≤ 127 := by rw [← hX2, List.length_append, List.length_singleton]; omega
  have b1 : ∀ W, (Op.stringOp .add P1 (mkS (rep Z))).run Tryz.prog W = .ok (.string (mkS X1)) W := fun W => by rw [e1, add_mkS _ _ (by rw [rep_length]; omega), hX1]
  have b2 : ∀ W, (Op.stringOp .add (mkS X1) { data := #[76] }).run Tryz.prog W = .ok (.string (mkS X2)) W := fun W => by
    have := add_mkS (P := Tryz.prog) X1 [76] (by rw [List.length_singleton]; omega) W
    rw [hX2] at this; exact this
  have b3 : ∀ W, (Op.stringOp .add (mkS X2) P2).run Tryz.prog W = .ok (.string (mkS (laidL g n (bys t)))) W := fun W => by rw [e2, add_mkS _ _ (by omega), hAL, ← hX2, ← hX1]
  have HB4 := Lib.hid fun (l0 g' : List Obj) (e : Nat) => big_call (L := fun g' => l0 ++ g') (g := g') (e := e) (w := w) (l0 := l0) (fun _ _ => List.append_assoc _ _ _) (fun _ => rfl) (grows_of (fun w l d => repeat_any w l d Z (by omega)) _)
  have HZ := Lib.hid hZ
  have hBs : (mkS B).size ≤ 1000000 := by rw [mkS_size]; omega
  have HR := Lib.hid hR
  have HAL := Lib.hid hAL
  have HBL := Lib.hid hbl
  clear hR hY1 hY2 hY3 hB hB' hA hA' hAL hal hbl htl hE hM e1 e2 hX1 hX2 lA1 lA2 lX1 lX2 hZ hB8 hdl l1 l2 l3
  refine calls_wd ?_
  go_enter Tryz.func85, Tryz.ntmps85
  go_wp2
  refine wp_region_big_all (by kernel_rfl) (by kernel_rfl) ?_
  repeat (go_big_quiet_step ((intro _; first | (with_reducible exact HB1.out _ _) | (with_reducible exact HB2.out _ _) | (with_reducible exact HB3.out _ _))))
  refine wpQuiet_nil ?_
  intro gR eR
  go_wp2_with fail
  refine (of_one HR.out (mkS B) (by first | exact at_last' rfl | simp) hBs).mono ?_
  rintro e w' ⟨rfl, g1, d1, rfl⟩
  rw [HD.out]
  go_wp2
  obtain ⟨L0, hL0⟩ : ∃ L0, (Obj.cells (rcl g n t) 145 (0, 0) :: (gR ++ Obj.cells #[Value.string (mkS B)] 9 (0, 0) :: g1)) = L0 := ⟨_, rfl⟩
  rw [hL0]
  refine wp_region_big_all (by kernel_rfl) (by kernel_rfl) ?_
  repeat (go_big_quiet_step ((intro _; with_reducible exact HB4.out _ _ _)))
  refine wpQuiet_nil ?_
  intro gR2 eR2
  go_wp2
  go_ret
  exact ⟨rfl, Grows.of _ _ _⟩
end Go.Proofs.YtlogjpmdfimgdaaGreatDoor.Jf

/- Product, and the closures that press blocks and count them: by contract. | The closure that presses is made; the counter is made; it counts: by contract. -/
import Derived.Test.YtfamoakicgmfgaaV3
import Derived.Test.YtfamoakicgmfgaaA4
namespace Go.Own
open Go.RowKit
theorem wp_region_bigq {P : Program} {id : Nat} {Q : Exit → Act → World → Prop} {a : Act} {w : World} {l0 : List Obj} {d : Nat} {l : List Oper} (hm : P.follows .mixedOrders = true) (hB : Region.lexB .any l.toArray = true)
    (h : wpQuiet P l.toArray (More w l0) (fun a' => ∀ g e, Q .normal a' (Wd w (l0 ++ g) e)) l a) : (Code.region id l.toArray true).wp P Q a (Wd w l0 d) := by
  refine wp_region_quiet (C := More w l0) hm hB ⟨[], d + 1, by rw [List.append_nil]; rfl⟩ ?_
  have e : (fun a' => ∀ w', More w l0 w' → Q .normal a' w') = fun a' => ∀ g e, Q .normal a' (Wd w (l0 ++ g) e) := by
    funext a'
    exact propext all_more
  rw [e]
  exact h
end Go.Own
namespace Go.Proofs.Ytfamoakicgmfgaa
open Go.RowKit Go.Own
attribute [local go_sem] z5 ag5 cs5 sz5 isa5 ag60 cs60 sz60 z60 ag75 cs75 sz75 isa75
attribute [-go_sem] run_string_add_if
/-- A closure that presses: its variable in block vb, the cipher's cells in block cb. -/
structure Prs (w : World) (vb cb : Nat) (cs : List Nat) : Prop where
  var : blk w vb = some (.cells #[.pointer (some ⟨cb, 0, none⟩)] 70 (0, 0))
  cip : blk w cb = some (.cells (cv .u8 cs) 92 (0, 0))
  len : cs.length = 496
theorem Prs.grows {w w' : World} {vb cb : Nat} {cs : List Nat} (h : Prs w vb cb cs) (hg : Grows w w') : Prs w' vb cb cs := by
  obtain ⟨l, d, rfl⟩ := hg
  exact ⟨blk_old _ _ _ _ h.var, blk_old _ _ _ _ h.cip, h.len⟩
theorem isa70' (w : World) : (isAgg 70).run Try.prog w = .ok false w := by kernel_rfl
theorem ag70' : aggSize Try.prog 70 = none := by kernel_rfl
attribute [local go_sem] isa70' ag70'
set_option maxRecDepth 100000 in
set_option maxHeartbeats 1000000 in
theorem pressed_any (vb cb : Nat) (cs b : List Nat) (hb : b.length = 16) (hb8 : B8 b) (w : World) (H : Prs w vb cb cs) :
    Calls Try.prog 36 #[.agg (cv .u8 b), .pointer (some ⟨vb, 0, none⟩)] w fun e w' => e = .returned (.agg (cv .u8 (pressL cs b))) ∧ Grows w w' := by
  have hv := H.var
  have HPS := Lib.hid H
  have HTX := Lib.hid fun W => btext_any b hb W
  have hsz : (mkS b).size = 16 := by rw [mkS_size, hb]
  have hpl : (pressL cs b).length = 16 := by unfold pressL rndLast; exact addL_length _ _ _
  have hp8 : B8 (pressL cs b) := addL_B8 _ _ _
  have HP : Hid (∀ W, Grows w W → Calls Try.prog 37 #[.pointer (some ⟨cb, 0, none⟩), .string (mkS b)] W fun e w' => e = .returned (.tuple #[.string (mkS (pressL cs b)), .int .i64 0]) ∧ Grows W w') := Lib.hid fun W hW => by
    have := press_ok cb cs H.len (mkS b) hsz W (H.grows hW).cip
    rwa [bys_mkS _ hb8] at this
  have HF : Hid (∀ W, Calls Try.prog 39 #[.string (mkS (pressL cs b))] W fun e w' => e = .returned (.agg (cv .u8 (pressL cs b))) ∧ Grows W w') := Lib.hid fun W => by
    have := filled_any (mkS (pressL cs b)) W
    rwa [bys_mkS _ hp8, fillL_full hpl] at this
  clear H hsz hp8 hb8
  have hvW : ∀ l d, blk (Wd w l d) vb = some (.cells #[.pointer (some ⟨cb, 0, none⟩)] 70 (0, 0)) := fun l d => blk_old _ _ _ _ hv
  clear hv
  have HB1 := Lib.hid fun (g' : List Obj) (e : Nat) => big_call (L := fun g' => Obj.cells (cv .u8 b) 60 (0, 0) :: Obj.cells (cv .u8 (rep 16)) 60 (0, 0) :: g') (g := g') (e := e) (w := w) (l0 := [Obj.cells (cv .u8 b) 60 (0, 0), Obj.cells (cv .u8 (rep 16)) 60 (0, 0)]) (fun _ _ => rfl) (fun _ => rfl) (HTX.out _)
  have HB2 := Lib.hid fun (g' : List Obj) (e : Nat) => big_call (L := fun g' => Obj.cells (cv .u8 b) 60 (0, 0) :: Obj.cells (cv .u8 (rep 16)) 60 (0, 0) :: g') (g := g') (e := e) (w := w) (l0 := [Obj.cells (cv .u8 b) 60 (0, 0), Obj.cells (cv .u8 (rep 16)) 60 (0, 0)]) (fun _ _ => rfl) (fun _ => rfl) (HP.out _ (Grows.of _ _ _))
  refine calls_wd ?_
  go_enter Try.func36, Try.ntmps36
  go_wp2
  refine wp_region_bigq (by kernel_rfl) (by kernel_rfl) ?_
  repeat (go_big_quiet_step ((intro _; first | (with_reducible exact HB1.out _ _) | (with_reducible exact HB2.out _ _))))
  refine wpQuiet_nil ?_
  intro gR eR
  go_wp2_with fail
  refine (HF.out _).mono ?_
  rintro e w' ⟨rfl, g, d, rfl⟩
  rw [Wd_wd]
  go_wp2
  exact ret_cell (i := 1) rfl rfl ag60 rfl hpl rfl ⟨rfl, Grows.of _ _ _⟩
end Go.Proofs.Ytfamoakicgmfgaa
namespace Go.Own
open Go.RowKit
theorem alX_ptr {P : Program} {T : TypeId} {w : World} {l : List Obj} {d : Nat} {q : Option Addr} (h : zeroOf P T = .pointer q) :
    alX P T (.pointer q) w l d = .ok (.pointer (some ⟨w.heap.size + l.length, 0, none⟩)) (Wd w (l ++ [.cells #[.pointer q] T (0, 0)]) d) := by
  have hz : ∀ W, (zeroValue T).run P W = .ok (.pointer q) W := fun W => by
    unfold zeroOf at h
    cases hi : P.info? T with
    | none => simp [hi] at h
    | some i =>
      cases hz : i.zero with
      | none => simp [hi, hz] at h
      | some v => simp [hi, hz] at h; subst h; simp [zeroValue, typeInfo, hi, hz]
  simp [alX, alN, Instr.alloc, hz, newVar, newRow, Value.cells, Wd_size, Wd_alloc]
theorem alX_int {P : Program} {T : TypeId} {w : World} {l : List Obj} {d : Nat} {k : IntKind} {q : Int} (h : zeroOf P T = .int k q) :
    alX P T (.int k q) w l d = .ok (.pointer (some ⟨w.heap.size + l.length, 0, none⟩)) (Wd w (l ++ [.cells #[.int k q] T (0, 0)]) d) := by
  have hz : ∀ W, (zeroValue T).run P W = .ok (.int k q) W := fun W => by
    unfold zeroOf at h
    cases hi : P.info? T with
    | none => simp [hi] at h
    | some i =>
      cases hz : i.zero with
      | none => simp [hi, hz] at h
      | some v => simp [hi, hz] at h; obtain rfl := h; simp [zeroValue, typeInfo, hi, hz]
  simp [alX, alN, Instr.alloc, hz, newVar, newRow, Value.cells, Wd_size, Wd_alloc]
theorem stX_box1 {P : Program} {T : TypeId} {w : World} {l : List Obj} {d i : Nat} {a v : Value} {t : TypeId}
    (h1 : (sizeOf T).run P (Wd w l d) = .ok 1 (Wd w l d)) (h2 : l[i]? = some (.cells #[a] t (0, 0))) (hv : v.oneCell' = true) (hc : v.cells = #[v]) :
    stX P T 1 (some (.cells #[a] t (0, 0))) w l d i 0 v = .ok () (Wd w (l.set i (.cells #[v] t (0, 0))) d) := by
  have hr := run_storeCells_at P (w.heap.size + i) 0 t [v] 0 #[a] (Wd w l d) (by rw [Wd_at]; exact h2) (by simp) (by simp [hv])
  rw [Nat.add_zero] at hr
  simp only [List.take_zero, List.nil_append, List.length_cons, List.length_nil, Nat.zero_add, List.drop_of_length_le (show [a].length ≤ 1 by simp), List.append_nil] at hr
  rw [Wd_setRow _ _ _ _ _ _ _ _ h2] at hr
  simp [stX, stN, Instr.storeAt, Instr.sureAddr, storeVar, hc, h1, hr]
theorem stX_ptr {P : Program} {T : TypeId} {w : World} {l : List Obj} {d i : Nat} {a : Value} {q : Option Addr} {t : TypeId}
    (h1 : (sizeOf T).run P (Wd w l d) = .ok 1 (Wd w l d)) (h2 : l[i]? = some (.cells #[a] t (0, 0))) :
    stX P T 1 (some (.cells #[a] t (0, 0))) w l d i 0 (.pointer q) = .ok () (Wd w (l.set i (.cells #[.pointer q] t (0, 0))) d) := stX_box1 h1 h2 rfl rfl
theorem stX_int {P : Program} {T : TypeId} {w : World} {l : List Obj} {d i : Nat} {a : Value} {k : IntKind} {q : Int} {t : TypeId}
    (h1 : (sizeOf T).run P (Wd w l d) = .ok 1 (Wd w l d)) (h2 : l[i]? = some (.cells #[a] t (0, 0))) :
    stX P T 1 (some (.cells #[a] t (0, 0))) w l d i 0 (.int k q) = .ok () (Wd w (l.set i (.cells #[.int k q] t (0, 0))) d) := stX_box1 h1 h2 rfl rfl
theorem stX_slc {P : Program} {T : TypeId} {w : World} {l : List Obj} {d i : Nat} {a : Value} {q : Option Addr} {n c : Nat} {t : TypeId}
    (h1 : (sizeOf T).run P (Wd w l d) = .ok 1 (Wd w l d)) (h2 : l[i]? = some (.cells #[a] t (0, 0))) :
    stX P T 1 (some (.cells #[a] t (0, 0))) w l d i 0 (.slice q n c) = .ok () (Wd w (l.set i (.cells #[.slice q n c] t (0, 0))) d) := stX_box1 h1 h2 rfl rfl
theorem blk_set {w : World} {l : List Obj} {d i b : Nat} {X : Obj} (h : b ≠ w.heap.size + i) : blk (Wd w (l.set i X) d) b = blk (Wd w l d) b := by
  unfold blk Wd
  simp only [Array.getElem?_append, List.getElem?_toArray, List.getElem?_set]
  by_cases hb : b < w.heap.size
  · rw [if_pos hb, if_pos hb]
  · rw [if_neg hb, if_neg hb, if_neg (by omega)]
theorem blk_app {w : World} {l m : List Obj} {d e b : Nat} {o : Obj} (h : blk (Wd w l d) b = some o) : blk (Wd w (l ++ m) e) b = some o := by
  have h2 := blk_old _ m e _ h
  rw [Wd_wd] at h2
  exact h2
end Go.Own
namespace Go.Proofs.Ytfamoakicgmfgaa
open Go.RowKit Go.Own
theorem cs70 : Try.prog.cellsOf 70 = 1 := by kernel_rfl
theorem sz70 (w : World) : (sizeOf 70).run Try.prog w = .ok 1 w := by kernel_rfl
theorem z70 : zeroOf Try.prog 70 = .pointer none := by kernel_rfl
theorem z75 : zeroOf Try.prog 75 = .int .u64 0 := by kernel_rfl
theorem isa9 (w : World) : (isAgg 9).run Try.prog w = .ok false w := by kernel_rfl
theorem ag9 : aggSize Try.prog 9 = none := by kernel_rfl
theorem isa55 (w : World) : (isAgg 55).run Try.prog w = .ok false w := by kernel_rfl
theorem ag55 : aggSize Try.prog 55 = none := by kernel_rfl
attribute [local go_sem] z5 ag5 cs5 sz5 isa5 ag60 cs60 sz60 z60 ag75 cs75 sz75 isa75 z75 isa70' ag70' cs70 sz70 z70 isa9 ag9 isa55 ag55 alX_ptr alX_int stX_ptr stX_int set_same List.getElem?_set_ne
attribute [-go_sem] run_string_add_if
theorem Prs.set {w : World} {l : List Obj} {d i : Nat} {vb cb : Nat} {cs : List Nat} {k : IntKind} {q q' : Int} {t : TypeId} (h : Prs (Wd w l d) vb cb cs) (hi : l[i]? = some (.cells #[.int k q] t (0, 0))) :
    Prs (Wd w (l.set i (.cells #[.int k q'] t (0, 0))) d) vb cb cs := by
  have e : blk (Wd w l d) (w.heap.size + i) = some (.cells #[.int k q] t (0, 0)) := by rw [blk_at]; exact hi
  refine ⟨?_, ?_, h.len⟩
  · rw [blk_set (fun e2 => ?_)]
    · exact h.var
    · have := h.var; rw [e2, e] at this; simp at this
  · rw [blk_set (fun e2 => ?_)]
    · exact h.cip
    · have := h.cip
      rw [e2, e] at this
      have h3 := congrArg (fun o => match o with | some (Obj.cells c _ _) => c.size | _ => 0) this
      simp [h.len] at h3
set_option maxRecDepth 100000 in
set_option maxHeartbeats 1000000 in
theorem presser_any (key : ByteArray) (h : key.size = 32) (w : World) :
    Calls Try.prog 23 #[.string key] w fun e w' => ∃ vb cb, e = .returned (.func (.func 36) #[] #[.pointer (some ⟨vb, 0, none⟩)]) ∧ Grows w w' ∧ Prs w' vb cb (cipher (bys key)) := by
  have HN := Lib.hid fun W => new_ok key h W
  have hcl := Lib.hid (cipher_length (bys key))
  clear h
  refine calls_wd ?_
  go_enter Try.func23, Try.ntmps23
  go_wp2_with fail
  refine (HN.out _).mono ?_
  rintro e w' ⟨cb, rfl, ⟨g, d, rfl⟩, hb⟩
  rw [Wd_wd] at hb ⊢
  have HB := Lib.hid hb
  clear hb
  go_wp2
  go_ret
  refine ⟨_, cb, rfl, Grows.of _ _ _, ?_, ?_, hcl.out⟩
  · rw [blk_at]; simp
  · exact blk_app HB.out
set_option maxRecDepth 100000 in
theorem counter_any (nonce : ByteArray) (f : Value) (hf : ∃ a b c, f = .func a b c) (w : World) :
    Calls Try.prog 24 #[.string nonce, f] w fun e w' => e = .returned (.func (.func 40) #[] #[.pointer (some ⟨w.heap.size + 2, 0, none⟩), .pointer (some ⟨w.heap.size + 1, 0, none⟩), .pointer (some ⟨w.heap.size, 0, none⟩)]) ∧
      w' = Wd w [.cells #[.string nonce] 9 (0, 0), .cells #[f] 55 (0, 0), .cells #[.int .u64 0] 75 (0, 0)] 0 := by
  obtain ⟨a, b, c, rfl⟩ := hf
  refine calls_wd ?_
  go_enter Try.func24, Try.ntmps24
  go_wp2
  go_ret
  exact ⟨rfl, rfl⟩
set_option maxRecDepth 100000 in
set_option maxHeartbeats 1000000 in
theorem next_any (w : World) (l : List Obj) (d iN iP iS vb cb : Nat) (cs : List Nat) (nonce : ByteArray) (j : Nat) (hN : l[iN]? = some (.cells #[.int .u64 (j : Int)] 75 (0, 0)))
    (hP : l[iP]? = some (.cells #[.func (.func 36) #[] #[.pointer (some ⟨vb, 0, none⟩)]] 55 (0, 0))) (hS : l[iS]? = some (.cells #[.string nonce] 9 (0, 0))) (H : Prs (Wd w l d) vb cb cs) (hn : nonce.size = 12) (hj : j + 1 < 4294967296) :
    Calls Try.prog 40 #[.pointer (some ⟨w.heap.size + iN, 0, none⟩), .pointer (some ⟨w.heap.size + iP, 0, none⟩), .pointer (some ⟨w.heap.size + iS, 0, none⟩)] (Wd w l d) fun e w' =>
      e = .returned (.agg (cv .u8 (pressL cs (bys nonce ++ hfL (j + 1) 4)))) ∧ ∃ g d', w' = Wd w (l.set iN (.cells #[.int .u64 ((j + 1 : Nat) : Int)] 75 (0, 0)) ++ g) d' := by
  obtain ⟨m, hm⟩ : ∃ m, l.length = m := ⟨_, rfl⟩
  have b1 : iN < m := hm ▸ (List.getElem?_eq_some_iff.1 hN).1
  have b2 : iP < m := hm ▸ (List.getElem?_eq_some_iff.1 hP).1
  have b3 : iS < m := hm ▸ (List.getElem?_eq_some_iff.1 hS).1
  have n1 : ¬ iN = iP := fun e => by rw [e, hP] at hN; simp at hN
  have n2 : ¬ iN = iS := fun e => by rw [e, hS] at hN; simp at hN
  have n3 : ¬ iN = m := by omega
  obtain ⟨L, hL⟩ : ∃ L, l ++ [Obj.cells (cv .u8 (rep 16)) 60 (0, 0)] = L := ⟨_, rfl⟩
  have k1 : L[iN]? = some (.cells #[.int .u64 (j : Int)] 75 (0, 0)) := by rw [← hL, List.getElem?_append_left (by omega), hN]
  have k2 : L[iP]? = some (.cells #[.func (.func 36) #[] #[.pointer (some ⟨vb, 0, none⟩)]] 55 (0, 0)) := by rw [← hL, List.getElem?_append_left (by omega), hP]
  have k3 : L[iS]? = some (.cells #[.string nonce] 9 (0, 0)) := by rw [← hL, List.getElem?_append_left (by omega), hS]
  have k4 : L[m]? = some (.cells (cv .u8 (rep 16)) 60 (0, 0)) := by rw [← hL, List.getElem?_append_right (by omega), hm, Nat.sub_self]; rfl
  obtain ⟨M, hM⟩ : ∃ M, L.set iN (.cells #[.int .u64 ((j + 1 : Nat) : Int)] 75 (0, 0)) = M := ⟨_, rfl⟩
  have m2 : M[iP]? = some (.cells #[.func (.func 36) #[] #[.pointer (some ⟨vb, 0, none⟩)]] 55 (0, 0)) := by rw [← hM, List.getElem?_set_ne n1, k2]
  have m3 : M[iS]? = some (.cells #[.string nonce] 9 (0, 0)) := by rw [← hM, List.getElem?_set_ne n2, k3]
  have m4 : M[m]? = some (.cells (cv .u8 (rep 16)) 60 (0, 0)) := by rw [← hM, List.getElem?_set_ne n3, k4]
  have m1 : M[iN]? = some (.cells #[.int .u64 ((j + 1 : Nat) : Int)] 75 (0, 0)) := by rw [← hM, set_same (by rw [k1]; rfl)]
  have HML : Hid (M = l.set iN (.cells #[.int .u64 ((j + 1 : Nat) : Int)] 75 (0, 0)) ++ [Obj.cells (cv .u8 (rep 16)) 60 (0, 0)]) := Lib.hid (by rw [← hM, ← hL, List.set_append_left _ _ (by omega)])
  have HPM : Hid (∀ e, Prs (Wd w M e) vb cb cs) := Lib.hid fun e => by
    have h1 : Prs (Wd w L e) vb cb cs := by rw [← hL]; exact ⟨blk_app H.var, blk_app H.cip, H.len⟩
    have := h1.set (q' := ((j + 1 : Nat) : Int)) k1
    rwa [hM] at this
  have hadd1 : IntKind.u64.wrap ((j : Int) + 1) = ((j + 1 : Nat) : Int) := by
    have := wrapu64 (j + 1) (by omega)
    rwa [show ((j + 1 : Nat) : Int) = (j : Int) + 1 by simp] at this ⊢
  obtain ⟨q, hq⟩ : ∃ q, j + 1 = q := ⟨_, rfl⟩
  obtain ⟨t, hT⟩ : ∃ t, nonce ++ mkS (hfL q 4) = t := ⟨_, rfl⟩
  have htb : bys t = bys nonce ++ hfL q 4 := by
    rw [← hT]
    have e : bys (nonce ++ mkS (hfL q 4)) = bys nonce ++ bys (mkS (hfL q 4)) := by simp [bys]
    rw [e, bys_mkS _ (hfL_B8 q 4)]
  have htl : (bys t).length = 16 := by rw [htb, List.length_append, bys_length, hn, hfL_length]
  have hcat : ∀ W, (Op.stringOp .add nonce (mkS (hfL q 4))).run Try.prog W = .ok (.string t) W := fun W => by
    rw [run_string_add_sum W _ _ (by rw [hn, mkS_size, hfL_length]; decide), hT]
  have H1 : Hid (∀ W, Calls Try.prog 41 #[.int .u64 (q : Nat), .int .i64 4] W fun e w' => e = .returned (.string (mkS (hfL q 4))) ∧ Grows W w') := Lib.hid fun W => highFirst_any q 4 (by decide) W
  have H2 : Hid (∀ W, Calls Try.prog 39 #[.string t] W fun e w' => e = .returned (.agg (cv .u8 (bys t))) ∧ Grows W w') := Lib.hid fun W => by
    have := filled_any t W
    rwa [fillL_full htl] at this
  have H3 : Hid (∀ W, Prs W vb cb cs → Calls Try.prog 36 #[.agg (cv .u8 (bys t)), .pointer (some ⟨vb, 0, none⟩)] W fun e w' => e = .returned (.agg (cv .u8 (pressL cs (bys t)))) ∧ Grows W w') := Lib.hid fun W hW =>
    pressed_any vb cb cs (bys t) htl (B8.bys t) W hW
  have hpl : (pressL cs (bys t)).length = 16 := by unfold pressL rndLast; exact addL_length _ _ _
  rw [hq] at hadd1 hM m1 HML ⊢
  rw [← htb]
  have HB1 := Lib.hid fun (g' : List Obj) (e : Nat) => big_call (L := fun g' => M ++ g') (g := g') (e := e) (w := w) (l0 := M) (fun _ _ => by simp) (fun _ => rfl) (H1.out _)
  have HB2 := Lib.hid fun (g' : List Obj) (e : Nat) => big_call (L := fun g' => M ++ g') (g := g') (e := e) (w := w) (l0 := M) (fun _ _ => by simp) (fun _ => rfl) (H2.out _)
  have HB3 := Lib.hid fun (g' : List Obj) (e : Nat) => big_call (L := fun g' => M ++ g') (g := g') (e := e) (w := w) (l0 := M) (fun _ _ => by simp) (fun _ => rfl) (H3.out _ (⟨blk_app (HPM.out 0).var, blk_app (HPM.out 0).cip, H.len⟩ : Prs (Wd w (M ++ g') e) vb cb cs))
  have c1 : ∀ g, (M ++ g)[iN]? = some (.cells #[.int .u64 (q : Int)] 75 (0, 0)) := fun g => by rw [List.getElem?_append_left (List.getElem?_eq_some_iff.1 m1).1, m1]
  have c2 : ∀ g, (M ++ g)[iP]? = some (.cells #[.func (.func 36) #[] #[.pointer (some ⟨vb, 0, none⟩)]] 55 (0, 0)) := fun g => by rw [List.getElem?_append_left (List.getElem?_eq_some_iff.1 m2).1, m2]
  have c3 : ∀ g, (M ++ g)[iS]? = some (.cells #[.string nonce] 9 (0, 0)) := fun g => by rw [List.getElem?_append_left (List.getElem?_eq_some_iff.1 m3).1, m3]
  have c4 : ∀ g, (M ++ g)[m]? = some (.cells (cv .u8 (rep 16)) 60 (0, 0)) := fun g => by rw [List.getElem?_append_left (List.getElem?_eq_some_iff.1 m4).1, m4]
  have HSET : Hid (∀ g X, (M ++ g).set m X = l.set iN (.cells #[.int .u64 (q : Int)] 75 (0, 0)) ++ ([X] ++ g)) := Lib.hid fun g X => by
    rw [HML.out, List.append_assoc, List.set_append_right _ _ (by rw [List.length_set]; omega), List.length_set, hm, Nat.sub_self]
    rfl
  have HL := Lib.hid hL
  have HM := Lib.hid hM
  clear hN hP hS hn hj htb htl hT hq H b1 b2 b3 n1 n2 n3 k2 k3 k4 m1 m2 m3 m4 hL hM
  go_enter Try.func40, Try.ntmps40
  go_wp2
  rw [HL.out]
  go_wp2
  rw [k1]
  rw [ldX_box (isa75 _) (by rw [blk_at]; exact k1)]
  go_wp2
  rw [HM.out]
  clear k1
  refine wp_region_big 7 (by kernel_rfl) (by kernel_rfl) ?_
  simp only [List.take_succ_cons, List.take_zero, List.drop_succ_cons, List.drop_zero]
  repeat (go_big_quiet_step ((intro _; first | (with_reducible exact HB1.out _ _) | (with_reducible exact HB2.out _ _) | (with_reducible exact HB3.out _ _))))
  refine wpQuiet_nil ?_
  intro gR eR
  go_wp2
  exact ret_cell (i := m) rfl rfl ag60 (set_same (by rw [c4]; rfl)) hpl rfl ⟨rfl, _, _, by rw [HSET.out]⟩
end Go.Proofs.Ytfamoakicgmfgaa

/- The document's ring: by contract, given what its Wrap, Unwrap and Derive answer. | The document's Backing, Key, Rewrap: by contract, given what its Wrap, Unwrap and Derive answer. | The law's own few; a struct of eight cells. No condition. | RingTells' own walk, given what the layers below answer. -/
import Derived.Test.YtbiadmhomadflaaGreatDoorZ4
namespace Go.Own
open Go Go.RowKit Go.Own.Fr
section
variable {P : Program} {ρ : Operand → Value} {W : World} {dst : Option Tmp} {ty : TypeId} {pos : String} {after : Array Edge} {guard : Option (Nat × Bool)} {v r : Value} {x y : Operand}
theorem exec_cv {S T : TypeId} (h1 : ρ x = v) (hr : (convert S T v).run P W = .ok r W) : (execOp ρ { dst, op := .convert S T x, type := ty, pos, after, guard }).run P W = .ok (.value r) W := by
  simp [execOp, h1, hr, Result.andThen]
theorem exec_sadd {s t u : ByteArray} (h1 : ρ x = .string s) (h2 : ρ y = .string t) (hr : (Op.stringOp .add s t).run P W = .ok (.string u) W) : (execOp ρ { dst, op := .binOp .add 9 x y 9, type := ty, pos, after, guard }).run P W = .ok (.value (.string u)) W := by
  simp [execOp, h1, h2, go_sem, hr]
end
end Go.Own
namespace Go.Proofs.YtbiadmhomadflaaGreatDoor
open Go.RowKit Go.Own Go.Own.Fr
variable {Rt : World → Prop} {wA uA : ByteArray → ByteArray → ByteArray → ByteArray × Int} {dA : ByteArray → ByteArray → ByteArray → ByteArray}
theorem conv_at {b : Nat} {w : World} {k : Nat} (h : w.heap[b]? = some (.cells #[.int .u8 (k : Int)] 5 (0, 0))) : (convert 56 9 (.slice (some ⟨b, 0, none⟩) 1 1)).run Tryz.prog w = .ok (.string { data := #[UInt8.ofNat k] }) w := by
  have hl := run_loadCells_list (P := Tryz.prog) w ⟨b, 0, none⟩ [Value.int .u8 (k : Int)] (fun j u hu => by
    rw [show (⟨b, 0, none⟩ : Addr).add j = ⟨b, j, none⟩ by unfold Addr.add; split <;> simp_all]
    simp only [World.cell?, h, Option.isSome_none, Bool.false_eq_true, if_false]
    simpa using hu)
  have hl' : (loadCells ⟨b, 0, none⟩ 1).run Tryz.prog w = .ok ([(k : Int)].map (Value.int .u8)).toArray w := hl
  rw [run_convert_bytes_string _ 56 9 5 _ _ _ Tryz.underlying56 Tryz.underlying5 Tryz.underlying9, run_bytesToString _ _ _ _ _ hl', foldl_push_bytes]
  simp
theorem cv8 (v : Nat) (h1 : 1 ≤ v) (h2 : v ≤ 8) (W : World) : (convert 3 5 (.int .i64 (v : Int))).run Tryz.prog W = .ok (.int .u8 (v : Int)) W := by
  rcases eight h1 h2 with rfl | rfl | rfl | rfl | rfl | rfl | rfl | rfl <;> kernel_rfl
theorem bs56 (v : Int) (W : World) : (Instr.buildSlice 56 1 #[(0, .int .u8 v)]).run Tryz.prog W = .ok (.slice (some ⟨W.heap.size, 0, none⟩) 1 1) (W.alloc (.cells #[.int .u8 v] 5)) := by
  kernel_rfl
theorem exec_bs56 {ρ : Operand → Value} {W : World} {dst : Option Tmp} {ty : TypeId} {pos : String} {after : Array Edge} {guard : Option (Nat × Bool)} {x : Operand} {v : Int} (h1 : ρ x = .int .u8 v) :
    (execOp ρ { dst, op := .buildSlice 56 1 #[(0, x)], type := ty, pos, after, guard }).run Tryz.prog W = .ok (.value (.slice (some ⟨W.heap.size, 0, none⟩) 1 1)) (W.alloc (.cells #[.int .u8 v] 5)) := by
  unfold execOp
  simp only [List.map_toArray, List.map_cons, List.map_nil, h1, Sem.run_bind, bs56, Result.andThen_ok]
  rfl
/-- A row of one byte. -/
def One8 (v : Nat) : Value → World → Prop := fun u W => ∃ b, u = .slice (some ⟨b, 0, none⟩) 1 1 ∧ b < W.heap.size ∧ W.heap[b]? = some (.cells #[.int .u8 (v : Int)] 5 (0, 0))
theorem One8_last (v : Nat) : Lasts (One8 v) := fun _ _ _ ⟨b, h1, h2, h3⟩ hB => ⟨b, h1, Nat.lt_of_lt_of_le h2 hB.size, (hB.block b h2).trans h3⟩
set_option maxRecDepth 100000 in
set_option maxHeartbeats 1000000 in
theorem rdomain_any (H : Under Rt wA uA dA) (root d : ByteArray) (hd0 : d.size ≤ 1000) (n : Int) (w : World) :
    Calls Tryz.prog 8 #[.string root, .int .i64 n, .string d] w fun e w' => e = .returned (.tuple #[.string (domA wA dA root n d).1, .int .i64 (domA wA dA root n d).2]) ∧ Below w.heap.size w w' := by
  by_cases hn : okN n = true
  case neg =>
    have hn' : okN n = false := by simpa using hn
    have hA : domA wA dA root n d = ({ data := #[] }, 1) := if_pos hn'
    rw [hA]
    have hz : n < 1 ∨ (¬ n < 1 ∧ 8 < n) := by
      unfold okN at hn'
      have := of_decide_eq_false hn'
      omega
    clear hn hn' hA H hd0
    rcases hz with h | ⟨h, h2⟩
    all_goals
      go_enter Tryz.func8, Tryz.ntmps8
      go_wp2
      go_ret2
      exact ⟨rfl, Below.refl _ _⟩
  obtain ⟨hn1, hn2, hn3⟩ := okN_nat hn
  have hA : domA wA dA root n d = wA root (dS ++ fourB n.toNat) (dA domS d (fourB n.toNat)) := if_neg (by rw [hn]; simp)
  rw [hA]
  clear hA hn
  obtain ⟨n, rfl⟩ : ∃ k : Nat, n = (k : Int) := ⟨n.toNat, hn3.symm⟩
  rw [Int.toNat_natCast] at hn1 hn2 ⊢
  have HF := Lib.hid (fun W => rfour_any n hn1 hn2 W)
  have h1 : ¬ (n : Int) < 1 := by omega
  have h2 : ¬ 8 < (n : Int) := by omega
  have HD := Lib.hid (fun W => rderived_any H domS d (fourB n) (by decide) hd0 (by rw [fourB_size]; decide) W)
  have HW := Lib.hid (fun W => H.rwrap root (dS ++ fourB n) (dA domS d (fourB n)) W)
  have hadd : ∀ W, (Op.stringOp .add { data := #[100] } (fourB n)).run Tryz.prog W = .ok (.string (dS ++ fourB n)) W := fun W => run_string_add_sum W _ _ (by show 1 + 4 ≤ _; decide)
  rw [show domS = { data := #[100, 111, 109, 97, 105, 110] } from rfl] at HD HW ⊢
  generalize dA { data := #[100, 111, 109, 97, 105, 110] } d (fourB n) = k at *
  generalize dS ++ fourB n = nm at *
  generalize fourB n = f at *
  generalize wA root nm k = r at *
  clear hn1 hn2 hn3 hd0 H
  go_enter Tryz.func8, Tryz.ntmps8
  go_wp2_with fail
  refine (HF.out _).mono ?_
  rintro e w1 ⟨rfl, hb⟩
  replace hb := Lib.hid hb
  go_wp2_with fail
  refine (HF.out _).mono ?_
  rintro e w2 ⟨rfl, hb2⟩
  replace hb2 := Lib.hid (hb.out.trans (hb2.mono hb.out.size))
  clear hb
  go_wp2_with fail
  refine (HD.out _).mono ?_
  rintro e w3 ⟨rfl, hb3⟩
  replace hb3 := Lib.hid (hb2.out.trans (hb3.mono hb2.out.size))
  clear hb2
  go_wp2_with fail
  refine (HW.out _).mono ?_
  rintro e w4 ⟨rfl, hb4⟩
  replace hb4 := Lib.hid (hb3.out.trans (hb4.mono hb3.out.size))
  go_wp2
  go_ret2
  exact ⟨rfl, hb4.out⟩
/-- What asked answers. -/
def AskQ (uA : ByteArray → ByteArray → ByteArray → ByteArray × Int) (root : ByteArray) (n : Int) (dom id : ByteArray) (v : Int) (w : World) (e : Ending) (w' : World) : Prop :=
  ∃ nm, e = .returned (.tuple #[.string (abvA uA root n dom id v).1, .string nm, .int .i64 (abvA uA root n dom id v).2]) ∧ ((abvA uA root n dom id v).2 = 0 → nm = infoB id v.toNat) ∧ Below w.heap.size w w'
set_option maxRecDepth 100000 in
set_option maxHeartbeats 1000000 in
theorem asked_any (H : Under Rt wA uA dA) (root dom id : ByteArray) (n v : Int) (w : World) :
    Calls Tryz.prog 28 #[.string root, .int .i64 n, .string dom, .string id, .int .i64 v] w (AskQ uA root n dom id v w) := by
  by_cases hnv : okN n = true ∧ okN v = true
  case neg =>
    have hA : abvA uA root n dom id v = ({ data := #[] }, 1) := if_pos (by
      cases e1 : okN n with
      | false => exact Or.inl rfl
      | true => cases e2 : okN v with
        | false => exact Or.inr rfl
        | true => exact absurd ⟨e1, e2⟩ hnv)
    have HQ : Hid (AskQ uA root n dom id v w (.returned (.tuple #[.string { data := #[] }, .string { data := #[] }, .int .i64 1])) w) := Lib.hid (by
      unfold AskQ
      rw [hA]
      exact ⟨_, rfl, (fun h => by cases h), Below.refl _ _⟩)
    have hz : n < 1 ∨ (¬ n < 1 ∧ 8 < n) ∨ (¬ n < 1 ∧ ¬ 8 < n ∧ v < 1) ∨ (¬ n < 1 ∧ ¬ 8 < n ∧ ¬ v < 1 ∧ 8 < v) := by
      unfold okN at hnv
      simp only [decide_eq_true_eq] at hnv
      omega
    clear hnv hA H
    rcases hz with h | ⟨h, h2⟩ | ⟨h, h2, h3⟩ | ⟨h, h2, h3, h4⟩
    all_goals
      go_enter Tryz.func28, Tryz.ntmps28
      go_wp2
      refine bodyPost_ret (v := .tuple #[.string { data := #[] }, .string { data := #[] }, .int .i64 1]) (by simp [results, Tryz.results28, go_sem]) rfl ?_
      exact HQ.out
  obtain ⟨hn, hv⟩ := hnv
  obtain ⟨hn1, hn2, hn3⟩ := okN_nat hn
  obtain ⟨hv1, hv2, hv3⟩ := okN_nat hv
  by_cases hi : 32 < id.size
  case pos =>
    have hA : abvA uA root n dom id v = ({ data := #[] }, 3) := by unfold abvA; rw [if_neg (by rw [hn, hv]; simp), if_pos hi]
    have HQ : Hid (AskQ uA root n dom id v w (.returned (.tuple #[.string { data := #[] }, .string { data := #[] }, .int .i64 3])) w) := Lib.hid (by
      unfold AskQ
      rw [hA]
      exact ⟨_, rfl, (fun h => by cases h), Below.refl _ _⟩)
    have h1 : ¬ n < 1 := by omega
    have h2 : ¬ 8 < n := by omega
    have h3 : ¬ v < 1 := by omega
    have h4 : ¬ 8 < v := by omega
    have h5 : (32 : Int) < (id.size : Int) := by omega
    clear hn hv hA H hi hn1 hn2 hn3 hv1 hv2 hv3
    go_enter Tryz.func28, Tryz.ntmps28
    go_wp2
    refine bodyPost_ret (v := .tuple #[.string { data := #[] }, .string { data := #[] }, .int .i64 3]) (by simp [results, Tryz.results28, go_sem]) rfl ?_
    exact HQ.out
  have hA : abvA uA root n dom id v = uA root (dS ++ fourB n.toNat) dom := by unfold abvA; rw [if_neg (by rw [hn, hv]; simp), if_neg hi]
  have HQ : Hid (∀ w', Below w.heap.size w w' → AskQ uA root n dom id v w (.returned (.tuple #[.string (uA root (dS ++ fourB n.toNat) dom).1, .string (infoB id v.toNat), .int .i64 (uA root (dS ++ fourB n.toNat) dom).2])) w') := Lib.hid (fun w' hB => by
    unfold AskQ
    rw [hA]
    exact ⟨_, rfl, fun _ => rfl, hB⟩)
  clear hA hn hv
  obtain ⟨n, rfl⟩ : ∃ k : Nat, n = (k : Int) := ⟨n.toNat, hn3.symm⟩
  obtain ⟨v, rfl⟩ : ∃ k : Nat, v = (k : Int) := ⟨v.toNat, hv3.symm⟩
  rw [Int.toNat_natCast] at hn1 hn2 hv1 hv2
  simp only [Int.toNat_natCast] at HQ
  have HF := Lib.hid (fun W => rfour_any n hn1 hn2 W)
  have h1 : ¬ (n : Int) < 1 := by omega
  have h2 : ¬ 8 < (n : Int) := by omega
  have h3 : ¬ (v : Int) < 1 := by omega
  have h4 : ¬ 8 < (v : Int) := by omega
  have h5 : ¬ (32 : Int) < (id.size : Int) := by omega
  have HV := Lib.hid (cv8 v hv1 hv2)
  have HSA : Hid (∀ W, (Op.stringOp .add id { data := #[UInt8.ofNat v] }).run Tryz.prog W = .ok (.string (infoB id v)) W) := Lib.hid fun W => run_string_add_sum W _ _ (by show id.size + 1 ≤ _; omega)
  have HW := Lib.hid (fun W => H.runwrap root (dS ++ fourB n) dom W)
  have hadd : ∀ W, (Op.stringOp .add { data := #[100] } (fourB n)).run Tryz.prog W = .ok (.string (dS ++ fourB n)) W := fun W => run_string_add_sum W _ _ (by show 1 + 4 ≤ _; decide)
  generalize dS ++ fourB n = nm at *
  generalize fourB n = f at *
  obtain ⟨r, hr⟩ : ∃ r, uA root nm dom = r := ⟨_, rfl⟩
  rw [hr] at HW HQ
  generalize infoB id v = i at *
  clear hn1 hn2 hn3 hv1 hv2 hv3 hi H hr
  go_enter Tryz.func28, Tryz.ntmps28
  go_wp2_with fail
  refine (HF.out _).mono ?_
  rintro e w1 ⟨rfl, hb⟩
  replace hb := Lib.hid hb
  go_wp2_with fail
  refine (HW.out _).mono ?_
  rintro e w2 ⟨rfl, hb2⟩
  replace hb2 := Lib.hid (hb.out.trans (hb2.mono hb.out.size))
  clear hb HF HW hadd
  go_wp2_with fail
  refine wp_region_fine (TL [eqv (.string r.1), eqv (.string id), eqv (.int .i64 (v : Int)), eqv (.int .u8 (v : Int)), One8 v, eqv (.string { data := #[UInt8.ofNat v] }), eqv (.string i), eqv (.int .i64 r.2), eqv (.string r.1), eqv (.string i), eqv (.int .i64 r.2)]) (by kernel_rfl) (by kernel_rfl) (TL_last (List.forall_mem_cons.2 ⟨eqv_last _, List.forall_mem_cons.2 ⟨eqv_last _, List.forall_mem_cons.2 ⟨eqv_last _, List.forall_mem_cons.2 ⟨eqv_last _, List.forall_mem_cons.2 ⟨One8_last _, List.forall_mem_cons.2 ⟨eqv_last _, List.forall_mem_cons.2 ⟨eqv_last _, List.forall_mem_cons.2 ⟨eqv_last _, List.forall_mem_cons.2 ⟨eqv_last _, List.forall_mem_cons.2 ⟨eqv_last _, List.forall_mem_cons.2 ⟨eqv_last _, fun _ h => (List.not_mem_nil h).elim⟩⟩⟩⟩⟩⟩⟩⟩⟩⟩⟩)) (TL_no_guard (by kernel_rfl)) ?_ ?_
  · intro ix o ho a W hB hdep hfix
    match ix, ho with
    | 0, ho =>
      simp only [List.getElem?_cons_zero, Option.some.injEq] at ho; subst ho
      exact lays_eq _ rfl (exec_move (hfix 13 (by decide +kernel)))
    | 1, ho =>
      simp only [List.getElem?_cons_zero, List.getElem?_cons_succ, Option.some.injEq] at ho; subst ho
      exact lays_eq _ rfl (exec_move (hfix 3 (by decide +kernel)))
    | 2, ho =>
      simp only [List.getElem?_cons_zero, List.getElem?_cons_succ, Option.some.injEq] at ho; subst ho
      exact lays_eq _ rfl (exec_move (hfix 4 (by decide +kernel)))
    | 3, ho =>
      simp only [List.getElem?_cons_zero, List.getElem?_cons_succ, Option.some.injEq] at ho; subst ho
      have e1 : a.tmps.getD 43 undef = .int .i64 (v : Int) := hdep 2 _ 43 rfl rfl (by decide +kernel)
      exact lays_eq _ rfl (exec_cv e1 (HV.out W))
    | 4, ho =>
      simp only [List.getElem?_cons_zero, List.getElem?_cons_succ, Option.some.injEq] at ho; subst ho
      have e1 : a.tmps.getD 44 undef = .int .u8 (v : Int) := hdep 3 _ 44 rfl rfl (by decide +kernel)
      exact lays_value (v := .slice (some ⟨W.heap.size, 0, none⟩) 1 1) (W' := W.alloc (.cells #[.int .u8 (v : Int)] 5)) (exec_bs56 e1) ((Below.refl _ W).alloc (Nat.le_refl _) _) ⟨_, rfl, by simp, heap_alloc_new W _⟩
    | 5, ho =>
      simp only [List.getElem?_cons_zero, List.getElem?_cons_succ, Option.some.injEq] at ho; subst ho
      have e1 : One8 v (a.tmps.getD 45 undef) W := hdep 4 _ 45 rfl rfl (by decide +kernel)
      obtain ⟨b, eb, hlt, hbk⟩ := e1
      exact lays_eq _ rfl (exec_cv eb (conv_at hbk))
    | 6, ho =>
      simp only [List.getElem?_cons_zero, List.getElem?_cons_succ, Option.some.injEq] at ho; subst ho
      have e1 : a.tmps.getD 42 undef = .string id := hdep 1 _ 42 rfl rfl (by decide +kernel)
      have e2 : a.tmps.getD 46 undef = .string { data := #[UInt8.ofNat v] } := hdep 5 _ 46 rfl rfl (by decide +kernel)
      exact lays_eq _ rfl (exec_sadd e1 e2 (HSA.out W))
    | 7, ho =>
      simp only [List.getElem?_cons_zero, List.getElem?_cons_succ, Option.some.injEq] at ho; subst ho
      exact lays_eq _ rfl (exec_move (hfix 14 (by decide +kernel)))
    | 8, ho =>
      simp only [List.getElem?_cons_zero, List.getElem?_cons_succ, Option.some.injEq] at ho; subst ho
      have e1 : a.tmps.getD 41 undef = .string r.1 := hdep 0 _ 41 rfl rfl (by decide +kernel)
      exact lays_eq _ rfl (exec_assign e1)
    | 9, ho =>
      simp only [List.getElem?_cons_zero, List.getElem?_cons_succ, Option.some.injEq] at ho; subst ho
      have e1 : a.tmps.getD 47 undef = .string i := hdep 6 _ 47 rfl rfl (by decide +kernel)
      exact lays_eq _ rfl (exec_assign e1)
    | 10, ho =>
      simp only [List.getElem?_cons_zero, List.getElem?_cons_succ, Option.some.injEq] at ho; subst ho
      have e1 : a.tmps.getD 48 undef = .int .i64 r.2 := hdep 7 _ 48 rfl rfl (by decide +kernel)
      exact lays_eq _ rfl (exec_assign e1)
    | ix + 11, ho => simp at ho
  · intro a W hB hd hsz hfix hT
    have f10 : a.tmps.getD 10 undef = .string r.1 := hT 8 _ 10 rfl rfl
    have f11 : a.tmps.getD 11 undef = .string i := hT 9 _ 11 rfl rfl
    have f12 : a.tmps.getD 12 undef = .int .i64 r.2 := hT 10 _ 12 rfl rfl
    rw [frame_lit a 49 hsz hd]
    clear hfix hT hsz hd
    simp only [List.range, List.range.loop, List.map]
    generalize a.tmps = t at *
    simp only [f10, f11, f12]
    clear f10 f11 f12
    have HB := Lib.hid (hb2.out.trans (hB.mono hb2.out.size))
    clear hB hb2 HSA HV
    go_wp2
    refine bodyPost_ret (v := .tuple #[.string r.1, .string i, .int .i64 r.2]) (by simp [results, Tryz.results28, go_sem]) rfl ?_
    exact HQ.out _ HB.out
end Go.Proofs.YtbiadmhomadflaaGreatDoor
namespace Go.Proofs.YtbiadmhomadflaaGreatDoor
open Go.RowKit Go.Own Go.Own.Fr
variable {Rt : World → Prop} {wA uA : ByteArray → ByteArray → ByteArray → ByteArray × Int} {dA : ByteArray → ByteArray → ByteArray → ByteArray}
theorem add_b (s : ByteArray) (h : s.size ≤ 1000) (W : World) : (Op.stringOp .add { data := #[98] } s).run Tryz.prog W = .ok (.string (bS ++ s)) W :=
  run_string_add_sum W _ _ (by show 1 + s.size ≤ _; omega)
set_option maxRecDepth 100000 in
set_option maxHeartbeats 1000000 in
theorem rbacking_any (H : Under Rt wA uA dA) (root dom id d : ByteArray) (hd0 : d.size ≤ 1000) (n v : Int) (w : World) :
    Calls Tryz.prog 10 #[.string root, .int .i64 n, .string dom, .string id, .int .i64 v, .string d] w fun e w' => e = .returned (.tuple #[.string (bakA wA uA dA root n dom id v d).1, .int .i64 (bakA wA uA dA root n dom id v d).2]) ∧ Below w.heap.size w w' := by
  have HA := Lib.hid (asked_any H root dom id n v w)
  unfold AskQ at HA
  by_cases h0 : (abvA uA root n dom id v).2 = 0
  case neg =>
    have hA : bakA wA uA dA root n dom id v d = ({ data := #[] }, (abvA uA root n dom id v).2) := if_neg h0
    rw [hA]
    obtain ⟨⟨s, z⟩, hq⟩ : ∃ q, abvA uA root n dom id v = q := ⟨_, rfl⟩
    rw [hq] at HA h0 ⊢
    have hz := int_ne h0
    simp only at HA ⊢ hz
    clear hA hq H h0 hd0
    go_enter Tryz.func10, Tryz.ntmps10
    go_wp2_with fail
    refine HA.out.mono ?_
    rintro e w' ⟨nm, rfl, _, hb⟩
    replace hb := Lib.hid hb
    go_wp2
    go_ret2
    exact ⟨rfl, hb.out⟩
  have hA : bakA wA uA dA root n dom id v d = wA (abvA uA root n dom id v).1 (bS ++ infoB id v.toNat) (dA backS d (infoB id v.toNat)) := if_pos h0
  obtain ⟨hv1, hv2, hv3, hi⟩ := abvA_ok h0
  rw [hA]
  clear hA
  obtain ⟨⟨s, z⟩, hq⟩ : ∃ q, abvA uA root n dom id v = q := ⟨_, rfl⟩
  rw [hq] at HA h0 ⊢
  simp only at HA h0 ⊢
  subst h0
  clear hq
  have his : (infoB id v.toNat).size ≤ 1000 := by rw [infoB_size]; omega
  have HD := Lib.hid (fun W => rderived_any H backS d (infoB id v.toNat) (by decide) hd0 his W)
  have HM := Lib.hid (fun W => H.rwrap s (bS ++ infoB id v.toNat) (dA backS d (infoB id v.toNat)) W)
  have HB := Lib.hid (add_b (infoB id v.toNat) his)
  rw [show backS = { data := #[98, 97, 99, 107, 105, 110, 103] } from rfl] at HD HM ⊢
  generalize dA { data := #[98, 97, 99, 107, 105, 110, 103] } d (infoB id v.toNat) = k at *
  generalize infoB id v.toNat = i at *
  generalize bS ++ i = nm at *
  generalize wA s nm k = r at *
  clear hv1 hv2 hv3 hi his hd0 H
  have HB2 := HB.out
  go_enter Tryz.func10, Tryz.ntmps10
  go_wp2_with fail
  refine HA.out.mono ?_
  rintro e w' ⟨nm2, rfl, hnm, hb⟩
  obtain rfl := hnm trivial
  replace hb := Lib.hid hb
  clear HA hnm
  go_wp2_with fail
  refine (HD.out _).mono ?_
  rintro e w3 ⟨rfl, hb3⟩
  replace hb3 := Lib.hid (hb.out.trans (hb3.mono hb.out.size))
  clear hb
  go_wp2_with fail
  refine (HM.out _).mono ?_
  rintro e w4 ⟨rfl, hb4⟩
  replace hb4 := Lib.hid (hb3.out.trans (hb4.mono hb3.out.size))
  go_wp2
  go_ret2
  exact ⟨rfl, hb4.out⟩
set_option maxRecDepth 100000 in
set_option maxHeartbeats 1000000 in
theorem rkey_any (H : Under Rt wA uA dA) (root dom id d : ByteArray) (n v : Int) (w : World) :
    Calls Tryz.prog 12 #[.string root, .int .i64 n, .string dom, .string id, .int .i64 v, .string d] w fun e w' => e = .returned (.tuple #[.string (keyA uA root n dom id v d).1, .int .i64 (keyA uA root n dom id v d).2]) ∧ Below w.heap.size w w' := by
  have HA := Lib.hid (asked_any H root dom id n v w)
  unfold AskQ at HA
  by_cases h0 : (abvA uA root n dom id v).2 = 0
  case neg =>
    have hA : keyA uA root n dom id v d = ({ data := #[] }, (abvA uA root n dom id v).2) := if_neg h0
    rw [hA]
    obtain ⟨⟨s, z⟩, hq⟩ : ∃ q, abvA uA root n dom id v = q := ⟨_, rfl⟩
    rw [hq] at HA h0 ⊢
    have hz := int_ne h0
    simp only at HA ⊢ hz
    clear hA hq H h0
    go_enter Tryz.func12, Tryz.ntmps12
    go_wp2_with fail
    refine HA.out.mono ?_
    rintro e w' ⟨nm, rfl, _, hb⟩
    replace hb := Lib.hid hb
    go_wp2
    go_ret2
    exact ⟨rfl, hb.out⟩
  have hA : keyA uA root n dom id v d = uA (abvA uA root n dom id v).1 (bS ++ infoB id v.toNat) d := if_pos h0
  obtain ⟨hv1, hv2, hv3, hi⟩ := abvA_ok h0
  rw [hA]
  clear hA
  obtain ⟨⟨s, z⟩, hq⟩ : ∃ q, abvA uA root n dom id v = q := ⟨_, rfl⟩
  rw [hq] at HA h0 ⊢
  simp only at HA h0 ⊢
  subst h0
  clear hq
  have his : (infoB id v.toNat).size ≤ 1000 := by rw [infoB_size]; omega
  have HM := Lib.hid (fun W => H.runwrap s (bS ++ infoB id v.toNat) d W)
  have HB := Lib.hid (add_b (infoB id v.toNat) his)
  generalize infoB id v.toNat = i at *
  generalize bS ++ i = nm at *
  generalize uA s nm d = r at *
  clear hv1 hv2 hv3 hi his H
  have HB2 := HB.out
  go_enter Tryz.func12, Tryz.ntmps12
  go_wp2_with fail
  refine HA.out.mono ?_
  rintro e w' ⟨nm2, rfl, hnm, hb⟩
  obtain rfl := hnm trivial
  replace hb := Lib.hid hb
  clear HA hnm
  go_wp2_with fail
  refine (HM.out _).mono ?_
  rintro e w4 ⟨rfl, hb4⟩
  replace hb4 := Lib.hid (hb.out.trans (hb4.mono hb.out.size))
  go_wp2
  go_ret2
  exact ⟨rfl, hb4.out⟩
set_option maxRecDepth 100000 in
set_option maxHeartbeats 1000000 in
theorem rrewrap_any (H : Under Rt wA uA dA) (root dom other id d : ByteArray) (n m v : Int) (w : World) :
    Calls Tryz.prog 14 #[.string root, .int .i64 n, .string dom, .int .i64 m, .string other, .string id, .int .i64 v, .string d] w fun e w' => e = .returned (.tuple #[.string (rewA wA uA root n dom m other id v d).1, .int .i64 (rewA wA uA root n dom m other id v d).2]) ∧ Below w.heap.size w w' := by
  have HK := Lib.hid (rkey_any H root dom id d n v w)
  by_cases hk : (keyA uA root n dom id v d).2 = 0
  case neg =>
    have hA : rewA wA uA root n dom m other id v d = ({ data := #[] }, (keyA uA root n dom id v d).2) := if_neg hk
    rw [hA]
    obtain ⟨⟨s, z⟩, hq⟩ : ∃ q, keyA uA root n dom id v d = q := ⟨_, rfl⟩
    rw [hq] at HK hk ⊢
    have hz := int_ne hk
    simp only at HK ⊢ hz
    clear hA hq H hk
    go_enter Tryz.func14, Tryz.ntmps14
    go_wp2_with fail
    refine HK.out.mono ?_
    rintro e w' ⟨rfl, hb⟩
    replace hb := Lib.hid hb
    go_wp2
    go_ret2
    exact ⟨rfl, hb.out⟩
  have HA := Lib.hid (fun w' => asked_any H root other id m v w')
  unfold AskQ at HA
  by_cases h0 : (abvA uA root m other id v).2 = 0
  case neg =>
    have hA : rewA wA uA root n dom m other id v d = ({ data := #[] }, (abvA uA root m other id v).2) := by
      unfold rewA; rw [if_pos hk, if_neg h0]
    rw [hA]
    obtain ⟨⟨s, z⟩, hq⟩ : ∃ q, abvA uA root m other id v = q := ⟨_, rfl⟩
    rw [hq] at HA h0 ⊢
    obtain ⟨⟨s2, z2⟩, hq2⟩ : ∃ q, keyA uA root n dom id v d = q := ⟨_, rfl⟩
    rw [hq2] at HK hk
    have hz := int_ne h0
    simp only at HA HK ⊢ hz hk
    subst hk
    clear hA hq hq2 H h0
    go_enter Tryz.func14, Tryz.ntmps14
    go_wp2_with fail
    refine HK.out.mono ?_
    rintro e w' ⟨rfl, hb⟩
    replace hb := Lib.hid hb
    go_wp2_with fail
    refine (HA.out _).mono ?_
    rintro e w2 ⟨nm, rfl, _, hb2⟩
    replace hb2 := Lib.hid (hb.out.trans (hb2.mono hb.out.size))
    go_wp2
    go_ret2
    exact ⟨rfl, hb2.out⟩
  have hA : rewA wA uA root n dom m other id v d = wA (abvA uA root m other id v).1 (bS ++ infoB id v.toNat) (keyA uA root n dom id v d).1 := by
    unfold rewA; rw [if_pos hk, if_pos h0]
  obtain ⟨hv1, hv2, hv3, hi⟩ := abvA_ok h0
  rw [hA]
  clear hA
  obtain ⟨⟨s, z⟩, hq⟩ : ∃ q, abvA uA root m other id v = q := ⟨_, rfl⟩
  rw [hq] at HA h0 ⊢
  obtain ⟨⟨s2, z2⟩, hq2⟩ : ∃ q, keyA uA root n dom id v d = q := ⟨_, rfl⟩
  rw [hq2] at HK hk ⊢
  simp only at HA HK h0 hk ⊢
  subst h0 hk
  clear hq hq2
  have his : (infoB id v.toNat).size ≤ 1000 := by rw [infoB_size]; omega
  have HM := Lib.hid (fun W => H.rwrap s (bS ++ infoB id v.toNat) s2 W)
  have HB := Lib.hid (add_b (infoB id v.toNat) his)
  generalize infoB id v.toNat = i at *
  generalize bS ++ i = nm at *
  generalize wA s nm s2 = r at *
  clear hv1 hv2 hv3 hi his H
  have HB2 := HB.out
  go_enter Tryz.func14, Tryz.ntmps14
  go_wp2_with fail
  refine HK.out.mono ?_
  rintro e w' ⟨rfl, hb⟩
  replace hb := Lib.hid hb
  clear HK
  go_wp2_with fail
  refine (HA.out _).mono ?_
  rintro e w1 ⟨nm2, rfl, hnm, hb1⟩
  obtain rfl := hnm trivial
  replace hb1 := Lib.hid (hb.out.trans (hb1.mono hb.out.size))
  clear HA hb hnm
  go_wp2_with fail
  refine (HM.out _).mono ?_
  rintro e w4 ⟨rfl, hb4⟩
  replace hb4 := Lib.hid (hb1.out.trans (hb4.mono hb1.out.size))
  go_wp2
  go_ret2
  exact ⟨rfl, hb4.out⟩
end Go.Proofs.YtbiadmhomadflaaGreatDoor
namespace Go.Proofs.YtbiadmhomadflaaGreatDoor
open Go.RowKit Go.Own Go.Own.Fr
def askV (n m v : Int) (d o i x r : ByteArray) : Value := .agg #[.int .i64 n, .int .i64 m, .int .i64 v, .string d, .string o, .string i, .string x, .string r]
def fewB (d o i x r : ByteArray) : Bool := decide (d.size ≤ 100 ∧ o.size ≤ 100 ∧ i.size ≤ 100 ∧ x.size ≤ 100 ∧ r.size ≤ 500)
set_option maxRecDepth 100000 in
set_option maxHeartbeats 1000000 in
theorem few_any (n m v : Int) (d o i x r : ByteArray) (w : World) :
    Calls Tryz.prog 5 #[askV n m v d o i x r] w fun e w' => e = .returned (.bool (fewB d o i x r)) ∧ Below w.heap.size w w' := by
  have hb := Lib.hid ((Below.refl _ w).alloc (Nat.le_refl _) (.cells #[.int .i64 n, .int .i64 m, .int .i64 v, .string d, .string o, .string i, .string x, .string r] 23))
  have hs : (fewB d o i x r = false ∧ (100 < (d.size : Int) ∨ (¬ 100 < (d.size : Int) ∧ 100 < (o.size : Int)) ∨ (¬ 100 < (d.size : Int) ∧ ¬ 100 < (o.size : Int) ∧ 100 < (i.size : Int)) ∨ (¬ 100 < (d.size : Int) ∧ ¬ 100 < (o.size : Int) ∧ ¬ 100 < (i.size : Int) ∧ 100 < (x.size : Int)) ∨ (¬ 100 < (d.size : Int) ∧ ¬ 100 < (o.size : Int) ∧ ¬ 100 < (i.size : Int) ∧ ¬ 100 < (x.size : Int) ∧ 500 < (r.size : Int)))) ∨
      (fewB d o i x r = true ∧ (¬ 100 < (d.size : Int) ∧ ¬ 100 < (o.size : Int) ∧ ¬ 100 < (i.size : Int) ∧ ¬ 100 < (x.size : Int) ∧ ¬ 500 < (r.size : Int))) := by
    unfold fewB
    by_cases h : d.size ≤ 100 ∧ o.size ≤ 100 ∧ i.size ≤ 100 ∧ x.size ≤ 100 ∧ r.size ≤ 500
    · exact Or.inr ⟨decide_eq_true h, by omega⟩
    · exact Or.inl ⟨decide_eq_false h, by omega⟩
  unfold askV
  rcases hs with ⟨hF, h1 | ⟨h1, h2⟩ | ⟨h1, h2, h3⟩ | ⟨h1, h2, h3, h4⟩ | ⟨h1, h2, h3, h4, h5⟩⟩ | ⟨hF, h1, h2, h3, h4, h5⟩
  all_goals
    rw [hF]
    clear hF
    go_enter Tryz.func5, Tryz.ntmps5
    go_wp2
    go_ret
    first
      | exact ⟨rfl, hb.out⟩
      | exact ⟨by rw [show decide ((r.size : Int) ≤ 500) = false from decide_eq_false (by omega)]; rfl, hb.out⟩
      | exact ⟨by rw [show decide ((r.size : Int) ≤ 500) = true from decide_eq_true (by omega)]; rfl, hb.out⟩
theorem cell_of {W : World} {b : Nat} {c : Array Value} {t : TypeId} (h : W.heap[b]? = some (.cells c t (0, 0))) (j : Nat) : W.cell? ⟨b, j, none⟩ = c[j]? := by
  simp only [World.cell?, h, Option.isSome_none, Bool.false_eq_true, if_false]
theorem ld_eight (W : World) {b : Nat} {c0 c1 c2 c3 c4 c5 c6 c7 : Value} {t : TypeId} (h : W.heap[b]? = some (.cells #[c0, c1, c2, c3, c4, c5, c6, c7] t (0, 0))) :
    (Instr.loadAt 23 (.pointer (some ⟨b, 0, none⟩))).run Tryz.prog W = .ok (.agg #[c0, c1, c2, c3, c4, c5, c6, c7]) W := by
  have hl := run_loadCells_list (P := Tryz.prog) W ⟨b, 0, none⟩ [c0, c1, c2, c3, c4, c5, c6, c7] (fun j u hu => by
    rw [show (⟨b, 0, none⟩ : Addr).add j = ⟨b, j, none⟩ by unfold Addr.add; split <;> simp_all, cell_of h]
    simpa using hu)
  simp only [List.length_cons, List.length_nil, Nat.zero_add, Nat.reduceAdd] at hl
  have ha : (isAgg 23).run Tryz.prog W = .ok true W := by kernel_rfl
  simp [Instr.loadAt, Instr.sureAddr, loadVar, ha, hl]
variable {Rt : World → Prop} {wA uA : ByteArray → ByteArray → ByteArray → ByteArray × Int} {dA : ByteArray → ByteArray → ByteArray → ByteArray}
def idS : ByteArray := { data := #[105, 100] }
def drawS : ByteArray := { data := #[100, 114, 97, 119] }
def otherS2 : ByteArray := { data := #[111, 116, 104, 101, 114] }
def moreS : ByteArray := { data := #[109, 111, 114, 101] }
def xS : ByteArray := { data := #[120] }
/-- What the examples ask of the answers. -/
structure Wake (wA uA : ByteArray → ByteArray → ByteArray → ByteArray × Int) (dA : ByteArray → ByteArray → ByteArray → ByteArray) (rt d o b k l w : ByteArray) : Prop where
  rs : rt.size = 32
  d1 : domA wA dA rt 1 drawS = (d, 0)
  ds : d.size = 60
  o1 : domA wA dA rt 2 otherS2 = (o, 0)
  b1 : bakA wA uA dA rt 1 d idS 1 moreS = (b, 0)
  bs : b.size = 60
  k1 : keyA uA rt 1 d idS 1 b = (k, 0)
  ks : k.size = 32
  l1 : keyA uA rt 1 d idS 2 b = (l, 8)
  w1 : rewA wA uA rt 1 d 2 o idS 1 b = (w, 0)
  n1 : keyA uA rt 2 o idS 1 w = (k, 0)
  ne : w ≠ b
  xs : (dA dataS xS { data := #[] }).size = 32
theorem str_ne (X Y : ByteArray) (h : X ≠ Y) : (X.toList == Y.toList) = false ∧ ¬ X.toList = Y.toList := by
  refine (fun hx => ⟨beq_eq_false_iff_ne.2 hx, hx⟩) ?_
  intro h2
  rw [ByteArray.toList_eq, ByteArray.toList_eq] at h2
  exact h (ByteArray.ext (Array.toList_inj.1 h2))
set_option maxRecDepth 100000 in
set_option maxHeartbeats 4000000 in
theorem awake_of (H : Under Rt wA uA dA) (rt d o b k l x : ByteArray) (A : Wake wA uA dA rt d o b k l x) (w : World) (hR : Rt w)
    (HC : ∀ W, Calls Tryz.prog 17 #[.int .u8 0, .int .i64 32] W fun e w' => e = .returned (.string rt) ∧ Below W.heap.size W w') :
    Calls Tryz.prog 4 #[] w fun e w' => e = .returned (.bool true) ∧ Below w.heap.size w w' := by
  have hN := Lib.hid (fun W => rnew_ok rt A.rs W)
  have hE := Lib.hid (fun W => rnew_bad { data := #[] } (by decide) W)
  have hD := Lib.hid (fun rb W h1 h2 => A.d1 ▸ domain_any H rt drawS (by decide) 1 rb W h1 h2)
  have hO := Lib.hid (fun rb W h1 h2 => A.o1 ▸ domain_any H rt otherS2 (by decide) 2 rb W h1 h2)
  have hB := Lib.hid (fun rb W h1 h2 => A.b1 ▸ backing_any H rt d idS moreS (by decide) 1 1 rb W h1 h2)
  have hK := Lib.hid (fun rb W h1 h2 => A.k1 ▸ key_any H rt d idS b 1 1 rb W h1 h2)
  have hL := Lib.hid (fun rb W h1 h2 => A.l1 ▸ key_any H rt d idS b 1 2 rb W h1 h2)
  have hW := Lib.hid (fun rb W h1 h2 => A.w1 ▸ rewrap_any H rt d o idS b 1 2 1 rb W h1 h2)
  have hN2 := Lib.hid (fun rb W h1 h2 => A.n1 ▸ key_any H rt o idS x 2 1 rb W h1 h2)
  have hX := Lib.hid (fun W h1 => data_any H xS (by decide) W h1)
  have hxs : ((dA dataS xS { data := #[] }).size : Int) = 32 := by rw [A.xs]; rfl
  have hds : (d.size : Int) = 60 := by rw [A.ds]; rfl
  have hbs : (b.size : Int) = 60 := by rw [A.bs]; rfl
  have hks : (k.size : Int) = 32 := by rw [A.ks]; rfl
  have hne := (str_ne x b A.ne).1
  have hkk : (k.toList == k.toList) = true := beq_self_eq_true _
  have HR := Lib.hid hR
  have HL := Lib.hid H.last
  replace HC := Lib.hid HC
  generalize dA dataS xS { data := #[] } = xd at *
  clear A H hR
  simp only [idS, drawS, otherS2, moreS, xS] at hD hO hB hK hL hW hN2 hX
  go_enter Tryz.func4, Tryz.ntmps4
  go_wp2_with fail
  refine (HC.out _).mono ?_
  rintro e w0 ⟨rfl, hb⟩
  replace hb := Lib.hid hb
  clear HC
  go_wp2_with fail
  refine (hN.out _).mono ?_
  rintro e w1 ⟨rb, rfl, hb1, hg⟩
  replace hg := Lib.hid hg
  replace hb1 := Lib.hid (hb.out.trans (hb1.mono hb.out.size))
  clear hN hb
  go_wp2_with fail
  refine (hE.out _).mono ?_
  rintro e w' ⟨rfl, rfl⟩
  clear hE
  go_wp2_with fail
  refine (hD.out rb w1 (HL.out _ _ HR.out hb1.out) hg.out).mono ?_
  rintro e w2 ⟨rfl, hb2⟩
  replace hg := Lib.hid (hg.out.last hb2)
  replace hb2 := Lib.hid (hb1.out.trans (hb2.mono hb1.out.size))
  clear hb1 hD
  have hb1 := hb2
  clear hb2
  go_wp2_with fail
  refine (hO.out rb w2 (HL.out _ _ HR.out hb1.out) hg.out).mono ?_
  rintro e w3 ⟨rfl, hb2⟩
  replace hg := Lib.hid (hg.out.last hb2)
  replace hb2 := Lib.hid (hb1.out.trans (hb2.mono hb1.out.size))
  clear hb1 hO
  have hb1 := hb2
  clear hb2
  go_wp2_with fail
  refine (hB.out rb w3 (HL.out _ _ HR.out hb1.out) hg.out).mono ?_
  rintro e w4 ⟨rfl, hb2⟩
  replace hg := Lib.hid (hg.out.last hb2)
  replace hb2 := Lib.hid (hb1.out.trans (hb2.mono hb1.out.size))
  clear hb1 hB
  have hb1 := hb2
  clear hb2
  go_wp2_with fail
  refine (hK.out rb w4 (HL.out _ _ HR.out hb1.out) hg.out).mono ?_
  rintro e w5 ⟨rfl, hb2⟩
  replace hg := Lib.hid (hg.out.last hb2)
  replace hb2 := Lib.hid (hb1.out.trans (hb2.mono hb1.out.size))
  clear hb1 hK
  have hb1 := hb2
  clear hb2
  go_wp2_with fail
  refine (hL.out rb w5 (HL.out _ _ HR.out hb1.out) hg.out).mono ?_
  rintro e w6 ⟨rfl, hb2⟩
  replace hg := Lib.hid (hg.out.last hb2)
  replace hb2 := Lib.hid (hb1.out.trans (hb2.mono hb1.out.size))
  clear hb1 hL
  have hb1 := hb2
  clear hb2
  go_wp2_with fail
  refine (hW.out rb w6 (HL.out _ _ HR.out hb1.out) hg.out).mono ?_
  rintro e w7 ⟨rfl, hb2⟩
  replace hg := Lib.hid (hg.out.last hb2)
  replace hb2 := Lib.hid (hb1.out.trans (hb2.mono hb1.out.size))
  clear hb1 hW
  have hb1 := hb2
  clear hb2
  go_wp2_with fail
  refine (hN2.out rb w7 (HL.out _ _ HR.out hb1.out) hg.out).mono ?_
  rintro e w8 ⟨rfl, hb2⟩
  replace hg := Lib.hid (hg.out.last hb2)
  replace hb2 := Lib.hid (hb1.out.trans (hb2.mono hb1.out.size))
  clear hb1 hN2
  have hb1 := hb2
  clear hb2
  go_wp2_with fail
  refine (hX.out w8 (HL.out _ _ HR.out hb1.out)).mono ?_
  rintro e w9 ⟨rfl, hb2⟩
  replace hb2 := Lib.hid (hb1.out.trans (hb2.mono hb1.out.size))
  go_wp2
  go_ret
  exact ⟨rfl, hb2.out⟩
end Go.Proofs.YtbiadmhomadflaaGreatDoor
namespace Go.Own
open Go Go.RowKit Go.Own.Fr
theorem TL_guard {hd : List Oper} {ps : List (Value → World → Prop)} (gs : List Nat) (h : hd.all (fun o => match o.guard with | none => true | some (j, b) => b && gs.contains j) = true) (hp : ∀ j ∈ gs, ps.getD j (fun _ _ => True) = eqv (.bool true)) :
    ∀ (i : Nat) (o : Oper) j b, hd[i]? = some o → o.guard = some (j, b) → ∀ v W, TL ps j v W → v = .bool b := fun i o j b ho hg v W hT => by
  have h1 := List.all_eq_true.1 h o (List.mem_of_getElem? ho)
  rw [hg] at h1
  simp only [Bool.and_eq_true, List.contains_iff_mem] at h1
  unfold TL at hT
  rw [hp j h1.2] at hT
  rw [h1.1]
  exact hT
section
variable {P : Program} {ρ : Operand → Value} {W : World} {dst : Option Tmp} {ty : TypeId} {pos : String} {after : Array Edge} {guard : Option (Nat × Bool)} {v r : Value} {x y : Operand}
theorem exec_seq {s : ByteArray} {T U : TypeId} (h1 : ρ x = .string s) (h2 : ρ y = .string s) : (execOp ρ { dst, op := .binOp .eql T x y U, type := ty, pos, after, guard }).run P W = .ok (.value (.bool true)) W := by
  simp [execOp, h1, h2, go_sem]
theorem exec_ieq {z : Int} {T U : TypeId} (h1 : ρ x = .int .i64 z) (h2 : ρ y = .int .i64 z) : (execOp ρ { dst, op := .binOp .eql T x y U, type := ty, pos, after, guard }).run P W = .ok (.value (.bool true)) W := by
  simp [execOp, h1, h2, go_sem]
theorem exec_pk {c : Value} (h1 : ρ x = .bool true) (h2 : ρ y = .bool true) : (execOp ρ { dst, op := .pick x y (.const c), type := ty, pos, after, guard }).run P W = .ok (.value (.bool true)) W := by
  simp [execOp, h1, h2, go_sem]
end
end Go.Own
namespace Go.Proofs.YtbiadmhomadflaaGreatDoor
open Go.RowKit Go.Own Go.Own.Fr
theorem fld23 (b : Nat) (W : World) : (Instr.fieldAt 23 (.pointer (some ⟨b, 0, none⟩)) 7).run Tryz.prog W = .ok (.pointer (some ⟨b, 7, none⟩)) W := by
  simp [Instr.fieldAt, go_sem]
theorem ld9_7 {b : Nat} {W : World} {s : ByteArray} (c0 : W.cell? ⟨b, 7, none⟩ = some (.string s)) : (Instr.loadAt 9 (.pointer (some ⟨b, 7, none⟩))).run Tryz.prog W = .ok (.string s) W := by
  simp [Instr.loadAt, go_sem, c0]
variable {Rt : World → Prop} {wA uA : ByteArray → ByteArray → ByteArray → ByteArray × Int} {dA : ByteArray → ByteArray → ByteArray → ByteArray}
def askC (n m v : Int) (d o i x r : ByteArray) : Array Value := #[.int .i64 n, .int .i64 m, .int .i64 v, .string d, .string o, .string i, .string x, .string r]
/-- The law's argument in its box. -/
def AskAt (xb : Nat) (n m v : Int) (d o i x r : ByteArray) (w : World) : Prop := xb < w.heap.size ∧ w.heap[xb]? = some (.cells (askC n m v d o i x r) 23 (0, 0))
theorem AskAt.last {xb : Nat} {n m v : Int} {d o i x r : ByteArray} {w w' : World} (h : AskAt xb n m v d o i x r w) (hB : Below w.heap.size w w') : AskAt xb n m v d o i x r w' := ⟨Nat.lt_of_lt_of_le h.1 hB.size, (hB.block xb h.1).trans h.2⟩
theorem AskAt.cells {xb : Nat} {n m v : Int} {d o i x r : ByteArray} {w : World} (h : AskAt xb n m v d o i x r w) :
    w.cell? ⟨xb, 0, none⟩ = some (.int .i64 n) ∧ w.cell? ⟨xb, 1, none⟩ = some (.int .i64 m) ∧ w.cell? ⟨xb, 2, none⟩ = some (.int .i64 v) ∧ w.cell? ⟨xb, 3, none⟩ = some (.string d) ∧ w.cell? ⟨xb, 4, none⟩ = some (.string o) ∧ w.cell? ⟨xb, 5, none⟩ = some (.string i) ∧ w.cell? ⟨xb, 6, none⟩ = some (.string x) ∧ w.cell? ⟨xb, 7, none⟩ = some (.string r) :=
  ⟨cell_of h.2 0, cell_of h.2 1, cell_of h.2 2, cell_of h.2 3, cell_of h.2 4, cell_of h.2 5, cell_of h.2 6, cell_of h.2 7⟩
set_option maxRecDepth 100000 in
set_option maxHeartbeats 4000000 in
theorem tells_of (H : Under Rt wA uA dA) (HAW : ∀ W, Rt W → Calls Tryz.prog 4 #[] W fun e w' => e = .returned (.bool true) ∧ Below W.heap.size W w')
    (root : ByteArray) (n m v : Int) (d o i x r : ByteArray) (w : World) (hR : Rt w) :
    Calls Tryz.prog 3 #[.string root, askV n m v d o i x r] w fun e w' => e = .returned (.bool true) ∧ Below w.heap.size w w' := by
  obtain ⟨W0, hW0⟩ : ∃ W0, w.alloc (.cells #[.int .i64 n, .int .i64 m, .int .i64 v, .string d, .string o, .string i, .string x, .string r] 23) = W0 := ⟨_, rfl⟩
  have hb0 := Lib.hid (show Below w.heap.size w W0 from hW0 ▸ (Below.refl _ w).alloc (Nat.le_refl _) _)
  have hA0 : Hid (AskAt w.heap.size n m v d o i x r W0) := Lib.hid ⟨by rw [← hW0]; simp, hW0 ▸ heap_alloc_new w _⟩
  have HR := Lib.hid hR
  have HL := Lib.hid H.last
  have HA := Lib.hid HAW
  have HF := Lib.hid (few_any n m v d o i x r)
  generalize hxb : w.heap.size = xb at *
  clear HAW hR
  by_cases hr : 100 < root.size
  case pos =>
    have hri : (100 : Int) < (root.size : Int) := by omega
    clear H hr HF
    unfold askV
    go_enter Tryz.func3, Tryz.ntmps3
    go_wp2_with fail
    refine (HA.out _ (HL.out _ _ HR.out (by rw [hxb]; exact hb0.out))).mono ?_
    rintro e w1 ⟨rfl, hb⟩
    replace hb := Lib.hid (hb0.out.trans (hb.mono (by have := hb0.out.size; omega)))
    go_wp2
    go_ret
    exact ⟨rfl, hb.out⟩
  have hri : ¬ (100 : Int) < (root.size : Int) := by omega
  obtain ⟨fb, hfw⟩ : ∃ fb, fewB d o i x r = fb := ⟨_, rfl⟩
  rw [hfw] at HF
  cases fb with
  | false =>
    clear H hr hfw
    unfold askV at HF ⊢
    go_enter Tryz.func3, Tryz.ntmps3
    go_wp2_with fail
    refine (HA.out _ (HL.out _ _ HR.out (by rw [hxb]; exact hb0.out))).mono ?_
    rintro e w1 ⟨rfl, hb⟩
    have hA1 := Lib.hid (hA0.out.last hb)
    replace hb := Lib.hid (hb0.out.trans (hb.mono (by have := hb0.out.size; omega)))
    obtain ⟨c0, c1, c2, c3, c4, c5, c6, c7⟩ := hA1.out.cells
    go_wp2_with fail
    refine (HF.out _).mono ?_
    rintro e w2 ⟨rfl, hb2⟩
    replace hb2 := Lib.hid (hb.out.trans (hb2.mono (by have := hb.out.size; omega)))
    go_wp2
    go_ret
    exact ⟨rfl, hb2.out⟩
  | true =>
  unfold fewB at hfw
  have hfw := of_decide_eq_true hfw
  by_cases h32 : root.size = 32
  case neg =>
    have hz := h32
    have hN := Lib.hid (fun W => rnew_bad root h32 W)
    have hrz : ((root.size : Int) != 32) = true := by simp; omega
    clear H hr hfw hz h32
    unfold askV at HF ⊢
    go_enter Tryz.func3, Tryz.ntmps3
    go_wp2_with fail
    refine (HA.out _ (HL.out _ _ HR.out (by rw [hxb]; exact hb0.out))).mono ?_
    rintro e w1 ⟨rfl, hb⟩
    have hA1 := Lib.hid (hA0.out.last hb)
    replace hb := Lib.hid (hb0.out.trans (hb.mono (by have := hb0.out.size; omega)))
    obtain ⟨c0, c1, c2, c3, c4, c5, c6, c7⟩ := hA1.out.cells
    go_wp2_with fail
    refine (HF.out _).mono ?_
    rintro e w2 ⟨rfl, hb2⟩
    replace hb2 := Lib.hid (hb.out.trans (hb2.mono (by have := hb.out.size; omega)))
    clear c0 c1 c2 c3 c4 c5 c6 c7
    go_wp2_with fail
    refine (hN.out _).mono ?_
    rintro e w' ⟨rfl, rfl⟩
    go_wp2
    go_ret
    exact ⟨rfl, hb2.out⟩
  have hN := Lib.hid (fun W => rnew_ok root h32 W)
  have hrz : ((root.size : Int) != 32) = false := by simp; omega
  have hD := Lib.hid (fun rb W h1 h2 => domain_any H root r (by omega) n rb W h1 h2)
  have hD2 := Lib.hid (fun W => rdomain_any H root r (by omega) n W)
  have hB := Lib.hid (fun rb W h1 h2 => backing_any H root d i r (by omega) n v rb W h1 h2)
  have hB2 := Lib.hid (fun W => rbacking_any H root d i r (by omega) n v W)
  have hK := Lib.hid (fun rb W h1 h2 => key_any H root d i x n v rb W h1 h2)
  have hK2 := Lib.hid (fun W => rkey_any H root d i x n v W)
  have hW := Lib.hid (fun rb W h1 h2 => rewrap_any H root d o i x n m v rb W h1 h2)
  have hW2 := Lib.hid (fun W => rrewrap_any H root d o i x n m v W)
  have hX := Lib.hid (fun W h1 => data_any H r (by omega) W h1)
  have hX2 := Lib.hid (fun W => rderived_any H dataS r { data := #[] } (by decide) (by omega) (by decide) W)
  rw [show dataS = { data := #[100, 97, 116, 97] } from rfl] at hX hX2
  generalize domA wA dA root n r = a1 at *
  generalize bakA wA uA dA root n d i v r = a2 at *
  generalize keyA uA root n d i v x = a3 at *
  generalize rewA wA uA root n d m o i v x = a4 at *
  generalize dA { data := #[100, 97, 116, 97] } r { data := #[] } = a5 at *
  obtain ⟨s1, z1⟩ := a1
  obtain ⟨s2, z2⟩ := a2
  obtain ⟨s3, z3⟩ := a3
  obtain ⟨s4, z4⟩ := a4
  simp only at hD hD2 hB hB2 hK hK2 hW hW2
  clear H hr hfw h32
  unfold askV at HF ⊢
  go_enter Tryz.func3, Tryz.ntmps3
  go_wp2_with fail
  refine (HA.out _ (HL.out _ _ HR.out (by rw [hxb]; exact hb0.out))).mono ?_
  rintro e w1 ⟨rfl, hb⟩
  have hA1 := Lib.hid (hA0.out.last hb)
  replace hb := Lib.hid (hb0.out.trans (hb.mono (by have := hb0.out.size; omega)))
  clear HA hA0 hb0 hW0
  obtain ⟨c0, c1, c2, c3, c4, c5, c6, c7⟩ := hA1.out.cells
  go_wp2_with fail
  refine (HF.out _).mono ?_
  rintro e w2 ⟨rfl, hb1⟩
  replace hA1 := Lib.hid (hA1.out.last hb1)
  replace hb1 := Lib.hid (hb.out.trans (hb1.mono (by have := hb.out.size; omega)))
  clear HF hb
  clear c0 c1 c2 c3 c4 c5 c6 c7
  go_wp2_with fail
  refine (hN.out _).mono ?_
  rintro e w3 ⟨rb, rfl, hb2, hg⟩
  replace hg := Lib.hid hg
  replace hA1 := Lib.hid (hA1.out.last hb2)
  replace hb2 := Lib.hid (hb1.out.trans (hb2.mono (by have := hb1.out.size; omega)))
  clear hN hb1
  have hb1 := hb2
  clear hb2
  obtain ⟨c0, c1, c2, c3, c4, c5, c6, c7⟩ := hA1.out.cells
  go_wp2_with fail
  refine (hD.out rb _ (HL.out _ _ HR.out (by rw [hxb]; exact hb1.out)) hg.out).mono ?_
  rintro e w4 ⟨rfl, hb2⟩
  replace hg := Lib.hid (hg.out.last hb2)
  replace hA1 := Lib.hid (hA1.out.last hb2)
  replace hb2 := Lib.hid (hb1.out.trans (hb2.mono (by have := hb1.out.size; omega)))
  clear hD hb1
  clear c0 c1 c2 c3 c4 c5 c6 c7
  have hb1 := hb2
  clear hb2
  obtain ⟨c0, c1, c2, c3, c4, c5, c6, c7⟩ := hA1.out.cells
  go_wp2_with fail
  refine (hD2.out _).mono ?_
  rintro e w5 ⟨rfl, hb2⟩
  replace hg := Lib.hid (hg.out.last hb2)
  replace hA1 := Lib.hid (hA1.out.last hb2)
  replace hb2 := Lib.hid (hb1.out.trans (hb2.mono (by have := hb1.out.size; omega)))
  clear hD2 hb1
  clear c0 c1 c2 c3 c4 c5 c6 c7
  have hb1 := hb2
  clear hb2
  obtain ⟨c0, c1, c2, c3, c4, c5, c6, c7⟩ := hA1.out.cells
  go_wp2_with fail
  refine (hB.out rb _ (HL.out _ _ HR.out (by rw [hxb]; exact hb1.out)) hg.out).mono ?_
  rintro e w6 ⟨rfl, hb2⟩
  replace hg := Lib.hid (hg.out.last hb2)
  replace hA1 := Lib.hid (hA1.out.last hb2)
  replace hb2 := Lib.hid (hb1.out.trans (hb2.mono (by have := hb1.out.size; omega)))
  clear hB hb1
  clear c0 c1 c2 c3 c4 c5 c6 c7
  have hb1 := hb2
  clear hb2
  obtain ⟨c0, c1, c2, c3, c4, c5, c6, c7⟩ := hA1.out.cells
  go_wp2_with fail
  refine (hB2.out _).mono ?_
  rintro e w7 ⟨rfl, hb2⟩
  replace hg := Lib.hid (hg.out.last hb2)
  replace hA1 := Lib.hid (hA1.out.last hb2)
  replace hb2 := Lib.hid (hb1.out.trans (hb2.mono (by have := hb1.out.size; omega)))
  clear hB2 hb1
  clear c0 c1 c2 c3 c4 c5 c6 c7
  have hb1 := hb2
  clear hb2
  obtain ⟨c0, c1, c2, c3, c4, c5, c6, c7⟩ := hA1.out.cells
  go_wp2_with fail
  refine (hK.out rb _ (HL.out _ _ HR.out (by rw [hxb]; exact hb1.out)) hg.out).mono ?_
  rintro e w8 ⟨rfl, hb2⟩
  replace hg := Lib.hid (hg.out.last hb2)
  replace hA1 := Lib.hid (hA1.out.last hb2)
  replace hb2 := Lib.hid (hb1.out.trans (hb2.mono (by have := hb1.out.size; omega)))
  clear hK hb1
  clear c0 c1 c2 c3 c4 c5 c6 c7
  have hb1 := hb2
  clear hb2
  obtain ⟨c0, c1, c2, c3, c4, c5, c6, c7⟩ := hA1.out.cells
  go_wp2_with fail
  refine (hK2.out _).mono ?_
  rintro e w9 ⟨rfl, hb2⟩
  replace hg := Lib.hid (hg.out.last hb2)
  replace hA1 := Lib.hid (hA1.out.last hb2)
  replace hb2 := Lib.hid (hb1.out.trans (hb2.mono (by have := hb1.out.size; omega)))
  clear hK2 hb1
  clear c0 c1 c2 c3 c4 c5 c6 c7
  have hb1 := hb2
  clear hb2
  obtain ⟨c0, c1, c2, c3, c4, c5, c6, c7⟩ := hA1.out.cells
  go_wp2_with fail
  refine (hW.out rb _ (HL.out _ _ HR.out (by rw [hxb]; exact hb1.out)) hg.out).mono ?_
  rintro e w10 ⟨rfl, hb2⟩
  replace hg := Lib.hid (hg.out.last hb2)
  replace hA1 := Lib.hid (hA1.out.last hb2)
  replace hb2 := Lib.hid (hb1.out.trans (hb2.mono (by have := hb1.out.size; omega)))
  clear hW hb1
  clear c0 c1 c2 c3 c4 c5 c6 c7
  have hb1 := hb2
  clear hb2
  obtain ⟨c0, c1, c2, c3, c4, c5, c6, c7⟩ := hA1.out.cells
  go_wp2_with fail
  refine (hW2.out _).mono ?_
  rintro e w11 ⟨rfl, hb2⟩
  replace hg := Lib.hid (hg.out.last hb2)
  replace hA1 := Lib.hid (hA1.out.last hb2)
  replace hb2 := Lib.hid (hb1.out.trans (hb2.mono (by have := hb1.out.size; omega)))
  clear hW2 hb1
  clear c0 c1 c2 c3 c4 c5 c6 c7
  have hb1 := hb2
  clear hb2
  go_wp2_with fail
  refine wp_region_fine (TL [eqv (.string s1), eqv (.string s1), eqv (.bool true), eqv (.bool true), eqv (.int .i64 z1), eqv (.int .i64 z1), eqv (.bool true), eqv (.bool true), eqv (.bool true), eqv (.string s2), eqv (.string s2), eqv (.bool true), eqv (.bool true), eqv (.bool true), eqv (.int .i64 z2), eqv (.int .i64 z2), eqv (.bool true), eqv (.bool true), eqv (.bool true), eqv (.string s3), eqv (.string s3), eqv (.bool true), eqv (.bool true), eqv (.bool true), eqv (.int .i64 z3), eqv (.int .i64 z3), eqv (.bool true), eqv (.bool true), eqv (.bool true), eqv (.string s4), eqv (.string s4), eqv (.bool true), eqv (.bool true), eqv (.bool true), eqv (.int .i64 z4), eqv (.int .i64 z4), eqv (.bool true), eqv (.bool true), eqv (.bool true), eqv (.pointer (some ⟨xb, 7, none⟩)), eqv (.string r), eqv (.string a5), eqv (.pointer (some ⟨xb, 7, none⟩)), eqv (.string r), eqv (.string a5), eqv (.bool true), eqv (.bool true), eqv (.bool true)]) (by kernel_rfl) (by kernel_rfl) (TL_last (List.forall_mem_cons.2 ⟨eqv_last _, List.forall_mem_cons.2 ⟨eqv_last _, List.forall_mem_cons.2 ⟨eqv_last _, List.forall_mem_cons.2 ⟨eqv_last _, List.forall_mem_cons.2 ⟨eqv_last _, List.forall_mem_cons.2 ⟨eqv_last _, List.forall_mem_cons.2 ⟨eqv_last _, List.forall_mem_cons.2 ⟨eqv_last _, List.forall_mem_cons.2 ⟨eqv_last _, List.forall_mem_cons.2 ⟨eqv_last _, List.forall_mem_cons.2 ⟨eqv_last _, List.forall_mem_cons.2 ⟨eqv_last _, List.forall_mem_cons.2 ⟨eqv_last _, List.forall_mem_cons.2 ⟨eqv_last _, List.forall_mem_cons.2 ⟨eqv_last _, List.forall_mem_cons.2 ⟨eqv_last _, List.forall_mem_cons.2 ⟨eqv_last _, List.forall_mem_cons.2 ⟨eqv_last _, List.forall_mem_cons.2 ⟨eqv_last _, List.forall_mem_cons.2 ⟨eqv_last _, List.forall_mem_cons.2 ⟨eqv_last _, List.forall_mem_cons.2 ⟨eqv_last _, List.forall_mem_cons.2 ⟨eqv_last _, List.forall_mem_cons.2 ⟨eqv_last _, List.forall_mem_cons.2 ⟨eqv_last _, List.forall_mem_cons.2 ⟨eqv_last _, List.forall_mem_cons.2 ⟨eqv_last _, List.forall_mem_cons.2 ⟨eqv_last _, List.forall_mem_cons.2 ⟨eqv_last _, List.forall_mem_cons.2 ⟨eqv_last _, List.forall_mem_cons.2 ⟨eqv_last _, List.forall_mem_cons.2 ⟨eqv_last _, List.forall_mem_cons.2 ⟨eqv_last _, List.forall_mem_cons.2 ⟨eqv_last _, List.forall_mem_cons.2 ⟨eqv_last _, List.forall_mem_cons.2 ⟨eqv_last _, List.forall_mem_cons.2 ⟨eqv_last _, List.forall_mem_cons.2 ⟨eqv_last _, List.forall_mem_cons.2 ⟨eqv_last _, List.forall_mem_cons.2 ⟨eqv_last _, List.forall_mem_cons.2 ⟨eqv_last _, List.forall_mem_cons.2 ⟨eqv_last _, List.forall_mem_cons.2 ⟨eqv_last _, List.forall_mem_cons.2 ⟨eqv_last _, List.forall_mem_cons.2 ⟨eqv_last _, List.forall_mem_cons.2 ⟨eqv_last _, List.forall_mem_cons.2 ⟨eqv_last _, List.forall_mem_cons.2 ⟨eqv_last _, fun _ h => (List.not_mem_nil h).elim⟩⟩⟩⟩⟩⟩⟩⟩⟩⟩⟩⟩⟩⟩⟩⟩⟩⟩⟩⟩⟩⟩⟩⟩⟩⟩⟩⟩⟩⟩⟩⟩⟩⟩⟩⟩⟩⟩⟩⟩⟩⟩⟩⟩⟩⟩⟩⟩)) (TL_guard [3, 8, 13, 18, 23, 28, 33, 38] (by kernel_rfl) (by intro j hj; simp only [List.mem_cons, List.not_mem_nil, or_false] at hj; rcases hj with rfl | rfl | rfl | rfl | rfl | rfl | rfl | rfl <;> rfl)) ?_ ?_
  · intro ix o ho a W hB' hdep hfix
    match ix, ho with
    | 0, ho =>
      simp only [List.getElem?_cons_zero, Option.some.injEq] at ho; subst ho
      exact lays_eq _ rfl (exec_move (hfix 7 (by decide +kernel)))
    | 1, ho =>
      simp only [List.getElem?_cons_zero, List.getElem?_cons_succ, Option.some.injEq] at ho; subst ho
      exact lays_eq _ rfl (exec_move (hfix 9 (by decide +kernel)))
    | 2, ho =>
      simp only [List.getElem?_cons_zero, List.getElem?_cons_succ, Option.some.injEq] at ho; subst ho
      have e1 : a.tmps.getD 169 undef = .string s1 := hdep 0 _ 169 rfl rfl (by decide +kernel)
      have e2 : a.tmps.getD 170 undef = .string s1 := hdep 1 _ 170 rfl rfl (by decide +kernel)
      exact lays_eq _ rfl (exec_seq e1 e2)
    | 3, ho =>
      simp only [List.getElem?_cons_zero, List.getElem?_cons_succ, Option.some.injEq] at ho; subst ho
      have e1 : a.tmps.getD 171 undef = .bool true := hdep 2 _ 171 rfl rfl (by decide +kernel)
      exact lays_eq _ rfl (exec_move e1)
    | 4, ho =>
      simp only [List.getElem?_cons_zero, List.getElem?_cons_succ, Option.some.injEq] at ho; subst ho
      exact lays_eq _ rfl (exec_move (hfix 8 (by decide +kernel)))
    | 5, ho =>
      simp only [List.getElem?_cons_zero, List.getElem?_cons_succ, Option.some.injEq] at ho; subst ho
      exact lays_eq _ rfl (exec_move (hfix 10 (by decide +kernel)))
    | 6, ho =>
      simp only [List.getElem?_cons_zero, List.getElem?_cons_succ, Option.some.injEq] at ho; subst ho
      have e1 : a.tmps.getD 173 undef = .int .i64 z1 := hdep 4 _ 173 rfl rfl (by decide +kernel)
      have e2 : a.tmps.getD 174 undef = .int .i64 z1 := hdep 5 _ 174 rfl rfl (by decide +kernel)
      exact lays_eq _ rfl (exec_ieq e1 e2)
    | 7, ho =>
      simp only [List.getElem?_cons_zero, List.getElem?_cons_succ, Option.some.injEq] at ho; subst ho
      have e1 : a.tmps.getD 172 undef = .bool true := hdep 3 _ 172 rfl rfl (by decide +kernel)
      have e2 : a.tmps.getD 175 undef = .bool true := hdep 6 _ 175 rfl rfl (by decide +kernel)
      exact lays_eq _ rfl (exec_pk e1 e2)
    | 8, ho =>
      simp only [List.getElem?_cons_zero, List.getElem?_cons_succ, Option.some.injEq] at ho; subst ho
      have e1 : a.tmps.getD 176 undef = .bool true := hdep 7 _ 176 rfl rfl (by decide +kernel)
      exact lays_eq _ rfl (exec_move e1)
    | 9, ho =>
      simp only [List.getElem?_cons_zero, List.getElem?_cons_succ, Option.some.injEq] at ho; subst ho
      exact lays_eq _ rfl (exec_move (hfix 11 (by decide +kernel)))
    | 10, ho =>
      simp only [List.getElem?_cons_zero, List.getElem?_cons_succ, Option.some.injEq] at ho; subst ho
      exact lays_eq _ rfl (exec_move (hfix 13 (by decide +kernel)))
    | 11, ho =>
      simp only [List.getElem?_cons_zero, List.getElem?_cons_succ, Option.some.injEq] at ho; subst ho
      have e1 : a.tmps.getD 178 undef = .string s2 := hdep 9 _ 178 rfl rfl (by decide +kernel)
      have e2 : a.tmps.getD 179 undef = .string s2 := hdep 10 _ 179 rfl rfl (by decide +kernel)
      exact lays_eq _ rfl (exec_seq e1 e2)
    | 12, ho =>
      simp only [List.getElem?_cons_zero, List.getElem?_cons_succ, Option.some.injEq] at ho; subst ho
      have e1 : a.tmps.getD 177 undef = .bool true := hdep 8 _ 177 rfl rfl (by decide +kernel)
      have e2 : a.tmps.getD 180 undef = .bool true := hdep 11 _ 180 rfl rfl (by decide +kernel)
      exact lays_eq _ rfl (exec_pk e1 e2)
    | 13, ho =>
      simp only [List.getElem?_cons_zero, List.getElem?_cons_succ, Option.some.injEq] at ho; subst ho
      have e1 : a.tmps.getD 181 undef = .bool true := hdep 12 _ 181 rfl rfl (by decide +kernel)
      exact lays_eq _ rfl (exec_move e1)
    | 14, ho =>
      simp only [List.getElem?_cons_zero, List.getElem?_cons_succ, Option.some.injEq] at ho; subst ho
      exact lays_eq _ rfl (exec_move (hfix 12 (by decide +kernel)))
    | 15, ho =>
      simp only [List.getElem?_cons_zero, List.getElem?_cons_succ, Option.some.injEq] at ho; subst ho
      exact lays_eq _ rfl (exec_move (hfix 14 (by decide +kernel)))
    | 16, ho =>
      simp only [List.getElem?_cons_zero, List.getElem?_cons_succ, Option.some.injEq] at ho; subst ho
      have e1 : a.tmps.getD 183 undef = .int .i64 z2 := hdep 14 _ 183 rfl rfl (by decide +kernel)
      have e2 : a.tmps.getD 184 undef = .int .i64 z2 := hdep 15 _ 184 rfl rfl (by decide +kernel)
      exact lays_eq _ rfl (exec_ieq e1 e2)
    | 17, ho =>
      simp only [List.getElem?_cons_zero, List.getElem?_cons_succ, Option.some.injEq] at ho; subst ho
      have e1 : a.tmps.getD 182 undef = .bool true := hdep 13 _ 182 rfl rfl (by decide +kernel)
      have e2 : a.tmps.getD 185 undef = .bool true := hdep 16 _ 185 rfl rfl (by decide +kernel)
      exact lays_eq _ rfl (exec_pk e1 e2)
    | 18, ho =>
      simp only [List.getElem?_cons_zero, List.getElem?_cons_succ, Option.some.injEq] at ho; subst ho
      have e1 : a.tmps.getD 186 undef = .bool true := hdep 17 _ 186 rfl rfl (by decide +kernel)
      exact lays_eq _ rfl (exec_move e1)
    | 19, ho =>
      simp only [List.getElem?_cons_zero, List.getElem?_cons_succ, Option.some.injEq] at ho; subst ho
      exact lays_eq _ rfl (exec_move (hfix 15 (by decide +kernel)))
    | 20, ho =>
      simp only [List.getElem?_cons_zero, List.getElem?_cons_succ, Option.some.injEq] at ho; subst ho
      exact lays_eq _ rfl (exec_move (hfix 17 (by decide +kernel)))
    | 21, ho =>
      simp only [List.getElem?_cons_zero, List.getElem?_cons_succ, Option.some.injEq] at ho; subst ho
      have e1 : a.tmps.getD 188 undef = .string s3 := hdep 19 _ 188 rfl rfl (by decide +kernel)
      have e2 : a.tmps.getD 189 undef = .string s3 := hdep 20 _ 189 rfl rfl (by decide +kernel)
      exact lays_eq _ rfl (exec_seq e1 e2)
    | 22, ho =>
      simp only [List.getElem?_cons_zero, List.getElem?_cons_succ, Option.some.injEq] at ho; subst ho
      have e1 : a.tmps.getD 187 undef = .bool true := hdep 18 _ 187 rfl rfl (by decide +kernel)
      have e2 : a.tmps.getD 190 undef = .bool true := hdep 21 _ 190 rfl rfl (by decide +kernel)
      exact lays_eq _ rfl (exec_pk e1 e2)
    | 23, ho =>
      simp only [List.getElem?_cons_zero, List.getElem?_cons_succ, Option.some.injEq] at ho; subst ho
      have e1 : a.tmps.getD 191 undef = .bool true := hdep 22 _ 191 rfl rfl (by decide +kernel)
      exact lays_eq _ rfl (exec_move e1)
    | 24, ho =>
      simp only [List.getElem?_cons_zero, List.getElem?_cons_succ, Option.some.injEq] at ho; subst ho
      exact lays_eq _ rfl (exec_move (hfix 16 (by decide +kernel)))
    | 25, ho =>
      simp only [List.getElem?_cons_zero, List.getElem?_cons_succ, Option.some.injEq] at ho; subst ho
      exact lays_eq _ rfl (exec_move (hfix 18 (by decide +kernel)))
    | 26, ho =>
      simp only [List.getElem?_cons_zero, List.getElem?_cons_succ, Option.some.injEq] at ho; subst ho
      have e1 : a.tmps.getD 193 undef = .int .i64 z3 := hdep 24 _ 193 rfl rfl (by decide +kernel)
      have e2 : a.tmps.getD 194 undef = .int .i64 z3 := hdep 25 _ 194 rfl rfl (by decide +kernel)
      exact lays_eq _ rfl (exec_ieq e1 e2)
    | 27, ho =>
      simp only [List.getElem?_cons_zero, List.getElem?_cons_succ, Option.some.injEq] at ho; subst ho
      have e1 : a.tmps.getD 192 undef = .bool true := hdep 23 _ 192 rfl rfl (by decide +kernel)
      have e2 : a.tmps.getD 195 undef = .bool true := hdep 26 _ 195 rfl rfl (by decide +kernel)
      exact lays_eq _ rfl (exec_pk e1 e2)
    | 28, ho =>
      simp only [List.getElem?_cons_zero, List.getElem?_cons_succ, Option.some.injEq] at ho; subst ho
      have e1 : a.tmps.getD 196 undef = .bool true := hdep 27 _ 196 rfl rfl (by decide +kernel)
      exact lays_eq _ rfl (exec_move e1)
    | 29, ho =>
      simp only [List.getElem?_cons_zero, List.getElem?_cons_succ, Option.some.injEq] at ho; subst ho
      exact lays_eq _ rfl (exec_move (hfix 19 (by decide +kernel)))
    | 30, ho =>
      simp only [List.getElem?_cons_zero, List.getElem?_cons_succ, Option.some.injEq] at ho; subst ho
      exact lays_eq _ rfl (exec_move (hfix 21 (by decide +kernel)))
    | 31, ho =>
      simp only [List.getElem?_cons_zero, List.getElem?_cons_succ, Option.some.injEq] at ho; subst ho
      have e1 : a.tmps.getD 198 undef = .string s4 := hdep 29 _ 198 rfl rfl (by decide +kernel)
      have e2 : a.tmps.getD 199 undef = .string s4 := hdep 30 _ 199 rfl rfl (by decide +kernel)
      exact lays_eq _ rfl (exec_seq e1 e2)
    | 32, ho =>
      simp only [List.getElem?_cons_zero, List.getElem?_cons_succ, Option.some.injEq] at ho; subst ho
      have e1 : a.tmps.getD 197 undef = .bool true := hdep 28 _ 197 rfl rfl (by decide +kernel)
      have e2 : a.tmps.getD 200 undef = .bool true := hdep 31 _ 200 rfl rfl (by decide +kernel)
      exact lays_eq _ rfl (exec_pk e1 e2)
    | 33, ho =>
      simp only [List.getElem?_cons_zero, List.getElem?_cons_succ, Option.some.injEq] at ho; subst ho
      have e1 : a.tmps.getD 201 undef = .bool true := hdep 32 _ 201 rfl rfl (by decide +kernel)
      exact lays_eq _ rfl (exec_move e1)
    | 34, ho =>
      simp only [List.getElem?_cons_zero, List.getElem?_cons_succ, Option.some.injEq] at ho; subst ho
      exact lays_eq _ rfl (exec_move (hfix 20 (by decide +kernel)))
    | 35, ho =>
      simp only [List.getElem?_cons_zero, List.getElem?_cons_succ, Option.some.injEq] at ho; subst ho
      exact lays_eq _ rfl (exec_move (hfix 22 (by decide +kernel)))
    | 36, ho =>
      simp only [List.getElem?_cons_zero, List.getElem?_cons_succ, Option.some.injEq] at ho; subst ho
      have e1 : a.tmps.getD 203 undef = .int .i64 z4 := hdep 34 _ 203 rfl rfl (by decide +kernel)
      have e2 : a.tmps.getD 204 undef = .int .i64 z4 := hdep 35 _ 204 rfl rfl (by decide +kernel)
      exact lays_eq _ rfl (exec_ieq e1 e2)
    | 37, ho =>
      simp only [List.getElem?_cons_zero, List.getElem?_cons_succ, Option.some.injEq] at ho; subst ho
      have e1 : a.tmps.getD 202 undef = .bool true := hdep 33 _ 202 rfl rfl (by decide +kernel)
      have e2 : a.tmps.getD 205 undef = .bool true := hdep 36 _ 205 rfl rfl (by decide +kernel)
      exact lays_eq _ rfl (exec_pk e1 e2)
    | 38, ho =>
      simp only [List.getElem?_cons_zero, List.getElem?_cons_succ, Option.some.injEq] at ho; subst ho
      have e1 : a.tmps.getD 206 undef = .bool true := hdep 37 _ 206 rfl rfl (by decide +kernel)
      exact lays_eq _ rfl (exec_move e1)
    | 39, ho =>
      simp only [List.getElem?_cons_zero, List.getElem?_cons_succ, Option.some.injEq] at ho; subst ho
      exact lays_eq _ rfl (exec_fd (v := .pointer (some ⟨xb, 0, none⟩)) (hfix 3 (by decide +kernel)) (fld23 _ _))
    | 40, ho =>
      simp only [List.getElem?_cons_zero, List.getElem?_cons_succ, Option.some.injEq] at ho; subst ho
      have e1 : a.tmps.getD 208 undef = .pointer (some ⟨xb, 7, none⟩) := hdep 39 _ 208 rfl rfl (by decide +kernel)
      exact lays_eq _ rfl (exec_ld (v := .pointer (some ⟨xb, 7, none⟩)) e1 (ld9_7 (hA1.out.last hB').cells.2.2.2.2.2.2.2))
    | 41, ho =>
      simp only [List.getElem?_cons_zero, List.getElem?_cons_succ, Option.some.injEq] at ho; subst ho
      have e1 : a.tmps.getD 209 undef = .string r := hdep 40 _ 209 rfl rfl (by decide +kernel)
      exact lays_call #[.string r] (by simp [Act.eval, e1]) (by kernel_rfl) ((hX.out W (HL.out _ _ HR.out (by rw [hxb]; exact hb1.out.trans (hB'.mono (by have := hb1.out.size; omega))))).mono fun e W' ⟨he, hg⟩ => ⟨_, he, hg, rfl⟩)
    | 42, ho =>
      simp only [List.getElem?_cons_zero, List.getElem?_cons_succ, Option.some.injEq] at ho; subst ho
      exact lays_eq _ rfl (exec_fd (v := .pointer (some ⟨xb, 0, none⟩)) (hfix 3 (by decide +kernel)) (fld23 _ _))
    | 43, ho =>
      simp only [List.getElem?_cons_zero, List.getElem?_cons_succ, Option.some.injEq] at ho; subst ho
      have e1 : a.tmps.getD 211 undef = .pointer (some ⟨xb, 7, none⟩) := hdep 42 _ 211 rfl rfl (by decide +kernel)
      exact lays_eq _ rfl (exec_ld (v := .pointer (some ⟨xb, 7, none⟩)) e1 (ld9_7 (hA1.out.last hB').cells.2.2.2.2.2.2.2))
    | 44, ho =>
      simp only [List.getElem?_cons_zero, List.getElem?_cons_succ, Option.some.injEq] at ho; subst ho
      have e1 : a.tmps.getD 212 undef = .string r := hdep 43 _ 212 rfl rfl (by decide +kernel)
      exact lays_call #[.string { data := #[100, 97, 116, 97] }, .string r, .string { data := #[] }] (by simp [Act.eval, e1]) (by kernel_rfl) ((hX2.out W).mono fun e W' ⟨he, hg⟩ => ⟨_, he, hg, rfl⟩)
    | 45, ho =>
      simp only [List.getElem?_cons_zero, List.getElem?_cons_succ, Option.some.injEq] at ho; subst ho
      have e1 : a.tmps.getD 210 undef = .string a5 := hdep 41 _ 210 rfl rfl (by decide +kernel)
      have e2 : a.tmps.getD 213 undef = .string a5 := hdep 44 _ 213 rfl rfl (by decide +kernel)
      exact lays_eq _ rfl (exec_seq e1 e2)
    | 46, ho =>
      simp only [List.getElem?_cons_zero, List.getElem?_cons_succ, Option.some.injEq] at ho; subst ho
      have e1 : a.tmps.getD 207 undef = .bool true := hdep 38 _ 207 rfl rfl (by decide +kernel)
      have e2 : a.tmps.getD 214 undef = .bool true := hdep 45 _ 214 rfl rfl (by decide +kernel)
      exact lays_eq _ rfl (exec_pk e1 e2)
    | 47, ho =>
      simp only [List.getElem?_cons_zero, List.getElem?_cons_succ, Option.some.injEq] at ho; subst ho
      have e1 : a.tmps.getD 215 undef = .bool true := hdep 46 _ 215 rfl rfl (by decide +kernel)
      exact lays_eq _ rfl (exec_assign e1)
    | ix + 48, ho => simp at ho
  · intro a W hB' hd hsz hfix hT
    have f4 : a.tmps.getD 4 undef = .bool true := hT 47 _ 4 rfl rfl
    rw [frame_lit a 216 hsz hd]
    clear hfix hT hsz hd
    simp only [List.range, List.range.loop, List.map]
    generalize a.tmps = t at *
    simp only [f4]
    clear f4
    have HB := Lib.hid (hb1.out.trans (hB'.mono (by have := hb1.out.size; omega)))
    clear hX hX2 HR HL hA1 hg hb1 hB'
    go_wp2
    go_ret
    exact ⟨rfl, HB.out⟩
end Go.Proofs.YtbiadmhomadflaaGreatDoor

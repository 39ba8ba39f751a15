/- A value that must be a text, and one that is none; does it panic? By contract. No condition. -/
import Derived.Test.YtncbgonanoihfaaQ4
import Derived.Defers
import Derived.Recover
namespace Go.Proofs.Ytncbgonanoihfaa
open Go.RowKit Go.Own
def Pan (x : Value) : Prop := ∀ w : World, ∃ (cs : Array Value) (t : TypeId), (Instr.typeAssert x 20 9 false).run Try.prog w = .halt (.panic (.iface 15 (.pointer (some ⟨w.heap.size, 0, none⟩)))) (w.alloc (.cells cs t))
theorem pan_nil : Pan .nilIface := fun w => ⟨_, _, by rfl⟩
theorem pan_3 (u : Value) : Pan (.iface 3 u) := fun w => ⟨_, _, by rfl⟩
theorem pan_4 (u : Value) : Pan (.iface 4 u) := fun w => ⟨_, _, by rfl⟩
theorem pan_48 (u : Value) : Pan (.iface 48 u) := fun w => ⟨_, _, by rfl⟩
theorem pan_54 (u : Value) : Pan (.iface 54 u) := fun w => ⟨_, _, by rfl⟩
theorem pan_of {w : World} {v : Value} {a : A} (h : Has w v a) (hn : ∀ s, a ≠ .str s) : Pan v := by
  cases h with
  | num n _ => exact pan_3 _
  | str s _ => exact absurd rfl (hn s)
  | bool b => exact pan_4 _
  | none => exact pan_nil
  | odd u => exact pan_54 _
  | nil => exact pan_48 _
  | list => exact pan_48 _
theorem text_ok (s : ByteArray) (w : World) : (Instr.typeAssert (.iface 9 (.string s)) 20 9 false).run Try.prog w = .ok (.string s) w := by kernel_rfl
set_option maxRecDepth 100000 in
theorem must_text (s : ByteArray) (w : World) : Calls Try.prog 24 #[.iface 9 (.string s)] w fun e w' => e = .returned (.string s) ∧ w = w' := by
  have h1 := text_ok s
  have HS : Hid (Calls Try.prog 36 #[.iface 9 (.string s)] w fun e w' => e = .returned (.string s) ∧ w = w') := by
    refine Lib.hid ?_
    go_enter Try.func36, Try.ntmps36
    go_wp2
    go_ret
    exact ⟨rfl, rfl⟩
  go_enter Try.func24, Try.ntmps24
  go_wp2_with (go_at_call 36; fail)
  refine HS.out.mono ?_
  rintro e w' ⟨rfl, rfl⟩
  go_wp2
  go_ret
  exact ⟨rfl, rfl⟩
def PanQ (w : World) (e : Ending) (w' : World) : Prop := e = .panicked [{ v := .iface 15 (.pointer (some ⟨w.heap.size, 0, none⟩)), recovered := false }] ∧ Below w.heap.size w w'
set_option maxRecDepth 100000 in
theorem sure_no (v : Value) (hp : Pan v) (w : World) : Calls Try.prog 36 #[v] w (PanQ w) := by
  obtain ⟨cs, t, hr⟩ := hp w
  have HB : Hid (Below w.heap.size w (w.alloc (.cells cs t))) := Lib.hid ((Below.refl _ w).alloc (Nat.le_refl _) _)
  clear hp
  go_enter Try.func36, Try.ntmps36
  go_wp2
  exact ⟨rfl, rfl, HB.out⟩
set_option maxRecDepth 100000 in
theorem must_no (v : Value) (hp : Pan v) (w : World) : Calls Try.prog 24 #[v] w (PanQ w) := by
  have HS := Lib.hid (sure_no v hp w)
  clear hp
  go_enter Try.func24, Try.ntmps24
  go_wp2_with (go_at_call 36; fail)
  refine HS.out.mono ?_
  rintro e w' ⟨rfl, hb⟩
  have HB := Lib.hid hb
  clear hb
  go_wp2
  exact ⟨rfl, rfl, HB.out⟩
theorem catch_panicking (p : Addr) (x : Bool) (u : TypeId) (pv : Value) (older : List PanicEntry) (w : World) (hc : w.cell? p = some (.bool x)) (hz : w.frozen? p = false) :
    CallsD Try.prog 35 #[.pointer (some p)] (.panicking ({ v := .iface u pv, recovered := false } :: older)) w fun e u' w' =>
      e = .returned (.tuple #[]) ∧ u' = .panicking ({ v := .iface u pv, recovered := true } :: older) ∧ w' = w.setCell p (.bool true) := by
  refine callsD_of_wpS Try.func35 rfl fun c₀ cs hu => ?_
  apply wpS_seq
  apply wpS_region
  simp [wpOpsS, go_sem, recoverD, hu, Try.ntmps35, Exit.thenS]
  refine wpS_cond (t := true) (by simp [Act.eval, Array.replicate]) ?_
  simp only [if_true]
  apply wpS_region
  simp [wpOpsS, go_sem, hc, hz, bodyPostS, results, Try.results35]
theorem catch_idle (p : Addr) (w : World) :
    CallsD Try.prog 35 #[.pointer (some p)] .returning w fun e u' w' => e = .returned (.tuple #[]) ∧ u' = .returning ∧ w' = w := by
  refine callsD_of_wpS Try.func35 rfl fun c₀ cs hu => ?_
  apply wpS_seq
  apply wpS_region
  simp [wpOpsS, go_sem, recoverD, hu, Try.ntmps35, Exit.thenS]
  refine wpS_cond (t := false) (by simp [Act.eval, Array.replicate]) ?_
  simp only [Bool.false_eq_true, if_false]
  refine wpS_of_wp (wp_skip ?_)
  cases c₀
  simp_all [bodyPostS, results, Try.results35]
set_option maxRecDepth 100000 in
set_option maxHeartbeats 1000000 in
theorem panics_no (s : ByteArray) (w : World) : Calls Try.prog 22 #[.iface 9 (.string s)] w (SameQ false w) := by
  have hmf : ∀ (fn : Fn) (first cap : Array Value) (w : World), (Instr.makeFunc fn first cap).run Try.prog w = .ok (.func fn first cap) w := fun _ _ _ _ => rfl
  have HM := Lib.hid (must_text s)
  go_enter_defers Try.func22, Try.ntmps22
  go_wp2_with (go_at_call 24; fail)
  refine (HM.out _).mono ?_
  rintro e w' ⟨rfl, rfl⟩
  go_wp2
  refine leaves_cons (f := 35) (args := #[.pointer (some ⟨w.heap.size, 0, none⟩)]) (by simp) (by simp [go_sem]) ?_
  refine (catch_idle ⟨w.heap.size, 0, none⟩ _).mono ?_
  rintro e u' w'' ⟨rfl, rfl, rfl⟩
  have hB : Below w.heap.size w (w.alloc (.cells #[.bool false] 4)) := (Below.refl _ w).alloc (Nat.le_refl _) _
  simp [Leaves, settle, results, Try.results22, go_sem, SameQ, hB]
set_option maxRecDepth 100000 in
set_option maxHeartbeats 1000000 in
theorem panics_yes (v : Value) (hp : Pan v) (w : World) : Calls Try.prog 22 #[v] w (SameQ true w) := by
  have hmf : ∀ (fn : Fn) (first cap : Array Value) (w : World), (Instr.makeFunc fn first cap).run Try.prog w = .ok (.func fn first cap) w := fun _ _ _ _ => rfl
  have HM := Lib.hid (fun w => must_no v hp w)
  clear hp
  go_enter_defers Try.func22, Try.ntmps22
  go_wp2_with (go_at_call 24; fail)
  refine (HM.out _).mono ?_
  rintro e w2 ⟨rfl, hb⟩
  have HB := Lib.hid hb
  have c0 : w2.cell? ⟨w.heap.size, 0, none⟩ = some (.bool false) := by
    rw [hb.cell (p := ⟨w.heap.size, 0, none⟩) (by simp)]
    exact cell_new _ _ _ _
  have f0 : w2.frozen? ⟨w.heap.size, 0, none⟩ = false := by
    rw [hb.frozen (p := ⟨w.heap.size, 0, none⟩) (by simp)]
    simp [go_sem]
  have hB : Below w.heap.size w (w2.setCell ⟨w.heap.size, 0, none⟩ (.bool true)) := (((Below.refl _ w).alloc (Nat.le_refl _) _).trans (hb.mono (by simp))).setCell (Nat.le_refl _) _
  have c1 : (w2.setCell ⟨w.heap.size, 0, none⟩ (.bool true)).cell? ⟨w.heap.size, 0, none⟩ = some (.bool true) := World.cell?_setCell_same _ _ _ c0
  clear hb
  go_wp2
  refine leaves_cons (f := 35) (args := #[.pointer (some ⟨w.heap.size, 0, none⟩)]) (by simp) (by simp [go_sem]) ?_
  refine (catch_panicking ⟨w.heap.size, 0, none⟩ false 15 _ [] _ c0 f0).mono ?_
  rintro e u' w'' ⟨rfl, rfl, rfl⟩
  simp [Leaves, settle, results, Try.results22, go_sem, SameQ, hB, c1]
end Go.Proofs.Ytncbgonanoihfaa

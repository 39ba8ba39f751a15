/- The hash of texts: by contract. No condition but sizes. | A text turned, piece by piece, by what is pressed of the counter: by contract. No condition but sizes. | The tag of a body: by contract. No condition but sizes. | Seal: by contract. No condition. | Open: by contract. No condition. -/
import Derived.Test.YtfamoakicgmfgaaV5
import Derived.Test.YtfamoakicgmfgaaW2
import Derived.Test.YtfamoakicgmfgaaE1
import Derived.Deep.RegionLaw
namespace Go.Own
open Go.RowKit
theorem ldX3 {P : Program} {T : TypeId} {b o : Nat} {W : World} {x y z v : Value} {t : TypeId} {f : Nat × Nat} (ha : (isAgg T).run P W = .ok false W)
    (h2 : blk W b = some (.cells #[x, y, z] t f)) (hv : #[x, y, z][o]? = some v) : ldX P T none (some (.cells #[x, y, z] t f)) b o W = .ok v W := by
  have hc : W.cell? ⟨b, o, none⟩ = some v := by
    simp [World.cell?, show W.heap[b]? = _ from h2, hv]
  simp [ldX, ldN, Instr.loadAt, Instr.sureAddr, loadVar, ha, hc]
theorem ldX3_0 {P : Program} {T : TypeId} {b : Nat} {W : World} {x y z : Value} {t : TypeId} {f : Nat × Nat} (ha : (isAgg T).run P W = .ok false W)
    (h2 : blk W b = some (.cells #[x, y, z] t f)) : ldX P T none (some (.cells #[x, y, z] t f)) b 0 W = .ok x W := ldX3 ha h2 rfl
theorem ldX3_1 {P : Program} {T : TypeId} {b : Nat} {W : World} {x y z : Value} {t : TypeId} {f : Nat × Nat} (ha : (isAgg T).run P W = .ok false W)
    (h2 : blk W b = some (.cells #[x, y, z] t f)) : ldX P T none (some (.cells #[x, y, z] t f)) b 1 W = .ok y W := ldX3 ha h2 rfl
theorem ldX3_2 {P : Program} {T : TypeId} {b : Nat} {W : World} {x y z : Value} {t : TypeId} {f : Nat × Nat} (ha : (isAgg T).run P W = .ok false W)
    (h2 : blk W b = some (.cells #[x, y, z] t f)) : ldX P T none (some (.cells #[x, y, z] t f)) b 2 W = .ok z W := ldX3 ha h2 rfl
end Go.Own
namespace Go.Proofs.Ytfamoakicgmfgaa
open Go.RowKit Go.Own
/-- One piece is taken into the hash. -/
def hstep (h s : List Nat) (x : Pc) : List Nat := prodL ((List.range 16).map (xorF s (fillL (bys x.1)))) h
theorem hstep_def (h s : List Nat) (x : Pc) : hstep h s x = prodL ((List.range 16).map (xorF s (fillL (bys x.1)))) h := by unfold hstep; rfl
def hfold (h s : List Nat) (pre : List Pc) : List Nat := pre.foldl (hstep h) s
theorem hstep_length (h s : List Nat) (x : Pc) : (hstep h s x).length = 16 := by rw [hstep_def]; exact prodL_length _ _
theorem hstep_B8 (h s : List Nat) (x : Pc) : B8 (hstep h s x) := by rw [hstep_def]; exact prodL_B8 _ _
theorem hfold_cons (h s : List Nat) (x : Pc) (pre : List Pc) : hfold h s (x :: pre) = hfold h (hstep h s x) pre := by simp only [hfold, List.foldl_cons]
theorem hfold_snoc (h s : List Nat) (x : Pc) (pre : List Pc) : hfold h s (pre ++ [x]) = hstep h (hfold h s pre) x := by simp only [hfold, List.foldl_append, List.foldl_cons, List.foldl_nil]
theorem hfold_good (h : List Nat) (pre : List Pc) : ∀ s : List Nat, s.length = 16 → B8 s → (hfold h s pre).length = 16 ∧ B8 (hfold h s pre) := by
  induction pre with
  | nil => intro s h1 h2; simp only [hfold, List.foldl_nil]; exact ⟨h1, h2⟩
  | cons x pre ih =>
    intro s _ _
    rw [hfold_cons]
    exact ih _ (hstep_length _ _ _) (hstep_B8 _ _ _)
/-- One text is. -/
def htext (h s : List Nat) (t : ByteArray) : List Nat := hfold h s (pcsB t ((t.size + 15) / 16))
/-- The hash behind i texts; the text of number i. -/
def hashN (h : List Nat) (s1 s2 s3 : ByteArray) : Nat → List Nat
  | 0 => rep 16
  | 1 => htext h (rep 16) s1
  | 2 => htext h (htext h (rep 16) s1) s2
  | _ => htext h (htext h (htext h (rep 16) s1) s2) s3
def txt (s1 s2 s3 : ByteArray) : Nat → ByteArray
  | 0 => s1
  | 1 => s2
  | _ => s3
theorem hashN_succ (h : List Nat) (s1 s2 s3 : ByteArray) (i : Nat) (hi : i < 3) : hashN h s1 s2 s3 (i + 1) = htext h (hashN h s1 s2 s3 i) (txt s1 s2 s3 i) := by
  have : i = 0 ∨ i = 1 ∨ i = 2 := by omega
  rcases this with rfl | rfl | rfl <;> rfl
theorem htext_good (h s : List Nat) (t : ByteArray) (h1 : s.length = 16) (h2 : B8 s) : (htext h s t).length = 16 ∧ B8 (htext h s t) := hfold_good h _ s h1 h2
theorem hashN_good (h : List Nat) (s1 s2 s3 : ByteArray) : ∀ i, i ≤ 3 → (hashN h s1 s2 s3 i).length = 16 ∧ B8 (hashN h s1 s2 s3 i)
  | 0, _ => ⟨rep_length _, B8.rep _⟩
  | i + 1, hi => by
    rw [hashN_succ h s1 s2 s3 i (by omega)]
    have := hashN_good h s1 s2 s3 i (by omega)
    exact htext_good _ _ _ this.1 this.2
attribute [local go_sem] z5 ag5 cs5 sz5 isa5 ag60 cs60 sz60 z60 isa9 ag9 set_same List.getElem?_set_ne ldX3_0 ldX3_1 ldX3_2
set_option maxRecDepth 100000 in
theorem pieces_any (s : ByteArray) (w : World) (l : List Obj) (d : Nat) :
    Calls Try.prog 42 #[.string s] (Wd w l d) fun e w' => e = .returned (.func (.func 62) #[] #[.pointer (some ⟨w.heap.size + l.length, 0, none⟩)]) ∧ w' = Wd w (l ++ [.cells #[.string s] 9 (0, 0)]) d := by
  go_enter Try.func42, Try.ntmps42
  go_wp2
  go_ret
  exact ⟨rfl, rfl⟩
set_option maxRecDepth 100000 in
set_option maxHeartbeats 4000000 in
theorem hash_any (h : List Nat) (hh : h.length = 16) (hh8 : B8 h) (s1 s2 s3 : ByteArray) (b1 : s1.size ≤ 1000000) (b2 : s2.size ≤ 1000000) (b3 : s3.size ≤ 1000000) (sb : Nat) (w : World)
    (hs : blk w sb = some (.cells #[.string s1, .string s2, .string s3] 9 (0, 0))) :
    Calls Try.prog 45 #[.agg (cv .u8 h), .slice (some ⟨sb, 0, none⟩) 3 3] w fun e w' => e = .returned (.agg (cv .u8 (htext h (htext h (htext h (rep 16) s1) s2) s3))) ∧ Below w.heap.size w w' := by
  refine calls_wd ?_
  refine (callsIn_wide (n := 3)).1 (callsIn_of_wp_marks Try.func45 rfl trivial ?_ rfl)
  refine wpIn_wide.2 ?_
  simp only [Try.ntmps45, List.size_toArray, List.length_cons, List.length_nil, Nat.reduceAdd, Nat.reduceSub, Array.replicate_succ, Array.replicate_zero, List.push_toArray, List.append_toArray, List.nil_append, List.cons_append]
  have htx : ∀ i, (txt s1 s2 s3 i).size ≤ 1000000 := fun i => by unfold txt; split <;> assumption
  go_wp2
  rename_i Q' K hK
  refine wp_loop (fun a wr => ∃ (i : Nat) (w1 : World) (L : List Obj) (js : List Nat) (u7 u8 u12 u13 u14 u15 u16 u17 u18 u19 u20 u21 u22 u23 u24 u25 : Value), i ≤ 3 ∧ Same w w1 ∧ wr = Wd w1 L 0 ∧
      a = { tmps := #[.agg (cv .u8 h), .slice (some ⟨sb, 0, none⟩) 3 3, .pointer (some ⟨w1.heap.size, 0, none⟩), undef, .pointer (some ⟨w1.heap.size + 1, 0, none⟩), .pointer (some ⟨w1.heap.size + 2, 0, none⟩), undef, u7, u8, .slice (some ⟨sb, 0, none⟩) 3 3, .int .i64 3, .int .i64 i, u12, u13, u14, u15, u16, u17, u18, u19, u20, u21, u22, u23, u24, u25], defers := marks w1 js } ∧
      Hid (L[0]? = some (.cells (cv .u8 h) 60 (0, 0)) ∧ L[1]? = some (.cells (cv .u8 (rep 16)) 60 (0, 0)) ∧ L[2]? = some (.cells (cv .u8 (hashN h s1 s2 s3 i)) 60 (0, 0)) ∧ (∀ j ∈ js, L[j]? = some (.deferred (some []))) ∧ js.Nodup)) (fun a _ => 3 - (intOf (a.tmps.getD 11 undef)).toNat) ?start ?round
  case start => exact ⟨0, w, _, [], _, _, _, _, _, _, _, _, _, _, _, _, _, _, _, _, by omega, Same.refl w, rfl, rfl, Lib.hid ⟨rfl, rfl, rfl, fun _ h => (by cases h), List.nodup_nil⟩⟩
  case round =>
    rintro a wr ⟨i, w1, L, js, u7, u8, u12, u13, u14, u15, u16, u17, u18, u19, u20, u21, u22, u23, u24, u25, hi, hsame, rfl, rfl, hL⟩
    have hsb1 : blk w1 sb = some (.cells #[.string s1, .string s2, .string s3] 9 (0, 0)) := by unfold blk at hs ⊢; rw [hsame.1]; exact hs
    by_cases hlt : i < 3
    · have hlti : (i : Int) < 3 := by omega
      have hld : ∀ l d, ldX Try.prog 9 none (some (.cells #[.string s1, .string s2, .string s3] 9 (0, 0))) sb i (Wd w1 l d) = .ok (.string (txt s1 s2 s3 i)) (Wd w1 l d) := fun l d => by
        refine ldX3 (isa9 _) (blk_old _ _ _ _ hsb1) ?_
        have : i = 0 ∨ i = 1 ∨ i = 2 := by omega
        rcases this with rfl | rfl | rfl <;> rfl
      have hbk : ∀ l d, blk (Wd w1 l d) sb = some (.cells #[.string s1, .string s2, .string s3] 9 (0, 0)) := fun l d => blk_old _ _ _ _ hsb1
      obtain ⟨l0, l1, l2, lj, ljn⟩ := hL.out
      obtain ⟨S, hS⟩ : ∃ S, hashN h s1 s2 s3 i = S := ⟨_, rfl⟩
      have hSg := hashN_good h s1 s2 s3 i hi
      have hSs := hashN_succ h s1 s2 s3 i hlt
      rw [hS] at l2 hSg hSs
      obtain ⟨t, ht⟩ : ∃ t, txt s1 s2 s3 i = t := ⟨_, rfl⟩
      have htt := htx i
      rw [ht] at htt hSs
      simp only [ht] at hld
      have hb3 : 2 < L.length := (List.getElem?_eq_some_iff.1 l2).1
      have HHS := Lib.hid hSs
      have HLI := Lib.hid hlt
      have HSAME := Lib.hid hsame
      have HTT := Lib.hid htt
      have HSG := Lib.hid hSg
      have HB3 := Lib.hid hb3
      have HHK := Lib.hid hK
      clear hS hSs ht htx htt hSg hs hsb1 hb3 hsame hL hK
      go_wp2_with fail
      refine (pieces_any t w1 L 0).mono ?_
      rintro e w' ⟨rfl, rfl⟩
      go_wp2
      obtain ⟨m, hm⟩ : ∃ m, L.length = m := ⟨_, rfl⟩
      obtain ⟨M, hM⟩ : ∃ M, L ++ [Obj.cells #[Value.string t] 9 (0, 0)] = M := ⟨_, rfl⟩
      rw [hm] at HB3 ⊢
      rw [hM]
      have hMl : M.length = m + 1 := by rw [← hM, List.length_append, hm]; rfl
      have e0 : M[0]? = some (.cells (cv .u8 h) 60 (0, 0)) := by rw [← hM, List.getElem?_append_left (by have := HB3.out; omega), l0]
      have e1 : M[1]? = some (.cells (cv .u8 (rep 16)) 60 (0, 0)) := by rw [← hM, List.getElem?_append_left (by have := HB3.out; omega), l1]
      have e2 : M[2]? = some (.cells (cv .u8 S) 60 (0, 0)) := by rw [← hM, List.getElem?_append_left (by have := HB3.out; omega), l2]
      have em : M[m]? = some (.cells #[.string t] 9 (0, 0)) := by rw [← hM, List.getElem?_append_right (by omega), hm, Nat.sub_self]; rfl
      have ej : ∀ j ∈ js, M[j]? = some (.deferred (some [])) := fun j hj => by rw [← hM, List.getElem?_append_left (List.getElem?_eq_some_iff.1 (lj j hj)).1, lj j hj]
      have hj3 : ∀ j ∈ js, j ≠ 2 := fun j hj e => by have := lj j hj; rw [e, l2] at this; cases this
      have hjm : ∀ j ∈ js, j < m := fun j hj => by have := (List.getElem?_eq_some_iff.1 (lj j hj)).1; omega
      have m2 : ¬ (2 = m) := by have := HB3.out; omega
      have hset0 : M.set 2 (.cells (cv .u8 S) 60 (0, 0)) = M := by
        apply List.ext_getElem?
        intro k
        by_cases hk : 2 = k
        · subst hk; rw [set_same (by rw [e2]; rfl), e2]
        · rw [List.getElem?_set_ne hk]
      refine wp_pieces t HTT.out (w1.heap.size + m) (by rw [blk_at]; exact em) rfl (fun pre W => Below (w1.heap.size + M.length) (Wd w1 (M.set 2 (.cells (cv .u8 (hfold h S pre)) 60 (0, 0))) 0) W)
        (fun pre W W' row hs hg hr => ownFrom_below (β := Unit) (w₀ := Wd w1 (M.set 2 (.cells (cv .u8 (hfold h S pre)) 60 (0, 0))) 0) (by rw [Wd_size, List.length_set]; exact Nat.le_refl _) (by rw [Wd_size]; exact Nat.le_refl _) () W W' row hs hg hr)
        (by show Below _ (Wd w1 (M.set 2 (.cells (cv .u8 S) 60 (0, 0))) 0) _; rw [hset0]; exact Below.refl _ _)
        (fun x => { tmps := #[.agg (cv .u8 h), .slice (some ⟨sb, 0, none⟩) 3 3, .pointer (some ⟨w1.heap.size, 0, none⟩), undef, .pointer (some ⟨w1.heap.size + 1, 0, none⟩), .pointer (some ⟨w1.heap.size + 2, 0, none⟩), undef, .string t, .string x.1, .slice (some ⟨sb, 0, none⟩) 3 3, .int .i64 3, .int .i64 i, .bool true, .pointer (some ⟨sb, i, none⟩), .string t, .string t, .func (.func 62) #[] #[.pointer (some ⟨w1.heap.size + m, 0, none⟩)], .string x.1, u18, u19, u20, u21, u22, u23, u24, u25], defers := [] }) ?assign ?body ?done
      case assign =>
        intro lo x W K0 hK0
        refine region_rnd_lit (by kernel_rfl) (by rintro ⟨_, _, h⟩; exact h) ?_
        go_wp2
        exact hK0
      case body =>
        intro lo pre x W hW hlen
        obtain ⟨w3, g, hs3, hWe⟩ := below_lay (by rw [List.length_set]) hW
        obtain ⟨Y, hY⟩ : ∃ Y, hfold h S pre = Y := ⟨_, rfl⟩
        have hYg := hfold_good h pre S HSG.out.1 HSG.out.2
        rw [hY] at hWe hYg
        obtain ⟨X, hX⟩ : ∃ X, hstep h Y x = X := ⟨_, rfl⟩
        have hXe : hfold h S (pre ++ [x]) = X := by rw [hfold_snoc, hY, hX]
        obtain ⟨V, hV⟩ : ∃ V, M.set 2 (Obj.cells (cv .u8 Y) 60 (0, 0)) ++ g = V := ⟨_, rfl⟩
        rw [hV] at hWe
        have v0 : V[0]? = some (.cells (cv .u8 h) 60 (0, 0)) := by rw [← hV, List.getElem?_append_left (by rw [List.length_set, hMl]; omega), List.getElem?_set_ne (by decide), e0]
        have v2 : V[2]? = some (.cells (cv .u8 Y) 60 (0, 0)) := by rw [← hV, List.getElem?_append_left (by rw [List.length_set, hMl]; have := HB3.out; omega), set_same (by rw [e2]; rfl)]
        have vm : V[m]? = some (.cells #[.string t] 9 (0, 0)) := by rw [← hV, List.getElem?_append_left (by rw [List.length_set, hMl]; omega), List.getElem?_set_ne m2, em]
        have fin : ∀ (a' : Act) (g' : List Obj) (e : Nat), ownPostK (KeepsB (w1.heap.size + m)) (fun pre W => Below (w1.heap.size + M.length) (Wd w1 (M.set 2 (.cells (cv .u8 (hfold h S pre)) 60 (0, 0))) 0) W) (fun _ _ _ => False) (pre ++ [x]) W .normal a' (Wd w3 ((V ++ g').set 2 (.cells (cv .u8 X) 60 (0, 0))) e) := fun a' g' e => by
          have hb2 : 2 < V.length := (List.getElem?_eq_some_iff.1 v2).1
          have hsa : (V ++ g').set 2 (Obj.cells (cv .u8 X) 60 (0, 0)) = V.set 2 (.cells (cv .u8 X) 60 (0, 0)) ++ g' := List.set_append_left _ _ hb2
          have hsb2 : V.set 2 (Obj.cells (cv .u8 X) 60 (0, 0)) ++ g' = M.set 2 (.cells (cv .u8 X) 60 (0, 0)) ++ (g ++ g') := by
            rw [← hV, List.set_append_left _ _ (by rw [List.length_set, hMl]; have := HB3.out; omega), List.set_set, List.append_assoc]
          refine ⟨?_, ?_, ?_⟩
          · rw [hsa, hWe]
            exact keeps_set (fun o ho => by rw [v2] at ho; obtain rfl := Option.some.inj ho; rfl)
          · intro o ho
            rw [hWe, ← hs3.size, blk_at, vm] at ho
            rw [← hs3.size, blk_at, hsa, List.getElem?_append_left (by rw [List.length_set]; exact (List.getElem?_eq_some_iff.1 vm).1), List.getElem?_set_ne m2, vm]
            exact ho
          · show Below _ (Wd w1 (M.set 2 (.cells (cv .u8 (hfold h S (pre ++ [x]))) 60 (0, 0))) 0) _
            rw [hXe, hsa, hsb2]
            exact lay_below hs3 _ _ _ (by rw [List.length_set]; exact Nat.le_refl _)
        have hLO : ¬ LetsOut (ownPostK (KeepsB (w1.heap.size + m)) (fun pre W => Below (w1.heap.size + M.length) (Wd w1 (M.set 2 (.cells (cv .u8 (hfold h S pre)) 60 (0, 0))) 0) W) (fun _ _ _ => False) (pre ++ [x]) W) := by rintro ⟨_, _, h⟩; exact h
        generalize ownPostK (KeepsB (w1.heap.size + m)) (fun pre W => Below (w1.heap.size + M.length) (Wd w1 (M.set 2 (.cells (cv .u8 (hfold h S pre)) 60 (0, 0))) 0) W) (fun _ _ _ => False) (pre ++ [x]) W = Q0 at fin hLO ⊢
        have hz : w1.heap.size = w3.heap.size := hs3.size.symm
        have HX1 : Hid (∀ W, Calls Try.prog 39 #[.string x.1] W fun e w' => e = .returned (.agg (cv .u8 (fillL (bys x.1)))) ∧ Grows W w') := Lib.hid fun W => filled_any x.1 W
        have HX2 : Hid (∀ W, Calls Try.prog 43 #[.agg (cv .u8 Y), .agg (cv .u8 (fillL (bys x.1)))] W fun e w' => e = .returned (.agg (cv .u8 ((List.range 16).map (xorF Y (fillL (bys x.1)))))) ∧ Grows W w') := Lib.hid fun W => bplus_any Y _ hYg.1 (fillL_length _) W
        obtain ⟨Z, hZ⟩ : ∃ Z, (List.range 16).map (xorF Y (fillL (bys x.1))) = Z := ⟨_, rfl⟩
        have hZl : Z.length = 16 := by rw [← hZ]; simp
        have hZ8 : ∀ k, gi Z k < 256 := by
          rw [← hZ]
          have : B8 ((List.range 16).map (xorF Y (fillL (bys x.1)))) := fun n hn => by
            obtain ⟨k, _, rfl⟩ := List.mem_map.1 hn
            exact xor8_lt _ _
          exact this.gi
        have hXl : X.length = 16 := by rw [← hX]; exact hstep_length h Y x
        have HX3 : Hid (∀ W, Calls Try.prog 63 #[.agg (cv .u8 Z), .agg (cv .u8 h)] W fun e w' => e = .returned (.agg (cv .u8 X)) ∧ Grows W w') := Lib.hid fun W => by
          have := times_any Z h hZl hh hZ8 hh8.gi W
          rw [timesL_prodL hZ8 hh8.gi, ← hZ, ← hstep_def, hX] at this
          rw [← hZ]
          exact this
        rw [hZ] at HX2
        have HB1 := Lib.hid fun (g' : List Obj) (e : Nat) => big_call (L := fun g' => V ++ g') (g := g') (e := e) (w := w3) (l0 := V) (fun _ _ => by simp) (fun _ => rfl) (HX1.out _)
        have HB2 := Lib.hid fun (g' : List Obj) (e : Nat) => big_call (L := fun g' => V ++ g') (g := g') (e := e) (w := w3) (l0 := V) (fun _ _ => by simp) (fun _ => rfl) (HX2.out _)
        have HB4 := Lib.hid fun (g' : List Obj) (e : Nat) => big_call (L := fun g' => V ++ g') (g := g') (e := e) (w := w3) (l0 := V) (fun _ _ => by simp) (fun _ => rfl) (HX3.out _)
        have c0 : ∀ g, (V ++ g)[0]? = some (.cells (cv .u8 h) 60 (0, 0)) := fun g => by rw [List.getElem?_append_left (List.getElem?_eq_some_iff.1 v0).1, v0]
        have c2 : ∀ g, (V ++ g)[2]? = some (.cells (cv .u8 Y) 60 (0, 0)) := fun g => by rw [List.getElem?_append_left (List.getElem?_eq_some_iff.1 v2).1, v2]
        have hYl := hYg.1
        have FIN := Lib.hid fin
        subst hWe
        clear hW hY hX hXe hV v0 v2 vm fin hYg hZ hZ8 e0 e1 e2 em ej hj3 hjm hset0 hM l0 l1 l2 lj ljn hm hMl m2 hlen hld hbk
        rw [hz]
        refine wpIn_block ?_
        refine rnd_region_more 6 (by kernel_rfl) (by kernel_rfl) (by rintro ⟨a, w, h⟩; exact hLO ⟨a, w, h⟩) (by kernel_rfl) ?_
        simp only [List.take_succ_cons, List.take_zero, List.drop_succ_cons, List.drop_zero]
        repeat (go_big_quiet_step ((intro _; first | (with_reducible exact HB1.out _ _) | (with_reducible exact HB2.out _ _) | (with_reducible exact HB4.out _ _))))
        refine wpQuiet_nil ?_
        intro gR eR
        go_wp2
        exact FIN.out _ _ _
      case done =>
        intro D W hD hW hK0
        obtain ⟨w3, g, hs3, rfl⟩ := below_lay (by rw [List.length_set]) hW
        have hXe : hashN h s1 s2 s3 (i + 1) = hfold h S (pcsB t ((t.size + 15) / 16)) := by rw [HHS.out]; rfl
        rw [← hXe] at hK0 ⊢
        obtain ⟨X, hX⟩ : ∃ X, hashN h s1 s2 s3 (i + 1) = X := ⟨_, rfl⟩
        rw [hX] at hK0 ⊢
        rw [Wd_size, hMl] at hD
        obtain ⟨jd, hjd⟩ : ∃ jd, D = w1.heap.size + jd := ⟨D - w1.heap.size, by omega⟩
        subst hjd
        have hzz : w1.heap.size = w3.heap.size := hs3.size.symm
        rw [hzz, Wd_at] at hK0
        have hmk : ({ target := .collected (w1.heap.size + jd), args := #[] } : Deferred) :: marks w1 js = marks w3 (jd :: js) := by
          unfold marks; rw [hzz]; rfl
        obtain ⟨V, hV⟩ : ∃ V, M.set 2 (Obj.cells (cv .u8 X) 60 (0, 0)) ++ g = V := ⟨_, rfl⟩
        rw [hV] at hK0 ⊢
        have vold : ∀ k, k < m + 1 → ¬ 2 = k → V[k]? = M[k]? := fun k hk h2 => by rw [← hV, List.getElem?_append_left (by rw [List.length_set, hMl]; exact hk), List.getElem?_set_ne h2]
        have v2 : V[2]? = some (.cells (cv .u8 X) 60 (0, 0)) := by rw [← hV, List.getElem?_append_left (by rw [List.length_set, hMl]; have := HB3.out; omega), set_same (by rw [e2]; rfl)]
        have HV : Hid (V[0]? = some (.cells (cv .u8 h) 60 (0, 0)) ∧ V[1]? = some (.cells (cv .u8 (rep 16)) 60 (0, 0)) ∧ V[2]? = some (.cells (cv .u8 (hashN h s1 s2 s3 (i + 1))) 60 (0, 0)) ∧ (∀ j ∈ jd :: js, V[j]? = some (.deferred (some []))) ∧ (jd :: js).Nodup) := Lib.hid (by
          refine ⟨by rw [vold 0 (by omega) (by decide), e0], by rw [vold 1 (by have := HB3.out; omega) (by decide), e1], by rw [hX, v2], fun j hj => ?_, ?_⟩
          · rcases List.mem_cons.1 hj with rfl | hj
            · exact hK0
            · rw [vold j (by have := hjm j hj; omega) (fun e => hj3 j hj e.symm), ej j hj]
          · refine List.nodup_cons.2 ⟨fun hj => ?_, ljn⟩
            have := hjm jd hj
            omega)
        have HS3 : Hid (Same w w3) := Lib.hid (HSAME.out.trans hs3)
        clear hD hW hK0 hXe hX hV vold v2 e0 e1 e2 em ej hj3 hjm hset0 hM l0 l1 l2 lj ljn hm hMl m2 hld hbk hs3
        show Exit.inBlock 2 _ .normal { tmps := _, defers := ({ target := .collected (w1.heap.size + jd), args := #[] } : Deferred) :: marks w1 js } _
        rw [hmk, hzz]
        clear hmk hzz
        go_wp2
        refine ⟨⟨i + 1, w3, V, jd :: js, _, _, _, _, _, _, _, _, _, _, _, _, _, _, _, _, by have := HLI.out; omega, HS3.out, rfl, by go_num, HV⟩, ?_⟩
        have := HLI.out
        simp [intOf]; omega
    · obtain rfl : i = 3 := by omega
      obtain ⟨l0, l1, l2, lj, ljn⟩ := hL.out
      have hR : hashN h s1 s2 s3 3 = htext h (htext h (htext h (rep 16) s1) s2) s3 := rfl
      have hSg := (hashN_good h s1 s2 s3 3 (Nat.le_refl _)).1
      obtain ⟨S, hS⟩ : ∃ S, hashN h s1 s2 s3 3 = S := ⟨_, rfl⟩
      rw [hS] at l2 hSg hR
      have HR := Lib.hid hR
      have HSAME := Lib.hid hsame
      have HJ := Lib.hid (And.intro lj ljn)
      have hj1 : ∀ j ∈ js, j ≠ 1 := fun j hj e => by have := lj j hj; rw [e, l1] at this; cases this
      have HJ1 := Lib.hid hj1
      clear hS hR htx hs hsb1 hsame hL hj1 lj ljn
      go_wp2
      show LeavesInM _ _ _ _ _ _ _ _ _
      have hset1 : (L.set 1 (Obj.cells (cv .u8 S) 60 (0, 0)))[1]? = some (.cells (cv .u8 S) 60 (0, 0)) := set_same (by rw [l1]; rfl)
      refine leaves_marks w1 0 js _ (fun j hj => ?_) HJ.out.2 (fun l' hl' => ?_)
      · rw [List.getElem?_set_ne (fun e => HJ1.out j hj e.symm)]; exact HJ.out.1 j hj
      · have h1 : l'[1]? = some (.cells (cv .u8 S) 60 (0, 0)) := by rw [hl' 1 (fun hj => HJ1.out 1 hj rfl), hset1]
        have hrc := ret_cell (P := Try.prog) (fn := Try.f45) (R := fun e w' => e = .returned (.agg (cv .u8 S)) ∧ w' = Wd w1 l' 0) (a := { tmps := #[.agg (cv .u8 h), .slice (some ⟨sb, 0, none⟩) 3 3, .pointer (some ⟨w1.heap.size, 0, none⟩), undef, .pointer (some ⟨w1.heap.size + 1, 0, none⟩), .pointer (some ⟨w1.heap.size + 2, 0, none⟩), undef, u7, u8, .slice (some ⟨sb, 0, none⟩) 3 3, .int .i64 3, .int .i64 (3 : Nat), .bool false, u13, u14, u15, u16, u17, u18, u19, u20, u21, u22, u23, u24, .agg (cv .u8 S)], defers := [] }) (i := 1) rfl rfl ag60 h1 hSg rfl ⟨rfl, rfl⟩
        obtain ⟨_, v, hv, hv1, _⟩ := hrc
        exact ⟨v, hv, by rw [hv1, HR.out], HSAME.out.below l' 0⟩
end Go.Proofs.Ytfamoakicgmfgaa
namespace Go.Own
open Go.RowKit
theorem alX_slc {P : Program} {T : TypeId} {w : World} {l : List Obj} {d : Nat} {q : Option Addr} {n c : Nat} (h : zeroOf P T = .slice q n c) :
    alX P T (.slice q n c) w l d = .ok (.pointer (some ⟨w.heap.size + l.length, 0, none⟩)) (Wd w (l ++ [.cells #[.slice q n c] T (0, 0)]) d) := by
  have hz : ∀ W, (zeroValue T).run P W = .ok (.slice q n c) W := fun W => by
    unfold zeroOf at h
    cases hi : P.info? T with
    | none => simp [hi] at h
    | some i =>
      cases hz : i.zero with
      | none => simp [hi, hz] at h
      | some v => simp [hi, hz] at h; subst h; simp [zeroValue, typeInfo, hi, hz]
  simp [alX, alN, Instr.alloc, hz, newVar, newRow, Value.cells, Wd_size, Wd_alloc]
theorem mkX_cv0 {P : Program} {T : TypeId} {w : World} {l : List Obj} {d c : Nat} {k : IntKind} (hu : P.underlying T = some (.slice (P.elem T)))
    (h1 : (P.info? (P.elem T)).map (fun i => (i.zero, i.size, i.bytes)) = some (some (.int k 0), 1, 1)) (hc : c ≤ 140737488355328) :
    mkX P T (.int k 0) w l d 0 (c : Int) = .ok (.slice (some ⟨w.heap.size + l.length, 0, none⟩) 0 c) (Wd w (l ++ [.cells (cv k (rep c)) (P.elem T) (0, 0)]) d) := mkX_cv (n := 0) hu h1 (Nat.zero_le _) hc
end Go.Own
namespace Go.Proofs.Ytfamoakicgmfgaa
open Go.RowKit Go.Own
theorem z40 : zeroOf Try.prog 40 = .slice none 0 0 := by kernel_rfl
theorem cs40 : Try.prog.cellsOf 40 = 1 := by kernel_rfl
theorem sz40 (w : World) : (sizeOf 40).run Try.prog w = .ok 1 w := by kernel_rfl
theorem isa30x (w : World) : (isAgg 40).run Try.prog w = .ok false w := by kernel_rfl
theorem ag30x : aggSize Try.prog 40 = none := by kernel_rfl
theorem isa57 (w : World) : (isAgg 57).run Try.prog w = .ok false w := by kernel_rfl
theorem ag57 : aggSize Try.prog 57 = none := by kernel_rfl
theorem br30x : ByteRow Try.prog 40 5 := by
  have h : (Try.prog.info? 5).map (fun i => (i.zero, i.size, i.bytes)) = some (some (.int .u8 0), 1, 1) := by kernel_rfl
  refine ⟨Try.underlying40, ?_⟩
  cases hi : Try.prog.info? 5 with
  | none => rw [hi] at h; cases h
  | some i =>
    rw [hi] at h
    simp at h
    exact ⟨i, rfl, h.1, h.2.1, h.2.2⟩
attribute [local go_sem] z5 ag5 cs5 sz5 isa5 ag60 cs60 sz60 z60 isa9 ag9 set_same List.getElem?_set_ne z40 cs40 sz40 isa30x ag30x isa57 ag57 alX_slc stX_slc mkX_cv0
/-- One piece turned, the counter at j. -/
def tstep (cs nonce : List Nat) (o : List Nat × Nat) (x : Pc) : List Nat × Nat := (o.1 ++ ((List.range 16).map (xorF (fillL (bys x.1)) (pressL cs (nonce ++ hfL (o.2 + 1) 4)))).take x.1.size, o.2 + 1)
def tfold (cs nonce : List Nat) (j0 : Nat) (pre : List Pc) : List Nat × Nat := pre.foldl (tstep cs nonce) ([], j0)
theorem tfold_snoc (cs nonce : List Nat) (j0 : Nat) (x : Pc) (pre : List Pc) : tfold cs nonce j0 (pre ++ [x]) = tstep cs nonce (tfold cs nonce j0 pre) x := by simp only [tfold, List.foldl_append, List.foldl_cons, List.foldl_nil]
theorem tfold_count' (cs nonce : List Nat) (pre : List Pc) : ∀ o : List Nat × Nat, (pre.foldl (tstep cs nonce) o).2 = o.2 + pre.length := by
  induction pre with
  | nil => intro o; rfl
  | cons x pre ih => intro o; rw [List.foldl_cons, ih, List.length_cons]; show o.2 + 1 + _ = _; omega
theorem tfold_count (cs nonce : List Nat) (j0 : Nat) (pre : List Pc) : (tfold cs nonce j0 pre).2 = j0 + pre.length := tfold_count' cs nonce pre _
theorem tfold_length' (cs nonce : List Nat) (pre : List Pc) : ∀ o : List Nat × Nat, (pre.foldl (tstep cs nonce) o).1.length ≤ o.1.length + 16 * pre.length := by
  induction pre with
  | nil => intro o; exact Nat.le_refl _
  | cons x pre ih =>
    intro o
    rw [List.foldl_cons]
    refine Nat.le_trans (ih _) ?_
    show (_ ++ _ : List Nat).length + _ ≤ _
    rw [List.length_append, List.length_take, List.length_cons]
    have := x.2.2
    omega
theorem tfold_length (cs nonce : List Nat) (j0 : Nat) (pre : List Pc) : (tfold cs nonce j0 pre).1.length ≤ 16 * pre.length := by
  have := tfold_length' cs nonce pre ([], j0)
  rw [List.length_nil, Nat.zero_add] at this
  exact this
/-- Between two pieces: M is what lay at the loop's start; iN the counter's place, m + 1 the first row's, m + 2 the slice's. -/
structure TurnI (w3 : World) (M : List Obj) (iN m j : Nat) (L : List Obj) (v : Value) (s : List Nat) : Prop where
  len : M.length ≤ L.length
  old : ∀ p, p < M.length → p ≠ iN → p ≠ m + 1 → p ≠ m + 2 → L[p]? = M[p]?
  num : L[iN]? = some (.cells #[.int .u64 (j : Int)] 75 (0, 0))
  box : L[m + 2]? = some (.cells #[v] 40 (0, 0))
  has : Has w3 L v s
  out : ∀ p, p < M.length → p ≠ m + 1 → ∀ n c, v ≠ .slice (some ⟨w3.heap.size + p, 0, none⟩) n c
def TurnW (w : World) (M : List Obj) (iN m : Nat) (cs nonce : List Nat) (j0 : Nat) (pre : List Pc) (W : World) : Prop :=
  ∃ w3 L v, Same w w3 ∧ W = Wd w3 L 0 ∧ TurnI w3 M iN m (j0 + pre.length) L v (tfold cs nonce j0 pre).1
theorem TurnW.own {w : World} {M : List Obj} {iN m : Nat} {cs nonce : List Nat} {j0 : Nat} {B : Nat} (hB : B = w.heap.size + M.length) : OwnFrom B (TurnW w M iN m cs nonce j0) := by
  rintro pre W W' row ⟨w3, L, v, hs, rfl, hI⟩ hg hr
  have hsz := hs.size
  obtain ⟨w4, L', hs4, rfl, hlen, hsame⟩ := grown_wd hg (fun r e => by have := (hr r e).1; omega)
  have k1 : ∀ p, p < M.length → L'[p]? = L[p]? := fun p hp => hsame p (by have := hI.len; omega) (fun e => by have := (hr _ e).1; omega)
  have k2 : ∀ (p : Nat) (o : Obj), L[p]? = some o → o.isCells = true → L'[p]? = some o := fun p o hp ho => by
    rw [hsame p (List.getElem?_eq_some_iff.1 hp).1 (fun e => ?_), hp]
    obtain ⟨_, o', ho', hc⟩ := hr _ e
    rw [Wd_at, hp] at ho'
    obtain rfl := Option.some.inj ho'
    rw [ho] at hc; cases hc
  refine ⟨w4, L', v, hs.trans hs4, rfl, ⟨Nat.le_trans hI.len hlen, fun p hp a b c => by rw [k1 p hp, hI.old p hp a b c], k2 _ _ hI.num rfl, k2 _ _ hI.box rfl, ?_, fun p hp a n c => by rw [hs4.size]; exact hI.out p hp a n c⟩⟩
  obtain ⟨i, S, t, f, h1, h2, h3⟩ := hI.has
  exact ⟨i, S, t, f, by rw [hs4.size]; exact h1, k2 _ _ h2 rfl, h3⟩
theorem prs_keep {w w3 : World} {l0 l : List Obj} {d e iN vb cb : Nat} {cs : List Nat} {q : Int} {T : TypeId} (h : Prs (Wd w l0 d) vb cb cs) (hs : Same w w3) (hN : l0[iN]? = some (.cells #[.int .u64 q] T (0, 0)))
    (hk : ∀ p, p < l0.length → p ≠ iN → l[p]? = l0[p]?) : Prs (Wd w3 l e) vb cb cs := by
  have key : ∀ b o, b ≠ w.heap.size + iN → blk (Wd w l0 d) b = some o → blk (Wd w3 l e) b = some o := fun b o hb ho => by
    rw [blk_same hs l e 0]
    unfold blk Wd at ho ⊢
    simp only [Array.getElem?_append, List.getElem?_toArray] at ho ⊢
    by_cases h1 : b < w.heap.size
    · rw [if_pos h1] at ho ⊢; exact ho
    · rw [if_neg h1] at ho ⊢
      have h2 := (List.getElem?_eq_some_iff.1 ho).1
      rw [hk _ h2 (by omega)]; exact ho
  have e0 : blk (Wd w l0 d) (w.heap.size + iN) = some (.cells #[.int .u64 q] T (0, 0)) := by rw [blk_at]; exact hN
  refine ⟨key _ _ (fun e2 => ?_) h.var, key _ _ (fun e2 => ?_) h.cip, h.len⟩
  · have := h.var; rw [e2, e0] at this; simp at this
  · have := h.cip
    rw [e2, e0] at this
    have h3 := congrArg (fun o => match o with | some (Obj.cells c _ _) => c.size | _ => 0) this
    simp [h.len] at h3
/-- While a piece is turned, in whatever order. -/
structure TI4 (w3 : World) (L : List Obj) (iN j : Nat) (NX : Value) (xs : ByteArray) (F K Z : List Nat) (b : Nat → Bool) (x14 x15 x16 x17 x18 x7 : Value) (i7 : Nat) (l : List Obj) : Prop where
  len : L.length ≤ l.length
  old : ∀ p, p < L.length → p ≠ iN → l[p]? = L[p]?
  num : l[iN]? = some (.cells #[.int .u64 (((if b 3 then j + 1 else j) : Nat) : Int)] 75 (0, 0))
  h0 : b 0 = true → x14 = .string xs
  h1 : b 1 = true → x15 = .agg (cv .u8 F)
  h2 : b 2 = true → x16 = NX
  h3 : b 3 = true → x17 = .agg (cv .u8 K)
  h4 : b 4 = true → x18 = .agg (cv .u8 Z)
  h5 : b 5 = true → x7 = .pointer (some ⟨w3.heap.size + i7, 0, none⟩) ∧ L.length ≤ i7 ∧ l[i7]? = some (.cells (cv .u8 (if b 6 then Z else rep 16)) 60 (0, 0))
  c6 : b 6 = true → b 5 = true
theorem TI4.app {w3 : World} {L : List Obj} {iN j : Nat} {NX : Value} {xs : ByteArray} {F K Z : List Nat} {b : Nat → Bool} {x14 x15 x16 x17 x18 x7 : Value} {i7 : Nat} {l : List Obj} (h : TI4 w3 L iN j NX xs F K Z b x14 x15 x16 x17 x18 x7 i7 l) (g : List Obj) :
    TI4 w3 L iN j NX xs F K Z b x14 x15 x16 x17 x18 x7 i7 (l ++ g) := by
  have e : ∀ {i : Nat} {o : Obj}, l[i]? = some o → (l ++ g)[i]? = some o := fun {i o} hi => by rw [List.getElem?_append_left (List.getElem?_eq_some_iff.1 hi).1]; exact hi
  refine ⟨by rw [List.length_append]; have := h.len; omega, fun p hp hne => ?_, e h.num, h.h0, h.h1, h.h2, h.h3, h.h4, fun k => ⟨(h.h5 k).1, (h.h5 k).2.1, e (h.h5 k).2.2⟩, h.c6⟩
  rw [List.getElem?_append_left (by have := h.len; omega)]
  exact h.old p hp hne
set_option maxRecDepth 100000 in
set_option maxHeartbeats 4000000 in
theorem gturn_any (w : World) (l : List Obj) (d iN iP iS vb cb : Nat) (cs : List Nat) (nonce text : ByteArray) (j0 : Nat) (hN : l[iN]? = some (.cells #[.int .u64 (j0 : Int)] 75 (0, 0)))
    (hP : l[iP]? = some (.cells #[.func (.func 36) #[] #[.pointer (some ⟨vb, 0, none⟩)]] 55 (0, 0))) (hS : l[iS]? = some (.cells #[.string nonce] 9 (0, 0))) (H : Prs (Wd w l d) vb cb cs) (hn : nonce.size = 12) (ht : text.size ≤ 1000000) (hj : j0 ≤ 10) :
    Calls Try.prog 25 #[.string text, .func (.func 40) #[] #[.pointer (some ⟨w.heap.size + iN, 0, none⟩), .pointer (some ⟨w.heap.size + iP, 0, none⟩), .pointer (some ⟨w.heap.size + iS, 0, none⟩)]] (Wd w l d) fun e w' =>
      e = .returned (.string (mkS (tfold cs (bys nonce) j0 (pcsB text ((text.size + 15) / 16))).1)) ∧ Below w.heap.size w w' ∧ ∀ b o, b ≠ w.heap.size + iN → blk (Wd w l d) b = some o → blk w' b = some o := by
  have hmk := hmk5
  have hcap : text.size ≤ 140737488355328 := by omega
  refine (callsIn_wide (n := 3)).1 (callsIn_of_wp_marks Try.func25 rfl trivial ?_ rfl)
  refine wpIn_wide.2 ?_
  simp only [Try.ntmps25, List.size_toArray, List.length_cons, List.length_nil, Nat.reduceAdd, Nat.reduceSub, Array.replicate_succ, Array.replicate_zero, List.push_toArray, List.append_toArray, List.nil_append, List.cons_append]
  go_wp2_with fail
  refine (pieces_any text w _ d).mono ?_
  rintro e w' ⟨rfl, rfl⟩
  go_wp2
  obtain ⟨m, hm⟩ : ∃ m, l.length = m := ⟨_, rfl⟩
  rw [hm]
  obtain ⟨NX, hNX⟩ : ∃ NX, Value.func (.func 40) #[] #[.pointer (some ⟨w.heap.size + iN, 0, none⟩), .pointer (some ⟨w.heap.size + iP, 0, none⟩), .pointer (some ⟨w.heap.size + iS, 0, none⟩)] = NX := ⟨_, rfl⟩
  rw [hNX]
  obtain ⟨M, hM⟩ : ∃ M, l ++ [Obj.cells #[NX] 57 (0, 0), .cells (cv .u8 (rep text.size)) 5 (0, 0), .cells #[.slice (some ⟨w.heap.size + (m + 1), 0, none⟩) 0 text.size] 40 (0, 0), .cells #[.string text] 9 (0, 0)] = M := ⟨_, rfl⟩
  rw [hM]
  have hMl : M.length = m + 4 := by rw [← hM, List.length_append, hm]; rfl
  have hMo : ∀ p, p < m → M[p]? = l[p]? := fun p hp => by rw [← hM, List.getElem?_append_left (by omega)]
  have hMn : ∀ k, M[m + k]? = [Obj.cells #[NX] 57 (0, 0), .cells (cv .u8 (rep text.size)) 5 (0, 0), .cells #[.slice (some ⟨w.heap.size + (m + 1), 0, none⟩) 0 text.size] 40 (0, 0), .cells #[.string text] 9 (0, 0)][k]? := fun k => by
    rw [← hM, List.getElem?_append_right (by omega), hm, Nat.add_sub_cancel_left]
  have b1 : iN < m := hm ▸ (List.getElem?_eq_some_iff.1 hN).1
  have b2 : iP < m := hm ▸ (List.getElem?_eq_some_iff.1 hP).1
  have b3 : iS < m := hm ▸ (List.getElem?_eq_some_iff.1 hS).1
  have n1 : iN ≠ iP := fun e => by rw [e, hP] at hN; simp at hN
  have n2 : iN ≠ iS := fun e => by rw [e, hS] at hN; simp at hN
  have hstart : TurnW w M iN m cs (bys nonce) j0 [] (Wd w M d) := by
    refine ⟨{ w with drawn := w.drawn + d }, M, .slice (some ⟨w.heap.size + (m + 1), 0, none⟩) 0 text.size, ⟨rfl, rfl, rfl, rfl⟩, rfl, ⟨Nat.le_refl _, fun _ _ _ _ _ => rfl, by rw [hMo iN b1, hN]; rfl, hMn 2, ?_, ?_⟩⟩
    · exact ⟨m + 1, rep text.size, 5, (0, 0), by rw [rep_length]; rfl, hMn 1, okf_none _, rfl, Nat.zero_le _⟩
    · intro p hp hne n c e
      simp only [Value.slice.injEq, Option.some.injEq, Addr.mk.injEq] at e
      omega
  refine wp_pieces text ht (w.heap.size + (m + 3)) (by rw [blk_at]; exact hMn 3) rfl (TurnW w M iN m cs (bys nonce) j0) (TurnW.own (by rw [Wd_size])) hstart
    (fun x => { tmps := #[.string text, NX, undef, .pointer (some ⟨w.heap.size + m, 0, none⟩), .string ByteArray.empty, .pointer (some ⟨w.heap.size + (m + 2), 0, none⟩), .string x.1, undef, .string text, .int .i64 text.size, .slice (some ⟨w.heap.size + (m + 1), 0, none⟩) 0 text.size, .string text, .func (.func 62) #[] #[.pointer (some ⟨w.heap.size + (m + 3), 0, none⟩)], .string x.1, undef, undef, undef, undef, undef, undef, undef, undef, undef, undef, undef, undef], defers := [] }) ?assign ?body ?done
  case assign =>
    intro lo x W K0 hK0
    refine region_rnd_lit (by kernel_rfl) (by rintro ⟨_, _, h⟩; exact h) ?_
    go_wp2
    exact hK0
  case body =>
    intro lo pre x W hW hlen
    obtain ⟨w3, L, v, hs3, hWe, hI⟩ := hW
    obtain ⟨j, hjj⟩ : ∃ j, j0 + pre.length = j := ⟨_, rfl⟩
    have hjb : j + 1 < 4294967296 := by omega
    have hcount := tfold_count cs (bys nonce) j0 pre
    have hlen1 := tfold_length cs (bys nonce) j0 pre
    have hsn := tfold_snoc cs (bys nonce) j0 x pre
    rw [hjj] at hI hcount
    obtain ⟨o, ho⟩ : ∃ o, (tfold cs (bys nonce) j0 pre).1 = o := ⟨_, rfl⟩
    rw [ho] at hI hlen1
    obtain ⟨F, hF⟩ : ∃ F, fillL (bys x.1) = F := ⟨_, rfl⟩
    obtain ⟨Kk, hKk⟩ : ∃ Kk, pressL cs (bys nonce ++ hfL (j + 1) 4) = Kk := ⟨_, rfl⟩
    obtain ⟨Z, hZ⟩ : ∃ Z, (List.range 16).map (xorF F Kk) = Z := ⟨_, rfl⟩
    have hFl : F.length = 16 := by rw [← hF]; exact fillL_length _
    have hKl : Kk.length = 16 := by rw [← hKk]; unfold pressL rndLast; exact addL_length _ _ _
    have hZl : Z.length = 16 := by rw [← hZ]; simp
    have hO : (tfold cs (bys nonce) j0 (pre ++ [x])).1 = o ++ Z.take x.1.size := by
      rw [hsn]
      show (tfold cs (bys nonce) j0 pre).1 ++ ((List.range 16).map (xorF (fillL (bys x.1)) (pressL cs (bys nonce ++ hfL ((tfold cs (bys nonce) j0 pre).2 + 1) 4)))).take x.1.size = _
      rw [ho, hcount, hF, hKk, hZ]
    have hjn : j0 + (pre ++ [x]).length = j + 1 := by rw [List.length_append, ← hjj]; rfl
    have fin : ∀ (a' : Act) (L3 : List Obj) (v3 : Value) (e : Nat), (∀ p, p < L.length → p ≠ iN → p ≠ m + 2 → (∀ n c, v ≠ .slice (some ⟨w3.heap.size + p, 0, none⟩) n c) → L3[p]? = L[p]?) → L.length ≤ L3.length → L3[iN]? = some (.cells #[.int .u64 ((j + 1 : Nat) : Int)] 75 (0, 0)) → L3[m + 2]? = some (.cells #[v3] 40 (0, 0)) → Has w3 L3 v3 (o ++ Z.take x.1.size) →
        (∀ p, p < L.length → (∀ n c, v ≠ .slice (some ⟨w3.heap.size + p, 0, none⟩) n c) → ∀ n c, v3 ≠ .slice (some ⟨w3.heap.size + p, 0, none⟩) n c) →
        ownPostK (KeepsB (w.heap.size + (m + 3))) (TurnW w M iN m cs (bys nonce) j0) (fun _ _ _ => False) (pre ++ [x]) W .normal a' (Wd w3 L3 e) := fun a' L3 v3 e h1 h2 h3 h4 h5 h6 => by
      have hLm : M.length ≤ L.length := hI.len
      have hcell : ∀ p, (∃ n c, v = .slice (some ⟨w3.heap.size + p, 0, none⟩) n c) → ∃ S t f, L[p]? = some (.cells (cv .u8 S) t f) := by
        rintro p ⟨n, c, rfl⟩
        obtain ⟨i, S, t, f, e1, e2, _⟩ := hI.has
        simp only [Value.slice.injEq, Option.some.injEq, Addr.mk.injEq] at e1
        have : p = i := by omega
        subst this
        exact ⟨S, t, f, e2⟩
      have hnv : ∀ p o, L[p]? = some o → (∀ S t f, o ≠ .cells (cv .u8 S) t f) → ∀ n c, v ≠ .slice (some ⟨w3.heap.size + p, 0, none⟩) n c := fun p o hp hne n c e2 => by
        obtain ⟨S, t, f, e3⟩ := hcell p ⟨n, c, e2⟩
        rw [hp] at e3
        exact hne _ _ _ (Option.some.inj e3)
      have ht3 : L[m + 3]? = some (.cells #[.string text] 9 (0, 0)) := by rw [hI.old (m + 3) (by omega) (by omega) (by omega) (by omega), hMn 3]; rfl
      have hstr : ∀ S t f, Obj.cells #[Value.string text] 9 (0, 0) ≠ .cells (cv .u8 S) t f := fun S t f e2 => by
        injection e2 with e3
        cases S <;> simp [cv] at e3
      refine ⟨⟨by rw [hWe]; simp [Wd]; omega, fun k ob hk hc => ?_⟩, fun ob hob => ?_, ?_⟩
      · rw [hWe] at hk
        simp only [Wd, Array.getElem?_append, List.getElem?_toArray] at hk ⊢
        by_cases h1' : k < w3.heap.size
        · rw [if_pos h1'] at hk ⊢; exact hk
        · rw [if_neg h1'] at hk ⊢
          have hkl := (List.getElem?_eq_some_iff.1 hk).1
          have q1 : k - w3.heap.size ≠ iN := fun e2 => by rw [e2, hI.num] at hk; obtain rfl := Option.some.inj hk; cases hc
          have q2 : k - w3.heap.size ≠ m + 2 := fun e2 => by rw [e2, hI.box] at hk; obtain rfl := Option.some.inj hk; cases hc
          rw [h1 _ hkl q1 q2 (hnv _ _ hk (fun S t f e2 => by subst e2; cases hc)), hk]
      · rw [hWe, ← hs3.size, blk_at, ht3] at hob
        rw [← hs3.size, blk_at, h1 (m + 3) (by omega) (by omega) (by omega) (hnv _ _ ht3 hstr), ht3]
        exact hob
      · refine ⟨{ w3 with drawn := w3.drawn + e }, L3, v3, hs3.trans ⟨rfl, rfl, rfl, rfl⟩, rfl, ?_⟩
        rw [hjn, hO]
        refine ⟨by omega, fun p hp a b c => ?_, h3, h4, h5, fun p hp a n c => h6 p (by omega) (fun n c => hI.out p hp a n c) n c⟩
        rw [h1 p (by omega) a c (fun n c => hI.out p hp b n c), hI.old p hp a b c]
    have hLO : ¬ LetsOut (ownPostK (KeepsB (w.heap.size + (m + 3))) (TurnW w M iN m cs (bys nonce) j0) (fun _ _ _ => False) (pre ++ [x]) W) := by rintro ⟨_, _, h⟩; exact h
    generalize ownPostK (KeepsB (w.heap.size + (m + 3))) (TurnW w M iN m cs (bys nonce) j0) (fun _ _ _ => False) (pre ++ [x]) W = Q0 at fin hLO ⊢
    have hNX3 : NX = .func (.func 40) #[] #[.pointer (some ⟨w3.heap.size + iN, 0, none⟩), .pointer (some ⟨w3.heap.size + iP, 0, none⟩), .pointer (some ⟨w3.heap.size + iS, 0, none⟩)] := by rw [← hNX, hs3.size]
    have HNX3 := Lib.hid hNX3
    have hbx : L[m]? = some (.cells #[NX] 57 (0, 0)) := by rw [hI.old m (by omega) (by omega) (by omega) (by omega)]; exact hMn 0
    have hLP : L[iP]? = some (.cells #[.func (.func 36) #[] #[.pointer (some ⟨vb, 0, none⟩)]] 55 (0, 0)) := by rw [hI.old iP (by omega) (fun e => n1 e.symm) (by omega) (by omega), hMo iP b2, hP]
    have hLS : L[iS]? = some (.cells #[.string nonce] 9 (0, 0)) := by rw [hI.old iS (by omega) (fun e => n2 e.symm) (by omega) (by omega), hMo iS b3, hS]
    have hPrs : ∀ l' e, (∀ p, p < L.length → p ≠ iN → l'[p]? = L[p]?) → Prs (Wd w3 l' e) vb cb cs := fun l' e hk => prs_keep H hs3 hN (fun p hp hne => by
      rw [hk p (by have := hI.len; omega) hne, hI.old p (by omega) hne (by omega) (by omega), hMo p (by omega)])
    have hz : w.heap.size = w3.heap.size := hs3.size.symm
    have HX1 : Hid (∀ W, Calls Try.prog 39 #[.string x.1] W fun e w' => e = .returned (.agg (cv .u8 F)) ∧ Grows W w') := Lib.hid fun W => hF ▸ filled_any x.1 W
    have HX4 : Hid (∀ W, Calls Try.prog 43 #[.agg (cv .u8 F), .agg (cv .u8 Kk)] W fun e w' => e = .returned (.agg (cv .u8 Z)) ∧ Grows W w') := Lib.hid fun W => hZ ▸ bplus_any F Kk hFl hKl W
    have HX3 : Hid (∀ l' e, l'[iN]? = some (.cells #[.int .u64 (j : Int)] 75 (0, 0)) → (∀ p, p < L.length → p ≠ iN → l'[p]? = L[p]?) → Calls Try.prog 40 #[.pointer (some ⟨w3.heap.size + iN, 0, none⟩), .pointer (some ⟨w3.heap.size + iP, 0, none⟩), .pointer (some ⟨w3.heap.size + iS, 0, none⟩)] (Wd w3 l' e) fun r w' =>
        r = .returned (.agg (cv .u8 Kk)) ∧ ∃ g d', w' = Wd w3 (l'.set iN (.cells #[.int .u64 ((j + 1 : Nat) : Int)] 75 (0, 0)) ++ g) d') := Lib.hid fun l' e h1 h2 => by
      have := next_any w3 l' e iN iP iS vb cb cs nonce j h1 (by rw [h2 iP (by have := hI.len; omega) (fun e => n1 e.symm), hLP]) (by rw [h2 iS (by have := hI.len; omega) (fun e => n2 e.symm), hLS]) (hPrs l' e h2) hn hjb
      rwa [hKk] at this
    have HI := Lib.hid hI
    have FIN := Lib.hid fin
    have hx1 := x.2.1
    have hx2 := x.2.2
    have hob : o.length + x.1.size ≤ 1099511627776 := by omega
    have hmL : m + 4 ≤ L.length := by have := hI.len; omega
    have hbox := hI.box
    have hnum := hI.num
    clear hNX3 hI fin hsn hO hcount hlen1 ho hjn hjj hF hKk hZ hlen hPrs
    subst hWe
    rw [hz]
    refine wpIn_block ?_
    refine wpIn_seq_k fun K hK => ?_
    have hpost : ∀ (x14 x15 x16 x17 x18 : Value) (i7 : Nat) (l' : List Obj) (d : Nat), L.length ≤ l'.length → (∀ p, p < L.length → p ≠ iN → l'[p]? = L[p]?) → l'[iN]? = some (.cells #[.int .u64 ((j + 1 : Nat) : Int)] 75 (0, 0)) → L.length ≤ i7 → l'[i7]? = some (.cells (cv .u8 Z) 60 (0, 0)) →
        K { tmps := List.toArray (.string text :: NX :: undef :: .pointer (some ⟨w3.heap.size + m, 0, none⟩) :: .string ByteArray.empty :: .pointer (some ⟨w3.heap.size + (m + 2), 0, none⟩) :: .string x.1 :: .pointer (some ⟨w3.heap.size + i7, 0, none⟩) :: .string text :: .int .i64 text.size :: .slice (some ⟨w3.heap.size + (m + 1), 0, none⟩) 0 text.size :: .string text :: .func (.func 62) #[] #[.pointer (some ⟨w3.heap.size + (m + 3), 0, none⟩)] :: .string x.1 :: x14 :: x15 :: x16 :: x17 :: x18 :: undef :: undef :: undef :: undef :: undef :: undef :: undef :: []), defers := [] } (Wd w3 l' d) := by
      intro x14 x15 x16 x17 x18 i7 l' d h1 h2 h3 h4 h5
      refine hK _ _ ?_
      clear hK
      have k2 : l'[m + 2]? = some (.cells #[v] 40 (0, 0)) := by rw [h2 (m + 2) (by omega) (by omega), hbox]
      have hH : Has w3 l' v o := by
        obtain ⟨i, S, t, f, e1, e2, e3⟩ := HI.out.has
        refine ⟨i, S, t, f, e1, ?_, e3⟩
        rw [h2 i (List.getElem?_eq_some_iff.1 e2).1 (fun e4 => ?_), e2]
        rw [e4, hnum] at e2
        have e5 := Option.some.inj e2
        injection e5 with e6
        cases S <;> simp [cv] at e6
      have hvn : ∀ p ob, l'[p]? = some ob → (∀ S t f, ob ≠ .cells (cv .u8 S) t f) → ∀ n c, v ≠ .slice (some ⟨w3.heap.size + p, 0, none⟩) n c := fun p ob hp hne n c e2 => by
        obtain ⟨i, S, t, f, e1, e3, _⟩ := hH
        rw [e1] at e2
        simp only [Value.slice.injEq, Option.some.injEq, Addr.mk.injEq] at e2
        have : p = i := by omega
        subst this
        rw [hp] at e3
        exact hne _ _ _ (Option.some.inj e3)
      have hv1 := hvn _ _ h3 (fun S t f e2 => by injection e2 with e3; cases S <;> simp [cv] at e3)
      have hv2 := hvn _ _ k2 (fun S t f e2 => by
        injection e2 with e3
        obtain ⟨i, S', t', f', e1, _⟩ := hH
        rw [e1] at e3
        cases S <;> simp [cv] at e3)
      have HA := Lib.hid hH
      have H1 := Lib.hid h1
      have H2 := Lib.hid h2
      have H3 := Lib.hid h3
      have H4 := Lib.hid h4
      have H5 := Lib.hid h5
      have HV1 := Lib.hid hv1
      have HV2 := Lib.hid hv2
      have HK2 := Lib.hid k2
      have hxi : (x.1.size : Int) ≤ 16 := by omega
      clear hH hvn hv1 hv2 h1 h2 h3 h4 hbox hnum hbx hLP hLS
      refine rnd_region_drew 4 (by kernel_rfl) (by kernel_rfl) (by rintro ⟨a, w, h⟩; exact hLO ⟨a, w, h⟩) (by kernel_rfl) ?_
      simp only [List.take_succ_cons, List.take_zero, List.drop_succ_cons, List.drop_zero]
      repeat (go_big_quiet_step (fail))
      refine wpQuiet_nil ?_
      intro eR
      refine wpList_app rfl (.tmp 19) (.tmp 22) 40 5 rfl br30x v o rfl (Or.inr HA.out) i7 0 x.1.size 16 rfl Z 60 (0, 0) h5 (by omega) hx1 hob (fun v' l'' d' hH2 hK2 => ?_)
      obtain ⟨i', S', t', f', hv', q1, q2⟩ := hH2.out
      obtain ⟨nn, hnn⟩ : ∃ nn, (o ++ (Z.drop 0).take x.1.size).length = nn := ⟨_, rfl⟩
      rw [hnn] at hv'
      subst hv'
      have k5 : l''[m + 2]? = some (.cells #[v] 40 (0, 0)) := by rw [(hK2.out.2 (m + 2) (by have := H1.out; omega) HV2.out).1, HK2.out]
      have hne2 : ¬ m + 2 = i' := fun e2 => by
        rw [← e2, k5] at q1
        obtain ⟨i, S, t, f, e1, _⟩ := HA.out
        have e5 := Option.some.inj q1
        injection e5 with e6
        rw [e1] at e6
        cases S' <;> simp [cv] at e6
      have hHas : Hid (Has w3 (l''.set (m + 2) (.cells #[.slice (some ⟨w3.heap.size + i', 0, none⟩) nn S'.length] 40 (0, 0))) (.slice (some ⟨w3.heap.size + i', 0, none⟩) nn S'.length) (o ++ (Z.drop 0).take x.1.size)) :=
        Lib.hid ⟨i', S', t', f', by rw [hnn], by rw [List.getElem?_set_ne hne2, q1], q2⟩
      clear q1 q2 h5 hnn
      go_wp2
      refine FIN.out _ _ _ _ (fun p hp a b c => ?_) ?_ ?_ (set_same (by rw [k5]; rfl)) hHas.out (fun p hp c => (hK2.out.2 p (by have := H1.out; omega) c).2)
      · rw [List.getElem?_set_ne (fun e => b e.symm), (hK2.out.2 p (by have := H1.out; omega) c).1, H2.out p hp a]
      · rw [List.length_set]; exact Nat.le_trans H1.out hK2.out.1
      · rw [List.getElem?_set_ne (by omega), (hK2.out.2 iN (by have := H1.out; omega) HV1.out).1, H3.out]
    refine region_rnd (by kernel_rfl) (by kernel_rfl) (by rintro ⟨a, w, h⟩; exact hLO ⟨a, w, h⟩) ?_
    clear hK
    refine wpAny_of_inv (fun done a wr => ∃ (x14 x15 x16 x17 x18 x7 : Value) (i7 : Nat) (l' : List Obj) (d : Nat), a = { tmps := List.toArray (.string text :: NX :: undef :: .pointer (some ⟨w3.heap.size + m, 0, none⟩) :: .string ByteArray.empty :: .pointer (some ⟨w3.heap.size + (m + 2), 0, none⟩) :: .string x.1 :: x7 :: .string text :: .int .i64 text.size :: .slice (some ⟨w3.heap.size + (m + 1), 0, none⟩) 0 text.size :: .string text :: .func (.func 62) #[] #[.pointer (some ⟨w3.heap.size + (m + 3), 0, none⟩)] :: .string x.1 :: x14 :: x15 :: x16 :: x17 :: x18 :: undef :: undef :: undef :: undef :: undef :: undef :: undef :: []), defers := [] } ∧ wr = Wd w3 l' d ∧ TI4 w3 L iN j NX x.1 F Kk Z (fun j => done.getD j false) x14 x15 x16 x17 x18 x7 i7 l') (by kernel_rfl) ?step ?fin _ _ _ _ (by simp) (by decide +kernel) ?start
    case start =>
      have hz : ∀ n j, (Array.replicate n false).getD j false ≠ true := fun n j h => by rw [getD_replicate_false] at h; cases h
      have hz0 : ∀ n j, (Array.replicate n false).getD j false = false := fun n j => getD_replicate_false _ _
      exact ⟨undef, undef, undef, undef, undef, undef, 0, L, _, rfl, rfl, ⟨Nat.le_refl _, fun _ _ _ => rfl, by simp only [hz0, Bool.false_eq_true, if_false]; exact hnum, fun h => absurd h (hz _ _), fun h => absurd h (hz _ _), fun h => absurd h (hz _ _), fun h => absurd h (hz _ _), fun h => absurd h (hz _ _), fun h => absurd h (hz _ _), fun h => absurd h (hz _ _)⟩⟩
    case fin =>
      rintro done a wr ⟨x14, x15, x16, x17, x18, x7, i7, l', d, rfl, rfl, hI⟩ hall
      have e3 : done.getD 3 false = true := hall 3 (by decide)
      have e6 : done.getD 6 false = true := hall 6 (by decide)
      obtain ⟨rfl, q1, q2⟩ := hI.h5 (hall 5 (by decide))
      have q3 := hI.num
      simp only [e3, e6, if_true] at q2 q3
      exact hpost _ _ _ _ _ i7 l' d hI.len hI.old q3 q1 q2
    case step =>
      rintro done a wr i ⟨x14, x15, x16, x17, x18, x7, i7, l', d, rfl, rfl, hI⟩ hnd hdep hlt
      have hU := Lib.hid (upd_of hnd)
      have hi7 : i = 0 ∨ i = 1 ∨ i = 2 ∨ i = 3 ∨ i = 4 ∨ i = 5 ∨ i = 6 := by
        have : i < 7 := hlt
        omega
      have HI4 := Lib.hid hI
      have HD := Lib.hid hdep
      clear hpost hdep hI
      rcases hi7 with rfl | rfl | rfl | rfl | rfl | rfl | rfl
      · refine wpOp_lit (by decide) fun o ho => ?_
        simp only [List.getElem?_cons_zero, Option.some.injEq] at ho
        subst ho
        refine ⟨rfl, fun K' hK' => ?_⟩
        go_simp
        refine hK' _ _ ⟨_, x15, x16, x17, x18, x7, i7, l', d, rfl, rfl, ?_⟩
        have hI := HI4.out
        rw [hU.out]
        generalize (fun j => done.getD j false) = b at hI
        exact ⟨hI.len, hI.old, hI.num, fun _ => rfl, hI.h1, hI.h2, hI.h3, hI.h4, hI.h5, hI.c6⟩
      · refine wpOp_lit (by decide) fun o ho => ?_
        simp only [List.getElem?_cons_zero, List.getElem?_cons_succ, Option.some.injEq] at ho
        subst ho
        refine ⟨rfl, fun K' hK' => ?_⟩
        have e0 := HI4.out.h0 (HD.out _ rfl ⟨0, .data⟩ (by simp) rfl)
        subst e0
        go_simp
        refine (HX1.out _).mono ?_
        rintro e w' ⟨rfl, g, dd, rfl⟩
        rw [Wd_wd]
        go_simp
        refine hK' _ _ ⟨_, _, x16, x17, x18, x7, i7, l' ++ g, _, rfl, rfl, ?_⟩
        have hI := HI4.out.app g
        rw [hU.out]
        generalize (fun j => done.getD j false) = b at hI
        exact ⟨hI.len, hI.old, hI.num, hI.h0, fun _ => rfl, hI.h2, hI.h3, hI.h4, hI.h5, hI.c6⟩
      · refine wpOp_lit (by decide) fun o ho => ?_
        simp only [List.getElem?_cons_zero, List.getElem?_cons_succ, Option.some.injEq] at ho
        subst ho
        refine ⟨rfl, fun K' hK' => ?_⟩
        have k0 : l'[m]? = some (.cells #[NX] 57 (0, 0)) := by rw [HI4.out.old m (by omega) (by omega), hbx]
        go_simp
        refine hK' _ _ ⟨x14, x15, _, x17, x18, x7, i7, l', d, rfl, rfl, ?_⟩
        have hI := HI4.out
        rw [hU.out]
        generalize (fun j => done.getD j false) = b at hI
        exact ⟨hI.len, hI.old, hI.num, hI.h0, hI.h1, fun _ => rfl, hI.h3, hI.h4, hI.h5, hI.c6⟩
      · refine wpOp_lit (by decide) fun o ho => ?_
        simp only [List.getElem?_cons_zero, List.getElem?_cons_succ, Option.some.injEq] at ho
        subst ho
        refine ⟨rfl, fun K' hK' => ?_⟩
        have e0 := HI4.out.h2 (HD.out _ rfl ⟨2, .data⟩ (by simp) rfl)
        have hz3 : done.getD 3 false = false := by
          cases hz : done.getD 3 false with
          | false => rfl
          | true => rw [getD_both hnd] at hz; cases hz
        have hnum4 : l'[iN]? = some (.cells #[.int .u64 (j : Int)] 75 (0, 0)) := by
          have := HI4.out.num
          simp only [hz3, Bool.false_eq_true, if_false] at this
          exact this
        have hcall := HX3.out l' d hnum4 (fun p hp hne => HI4.out.old p hp hne)
        have HC := Lib.hid hcall
        rw [HNX3.out] at e0
        subst e0
        clear hcall
        go_simp
        refine HC.out.mono ?_
        rintro e w' ⟨rfl, g, dd, rfl⟩
        go_simp
        refine hK' _ _ ⟨x14, x15, _, _, x18, x7, i7, _, _, rfl, rfl, ?_⟩
        have hI := HI4.out
        rw [hU.out]
        generalize (fun j => done.getD j false) = b at hI
        have hse : ∀ (X : Obj) (p : Nat), p ≠ iN → (l'.set iN X ++ g)[p]? = (l' ++ g)[p]? := fun X p hp => by
          rw [← List.set_append_left _ _ (List.getElem?_eq_some_iff.1 hnum4).1, List.getElem?_set_ne (fun e => hp e.symm)]
        have hA := hI.app g
        have hl7 : ∀ k : b 5 = true, i7 ≠ iN := fun k e7 => by
          have := (hI.h5 k).2.1
          have hL3 := (List.getElem?_eq_some_iff.1 hnum).1
          omega
        exact ⟨by have := hA.len; rw [List.length_append] at this ⊢; rw [List.length_set]; exact this, fun p hp hne => by rw [hse _ p hne]; exact hA.old p hp hne, by rw [List.getElem?_append_left (by rw [List.length_set]; exact (List.getElem?_eq_some_iff.1 hnum4).1), set_same (by rw [hnum4]; rfl)]; rfl, hA.h0, hA.h1, fun _ => HNX3.out.symm, fun _ => rfl, hA.h4, fun k => ⟨(hA.h5 k).1, (hA.h5 k).2.1, by rw [hse _ i7 (hl7 k)]; exact (hA.h5 k).2.2⟩, hA.c6⟩
      · refine wpOp_lit (by decide) fun o ho => ?_
        simp only [List.getElem?_cons_zero, List.getElem?_cons_succ, Option.some.injEq] at ho
        subst ho
        refine ⟨rfl, fun K' hK' => ?_⟩
        have e1 := HI4.out.h1 (HD.out _ rfl ⟨1, .data⟩ (by simp) rfl)
        have e3 := HI4.out.h3 (HD.out _ rfl ⟨3, .data⟩ (by simp) rfl)
        subst e1 e3
        go_simp
        refine (HX4.out _).mono ?_
        rintro e w' ⟨rfl, g, dd, rfl⟩
        rw [Wd_wd]
        go_simp
        refine hK' _ _ ⟨x14, _, x16, _, _, x7, i7, l' ++ g, _, rfl, rfl, ?_⟩
        have hI := HI4.out.app g
        rw [hU.out]
        generalize (fun j => done.getD j false) = b at hI
        exact ⟨hI.len, hI.old, hI.num, hI.h0, hI.h1, hI.h2, hI.h3, fun _ => rfl, hI.h5, hI.c6⟩
      · refine wpOp_lit (by decide) fun o ho => ?_
        simp only [List.getElem?_cons_zero, List.getElem?_cons_succ, Option.some.injEq] at ho
        subst ho
        refine ⟨rfl, fun K' hK' => ?_⟩
        go_simp
        refine hK' _ _ ⟨x14, x15, x16, x17, x18, _, l'.length, _, _, rfl, rfl, ?_⟩
        have hI0 := HI4.out
        have hI := HI4.out.app [.cells (cv .u8 (rep 16)) 60 (0, 0)]
        rw [hU.out]
        have hz : (fun j => done.getD j false) 5 = false := by
          cases hz : done.getD 5 false with
          | false => exact hz
          | true => rw [getD_both hnd] at hz; cases hz
        generalize (fun j => done.getD j false) = b at hI hI0 hz
        have hz2 : b 6 = false := by
          cases hz2 : b 6 with
          | false => rfl
          | true => rw [hI.c6 hz2] at hz; cases hz
        exact ⟨hI.len, hI.old, hI.num, hI.h0, hI.h1, hI.h2, hI.h3, hI.h4, fun _ => ⟨rfl, hI0.len, by rw [show upd b 5 6 = false from hz2, if_neg (by decide), List.getElem?_append_right (Nat.le_refl _), Nat.sub_self]; rfl⟩, fun k => absurd (hz2.symm.trans k) (by decide)⟩
      · refine wpOp_lit (by decide) fun o ho => ?_
        simp only [List.getElem?_cons_zero, List.getElem?_cons_succ, Option.some.injEq] at ho
        subst ho
        refine ⟨rfl, fun K' hK' => ?_⟩
        have d5 := HD.out _ rfl ⟨5, .data⟩ (by simp) rfl
        have e4 := HI4.out.h4 (HD.out _ rfl ⟨4, .data⟩ (by simp) rfl)
        obtain ⟨rfl, q1, q2⟩ := HI4.out.h5 d5
        subst e4
        have e6 : done.getD 6 false = false := by
          cases hz : done.getD 6 false with
          | false => rfl
          | true => rw [getD_both hnd] at hz; cases hz
        simp only [e6, Bool.false_eq_true, if_false] at q2
        go_simp
        refine hK' _ _ ⟨x14, x15, x16, x17, _, _, i7, _, _, rfl, rfl, ?_⟩
        have hI := HI4.out
        have hL3 := (List.getElem?_eq_some_iff.1 hnum).1
        rw [hU.out]
        have hd : (fun j => done.getD j false) 5 = true := d5
        generalize (fun j => done.getD j false) = b at hI hd
        exact ⟨by rw [List.length_set]; exact hI.len, fun p hp hne => by rw [List.getElem?_set_ne (by omega)]; exact hI.old p hp hne, by rw [List.getElem?_set_ne (by omega)]; exact hI.num, hI.h0, hI.h1, hI.h2, hI.h3, hI.h4, fun _ => ⟨rfl, q1, set_same (by rw [q2]; rfl)⟩, fun _ => hd⟩
  case done =>
    intro D W hD hW hK0
    obtain ⟨w3, L, v, hs3, rfl, hI⟩ := hW
    have hold := hI.old
    have hbox := hI.box
    have hLl := hI.len
    obtain ⟨i, S, t, f, hv, hi, _, hst, hle⟩ := hI.has
    obtain ⟨o, ho⟩ : ∃ o, (tfold cs (bys nonce) j0 (pcsB text ((text.size + 15) / 16))).1 = o := ⟨_, rfl⟩
    rw [ho] at hv hst hle
    have HO := Lib.hid ho
    obtain ⟨n, hn'⟩ : ∃ n, o.length = n := ⟨_, rfl⟩
    rw [hn'] at hv hst hle
    subst hv
    rw [Wd_size, hMl] at hD
    obtain ⟨jd, hjd⟩ : ∃ jd, D = w.heap.size + jd := ⟨D - w.heap.size, by omega⟩
    subst hjd
    have hzz : w.heap.size = w3.heap.size := hs3.size.symm
    rw [hzz, Wd_at] at hK0
    have hmk : ({ target := .collected (w.heap.size + jd), args := #[] } : Deferred) :: [] = marks w3 [jd] := by
      unfold marks; rw [hzz]; rfl
    have hres : mkS (S.take n) = mkS o := by rw [hst]
    have HRES := Lib.hid hres
    have hnS : n ≤ S.length := hle
    have HJ := Lib.hid hK0
    have hbelow : Hid (∀ (w4 : World) (L' : List Obj) (e : Nat), Same w3 w4 → (∀ p, p ≠ jd → L'[p]? = L[p]?) → Below w.heap.size w (Wd w4 L' e) ∧ ∀ b ob, b ≠ w.heap.size + iN → blk (Wd w l d) b = some ob → blk (Wd w4 L' e) b = some ob) := Lib.hid fun w4 L' e hs4 hL' => by
      refine ⟨(hs3.trans hs4).below L' e, fun b ob hb hob => ?_⟩
      rw [blk_same (hs3.trans hs4) L' e 0]
      unfold blk Wd at hob ⊢
      simp only [Array.getElem?_append, List.getElem?_toArray] at hob ⊢
      by_cases h1 : b < w.heap.size
      · rw [if_pos h1] at hob ⊢; exact hob
      · rw [if_neg h1] at hob ⊢
        have h2 := (List.getElem?_eq_some_iff.1 hob).1
        rw [hL' _ (by omega), hold _ (by omega) (by omega) (by omega) (by omega), hMo _ (by omega), hob]
    clear hI hold hst hle ho hn' hK0 hres hM hMo hMn
    show Exit.inBlock 0 _ .normal { tmps := _, defers := ({ target := .collected (w.heap.size + jd), args := #[] } : Deferred) :: [] } _
    rw [hmk, hzz]
    go_wp2
    show LeavesInM _ _ _ _ _ _ _ _ _
    refine leaves_marks w3 0 [jd] _ (fun j hj => by obtain rfl := List.mem_singleton.1 hj; exact HJ.out) (by simp) (fun L' hL' => ?_)
    have hb := hbelow.out w3 L' 0 (Same.refl w3) (fun p hp => hL' p (fun e => hp (List.mem_singleton.1 e)))
    exact ⟨_, results_tmp rfl _ _ _, by rw [HO.out, ← HRES.out]; rfl, hb⟩
end Go.Proofs.Ytfamoakicgmfgaa
namespace Go.Own
open Go.RowKit
def bsM (T : TypeId) (n : Nat) (parts : Array (Nat × Value)) : Sem Value := Instr.buildSlice T n parts
theorem execOp_bsM (ρ : Operand → Value) (dst : Option Tmp) (T : TypeId) (n : Nat) (parts : Array (Nat × Operand)) (ty : TypeId) (pos : String) (after : Array Edge) (guard : Option (Nat × Bool)) :
    execOp ρ { dst, op := .buildSlice T n parts, type := ty, pos, after, guard } = (bsM T n (parts.map fun (i, x) => (i, ρ x)) >>= fun v => pure (.value v)) := rfl
end Go.Own
namespace Go.Proofs.Ytfamoakicgmfgaa
open Go.RowKit Go.Own
attribute [local go_sem] z5 ag5 cs5 sz5 isa5 ag60 cs60 sz60 z60 isa9 ag9 ag75 cs75 sz75 isa75 set_same List.getElem?_set_ne
attribute [-go_sem] run_string_add_if
/-- The lengths of two texts, in bits, as a block. -/
def lensL (a b : Nat) : List Nat := hfL (8 * a) 8 ++ hfL (8 * b) 8
/-- The tag. -/
def tagP (cs mask : List Nat) (bes body : ByteArray) : List Nat :=
  (List.range 16).map (xorF (htext (pressL cs (rep 16)) (htext (pressL cs (rep 16)) (htext (pressL cs (rep 16)) (rep 16) bes) body) (mkS (lensL bes.size body.size))) mask)
theorem bu60 (W : World) : (buN 60 #[]).run Try.prog W = .ok (.agg (cv .u8 (rep 16))) W := by kernel_rfl
theorem sz9 (w : World) : (sizeOf 9).run Try.prog w = .ok 1 w := by kernel_rfl
attribute [local go_sem] bu60 sz9
theorem bs3 (a b c : ByteArray) (w : World) (l : List Obj) (d : Nat) : (bsM 46 3 #[(0, .string a), (1, .string b), (2, .string c)]).run Try.prog (Wd w l d) =
    .ok (.slice (some ⟨w.heap.size + l.length, 0, none⟩) 3 3) (Wd w (l ++ [.cells #[.string a, .string b, .string c] 9 (0, 0)]) d) := by
  rw [← Wd_alloc, ← Wd_size w l d]
  generalize Wd w l d = W
  kernel_rfl
attribute [local go_sem ↓] execOp_bsM
attribute [local go_sem] bs3
/-- While a tag is made, in whatever order. -/
structure TgI (vb cb : Nat) (cs mask : List Nat) (bes body LL : ByteArray) (h HH T : List Nat) (w1 : World) (d : Nat) (b : Nat → Bool) (x17 x18 x19 x20 x21 x22 x23 x24 x25 x26 x27 x8 : Value) (i : Nat) (l : List Obj) : Prop where
  r0 : l[0]? = some (.cells (cv .u8 mask) 60 (0, 0))
  prs : b 7 = false → Prs (Wd w1 l d) vb cb cs
  h0 : b 0 = true → x17 = .func (.func 36) #[] #[.pointer (some ⟨vb, 0, none⟩)]
  h1 : b 1 = true → x18 = .agg (cv .u8 (rep 16))
  h2 : b 2 = true → x19 = .agg (cv .u8 h)
  h3 : b 3 = true → x20 = .string bes
  h4 : b 4 = true → x21 = .string body
  h5 : b 5 = true → x22 = .string LL
  h6 : b 6 = true → x23 = .slice (some ⟨w1.heap.size + i, 0, none⟩) 3 3 ∧ (b 7 = false → l[i]? = some (.cells #[.string bes, .string body, .string LL] 9 (0, 0)))
  h7 : b 7 = true → x24 = .agg (cv .u8 HH)
  h8 : b 8 = true → x25 = .agg (cv .u8 mask)
  h9 : b 9 = true → x26 = .agg (cv .u8 T)
  h10 : b 10 = true → x27 = .string (mkS T)
  h11 : b 11 = true → x8 = .string (mkS T)
  c7 : b 7 = true → b 2 = true ∧ b 6 = true
theorem TgI.app {vb cb : Nat} {cs mask : List Nat} {bes body LL : ByteArray} {h HH T : List Nat} {w1 : World} {d : Nat} {b : Nat → Bool} {x17 x18 x19 x20 x21 x22 x23 x24 x25 x26 x27 x8 : Value} {i : Nat} {l : List Obj} (hI : TgI vb cb cs mask bes body LL h HH T w1 d b x17 x18 x19 x20 x21 x22 x23 x24 x25 x26 x27 x8 i l) (g : List Obj) (e : Nat) :
    TgI vb cb cs mask bes body LL h HH T w1 e b x17 x18 x19 x20 x21 x22 x23 x24 x25 x26 x27 x8 i (l ++ g) := by
  have k : ∀ {i : Nat} {o : Obj}, l[i]? = some o → (l ++ g)[i]? = some o := fun {i o} hi => by rw [List.getElem?_append_left (List.getElem?_eq_some_iff.1 hi).1]; exact hi
  exact ⟨k hI.r0, fun q => ⟨blk_app (hI.prs q).var, blk_app (hI.prs q).cip, (hI.prs q).len⟩, hI.h0, hI.h1, hI.h2, hI.h3, hI.h4, hI.h5, fun q => ⟨(hI.h6 q).1, fun r => k ((hI.h6 q).2 r)⟩, hI.h7, hI.h8, hI.h9, hI.h10, hI.h11, hI.c7⟩
set_option maxRecDepth 100000 in
set_option maxHeartbeats 2000000 in
theorem gtag_any (vb cb : Nat) (cs mask : List Nat) (bes body : ByteArray) (hm : mask.length = 16) (hb : bes.size ≤ 65536) (hbo : body.size ≤ 65536) (w : World) (H : Prs w vb cb cs) :
    Calls Try.prog 26 #[.func (.func 36) #[] #[.pointer (some ⟨vb, 0, none⟩)], .agg (cv .u8 mask), .string bes, .string body] w fun e w' => e = .returned (.string (mkS (tagP cs mask bes body))) ∧ Below w.heap.size w w' := by
  have HB1 : Hid (∀ W, Calls Try.prog 44 #[.string bes] W fun e w' => e = .returned (.int .u64 ((8 * bes.size : Nat) : Int)) ∧ Grows W w') := Lib.hid fun W => bitsOf_any bes hb W
  have HB2 : Hid (∀ W, Calls Try.prog 44 #[.string body] W fun e w' => e = .returned (.int .u64 ((8 * body.size : Nat) : Int)) ∧ Grows W w') := Lib.hid fun W => bitsOf_any body hbo W
  obtain ⟨p, hp⟩ : ∃ p, 8 * bes.size = p := ⟨_, rfl⟩
  obtain ⟨q, hq⟩ : ∃ q, 8 * body.size = q := ⟨_, rfl⟩
  rw [hp] at HB1
  rw [hq] at HB2
  have HF1 : Hid (∀ W, Calls Try.prog 41 #[.int .u64 (p : Nat), .int .i64 8] W fun e w' => e = .returned (.string (mkS (hfL p 8))) ∧ Grows W w') := Lib.hid fun W => highFirst_any p 8 (by decide) W
  have HF2 : Hid (∀ W, Calls Try.prog 41 #[.int .u64 (q : Nat), .int .i64 8] W fun e w' => e = .returned (.string (mkS (hfL q 8))) ∧ Grows W w') := Lib.hid fun W => highFirst_any q 8 (by decide) W
  have hcat : ∀ W, (Op.stringOp .add (mkS (hfL p 8)) (mkS (hfL q 8))).run Try.prog W = .ok (.string (mkS (hfL p 8 ++ hfL q 8))) W := fun W => by
    rw [run_string_add_sum W _ _ (by rw [mkS_size, mkS_size, hfL_length, hfL_length]; decide)]
    congr 2
  obtain ⟨LL, hLL⟩ : ∃ LL, mkS (hfL p 8 ++ hfL q 8) = LL := ⟨_, rfl⟩
  obtain ⟨h, hh⟩ : ∃ h, pressL cs (rep 16) = h := ⟨_, rfl⟩
  have hhl : h.length = 16 := by rw [← hh]; unfold pressL rndLast; exact addL_length _ _ _
  have hh8 : B8 h := by rw [← hh]; unfold pressL rndLast; exact addL_B8 _ _ _
  obtain ⟨HH, hHH⟩ : ∃ HH, htext h (htext h (htext h (rep 16) bes) body) LL = HH := ⟨_, rfl⟩
  have hLLs : LL.size = 16 := by rw [← hLL, mkS_size, List.length_append, hfL_length, hfL_length]
  have hHl : HH.length = 16 := by
    rw [← hHH]
    have g1 := htext_good h (rep 16) bes (rep_length _) (B8.rep _)
    have g2 := htext_good h _ body g1.1 g1.2
    exact (htext_good h _ LL g2.1 g2.2).1
  obtain ⟨T, hT⟩ : ∃ T, (List.range 16).map (xorF HH mask) = T := ⟨_, rfl⟩
  have hTl : T.length = 16 := by rw [← hT]; simp
  have HTAG : Hid (tagP cs mask bes body = T) := Lib.hid (by unfold tagP lensL; rw [hh, hp, hq, hLL, hHH, hT])
  have HC2 : Hid (∀ W, Prs W vb cb cs → Calls Try.prog 36 #[.agg (cv .u8 (rep 16)), .pointer (some ⟨vb, 0, none⟩)] W fun e w' => e = .returned (.agg (cv .u8 h)) ∧ Grows W w') := Lib.hid fun W hW => hh ▸ pressed_any vb cb cs (rep 16) (rep_length _) (B8.rep _) W hW
  have HC7 : Hid (∀ sb W, blk W sb = some (.cells #[.string bes, .string body, .string LL] 9 (0, 0)) → Calls Try.prog 45 #[.agg (cv .u8 h), .slice (some ⟨sb, 0, none⟩) 3 3] W fun e w' => e = .returned (.agg (cv .u8 HH)) ∧ Below W.heap.size W w') := Lib.hid fun sb W hW => by
    have := hash_any h hhl hh8 bes body LL (by omega) (by omega) (by omega) sb W hW
    rwa [hHH] at this
  have HC9 : Hid (∀ W, Calls Try.prog 43 #[.agg (cv .u8 HH), .agg (cv .u8 mask)] W fun e w' => e = .returned (.agg (cv .u8 T)) ∧ Grows W w') := Lib.hid fun W => hT ▸ bplus_any HH mask hHl hm W
  have HC10 : Hid (∀ W, Calls Try.prog 38 #[.agg (cv .u8 T)] W fun e w' => e = .returned (.string (mkS T)) ∧ Grows W w') := Lib.hid fun W => btext_any T hTl W
  rw [hLL] at hcat
  clear hhl hh8 hHH hLLs hHl hT hTl hh hb hbo
  have hps := Lib.hid H
  clear H
  refine calls_wd ?_
  go_enter Try.func26, Try.ntmps26
  go_wp2_with fail
  refine (HB1.out _).mono ?_
  rintro e w' ⟨rfl, g1, d1, rfl⟩
  rw [Wd_wd]
  go_wp2_with fail
  refine (HF1.out _).mono ?_
  rintro e w' ⟨rfl, g2, d2, rfl⟩
  rw [Wd_wd]
  go_wp2_with fail
  refine (HB2.out _).mono ?_
  rintro e w' ⟨rfl, g3, d3, rfl⟩
  rw [Wd_wd]
  go_wp2_with fail
  refine (HF2.out _).mono ?_
  rintro e w' ⟨rfl, g4, d4, rfl⟩
  rw [Wd_wd]
  go_wp2
  rename_i Q' K hK
  obtain ⟨G, hG⟩ : ∃ G, Obj.cells (cv .u8 mask) 60 (0, 0) :: (g1 ++ (g2 ++ (g3 ++ g4))) = G := ⟨_, rfl⟩
  have hG0 : G[0]? = some (.cells (cv .u8 mask) 60 (0, 0)) := by rw [← hG]; rfl
  have hpr : ∀ e, Prs (Wd w G e) vb cb cs := fun e => ⟨blk_old _ _ _ _ hps.out.var, blk_old _ _ _ _ hps.out.cip, hps.out.len⟩
  rw [hG]
  clear hG
  refine wp_region_any (by kernel_rfl) ?_
  refine wpAny_of_inv (fun done a wr => ∃ (w1 : World) (x17 x18 x19 x20 x21 x22 x23 x24 x25 x26 x27 x8 : Value) (i : Nat) (l' : List Obj) (d : Nat), Same w w1 ∧ a = { tmps := List.toArray (.func (.func 36) #[] #[.pointer (some ⟨vb, 0, none⟩)] :: .agg (cv .u8 mask) :: .string bes :: .string body :: undef :: .pointer (some ⟨w1.heap.size, 0, none⟩) :: undef :: undef :: x8 :: .string LL :: .string bes :: .int .u64 (p : Nat) :: .string (mkS (hfL p 8)) :: .string body :: .int .u64 (q : Nat) :: .string (mkS (hfL q 8)) :: .string LL :: x17 :: x18 :: x19 :: x20 :: x21 :: x22 :: x23 :: x24 :: x25 :: x26 :: x27 :: []), defers := [] } ∧ wr = Wd w1 l' d ∧ TgI vb cb cs mask bes body LL h HH T w1 d (fun j => done.getD j false) x17 x18 x19 x20 x21 x22 x23 x24 x25 x26 x27 x8 i l') (by kernel_rfl) ?step ?fin _ _ _ _ (by simp) (by decide +kernel) ?start
  case start =>
    have hz : ∀ n j, (Array.replicate n false).getD j false ≠ true := fun n j h => by rw [getD_replicate_false] at h; cases h
    exact ⟨w, undef, undef, undef, undef, undef, undef, undef, undef, undef, undef, undef, .string ByteArray.empty, 0, G, d1 + d2 + d3 + d4 + 1, Same.refl w, rfl, rfl, ⟨hG0, fun _ => hpr _, fun h => absurd h (hz _ _), fun h => absurd h (hz _ _), fun h => absurd h (hz _ _), fun h => absurd h (hz _ _), fun h => absurd h (hz _ _), fun h => absurd h (hz _ _), fun h => absurd h (hz _ _), fun h => absurd h (hz _ _), fun h => absurd h (hz _ _), fun h => absurd h (hz _ _), fun h => absurd h (hz _ _), fun h => absurd h (hz _ _), fun h => absurd h (hz _ _)⟩⟩
  case fin =>
    rintro done a wr ⟨w1, x17, x18, x19, x20, x21, x22, x23, x24, x25, x26, x27, x8, i, l', d, hs1, rfl, rfl, hI⟩ hall
    have e8 := hI.h11 (hall 11 (by decide))
    subst e8
    refine hK _ _ ?_
    go_wp2
    go_ret
    exact ⟨by rw [HTAG.out]; rfl, hs1.below _ _⟩
  case step =>
    rintro done a wr i' ⟨w1, x17, x18, x19, x20, x21, x22, x23, x24, x25, x26, x27, x8, i, l', d, hs1, rfl, rfl, hI⟩ hnd hdep hlt
    have hU := Lib.hid (upd_of hnd)
    have hi12 : i' = 0 ∨ i' = 1 ∨ i' = 2 ∨ i' = 3 ∨ i' = 4 ∨ i' = 5 ∨ i' = 6 ∨ i' = 7 ∨ i' = 8 ∨ i' = 9 ∨ i' = 10 ∨ i' = 11 := by
      have : i' < 12 := hlt
      omega
    have HI4 := Lib.hid hI
    have HD := Lib.hid hdep
    clear hdep hI hK
    rcases hi12 with rfl | rfl | rfl | rfl | rfl | rfl | rfl | rfl | rfl | rfl | rfl | rfl
    · refine wpOp_lit (by decide) fun o ho => ?_
      simp only [List.getElem?_cons_zero, Option.some.injEq] at ho
      subst ho
      refine ⟨rfl, fun K' hK' => ?_⟩
      go_simp
      refine hK' _ _ ⟨w1, _, x18, x19, x20, x21, x22, x23, x24, x25, x26, x27, x8, i, l', d, hs1, rfl, rfl, ?_⟩
      have hI := HI4.out
      rw [hU.out]
      generalize (fun j => done.getD j false) = b at hI
      exact ⟨hI.r0, hI.prs, fun _ => rfl, hI.h1, hI.h2, hI.h3, hI.h4, hI.h5, hI.h6, hI.h7, hI.h8, hI.h9, hI.h10, hI.h11, hI.c7⟩
    · refine wpOp_lit (by decide) fun o ho => ?_
      simp only [List.getElem?_cons_zero, List.getElem?_cons_succ, Option.some.injEq] at ho
      subst ho
      refine ⟨rfl, fun K' hK' => ?_⟩
      go_simp
      refine hK' _ _ ⟨w1, x17, _, x19, x20, x21, x22, x23, x24, x25, x26, x27, x8, i, l', d, hs1, rfl, rfl, ?_⟩
      have hI := HI4.out
      rw [hU.out]
      generalize (fun j => done.getD j false) = b at hI
      exact ⟨hI.r0, hI.prs, hI.h0, fun _ => rfl, hI.h2, hI.h3, hI.h4, hI.h5, hI.h6, hI.h7, hI.h8, hI.h9, hI.h10, hI.h11, hI.c7⟩
    · refine wpOp_lit (by decide) fun o ho => ?_
      simp only [List.getElem?_cons_zero, List.getElem?_cons_succ, Option.some.injEq] at ho
      subst ho
      refine ⟨rfl, fun K' hK' => ?_⟩
      have e0 := HI4.out.h0 (HD.out _ rfl ⟨0, .data⟩ (by simp) rfl)
      have e1 := HI4.out.h1 (HD.out _ rfl ⟨1, .data⟩ (by simp) rfl)
      subst e0 e1
      have hz7 : done.getD 7 false = false := by
        cases hz : done.getD 7 false with
        | false => rfl
        | true => have := (HI4.out.c7 hz).1; rw [getD_both hnd] at this; cases this
      have HPR := Lib.hid (HC2.out _ (HI4.out.prs hz7))
      go_simp
      refine (HPR.out).mono ?_
      rintro e w' ⟨rfl, g, dd, rfl⟩
      rw [Wd_wd]
      go_simp
      refine hK' _ _ ⟨w1, _, _, _, x20, x21, x22, x23, x24, x25, x26, x27, x8, i, l' ++ g, _, hs1, rfl, rfl, ?_⟩
      have hI := HI4.out.app g (d + dd)
      rw [hU.out]
      generalize (fun j => done.getD j false) = b at hI
      exact ⟨hI.r0, hI.prs, hI.h0, hI.h1, fun _ => rfl, hI.h3, hI.h4, hI.h5, hI.h6, hI.h7, hI.h8, hI.h9, hI.h10, hI.h11, fun k => ⟨rfl, (hI.c7 k).2⟩⟩
    · refine wpOp_lit (by decide) fun o ho => ?_
      simp only [List.getElem?_cons_zero, List.getElem?_cons_succ, Option.some.injEq] at ho
      subst ho
      refine ⟨rfl, fun K' hK' => ?_⟩
      go_simp
      refine hK' _ _ ⟨w1, x17, x18, x19, _, x21, x22, x23, x24, x25, x26, x27, x8, i, l', d, hs1, rfl, rfl, ?_⟩
      have hI := HI4.out
      rw [hU.out]
      generalize (fun j => done.getD j false) = b at hI
      exact ⟨hI.r0, hI.prs, hI.h0, hI.h1, hI.h2, fun _ => rfl, hI.h4, hI.h5, hI.h6, hI.h7, hI.h8, hI.h9, hI.h10, hI.h11, hI.c7⟩
    · refine wpOp_lit (by decide) fun o ho => ?_
      simp only [List.getElem?_cons_zero, List.getElem?_cons_succ, Option.some.injEq] at ho
      subst ho
      refine ⟨rfl, fun K' hK' => ?_⟩
      go_simp
      refine hK' _ _ ⟨w1, x17, x18, x19, x20, _, x22, x23, x24, x25, x26, x27, x8, i, l', d, hs1, rfl, rfl, ?_⟩
      have hI := HI4.out
      rw [hU.out]
      generalize (fun j => done.getD j false) = b at hI
      exact ⟨hI.r0, hI.prs, hI.h0, hI.h1, hI.h2, hI.h3, fun _ => rfl, hI.h5, hI.h6, hI.h7, hI.h8, hI.h9, hI.h10, hI.h11, hI.c7⟩
    · refine wpOp_lit (by decide) fun o ho => ?_
      simp only [List.getElem?_cons_zero, List.getElem?_cons_succ, Option.some.injEq] at ho
      subst ho
      refine ⟨rfl, fun K' hK' => ?_⟩
      go_simp
      refine hK' _ _ ⟨w1, x17, x18, x19, x20, x21, _, x23, x24, x25, x26, x27, x8, i, l', d, hs1, rfl, rfl, ?_⟩
      have hI := HI4.out
      rw [hU.out]
      generalize (fun j => done.getD j false) = b at hI
      exact ⟨hI.r0, hI.prs, hI.h0, hI.h1, hI.h2, hI.h3, hI.h4, fun _ => rfl, hI.h6, hI.h7, hI.h8, hI.h9, hI.h10, hI.h11, hI.c7⟩
    · refine wpOp_lit (by decide) fun o ho => ?_
      simp only [List.getElem?_cons_zero, List.getElem?_cons_succ, Option.some.injEq] at ho
      subst ho
      refine ⟨rfl, fun K' hK' => ?_⟩
      have e3 := HI4.out.h3 (HD.out _ rfl ⟨3, .data⟩ (by simp) rfl)
      have e4 := HI4.out.h4 (HD.out _ rfl ⟨4, .data⟩ (by simp) rfl)
      have e5 := HI4.out.h5 (HD.out _ rfl ⟨5, .data⟩ (by simp) rfl)
      subst e3 e4 e5
      have hz7 : done.getD 7 false = false := by
        cases hz : done.getD 7 false with
        | false => rfl
        | true => have := (HI4.out.c7 hz).2; rw [getD_both hnd] at this; cases this
      go_simp
      refine hK' _ _ ⟨w1, x17, x18, x19, _, _, _, _, x24, x25, x26, x27, x8, l'.length, _, _, hs1, rfl, rfl, ?_⟩
      have hI := HI4.out.app [.cells #[.string bes, .string body, .string LL] 9 (0, 0)] d
      have hz6 : (fun j => done.getD j false) 6 = false := by
        cases hz : done.getD 6 false with
        | false => exact hz
        | true => rw [getD_both hnd] at hz; cases hz
      rw [hU.out]
      generalize (fun j => done.getD j false) = b at hI hz6
      exact ⟨hI.r0, hI.prs, hI.h0, hI.h1, hI.h2, hI.h3, hI.h4, hI.h5, fun _ => ⟨rfl, fun _ => by rw [List.getElem?_append_right (Nat.le_refl _), Nat.sub_self]; rfl⟩, hI.h7, hI.h8, hI.h9, hI.h10, hI.h11, fun k => absurd (hI.c7 k).2 (by rw [hz6]; decide)⟩
    · refine wpOp_lit (by decide) fun o ho => ?_
      simp only [List.getElem?_cons_zero, List.getElem?_cons_succ, Option.some.injEq] at ho
      subst ho
      refine ⟨rfl, fun K' hK' => ?_⟩
      have e2 := HI4.out.h2 (HD.out _ rfl ⟨2, .data⟩ (by simp) rfl)
      have d6 := HD.out _ rfl ⟨6, .data⟩ (by simp) rfl
      have d2 := HD.out _ rfl ⟨2, .data⟩ (by simp) rfl
      have hz7 : done.getD 7 false = false := by
        cases hz : done.getD 7 false with
        | false => rfl
        | true => rw [getD_both hnd] at hz; cases hz
      obtain ⟨rfl, q1⟩ := HI4.out.h6 d6
      have hli := q1 hz7
      subst e2
      have HC := Lib.hid (HC7.out (w1.heap.size + i) (Wd w1 l' d) (by rw [blk_at]; exact hli))
      clear hli q1
      go_simp
      refine HC.out.mono ?_
      rintro e w' ⟨rfl, hbel⟩
      obtain ⟨w3, g, hs3, rfl⟩ := below_lay (w1 := { w1 with drawn := w1.drawn + d }) (M := l') rfl (by have e2 : (Wd w1 l' d).heap.size = w1.heap.size + l'.length := Wd_size _ _ _; rw [e2] at hbel; exact hbel)
      have hs13 : Same w1 w3 := ⟨hs3.1, hs3.2.1, hs3.2.2.1, hs3.2.2.2⟩
      go_simp
      refine hK' _ _ ⟨w3, x17, x18, _, x20, x21, x22, _, _, x25, x26, x27, x8, i, l' ++ g, 0, hs1.trans hs13, by rw [hs13.size], rfl, ?_⟩
      have hI := HI4.out.app g 0
      rw [hU.out]
      have d6' : (fun j => done.getD j false) 6 = true := d6
      have d2' : (fun j => done.getD j false) 2 = true := d2
      generalize (fun j => done.getD j false) = b at hI d6' d2'
      exact ⟨hI.r0, fun k => (nomatch (show true = false from k)), hI.h0, hI.h1, hI.h2, hI.h3, hI.h4, hI.h5, fun _ => ⟨by rw [hs13.size], fun k => (nomatch (show true = false from k))⟩, fun _ => rfl, hI.h8, hI.h9, hI.h10, hI.h11, fun _ => ⟨d2', d6'⟩⟩
    · refine wpOp_lit (by decide) fun o ho => ?_
      simp only [List.getElem?_cons_zero, List.getElem?_cons_succ, Option.some.injEq] at ho
      subst ho
      refine ⟨rfl, fun K' hK' => ?_⟩
      have r0 := HI4.out.r0
      go_simp
      refine hK' _ _ ⟨w1, x17, x18, x19, x20, x21, x22, x23, x24, _, x26, x27, x8, i, l', d, hs1, rfl, rfl, ?_⟩
      have hI := HI4.out
      rw [hU.out]
      generalize (fun j => done.getD j false) = b at hI
      exact ⟨hI.r0, hI.prs, hI.h0, hI.h1, hI.h2, hI.h3, hI.h4, hI.h5, hI.h6, hI.h7, fun _ => rfl, hI.h9, hI.h10, hI.h11, hI.c7⟩
    · refine wpOp_lit (by decide) fun o ho => ?_
      simp only [List.getElem?_cons_zero, List.getElem?_cons_succ, Option.some.injEq] at ho
      subst ho
      refine ⟨rfl, fun K' hK' => ?_⟩
      have e7 := HI4.out.h7 (HD.out _ rfl ⟨7, .data⟩ (by simp) rfl)
      have e8 := HI4.out.h8 (HD.out _ rfl ⟨8, .data⟩ (by simp) rfl)
      subst e7 e8
      go_simp
      refine (HC9.out _).mono ?_
      rintro e w' ⟨rfl, g, dd, rfl⟩
      rw [Wd_wd]
      go_simp
      refine hK' _ _ ⟨w1, x17, x18, x19, x20, x21, x22, x23, _, _, _, x27, x8, i, l' ++ g, _, hs1, rfl, rfl, ?_⟩
      have hI := HI4.out.app g (d + dd)
      rw [hU.out]
      generalize (fun j => done.getD j false) = b at hI
      exact ⟨hI.r0, hI.prs, hI.h0, hI.h1, hI.h2, hI.h3, hI.h4, hI.h5, hI.h6, hI.h7, hI.h8, fun _ => rfl, hI.h10, hI.h11, hI.c7⟩
    · refine wpOp_lit (by decide) fun o ho => ?_
      simp only [List.getElem?_cons_zero, List.getElem?_cons_succ, Option.some.injEq] at ho
      subst ho
      refine ⟨rfl, fun K' hK' => ?_⟩
      have e9 := HI4.out.h9 (HD.out _ rfl ⟨9, .data⟩ (by simp) rfl)
      subst e9
      go_simp
      refine (HC10.out _).mono ?_
      rintro e w' ⟨rfl, g, dd, rfl⟩
      rw [Wd_wd]
      go_simp
      refine hK' _ _ ⟨w1, x17, x18, x19, x20, x21, x22, x23, x24, x25, _, _, x8, i, l' ++ g, _, hs1, rfl, rfl, ?_⟩
      have hI := HI4.out.app g (d + dd)
      rw [hU.out]
      generalize (fun j => done.getD j false) = b at hI
      exact ⟨hI.r0, hI.prs, hI.h0, hI.h1, hI.h2, hI.h3, hI.h4, hI.h5, hI.h6, hI.h7, hI.h8, hI.h9, fun _ => rfl, hI.h11, hI.c7⟩
    · refine wpOp_lit (by decide) fun o ho => ?_
      simp only [List.getElem?_cons_zero, List.getElem?_cons_succ, Option.some.injEq] at ho
      subst ho
      refine ⟨rfl, fun K' hK' => ?_⟩
      have e10 := HI4.out.h10 (HD.out _ rfl ⟨10, .data⟩ (by simp) rfl)
      subst e10
      go_simp
      refine hK' _ _ ⟨w1, x17, x18, x19, x20, x21, x22, x23, x24, x25, x26, _, _, i, l', d, hs1, rfl, rfl, ?_⟩
      have hI := HI4.out
      rw [hU.out]
      generalize (fun j => done.getD j false) = b at hI
      exact ⟨hI.r0, hI.prs, hI.h0, hI.h1, hI.h2, hI.h3, hI.h4, hI.h5, hI.h6, hI.h7, hI.h8, hI.h9, hI.h10, fun _ => rfl, hI.c7⟩
end Go.Proofs.Ytfamoakicgmfgaa
namespace Go.Proofs.Ytfamoakicgmfgaa
open Go.RowKit Go.Own
attribute [local go_sem] z5 ag5 cs5 sz5 isa5 ag60 cs60 sz60 z60 isa9 ag9 ag75 cs75 sz75 isa75 set_same List.getElem?_set_ne
attribute [-go_sem] run_string_add_if
/-- The body, the mask, the tag of the body: what the program makes. -/
def maskP (key nonce : ByteArray) : List Nat := pressL (cipher (bys key)) (bys nonce ++ hfL 1 4)
def turnP (key nonce text : ByteArray) : List Nat := (tfold (cipher (bys key)) (bys nonce) 1 (pcsB text ((text.size + 15) / 16))).1
def macP (key nonce bes body : ByteArray) : List Nat := tagP (cipher (bys key)) (maskP key nonce) bes body
theorem pressL_len (cs t : List Nat) : (pressL cs t).length = 16 := by unfold pressL rndLast; exact addL_length _ _ _
theorem maskP_length (key nonce : ByteArray) : (maskP key nonce).length = 16 := pressL_len _ _
theorem tagP_length (cs mask : List Nat) (a b : ByteArray) : (tagP cs mask a b).length = 16 := by unfold tagP; simp
theorem macP_length (key nonce bes body : ByteArray) : (macP key nonce bes body).length = 16 := tagP_length _ _ _ _
theorem pcN (n : Nat) : 16 * ((n + 15) / 16) < n + 16 := by omega
theorem turnP_le (key nonce text : ByteArray) : (turnP key nonce text).length ≤ text.size + 16 := by
  have := tfold_length (cipher (bys key)) (bys nonce) 1 (pcsB text ((text.size + 15) / 16))
  rw [pcsB_length] at this
  have := pcN text.size
  unfold turnP; omega
set_option maxRecDepth 100000 in
theorem pseal_bad (key nonce bes text : ByteArray) (h : refN key.size nonce.size bes.size text.size ≠ 0) (w : World) :
    Calls Try.prog 13 #[.string key, .string nonce, .string bes, .string text] w fun e w' => e = .returned (.tuple #[.string (mkS []), .int .i64 ((refN key.size nonce.size bes.size text.size : Nat) : Int)]) ∧ w = w' := by
  have HR := Lib.hid fun W => refused_any key nonce bes text.size W
  generalize refN key.size nonce.size bes.size text.size = r at *
  have hb : ((r : Int) != 0) = true := by simp; omega
  clear h
  go_enter Try.func13, Try.ntmps13
  go_wp2_with fail
  refine (HR.out _).mono ?_
  rintro e w' ⟨rfl, rfl⟩
  go_wp2
  go_ret2
  exact ⟨rfl, rfl⟩
set_option maxRecDepth 100000 in
set_option maxHeartbeats 2000000 in
theorem pseal_ok (key nonce bes text : ByteArray) (hk : key.size = 32) (hn : nonce.size = 12) (hb : bes.size ≤ 65536) (ht : text.size ≤ 65536) (hbo : (turnP key nonce text).length ≤ 65536) (w : World) :
    Calls Try.prog 13 #[.string key, .string nonce, .string bes, .string text] w fun e w' => e = .returned (.tuple #[.string (mkS (turnP key nonce text ++ macP key nonce bes (mkS (turnP key nonce text)))), .int .i64 0]) ∧ Below w.heap.size w w' := by
  have HR : Hid (∀ W, Calls Try.prog 22 #[.string key, .string nonce, .string bes, .int .i64 text.size] W fun e w' => e = .returned (.int .i64 0) ∧ W = w') := Lib.hid fun W => by
    have := refused_any key nonce bes text.size W
    rwa [show refN key.size nonce.size bes.size text.size = 0 by unfold refN; rw [if_neg (by omega), if_neg (by omega)]] at this
  have HP := Lib.hid fun W => presser_any key hk W
  have HN := Lib.hid hn
  have HT := Lib.hid ht
  have HB := Lib.hid hb
  have HBO := Lib.hid hbo
  clear hk hn hb ht hbo
  go_enter Try.func13, Try.ntmps13
  go_wp2_with fail
  refine (HR.out _).mono ?_
  rintro e w' ⟨rfl, rfl⟩
  go_wp2_with fail
  refine (HP.out _).mono ?_
  rintro e W0 ⟨vb, cb, rfl, hG, hPr⟩
  have hvb : vb < W0.heap.size := by
    have := hPr.var
    unfold blk at this
    rcases Nat.lt_or_ge vb W0.heap.size with h' | h'
    · exact h'
    · simp [Array.getElem?_eq_none h'] at this
  have hcb : cb < W0.heap.size := by
    have := hPr.cip
    unfold blk at this
    rcases Nat.lt_or_ge cb W0.heap.size with h' | h'
    · exact h'
    · simp [Array.getElem?_eq_none h'] at this
  have HW0 : Hid (Below w.heap.size w W0) := Lib.hid hG.below
  have HPR := Lib.hid hPr
  have HVC := Lib.hid (And.intro hvb hcb)
  clear hG hPr hvb hcb
  go_wp2_with fail
  refine (counter_any nonce _ ⟨_, _, _, rfl⟩ W0).mono ?_
  rintro e w' ⟨rfl, rfl⟩
  go_wp2_with fail
  refine (next_any W0 _ 0 2 1 0 vb cb (cipher (bys key)) nonce 0 rfl rfl rfl ⟨blk_old _ _ _ _ HPR.out.var, blk_old _ _ _ _ HPR.out.cip, HPR.out.len⟩ HN.out (by decide)).mono ?_
  rintro e w' ⟨rfl, g, d, rfl⟩
  have hml : (pressL (cipher (bys key)) (bys nonce ++ hfL (0 + 1) 4)).length = 16 := pressL_len _ _
  go_wp2_with fail
  have HGT := Lib.hid fun l d h1 h2 h3 h4 => gturn_any W0 l d 2 1 0 vb cb (cipher (bys key)) nonce text 1 h1 h2 h3 h4 HN.out (by have := HT.out; omega) (by decide)
  refine (HGT.out _ _ rfl rfl rfl ⟨blk_old _ _ _ _ HPR.out.var, blk_old _ _ _ _ HPR.out.cip, HPR.out.len⟩).mono ?_
  rintro e W1 ⟨rfl, hB1, hK1⟩
  have hmk : blk W1 (W0.heap.size + (g.length + 1 + 1 + 1)) = some (.cells (cv .u8 (maskP key nonce)) 60 (0, 0)) := by
    refine hK1 _ _ (by omega) ?_
    rw [blk_at]
    simp only [List.getElem?_cons_succ]
    rw [List.getElem?_append_right (by omega), Nat.sub_self]
    rfl
  have hpr1 : Prs W1 vb cb (cipher (bys key)) := ⟨hK1 _ _ (by have := HVC.out.1; omega) (blk_old _ _ _ _ HPR.out.var), hK1 _ _ (by have := HVC.out.2; omega) (blk_old _ _ _ _ HPR.out.cip), HPR.out.len⟩
  have HB1 : Hid (Below w.heap.size w W1) := Lib.hid (HW0.out.trans (hB1.mono HW0.out.size))
  have hmk' : ∀ l d, blk (Wd W1 l d) (W0.heap.size + (g.length + 1 + 1 + 1)) = some (.cells (cv .u8 (maskP key nonce)) 60 (0, 0)) := fun l d => blk_old _ _ _ _ hmk
  rw [show (tfold (cipher (bys key)) (bys nonce) 1 (pcsB text ((text.size + 15) / 16))).1 = turnP key nonce text from rfl]
  obtain ⟨B, hB⟩ : ∃ B, turnP key nonce text = B := ⟨_, rfl⟩
  have HBB := Lib.hid hB
  rw [hB] at HBO ⊢
  obtain ⟨mm, hmm⟩ : ∃ mm, W0.heap.size + (g.length + 1 + 1 + 1) = mm := ⟨_, rfl⟩
  simp only [hmm] at hmk' ⊢
  obtain ⟨mask, hmask⟩ : ∃ mask, maskP key nonce = mask := ⟨_, rfl⟩
  rw [hmask] at hmk'
  have hmaskl : mask.length = 16 := by rw [← hmask]; exact maskP_length _ _
  have HTG : Hid (Calls Try.prog 26 #[.func (.func 36) #[] #[.pointer (some ⟨vb, 0, none⟩)], .agg (cv .u8 mask), .string bes, .string (mkS B)] (Wd W1 [] 0) fun e w' => e = .returned (.string (mkS (tagP (cipher (bys key)) mask bes (mkS B)))) ∧ Below W1.heap.size W1 w') := Lib.hid (by
    rw [Wd_nil]
    exact gtag_any vb cb (cipher (bys key)) mask bes (mkS B) hmaskl HB.out (by rw [mkS_size]; exact HBO.out) W1 hpr1)
  have hmac : Hid (macP key nonce bes (mkS B) = tagP (cipher (bys key)) mask bes (mkS B)) := Lib.hid (by unfold macP; rw [hmask])
  obtain ⟨T, hT⟩ : ∃ T, tagP (cipher (bys key)) mask bes (mkS B) = T := ⟨_, rfl⟩
  have hTl : T.length = 16 := by rw [← hT]; exact tagP_length _ _ _ _
  rw [hT] at HTG hmac
  have hcat : ∀ W, (Op.stringOp .add (mkS B) (mkS T)).run Try.prog W = .ok (.string (mkS (B ++ T))) W := fun W => by
    rw [run_string_add_sum W _ _ (by rw [mkS_size, mkS_size, hTl]; have := HBO.out; omega)]
    congr 2
    unfold mkS
    exact ByteArray.ext (by simp)
  clear hmk hpr1 hB hmask hT hTl hmm hB1 hK1
  rw [← Wd_nil W1]
  go_wp2_with fail
  refine HTG.out.mono ?_
  rintro e W2 ⟨rfl, hB2⟩
  go_wp2
  go_ret2
  refine ⟨?_, HB1.out.trans (hB2.mono HB1.out.size)⟩
  rw [HBB.out, hmac.out]
  rfl
end Go.Proofs.Ytfamoakicgmfgaa
namespace Go.Proofs.Ytfamoakicgmfgaa
open Go.RowKit Go.Own
attribute [local go_sem] z5 ag5 cs5 sz5 isa5 ag60 cs60 sz60 z60 isa9 ag9 ag75 cs75 sz75 isa75 set_same List.getElem?_set_ne
attribute [-go_sem] run_string_add_if
set_option maxRecDepth 100000 in
theorem popen_bad (key nonce bes sl : ByteArray) (h : sl.size < 16 ∨ refN key.size nonce.size bes.size (sl.size - 16) ≠ 0) (hm : sl.size ≤ 1099511627776) (w : World) :
    Calls Try.prog 15 #[.string key, .string nonce, .string bes, .string sl] w fun e w' => e = .returned (.tuple #[.string (mkS []), .int .i64 ((if sl.size < 16 then 2 else refN key.size nonce.size bes.size (sl.size - 16) : Nat) : Int)]) ∧ w = w' := by
  by_cases h16 : sl.size < 16
  · rw [if_pos h16]
    have h1 : (sl.size : Int) - 16 < 0 := by omega
    clear h h16
    go_enter Try.func15, Try.ntmps15
    go_wp2
    go_ret2
    exact ⟨rfl, rfl⟩
  · rw [if_neg h16]
    obtain ⟨L, hL⟩ : ∃ L, sl.size - 16 = L := ⟨_, rfl⟩
    rw [hL] at h ⊢
    have h1 : (sl.size : Int) - 16 = (L : Int) := by omega
    have h2 : ¬ (L : Int) < 0 := by omega
    have hLb : L ≤ 1099511627776 := by omega
    have HR := Lib.hid fun W => refused_any key nonce bes L W
    have h3 := h.resolve_left h16
    generalize refN key.size nonce.size bes.size L = r at *
    have hb : ((r : Int) != 0) = true := by simp; omega
    clear h h16 h3 hL
    go_enter Try.func15, Try.ntmps15
    go_wp2_with fail
    refine (HR.out _).mono ?_
    rintro e w' ⟨rfl, rfl⟩
    go_wp2
    go_ret2
    exact ⟨rfl, rfl⟩
set_option maxRecDepth 100000 in
set_option maxHeartbeats 2000000 in
theorem popen_ok (key nonce bes sl : ByteArray) (hk : key.size = 32) (hn : nonce.size = 12) (hb : bes.size ≤ 65536) (h16 : 16 ≤ sl.size) (ht : sl.size ≤ 65552) (w : World) :
    Calls Try.prog 15 #[.string key, .string nonce, .string bes, .string sl] w fun e w' => e = .returned (.tuple (if sameB (sl.extract (sl.size - 16) sl.size) (mkS (macP key nonce bes (sl.extract 0 (sl.size - 16)))) = true then
      #[.string (mkS (turnP key nonce (sl.extract 0 (sl.size - 16)))), .int .i64 0] else #[.string (mkS []), .int .i64 8])) ∧ Below w.heap.size w w' := by
  obtain ⟨L, hL⟩ : ∃ L, sl.size - 16 = L := ⟨_, rfl⟩
  rw [hL]
  have h1 : (sl.size : Int) - 16 = (L : Int) := by omega
  have h2 : ¬ (L : Int) < 0 := by omega
  have h3 : (L : Int) ≤ (sl.size : Int) := by omega
  have hLn : L ≤ sl.size := by omega
  have hLb : L ≤ 65536 := by omega
  obtain ⟨B, hB⟩ : ∃ B, sl.extract 0 L = B := ⟨_, rfl⟩
  obtain ⟨E, hE⟩ : ∃ E, sl.extract L sl.size = E := ⟨_, rfl⟩
  rw [hB, hE]
  obtain ⟨ANS, hANS⟩ : ∃ A, (if sameB E (mkS (macP key nonce bes B)) = true then #[Value.string (mkS (turnP key nonce B)), .int .i64 0] else #[Value.string (mkS []), .int .i64 8]) = A := ⟨_, rfl⟩
  rw [hANS]
  have HANS := Lib.hid hANS
  clear hANS
  have hBs : B.size ≤ 65536 := by rw [← hB, ByteArray.size_extract]; omega
  have hEs : E.size ≤ 16 := by rw [← hE, ByteArray.size_extract]; omega
  have HR : Hid (∀ W, Calls Try.prog 22 #[.string key, .string nonce, .string bes, .int .i64 L] W fun e w' => e = .returned (.int .i64 0) ∧ W = w') := Lib.hid fun W => by
    have := refused_any key nonce bes L W
    rwa [show refN key.size nonce.size bes.size L = 0 by unfold refN; rw [if_neg (by omega), if_neg (by omega)]] at this
  have HP := Lib.hid fun W => presser_any key hk W
  have HN := Lib.hid hn
  have HB := Lib.hid hb
  have HBS := Lib.hid hBs
  have HES := Lib.hid hEs
  clear hk hn hb ht h16 hBs hL hEs
  go_enter Try.func15, Try.ntmps15
  go_wp2_with fail
  refine (HR.out _).mono ?_
  rintro e w' ⟨rfl, rfl⟩
  go_wp2_with fail
  refine (HP.out _).mono ?_
  rintro e W0 ⟨vb, cb, rfl, hG, hPr⟩
  have hvb : vb < W0.heap.size := by
    have := hPr.var
    unfold blk at this
    rcases Nat.lt_or_ge vb W0.heap.size with h' | h'
    · exact h'
    · simp [Array.getElem?_eq_none h'] at this
  have hcb : cb < W0.heap.size := by
    have := hPr.cip
    unfold blk at this
    rcases Nat.lt_or_ge cb W0.heap.size with h' | h'
    · exact h'
    · simp [Array.getElem?_eq_none h'] at this
  have HW0 : Hid (Below w.heap.size w W0) := Lib.hid hG.below
  have HPR := Lib.hid hPr
  have HVC := Lib.hid (And.intro hvb hcb)
  clear hG hPr hvb hcb
  go_wp2_with fail
  refine (counter_any nonce _ ⟨_, _, _, rfl⟩ W0).mono ?_
  rintro e w' ⟨rfl, rfl⟩
  go_wp2_with fail
  refine (next_any W0 _ 0 2 1 0 vb cb (cipher (bys key)) nonce 0 rfl rfl rfl ⟨blk_old _ _ _ _ HPR.out.var, blk_old _ _ _ _ HPR.out.cip, HPR.out.len⟩ HN.out (by decide)).mono ?_
  rintro e w' ⟨rfl, g, d, rfl⟩
  have hml : (pressL (cipher (bys key)) (bys nonce ++ hfL (0 + 1) 4)).length = 16 := pressL_len _ _
  go_wp2_with fail
  have e1 : pressL (cipher (bys key)) (bys nonce ++ hfL 1 4) = maskP key nonce := rfl
  rw [e1]
  clear hml e1
  obtain ⟨mask, hmask⟩ : ∃ mask, maskP key nonce = mask := ⟨_, rfl⟩
  have hmaskl : mask.length = 16 := by rw [← hmask]; exact maskP_length _ _
  obtain ⟨M, hM⟩ : ∃ M, (Obj.cells #[Value.string nonce] 9 (0, 0) :: Obj.cells #[.func (.func 36) #[] #[.pointer (some ⟨vb, 0, none⟩)]] 55 (0, 0) :: Obj.cells #[Value.int .u64 1] 75 (0, 0) :: (g ++ [Obj.cells (cv .u8 mask) 60 (0, 0)])) = M := ⟨_, rfl⟩
  have m0 : M[0]? = some (.cells #[.string nonce] 9 (0, 0)) := by rw [← hM]; rfl
  have m1 : M[1]? = some (.cells #[.func (.func 36) #[] #[.pointer (some ⟨vb, 0, none⟩)]] 55 (0, 0)) := by rw [← hM]; rfl
  have m2 : M[2]? = some (.cells #[.int .u64 ((1 : Nat) : Int)] 75 (0, 0)) := by rw [← hM]; rfl
  obtain ⟨km, hkm⟩ : ∃ km, g.length + 1 + 1 + 1 = km := ⟨_, rfl⟩
  have mk : M[km]? = some (.cells (cv .u8 mask) 60 (0, 0)) := by
    rw [← hM, ← hkm]
    simp only [List.getElem?_cons_succ]
    rw [List.getElem?_append_right (by omega), Nat.sub_self]; rfl
  rw [hmask, hM, hkm]
  obtain ⟨mm, hmm⟩ : ∃ mm, W0.heap.size + km = mm := ⟨_, rfl⟩
  have hblk : ∀ d, blk (Wd W0 M d) mm = some (.cells (cv .u8 mask) 60 (0, 0)) := fun d => by rw [← hmm, blk_at, mk]
  obtain ⟨T, hT⟩ : ∃ T, macP key nonce bes B = T := ⟨_, rfl⟩
  have hTl : T.length = 16 := by rw [← hT]; exact macP_length _ _ _ _
  have HTT := Lib.hid hT
  have HTG : Hid (∀ dd, Calls Try.prog 26 #[.func (.func 36) #[] #[.pointer (some ⟨vb, 0, none⟩)], .agg (cv .u8 mask), .string bes, .string B] (Wd W0 M dd) fun e w' => e = .returned (.string (mkS T)) ∧ ∃ w3 g', Same W0 w3 ∧ w' = Wd w3 (M ++ g') 0) := Lib.hid fun dd => by
    refine (gtag_any vb cb (cipher (bys key)) mask bes B hmaskl HB.out HBS.out (Wd W0 M dd) ⟨blk_old _ _ _ _ HPR.out.var, blk_old _ _ _ _ HPR.out.cip, HPR.out.len⟩).mono ?_
    rintro e w' ⟨rfl, hbel⟩
    obtain ⟨w3, g', hs3, rfl⟩ := below_lay (w1 := { W0 with drawn := W0.drawn + dd }) (M := M) rfl (by have e2 : (Wd W0 M dd).heap.size = W0.heap.size + M.length := Wd_size _ _ _; rw [e2] at hbel; exact hbel)
    refine ⟨by rw [← hT]; unfold macP; rw [hmask], w3, g', ⟨hs3.1, hs3.2.1, hs3.2.2.1, hs3.2.2.2⟩, rfl⟩
  have HEQ : Hid (∀ W, Calls Try.prog 29 #[.string E, .string (mkS T)] W fun e w' => e = .returned (.bool (sameB E (mkS T))) ∧ Grows W w') := Lib.hid fun W => equal_any E (mkS T) (by have := HES.out; omega) W
  obtain ⟨NX, hNX⟩ : ∃ NX, Value.func (.func 40) #[] #[.pointer (some ⟨W0.heap.size + 2, 0, none⟩), .pointer (some ⟨W0.heap.size + 1, 0, none⟩), .pointer (some ⟨W0.heap.size, 0, none⟩)] = NX := ⟨_, rfl⟩
  rw [hmm, hNX]
  rename_i Q1 K1 hK1 K hK
  have hpost : ∀ (w3 : World) (G : List Obj) (e : Nat), Same W0 w3 → K { tmps := #[.string key, .string nonce, .string bes, .string sl, undef, undef, undef, undef, .string ByteArray.empty, .int .i64 0, .int .i64 L, .int .i64 0, .string B, .func (.func 36) #[] #[.pointer (some ⟨vb, 0, none⟩)], NX, .pointer (some ⟨mm, 0, none⟩), .string sl, .int .i64 sl.size, .int .i64 L, .int .i64 L, .bool false, .string key, .string nonce, .string bes, .int .i64 L, .int .i64 0, .int .i64 0, .bool false, undef, .string sl, .int .i64 L, .string B, .string key, .func (.func 36) #[] #[.pointer (some ⟨vb, 0, none⟩)], .string nonce, .func (.func 36) #[] #[.pointer (some ⟨vb, 0, none⟩)], NX, NX, .agg (cv .u8 mask), .string sl, .int .i64 L, .string E, .func (.func 36) #[] #[.pointer (some ⟨vb, 0, none⟩)], .agg (cv .u8 mask), .string bes, .string B, .string (mkS T), .bool (sameB E (mkS T)), .bool (!sameB E (mkS T)), undef, undef, undef], defers := [] } (Wd w3 (M ++ G) e) := by
    intro w3 G e hs3
    refine hK _ _ ?_
    have hsz : W0.heap.size = w3.heap.size := hs3.size.symm
    have hbel : ∀ w', Below w3.heap.size w3 w' → Below w.heap.size w w' := fun w' hw => by
      have h1 : Below W0.heap.size W0 w3 := by have := hs3.below [] 0; rwa [Wd_nil] at this
      exact HW0.out.trans ((h1.trans (hw.mono (Nat.le_of_eq hsz))).mono HW0.out.size)
    have HBEL := Lib.hid hbel
    have hl : ∀ k o, M[k]? = some o → (M ++ G)[k]? = some o := fun k o hk => by rw [List.getElem?_append_left (List.getElem?_eq_some_iff.1 hk).1, hk]
    have HPR3 : Hid (Prs (Wd w3 (M ++ G) e) vb cb (cipher (bys key))) := Lib.hid ⟨blk_app_same hs3 (d := 0) (blk_old _ _ _ _ HPR.out.var), blk_app_same hs3 (d := 0) (blk_old _ _ _ _ HPR.out.cip), HPR.out.len⟩
    have HGT : Hid (Calls Try.prog 25 #[.string B, NX] (Wd w3 (M ++ G) e) fun r w' => r = .returned (.string (mkS (turnP key nonce B))) ∧ Below w3.heap.size w3 w') := Lib.hid (by
      rw [← hNX, hsz]
      refine (gturn_any w3 (M ++ G) e 2 1 0 vb cb (cipher (bys key)) nonce B 1 (hl _ _ m2) (hl _ _ m1) (hl _ _ m0) HPR3.out HN.out (by have := HBS.out; omega) (by decide)).mono ?_
      rintro r w' ⟨rfl, hb, _⟩
      exact ⟨rfl, hb⟩)
    by_cases hsame : sameB E (mkS T) = true
    · have HS := Lib.hid hsame
      have hs2 : (!sameB E (mkS T)) = false := by rw [hsame]; rfl
      rw [hs2, hsame]
      clear hsame hs2 hbel hblk hK
      go_wp2_with fail
      refine HGT.out.mono ?_
      rintro r w' ⟨rfl, hb⟩
      rw [← Wd_nil w']
      go_wp2
      go_ret2
      refine ⟨?_, HBEL.out _ hb⟩
      rw [← HANS.out, HTT.out, if_pos HS.out]
      rfl
    · have hs1 : sameB E (mkS T) = false := by
        cases h : sameB E (mkS T) with
        | false => rfl
        | true => exact absurd h hsame
      have HS := Lib.hid hs1
      have hs2 : (!sameB E (mkS T)) = true := by rw [hs1]; rfl
      have hW3 : Below w3.heap.size w3 (Wd w3 (M ++ G) e) := (Same.refl w3).below _ _
      rw [hs2, hs1]
      clear hsame hs1 hs2 hbel hblk hK
      go_wp2
      go_ret2
      refine ⟨?_, HBEL.out _ hW3⟩
      rw [← HANS.out, HTT.out, if_neg (by rw [HS.out]; decide)]
      rfl
  go_region_law (first
    | (go_simp; go_at_call 26; refine (HTG.out _).mono ?_; rintro e w' ⟨rfl, w3, g', hs3, rfl⟩)
    | (go_simp; go_at_call 29; refine (HEQ.out _).mono ?_; rintro e w' ⟨rfl, g4, d4, rfl⟩; rw [Wd_wd, List.append_assoc]))
  all_goals exact hpost _ _ _ hs3
end Go.Proofs.Ytfamoakicgmfgaa

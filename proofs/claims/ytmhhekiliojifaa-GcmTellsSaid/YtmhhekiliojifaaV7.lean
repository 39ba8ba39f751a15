/- The hash of texts: by contract. No condition but sizes. -/
import Derived.Test.YtmhhekiliojifaaV6
import Derived.Test.YtmhhekiliojifaaW2
namespace Go.Own
open Go.RowKit
theorem ldX3 {P : Program} {T : TypeId} {b o : Nat} {W : World} {x y z v : Value} {t : TypeId} {f : Nat × Nat} (ha : (isAgg T).run P W = .ok false W)
    (h2 : blk W b = some (.cells #[x, y, z] t f)) (hv : #[x, y, z][o]? = some v) : ldX P T none (some (.cells #[x, y, z] t f)) b o W = .ok v W := by
  have hc : W.cell? ⟨b, o, none⟩ = some v := by
    simp [World.cell?, show W.heap[b]? = _ from h2, hv]
  simp [ldX, ldN, Instr.loadAt, Instr.sureAddr, loadVar, ha, hc]
theorem ldX3_0 {P : Program} {T : TypeId} {b : Nat} {W : World} {x y z : Value} {t : TypeId} {f : Nat × Nat} (ha : (isAgg T).run P W = .ok false W)
    (h2 : blk W b = some (.cells #[x, y, z] t f)) : ldX P T none (some (.cells #[x, y, z] t f)) b 0 W = .ok x W := ldX3 ha h2 rfl
theorem ldX3_1 {P : Program} {T : TypeId} {b : Nat} {W : World} {x y z : Value} {t : TypeId} {f : Nat × Nat} (ha : (isAgg T).run P W = .ok false W)
    (h2 : blk W b = some (.cells #[x, y, z] t f)) : ldX P T none (some (.cells #[x, y, z] t f)) b 1 W = .ok y W := ldX3 ha h2 rfl
theorem ldX3_2 {P : Program} {T : TypeId} {b : Nat} {W : World} {x y z : Value} {t : TypeId} {f : Nat × Nat} (ha : (isAgg T).run P W = .ok false W)
    (h2 : blk W b = some (.cells #[x, y, z] t f)) : ldX P T none (some (.cells #[x, y, z] t f)) b 2 W = .ok z W := ldX3 ha h2 rfl
end Go.Own
namespace Go.Proofs.Ytmhhekiliojifaa
open Go.RowKit Go.Own
/-- One piece is taken into the hash. -/
def hstep (h s : List Nat) (x : Pc) : List Nat := prodL ((List.range 16).map (xorF s (fillL (bys x.1)))) h
theorem hstep_def (h s : List Nat) (x : Pc) : hstep h s x = prodL ((List.range 16).map (xorF s (fillL (bys x.1)))) h := by unfold hstep; rfl
def hfold (h s : List Nat) (pre : List Pc) : List Nat := pre.foldl (hstep h) s
theorem hstep_length (h s : List Nat) (x : Pc) : (hstep h s x).length = 16 := by rw [hstep_def]; exact prodL_length _ _
theorem hstep_B8 (h s : List Nat) (x : Pc) : B8 (hstep h s x) := by rw [hstep_def]; exact prodL_B8 _ _
theorem hfold_cons (h s : List Nat) (x : Pc) (pre : List Pc) : hfold h s (x :: pre) = hfold h (hstep h s x) pre := by simp only [hfold, List.foldl_cons]
theorem hfold_snoc (h s : List Nat) (x : Pc) (pre : List Pc) : hfold h s (pre ++ [x]) = hstep h (hfold h s pre) x := by simp only [hfold, List.foldl_append, List.foldl_cons, List.foldl_nil]
theorem hfold_good (h : List Nat) (pre : List Pc) : ∀ s : List Nat, s.length = 16 → B8 s → (hfold h s pre).length = 16 ∧ B8 (hfold h s pre) := by
  induction pre with
  | nil => intro s h1 h2; simp only [hfold, List.foldl_nil]; exact ⟨h1, h2⟩
  | cons x pre ih =>
    intro s _ _
    rw [hfold_cons]
    exact ih _ (hstep_length _ _ _) (hstep_B8 _ _ _)
/-- One text is. -/
def htext (h s : List Nat) (t : ByteArray) : List Nat := hfold h s (pcsB t ((t.size + 15) / 16))
/-- The hash behind i texts; the text of number i. -/
def hashN (h : List Nat) (s1 s2 s3 : ByteArray) : Nat → List Nat
  | 0 => rep 16
  | 1 => htext h (rep 16) s1
  | 2 => htext h (htext h (rep 16) s1) s2
  | _ => htext h (htext h (htext h (rep 16) s1) s2) s3
def txt (s1 s2 s3 : ByteArray) : Nat → ByteArray
  | 0 => s1
  | 1 => s2
  | _ => s3
theorem hashN_succ (h : List Nat) (s1 s2 s3 : ByteArray) (i : Nat) (hi : i < 3) : hashN h s1 s2 s3 (i + 1) = htext h (hashN h s1 s2 s3 i) (txt s1 s2 s3 i) := by
  have : i = 0 ∨ i = 1 ∨ i = 2 := by omega
  rcases this with rfl | rfl | rfl <;> rfl
theorem htext_good (h s : List Nat) (t : ByteArray) (h1 : s.length = 16) (h2 : B8 s) : (htext h s t).length = 16 ∧ B8 (htext h s t) := hfold_good h _ s h1 h2
theorem hashN_good (h : List Nat) (s1 s2 s3 : ByteArray) : ∀ i, i ≤ 3 → (hashN h s1 s2 s3 i).length = 16 ∧ B8 (hashN h s1 s2 s3 i)
  | 0, _ => ⟨rep_length _, B8.rep _⟩
  | i + 1, hi => by
    rw [hashN_succ h s1 s2 s3 i (by omega)]
    have := hashN_good h s1 s2 s3 i (by omega)
    exact htext_good _ _ _ this.1 this.2
attribute [local go_sem] z5 ag5 cs5 sz5 isa5 ag40 cs40 sz40 z40 isa9 ag9 set_same List.getElem?_set_ne ldX3_0 ldX3_1 ldX3_2
set_option maxRecDepth 100000 in
theorem pieces_any (s : ByteArray) (w : World) (l : List Obj) (d : Nat) :
    Calls Try.prog 30 #[.string s] (Wd w l d) fun e w' => e = .returned (.func (.func 51) #[] #[.pointer (some ⟨w.heap.size + l.length, 0, none⟩)]) ∧ w' = Wd w (l ++ [.cells #[.string s] 9 (0, 0)]) d := by
  go_enter Try.func30, Try.ntmps30
  go_wp2
  go_ret
  exact ⟨rfl, rfl⟩
set_option maxRecDepth 100000 in
set_option maxHeartbeats 4000000 in
theorem hash_any (h : List Nat) (hh : h.length = 16) (hh8 : B8 h) (s1 s2 s3 : ByteArray) (b1 : s1.size ≤ 1000000) (b2 : s2.size ≤ 1000000) (b3 : s3.size ≤ 1000000) (sb : Nat) (w : World)
    (hs : blk w sb = some (.cells #[.string s1, .string s2, .string s3] 9 (0, 0))) :
    Calls Try.prog 33 #[.agg (cv .u8 h), .slice (some ⟨sb, 0, none⟩) 3 3] w fun e w' => e = .returned (.agg (cv .u8 (htext h (htext h (htext h (rep 16) s1) s2) s3))) ∧ Below w.heap.size w w' := by
  refine calls_wd ?_
  refine (callsIn_wide (n := 3)).1 (callsIn_of_wp_marks Try.func33 rfl trivial ?_ rfl)
  refine wpIn_wide.2 ?_
  simp only [Try.ntmps33, List.size_toArray, List.length_cons, List.length_nil, Nat.reduceAdd, Nat.reduceSub, Array.replicate_succ, Array.replicate_zero, List.push_toArray, List.append_toArray, List.nil_append, List.cons_append]
  have htx : ∀ i, (txt s1 s2 s3 i).size ≤ 1000000 := fun i => by unfold txt; split <;> assumption
  go_wp2
  rename_i Q' K hK
  refine wp_loop (fun a wr => ∃ (i : Nat) (w1 : World) (L : List Obj) (js : List Nat) (u7 u8 u12 u13 u14 u15 u16 u17 u18 u19 u20 u21 u22 u23 u24 u25 : Value), i ≤ 3 ∧ Same w w1 ∧ wr = Wd w1 L 0 ∧
      a = { tmps := #[.agg (cv .u8 h), .slice (some ⟨sb, 0, none⟩) 3 3, .pointer (some ⟨w1.heap.size, 0, none⟩), undef, .pointer (some ⟨w1.heap.size + 1, 0, none⟩), .pointer (some ⟨w1.heap.size + 2, 0, none⟩), undef, u7, u8, .slice (some ⟨sb, 0, none⟩) 3 3, .int .i64 3, .int .i64 i, u12, u13, u14, u15, u16, u17, u18, u19, u20, u21, u22, u23, u24, u25], defers := marks w1 js } ∧
      Hid (L[0]? = some (.cells (cv .u8 h) 40 (0, 0)) ∧ L[1]? = some (.cells (cv .u8 (rep 16)) 40 (0, 0)) ∧ L[2]? = some (.cells (cv .u8 (hashN h s1 s2 s3 i)) 40 (0, 0)) ∧ (∀ j ∈ js, L[j]? = some (.deferred (some []))) ∧ js.Nodup)) (fun a _ => 3 - (intOf (a.tmps.getD 11 undef)).toNat) ?start ?round
  case start => exact ⟨0, w, _, [], _, _, _, _, _, _, _, _, _, _, _, _, _, _, _, _, by omega, Same.refl w, rfl, rfl, Lib.hid ⟨rfl, rfl, rfl, fun _ h => (by cases h), List.nodup_nil⟩⟩
  case round =>
    rintro a wr ⟨i, w1, L, js, u7, u8, u12, u13, u14, u15, u16, u17, u18, u19, u20, u21, u22, u23, u24, u25, hi, hsame, rfl, rfl, hL⟩
    have hsb1 : blk w1 sb = some (.cells #[.string s1, .string s2, .string s3] 9 (0, 0)) := by unfold blk at hs ⊢; rw [hsame.1]; exact hs
    by_cases hlt : i < 3
    · have hlti : (i : Int) < 3 := by omega
      have hld : ∀ l d, ldX Try.prog 9 none (some (.cells #[.string s1, .string s2, .string s3] 9 (0, 0))) sb i (Wd w1 l d) = .ok (.string (txt s1 s2 s3 i)) (Wd w1 l d) := fun l d => by
        refine ldX3 (isa9 _) (blk_old _ _ _ _ hsb1) ?_
        have : i = 0 ∨ i = 1 ∨ i = 2 := by omega
        rcases this with rfl | rfl | rfl <;> rfl
      have hbk : ∀ l d, blk (Wd w1 l d) sb = some (.cells #[.string s1, .string s2, .string s3] 9 (0, 0)) := fun l d => blk_old _ _ _ _ hsb1
      obtain ⟨l0, l1, l2, lj, ljn⟩ := hL.out
      obtain ⟨S, hS⟩ : ∃ S, hashN h s1 s2 s3 i = S := ⟨_, rfl⟩
      have hSg := hashN_good h s1 s2 s3 i hi
      have hSs := hashN_succ h s1 s2 s3 i hlt
      rw [hS] at l2 hSg hSs
      obtain ⟨t, ht⟩ : ∃ t, txt s1 s2 s3 i = t := ⟨_, rfl⟩
      have htt := htx i
      rw [ht] at htt hSs
      simp only [ht] at hld
      have hb3 : 2 < L.length := (List.getElem?_eq_some_iff.1 l2).1
      have HHS := Lib.hid hSs
      have HLI := Lib.hid hlt
      have HSAME := Lib.hid hsame
      have HTT := Lib.hid htt
      have HSG := Lib.hid hSg
      have HB3 := Lib.hid hb3
      have HHK := Lib.hid hK
      clear hS hSs ht htx htt hSg hs hsb1 hb3 hsame hL hK
      go_wp2_with fail
      refine (pieces_any t w1 L 0).mono ?_
      rintro e w' ⟨rfl, rfl⟩
      go_wp2
      obtain ⟨m, hm⟩ : ∃ m, L.length = m := ⟨_, rfl⟩
      obtain ⟨M, hM⟩ : ∃ M, L ++ [Obj.cells #[Value.string t] 9 (0, 0)] = M := ⟨_, rfl⟩
      rw [hm] at HB3 ⊢
      rw [hM]
      have hMl : M.length = m + 1 := by rw [← hM, List.length_append, hm]; rfl
      have e0 : M[0]? = some (.cells (cv .u8 h) 40 (0, 0)) := by rw [← hM, List.getElem?_append_left (by have := HB3.out; omega), l0]
      have e1 : M[1]? = some (.cells (cv .u8 (rep 16)) 40 (0, 0)) := by rw [← hM, List.getElem?_append_left (by have := HB3.out; omega), l1]
      have e2 : M[2]? = some (.cells (cv .u8 S) 40 (0, 0)) := by rw [← hM, List.getElem?_append_left (by have := HB3.out; omega), l2]
      have em : M[m]? = some (.cells #[.string t] 9 (0, 0)) := by rw [← hM, List.getElem?_append_right (by omega), hm, Nat.sub_self]; rfl
      have ej : ∀ j ∈ js, M[j]? = some (.deferred (some [])) := fun j hj => by rw [← hM, List.getElem?_append_left (List.getElem?_eq_some_iff.1 (lj j hj)).1, lj j hj]
      have hj3 : ∀ j ∈ js, j ≠ 2 := fun j hj e => by have := lj j hj; rw [e, l2] at this; cases this
      have hjm : ∀ j ∈ js, j < m := fun j hj => by have := (List.getElem?_eq_some_iff.1 (lj j hj)).1; omega
      have m2 : ¬ (2 = m) := by have := HB3.out; omega
      have hset0 : M.set 2 (.cells (cv .u8 S) 40 (0, 0)) = M := by
        apply List.ext_getElem?
        intro k
        by_cases hk : 2 = k
        · subst hk; rw [set_same (by rw [e2]; rfl), e2]
        · rw [List.getElem?_set_ne hk]
      refine wp_pieces t HTT.out (w1.heap.size + m) (by rw [blk_at]; exact em) rfl (fun pre W => Below (w1.heap.size + M.length) (Wd w1 (M.set 2 (.cells (cv .u8 (hfold h S pre)) 40 (0, 0))) 0) W)
        (fun pre W W' row hs hg hr => ownFrom_below (β := Unit) (w₀ := Wd w1 (M.set 2 (.cells (cv .u8 (hfold h S pre)) 40 (0, 0))) 0) (by rw [Wd_size, List.length_set]; exact Nat.le_refl _) (by rw [Wd_size]; exact Nat.le_refl _) () W W' row hs hg hr)
        (by show Below _ (Wd w1 (M.set 2 (.cells (cv .u8 S) 40 (0, 0))) 0) _; rw [hset0]; exact Below.refl _ _)
        (fun x => { tmps := #[.agg (cv .u8 h), .slice (some ⟨sb, 0, none⟩) 3 3, .pointer (some ⟨w1.heap.size, 0, none⟩), undef, .pointer (some ⟨w1.heap.size + 1, 0, none⟩), .pointer (some ⟨w1.heap.size + 2, 0, none⟩), undef, .string t, .string x.1, .slice (some ⟨sb, 0, none⟩) 3 3, .int .i64 3, .int .i64 i, .bool true, .pointer (some ⟨sb, i, none⟩), .string t, .string t, .func (.func 51) #[] #[.pointer (some ⟨w1.heap.size + m, 0, none⟩)], .string x.1, u18, u19, u20, u21, u22, u23, u24, u25], defers := [] }) ?assign ?body ?done
      case assign =>
        intro lo x W K0 hK0
        refine region_rnd_lit (by kernel_rfl) (by rintro ⟨_, _, h⟩; exact h) ?_
        go_wp2
        exact hK0
      case body =>
        intro lo pre x W hW hlen
        obtain ⟨w3, g, hs3, hWe⟩ := below_lay (by rw [List.length_set]) hW
        obtain ⟨Y, hY⟩ : ∃ Y, hfold h S pre = Y := ⟨_, rfl⟩
        have hYg := hfold_good h pre S HSG.out.1 HSG.out.2
        rw [hY] at hWe hYg
        obtain ⟨X, hX⟩ : ∃ X, hstep h Y x = X := ⟨_, rfl⟩
        have hXe : hfold h S (pre ++ [x]) = X := by rw [hfold_snoc, hY, hX]
        obtain ⟨V, hV⟩ : ∃ V, M.set 2 (Obj.cells (cv .u8 Y) 40 (0, 0)) ++ g = V := ⟨_, rfl⟩
        rw [hV] at hWe
        have v0 : V[0]? = some (.cells (cv .u8 h) 40 (0, 0)) := by rw [← hV, List.getElem?_append_left (by rw [List.length_set, hMl]; omega), List.getElem?_set_ne (by decide), e0]
        have v2 : V[2]? = some (.cells (cv .u8 Y) 40 (0, 0)) := by rw [← hV, List.getElem?_append_left (by rw [List.length_set, hMl]; have := HB3.out; omega), set_same (by rw [e2]; rfl)]
        have vm : V[m]? = some (.cells #[.string t] 9 (0, 0)) := by rw [← hV, List.getElem?_append_left (by rw [List.length_set, hMl]; omega), List.getElem?_set_ne m2, em]
        have fin : ∀ (a' : Act) (g' : List Obj) (e : Nat), ownPostK (KeepsB (w1.heap.size + m)) (fun pre W => Below (w1.heap.size + M.length) (Wd w1 (M.set 2 (.cells (cv .u8 (hfold h S pre)) 40 (0, 0))) 0) W) (fun _ _ _ => False) (pre ++ [x]) W .normal a' (Wd w3 ((V ++ g').set 2 (.cells (cv .u8 X) 40 (0, 0))) e) := fun a' g' e => by
          have hb2 : 2 < V.length := (List.getElem?_eq_some_iff.1 v2).1
          have hsa : (V ++ g').set 2 (Obj.cells (cv .u8 X) 40 (0, 0)) = V.set 2 (.cells (cv .u8 X) 40 (0, 0)) ++ g' := List.set_append_left _ _ hb2
          have hsb2 : V.set 2 (Obj.cells (cv .u8 X) 40 (0, 0)) ++ g' = M.set 2 (.cells (cv .u8 X) 40 (0, 0)) ++ (g ++ g') := by
            rw [← hV, List.set_append_left _ _ (by rw [List.length_set, hMl]; have := HB3.out; omega), List.set_set, List.append_assoc]
          refine ⟨?_, ?_, ?_⟩
          · rw [hsa, hWe]
            exact keeps_set (fun o ho => by rw [v2] at ho; obtain rfl := Option.some.inj ho; rfl)
          · intro o ho
            rw [hWe, ← hs3.size, blk_at, vm] at ho
            rw [← hs3.size, blk_at, hsa, List.getElem?_append_left (by rw [List.length_set]; exact (List.getElem?_eq_some_iff.1 vm).1), List.getElem?_set_ne m2, vm]
            exact ho
          · show Below _ (Wd w1 (M.set 2 (.cells (cv .u8 (hfold h S (pre ++ [x]))) 40 (0, 0))) 0) _
            rw [hXe, hsa, hsb2]
            exact lay_below hs3 _ _ _ (by rw [List.length_set]; exact Nat.le_refl _)
        have hLO : ¬ LetsOut (ownPostK (KeepsB (w1.heap.size + m)) (fun pre W => Below (w1.heap.size + M.length) (Wd w1 (M.set 2 (.cells (cv .u8 (hfold h S pre)) 40 (0, 0))) 0) W) (fun _ _ _ => False) (pre ++ [x]) W) := by rintro ⟨_, _, h⟩; exact h
        generalize ownPostK (KeepsB (w1.heap.size + m)) (fun pre W => Below (w1.heap.size + M.length) (Wd w1 (M.set 2 (.cells (cv .u8 (hfold h S pre)) 40 (0, 0))) 0) W) (fun _ _ _ => False) (pre ++ [x]) W = Q0 at fin hLO ⊢
        have hz : w1.heap.size = w3.heap.size := hs3.size.symm
        have HX1 : Hid (∀ W, Calls Try.prog 22 #[.string x.1] W fun e w' => e = .returned (.agg (cv .u8 (fillL (bys x.1)))) ∧ Grows W w') := Lib.hid fun W => filled_any x.1 W
        have HX2 : Hid (∀ W, Calls Try.prog 31 #[.agg (cv .u8 Y), .agg (cv .u8 (fillL (bys x.1)))] W fun e w' => e = .returned (.agg (cv .u8 ((List.range 16).map (xorF Y (fillL (bys x.1)))))) ∧ Grows W w') := Lib.hid fun W => bplus_any Y _ hYg.1 (fillL_length _) W
        obtain ⟨Z, hZ⟩ : ∃ Z, (List.range 16).map (xorF Y (fillL (bys x.1))) = Z := ⟨_, rfl⟩
        have hZl : Z.length = 16 := by rw [← hZ]; simp
        have hZ8 : ∀ k, gi Z k < 256 := by
          rw [← hZ]
          have : B8 ((List.range 16).map (xorF Y (fillL (bys x.1)))) := fun n hn => by
            obtain ⟨k, _, rfl⟩ := List.mem_map.1 hn
            exact xor8_lt _ _
          exact this.gi
        have hXl : X.length = 16 := by rw [← hX]; exact hstep_length h Y x
        have HX3 : Hid (∀ W, Calls Try.prog 23 #[.agg (cv .u8 Z), .agg (cv .u8 h)] W fun e w' => e = .returned (.agg (cv .u8 X)) ∧ Grows W w') := Lib.hid fun W => by
          have := times_any Z h hZl hh hZ8 hh8.gi W
          rw [timesL_prodL hZ8 hh8.gi, ← hZ, ← hstep_def, hX] at this
          rw [← hZ]
          exact this
        rw [hZ] at HX2
        have HB1 := Lib.hid fun (g' : List Obj) (e : Nat) => big_call (L := fun g' => V ++ g') (g := g') (e := e) (w := w3) (l0 := V) (fun _ _ => by simp) (fun _ => rfl) (HX1.out _)
        have HB2 := Lib.hid fun (g' : List Obj) (e : Nat) => big_call (L := fun g' => V ++ g') (g := g') (e := e) (w := w3) (l0 := V) (fun _ _ => by simp) (fun _ => rfl) (HX2.out _)
        have HB4 := Lib.hid fun (g' : List Obj) (e : Nat) => big_call (L := fun g' => V ++ g') (g := g') (e := e) (w := w3) (l0 := V) (fun _ _ => by simp) (fun _ => rfl) (HX3.out _)
        have c0 : ∀ g, (V ++ g)[0]? = some (.cells (cv .u8 h) 40 (0, 0)) := fun g => by rw [List.getElem?_append_left (List.getElem?_eq_some_iff.1 v0).1, v0]
        have c2 : ∀ g, (V ++ g)[2]? = some (.cells (cv .u8 Y) 40 (0, 0)) := fun g => by rw [List.getElem?_append_left (List.getElem?_eq_some_iff.1 v2).1, v2]
        have hYl := hYg.1
        have FIN := Lib.hid fin
        subst hWe
        clear hW hY hX hXe hV v0 v2 vm fin hYg hZ hZ8 e0 e1 e2 em ej hj3 hjm hset0 hM l0 l1 l2 lj ljn hm hMl m2 hlen hld hbk
        rw [hz]
        refine wpIn_block ?_
        refine rnd_region_more 6 (by kernel_rfl) (by kernel_rfl) (by rintro ⟨a, w, h⟩; exact hLO ⟨a, w, h⟩) (by kernel_rfl) ?_
        simp only [List.take_succ_cons, List.take_zero, List.drop_succ_cons, List.drop_zero]
        repeat (go_big_quiet_step ((intro _; first | (with_reducible exact HB1.out _ _) | (with_reducible exact HB2.out _ _) | (with_reducible exact HB4.out _ _))))
        refine wpQuiet_nil ?_
        intro gR eR
        go_wp2
        exact FIN.out _ _ _
      case done =>
        intro D W hD hW hK0
        obtain ⟨w3, g, hs3, rfl⟩ := below_lay (by rw [List.length_set]) hW
        have hXe : hashN h s1 s2 s3 (i + 1) = hfold h S (pcsB t ((t.size + 15) / 16)) := by rw [HHS.out]; rfl
        rw [← hXe] at hK0 ⊢
        obtain ⟨X, hX⟩ : ∃ X, hashN h s1 s2 s3 (i + 1) = X := ⟨_, rfl⟩
        rw [hX] at hK0 ⊢
        rw [Wd_size, hMl] at hD
        obtain ⟨jd, hjd⟩ : ∃ jd, D = w1.heap.size + jd := ⟨D - w1.heap.size, by omega⟩
        subst hjd
        have hzz : w1.heap.size = w3.heap.size := hs3.size.symm
        rw [hzz, Wd_at] at hK0
        have hmk : ({ target := .collected (w1.heap.size + jd), args := #[] } : Deferred) :: marks w1 js = marks w3 (jd :: js) := by
          unfold marks; rw [hzz]; rfl
        obtain ⟨V, hV⟩ : ∃ V, M.set 2 (Obj.cells (cv .u8 X) 40 (0, 0)) ++ g = V := ⟨_, rfl⟩
        rw [hV] at hK0 ⊢
        have vold : ∀ k, k < m + 1 → ¬ 2 = k → V[k]? = M[k]? := fun k hk h2 => by rw [← hV, List.getElem?_append_left (by rw [List.length_set, hMl]; exact hk), List.getElem?_set_ne h2]
        have v2 : V[2]? = some (.cells (cv .u8 X) 40 (0, 0)) := by rw [← hV, List.getElem?_append_left (by rw [List.length_set, hMl]; have := HB3.out; omega), set_same (by rw [e2]; rfl)]
        have HV : Hid (V[0]? = some (.cells (cv .u8 h) 40 (0, 0)) ∧ V[1]? = some (.cells (cv .u8 (rep 16)) 40 (0, 0)) ∧ V[2]? = some (.cells (cv .u8 (hashN h s1 s2 s3 (i + 1))) 40 (0, 0)) ∧ (∀ j ∈ jd :: js, V[j]? = some (.deferred (some []))) ∧ (jd :: js).Nodup) := Lib.hid (by
          refine ⟨by rw [vold 0 (by omega) (by decide), e0], by rw [vold 1 (by have := HB3.out; omega) (by decide), e1], by rw [hX, v2], fun j hj => ?_, ?_⟩
          · rcases List.mem_cons.1 hj with rfl | hj
            · exact hK0
            · rw [vold j (by have := hjm j hj; omega) (fun e => hj3 j hj e.symm), ej j hj]
          · refine List.nodup_cons.2 ⟨fun hj => ?_, ljn⟩
            have := hjm jd hj
            omega)
        have HS3 : Hid (Same w w3) := Lib.hid (HSAME.out.trans hs3)
        clear hD hW hK0 hXe hX hV vold v2 e0 e1 e2 em ej hj3 hjm hset0 hM l0 l1 l2 lj ljn hm hMl m2 hld hbk hs3
        show Exit.inBlock 2 _ .normal { tmps := _, defers := ({ target := .collected (w1.heap.size + jd), args := #[] } : Deferred) :: marks w1 js } _
        rw [hmk, hzz]
        clear hmk hzz
        go_wp2
        refine ⟨⟨i + 1, w3, V, jd :: js, _, _, _, _, _, _, _, _, _, _, _, _, _, _, _, _, by have := HLI.out; omega, HS3.out, rfl, by go_num, HV⟩, ?_⟩
        have := HLI.out
        simp [intOf]; omega
    · obtain rfl : i = 3 := by omega
      obtain ⟨l0, l1, l2, lj, ljn⟩ := hL.out
      have hR : hashN h s1 s2 s3 3 = htext h (htext h (htext h (rep 16) s1) s2) s3 := rfl
      have hSg := (hashN_good h s1 s2 s3 3 (Nat.le_refl _)).1
      obtain ⟨S, hS⟩ : ∃ S, hashN h s1 s2 s3 3 = S := ⟨_, rfl⟩
      rw [hS] at l2 hSg hR
      have HR := Lib.hid hR
      have HSAME := Lib.hid hsame
      have HJ := Lib.hid (And.intro lj ljn)
      have hj1 : ∀ j ∈ js, j ≠ 1 := fun j hj e => by have := lj j hj; rw [e, l1] at this; cases this
      have HJ1 := Lib.hid hj1
      clear hS hR htx hs hsb1 hsame hL hj1 lj ljn
      go_wp2
      show LeavesInM _ _ _ _ _ _ _ _ _
      have hset1 : (L.set 1 (Obj.cells (cv .u8 S) 40 (0, 0)))[1]? = some (.cells (cv .u8 S) 40 (0, 0)) := set_same (by rw [l1]; rfl)
      refine leaves_marks w1 0 js _ (fun j hj => ?_) HJ.out.2 (fun l' hl' => ?_)
      · rw [List.getElem?_set_ne (fun e => HJ1.out j hj e.symm)]; exact HJ.out.1 j hj
      · have h1 : l'[1]? = some (.cells (cv .u8 S) 40 (0, 0)) := by rw [hl' 1 (fun hj => HJ1.out 1 hj rfl), hset1]
        have hrc := ret_cell (P := Try.prog) (fn := Try.f33) (R := fun e w' => e = .returned (.agg (cv .u8 S)) ∧ w' = Wd w1 l' 0) (a := { tmps := #[.agg (cv .u8 h), .slice (some ⟨sb, 0, none⟩) 3 3, .pointer (some ⟨w1.heap.size, 0, none⟩), undef, .pointer (some ⟨w1.heap.size + 1, 0, none⟩), .pointer (some ⟨w1.heap.size + 2, 0, none⟩), undef, u7, u8, .slice (some ⟨sb, 0, none⟩) 3 3, .int .i64 3, .int .i64 (3 : Nat), .bool false, u13, u14, u15, u16, u17, u18, u19, u20, u21, u22, u23, u24, .agg (cv .u8 S)], defers := [] }) (i := 1) rfl rfl ag40 h1 hSg rfl ⟨rfl, rfl⟩
        obtain ⟨_, v, hv, hv1, _⟩ := hrc
        exact ⟨v, hv, by rw [hv1, HR.out], HSAME.out.below l' 0⟩
end Go.Proofs.Ytmhhekiliojifaa

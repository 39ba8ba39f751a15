/- Rows of texts, and of acts, that came in, opened. No condition. -/
import Derived.Test.YtjgfljckmckhcaaDoorZ45
import Derived.ProofKit
import Derived.OpenShut
import Derived.Deep.Slices
import Derived.Deep.Fields
import Derived.ChangeSame
import Derived.ChangeArms
import Derived.SizedLaws
namespace Go.Proofs.YtjgfljckmckhcaaDoor
open Go Go.RowKit Go.Own Go.ChangeShapes Go.WideShapes Go.Deep
instance acInhabited : Inhabited Ac := ⟨⟨.empty, false, .slice none 0 0, [], .int .i64 0, .int .u64 0, .int .i64 0⟩⟩
theorem laidOut : laidOutB Tryd.prog = true := by kernel_rfl
theorem cells9 : Tryd.prog.cellsOf 9 = 1 := by kernel_rfl
theorem cells4 : Tryd.prog.cellsOf 4 = 1 := by kernel_rfl
theorem cells32 : Tryd.prog.cellsOf 32 = 1 := by kernel_rfl
theorem bytes9 : Tryd.prog.bytesOf 9 = 16 := by kernel_rfl
theorem add_none (g o i : Nat) : (⟨g, o, none⟩ : Addr).add i = ⟨g, o + i, none⟩ := by unfold Addr.add; split <;> simp_all
theorem cell_blk {W : World} {g o : Nat} {v : Value} (h : W.cell? ⟨g, o, none⟩ = some v) : ∃ C t f, blk W g = some (.cells C t f) ∧ C[o]? = some v := by
  unfold World.cell? at h
  cases hb : W.heap[g]? with
  | none => simp [hb] at h
  | some ob =>
    cases ob with
    | cells c t f =>
      simp only [hb, Option.isSome_none, Bool.false_eq_true, if_false] at h
      exact ⟨c, t, f, hb, h⟩
    | _ => simp [hb] at h
/-- A row of texts that came in. -/
theorem txs_of {W : World} {b o len cap : Nat} {ss : List ByteArray} (hl : len ≤ ss.length) (hcell : ∀ i, i < ss.length → W.cell? ((⟨b, o, none⟩ : Addr).add i) = some (.string (ss.getD i ByteArray.empty))) : TxAt W [] (.slice (some ⟨b, o, none⟩) len cap) (ss.take len) := by
  have hlen : (ss.take len).length = len := by rw [List.length_take]; omega
  have hc : ∀ (j : Nat) s, (ss.take len)[j]? = some s → ∃ c t f, blk W b = some (.cells c t f) ∧ c[o + j]? = some (.string s) := fun j s hs => by
    have hj := (List.getElem?_eq_some_iff.1 hs).1
    have hjl : j < ss.length := by simp at hj; omega
    have hs' : ss[j]? = some s := by rw [← hs, List.getElem?_take_of_lt (by simp at hj; omega)]
    have h := hcell j hjl
    rw [add_none, List.getD_eq_getElem?_getD, hs'] at h
    exact cell_blk h
  refine ⟨some ⟨b, o, none⟩, cap, by rw [hlen], fun hne => ?_⟩
  obtain ⟨s0, hs0⟩ : ∃ s0, (ss.take len)[0]? = some s0 := ⟨_, List.getElem?_eq_getElem (by
    rcases Nat.eq_zero_or_pos (ss.take len).length with h0 | h0
    · exact absurd (List.length_eq_zero_iff.1 h0) hne
    · exact h0)⟩
  obtain ⟨c, t, f, hb, _⟩ := hc 0 s0 hs0
  refine ⟨b, o, c, t, f, rfl, fun L d _ => blk_old W L d b hb, fun k s hs => ?_⟩
  obtain ⟨c', t', f', hb', hx⟩ := hc k s hs
  rw [hb] at hb'
  simp only [Option.some.injEq, Obj.cells.injEq] at hb'
  rw [hb'.1]; exact hx
theorem sized_strs {H : Type} {P : Program} {e : TypeId} : ∀ (ss : List ByteArray) (n : Nat), (∀ m ∈ DataW.weightsAll (H := H) P e (Go.ChangeShapes.strs ss), m ≤ n) → ∀ s ∈ ss, s.size ≤ n
  | [], _, _, s, hs => by simp at hs
  | s0 :: rest, n, h, s, hs => by
    have e0 : DataW.weightsAll (H := H) P e (Go.ChangeShapes.strs (s0 :: rest)) = [s0.data.toList.length] ++ DataW.weightsAll P e (Go.ChangeShapes.strs rest) := rfl
    rw [e0] at h
    rcases List.mem_cons.1 hs with rfl | h1
    · have := h _ (List.mem_append.2 (Or.inl (List.mem_singleton.2 rfl)))
      simpa using this
    · exact sized_strs rest n (fun m hm => h m (List.mem_append.2 (Or.inr hm))) s h1
theorem weightsAll_mem {H : Type} {P : Program} {e : TypeId} : ∀ {l : List (DataW H)} {d : DataW H}, d ∈ l → ∀ n ∈ d.weights P e, n ∈ DataW.weightsAll P e l
  | d0 :: r, d, hd, n, hn => by
    simp only [DataW.weightsAll, List.mem_append]
    rcases List.mem_cons.1 hd with rfl | hd
    · exact .inl hn
    · exact .inr (weightsAll_mem hd n hn)
theorem strs_len (ss : List ByteArray) {H : Type} : (Go.ChangeShapes.strs (H := H) ss).length = ss.length := by simp [Go.ChangeShapes.strs]
/-- A row of texts, with their sizes. -/
theorem open_txs {H : Type} {enc : TypeId × Value → H} {W : World} {base : Nat} {spare : Nat → Bool} {held : Bool} {fuel : Nat} {sv : Value} {x : DataW H × List MemPlace}
    (h : DataW.trod enc Tryd.prog W base spare held fuel 32 [sv] = some x) (hw : ∀ m ∈ x.1.weights Tryd.prog 32, m ≤ reachBytes) : ∃ L : List ByteArray, TxAt W [] sv L ∧ L.length ≤ reachBytes ∧ ∀ s ∈ L, s.size ≤ reachBytes := by
  rcases Go.ChangeShapes.open_strings Tryd.underlying32 Tryd.underlying9 cells9 h with ⟨hcs, hx⟩ | ⟨a, len, cap, ss, hcs, _, hl, hm, hz, hx, hcell, hws⟩
  · simp only [List.cons.injEq, and_true] at hcs
    subst hcs
    exact ⟨[], ⟨none, 0, rfl, fun h => absurd rfl h⟩, Nat.zero_le _, fun s hs => by cases hs⟩
  · simp only [List.cons.injEq, and_true] at hcs
    subst hcs
    have hlen : len ≤ ss.length := by
      rw [hz]; split
      · exact hl
      · exact Nat.le_refl _
    have hwe : DataW.weights Tryd.prog 32 x.1 = ((Go.ChangeShapes.strs (H := H) (ss.take len)).length + (Go.ChangeShapes.strs (H := H) (ss.drop len)).length) * Tryd.prog.bytesOf 9 :: (DataW.weightsAll (H := H) Tryd.prog 9 (Go.ChangeShapes.strs (ss.take len)) ++ DataW.weightsAll (H := H) Tryd.prog 9 (Go.ChangeShapes.strs (ss.drop len))) := by
      rw [hx]
      simp only [DataW.weights, Tryd.underlying32]
    rw [hwe] at hw
    have h1 := hw _ (List.mem_cons_self)
    rw [strs_len, strs_len, bytes9] at h1
    have h2 : ∀ s ∈ ss.take len, s.size ≤ reachBytes := sized_strs (H := H) (P := Tryd.prog) (e := 9) _ _ fun m hm => hw m (List.mem_cons_of_mem _ (List.mem_append.2 (.inl hm)))
    obtain ⟨b, o, spot⟩ := a
    by_cases hl0 : len = 0
    · subst hl0
      exact ⟨[], ⟨_, _, rfl, fun h => absurd rfl h⟩, Nat.zero_le _, fun s hs => by cases hs⟩
    · have hspot : spot = none := by simpa [Addr.add] using World.cell?_spot (hcell 0 (by omega))
      subst hspot
      exact ⟨ss.take len, txs_of hlen hcell, by omega, h2⟩
set_option maxRecDepth 100000 in
theorem fields42 : ∃ f0 f1 f2 f3, Tryd.prog.underlying 42 = some (.struct #[f0, f1, f2, f3]) ∧ (f0.type = 9 ∧ f0.offset = 0) ∧ (f1.type = 4 ∧ f1.offset = 1) ∧ (f2.type = 32 ∧ f2.offset = 2) ∧ (f3.type = 40 ∧ f3.offset = 3) :=
  ⟨_, _, _, _, Tryd.underlying42, ⟨rfl, rfl⟩, ⟨rfl, rfl⟩, ⟨rfl, rfl⟩, ⟨rfl, rfl⟩⟩
set_option maxRecDepth 100000 in
theorem open_ac {H : Type} {enc : TypeId × Value → H} {W : World} {base : Nat} {spare : Nat → Bool} {held : Bool} {fuel : Nat} {cs : List Value} {y : DataW H × List MemPlace}
    (h : DataW.trod enc Tryd.prog W base spare held fuel 42 cs = some y) (hw : ∀ m ∈ y.1.weights Tryd.prog 42, m ≤ reachBytes) : ∃ x : Ac, cs.toArray = ac x ∧ AcOk x ∧ TxAt W [] x.sv x.L := by
  obtain ⟨f0, f1, f2, f3, hu, ⟨t0, o0⟩, ⟨t1, o1⟩, ⟨t2, o2⟩, ⟨t3, o3⟩⟩ := fields42
  obtain ⟨xs, n, hfn, hx, hlen, hxl, hg⟩ := DataW.trod_struct hu h
  rw [cs42] at hlen
  match cs, hlen with
  | [c0, c1, c2, c3, c4, c5], _ =>
    match xs, hxl with
    | [y0, y1, y2, y3], _ =>
      have g0 : DataW.trod enc Tryd.prog W base spare held n 9 [c0] = some y0 := by simpa [t0, o0, cells9] using hg 0 f0 rfl
      have g1 : DataW.trod enc Tryd.prog W base spare held n 4 [c1] = some y1 := by simpa [t1, o1, cells4] using hg 1 f1 rfl
      have g2 : DataW.trod enc Tryd.prog W base spare held n 32 [c2] = some y2 := by simpa [t2, o2, cells32] using hg 2 f2 rfl
      have hwe : DataW.weights Tryd.prog 42 y.1 = DataW.weightsEach Tryd.prog [9, 4, 32, 40] [y0.1, y1.1, y2.1, y3.1] := by
        rw [hx]
        simp only [DataW.weights, hu, List.map_cons, List.map_nil, t0, t1, t2, t3]
      rw [hwe] at hw
      have w0 : ∀ m ∈ y0.1.weights Tryd.prog 9, m ≤ reachBytes := fun m hm => hw m (DataW.weights_mem_each (j := 0) (t := 9) rfl rfl m hm)
      have w2 : ∀ m ∈ y2.1.weights Tryd.prog 32, m ≤ reachBytes := fun m hm => hw m (DataW.weights_mem_each (j := 2) (t := 32) rfl rfl m hm)
      obtain ⟨s, e0, hy0, _⟩ := DataW.trod_string Tryd.underlying9 g0
      obtain ⟨b, e1, _⟩ := DataW.trod_bool Tryd.underlying4 g1
      obtain ⟨L, hL, hL2, hL3⟩ := open_txs g2 w2
      simp only [List.cons.injEq, and_true] at e0 e1
      subst e0 e1
      have hs : s.size ≤ reachBytes := by
        have := w0 s.data.toList.length (by rw [hy0]; simp [DataW.weights])
        simpa using this
      exact ⟨⟨s, b, c2, L, c3, c4, c5⟩, rfl, ⟨hs, hL2, hL3⟩, hL⟩
set_option maxRecDepth 100000 in
theorem open_acts {H : Type} {enc : TypeId × Value → H} {W : World} {base : Nat} {spare : Nat → Bool} {held : Bool} {fuel : Nat} {sv : Value} {x : DataW H × List MemPlace}
    (h : DataW.trod enc Tryd.prog W base spare held fuel 22 [sv] = some x) (hw : ∀ m ∈ x.1.weights Tryd.prog 22, m ≤ reachBytes) : ∃ A : List Ac, Acts W sv A ∧ ∀ x ∈ A, AcOk x := by
  rcases DataW.trod_slice Tryd.underlying22 h with ⟨e4, _⟩ | ⟨a, len, cap, elems, rest, n', hn', e4, hxe, hb, hl, hm, hel, hi, _, _⟩
  · simp only [List.cons.injEq, and_true] at e4
    subst e4
    exact ⟨[], ⟨none, 0, rfl, fun k b hk => by simp at hk⟩, fun x hx => by simp at hx⟩
  · simp only [List.cons.injEq, and_true] at e4
    subst e4
    have each : ∀ i, i < len → ∃ z : Ac, AcOk z ∧ TxAt W [] z.sv z.L ∧ ∀ j, j < 6 → W.cell? (a.add (i * 6 + j)) = (ac z)[j]? := fun i hil => by
      have h1 := hi i hil
      have hie : elems[i]? = some (elems[i]'(by omega)) := List.getElem?_eq_getElem (by omega)
      rw [hie, cs42] at h1
      obtain ⟨cs', hc, ht⟩ := Option.bind_eq_some_iff.1 h1
      obtain ⟨_, hcl, hat⟩ := World.cells?_some hc
      have hwi : ∀ m ∈ (elems[i]'(by omega)).1.weights Tryd.prog 42, m ≤ reachBytes := fun m hm => hw m (by
        rw [hxe]
        simp only [DataW.weights, Tryd.underlying22]
        refine List.mem_cons_of_mem _ (List.mem_append.2 (.inl ?_))
        exact weightsAll_mem (List.mem_map.2 ⟨_, List.getElem_mem _, rfl⟩) m hm)
      obtain ⟨z, hz, hok, htx⟩ := open_ac ht hwi
      refine ⟨z, hok, htx, fun j hj => ?_⟩
      rw [← Go.Deep.add_add, hat j hj, ← hz]
      simp
    obtain ⟨q, hq⟩ := choose_lt each
    refine ⟨(List.range len).map q, ⟨some a, cap, by simp, fun j z hz => ?_⟩, fun x hx => ?_⟩
    · have hj : j < len := by simpa using (List.getElem?_eq_some_iff.1 hz).1
      obtain ⟨hok, htx, h2⟩ := hq j hj
      have e : z = q j := by simp [hj] at hz; exact hz.symm
      rw [← e] at hok h2 htx
      obtain ⟨g, o, spot⟩ := a
      have hsp : spot = none := by
        have h3 := (hq 0 (by omega)).2.2 0 (by omega)
        have h4 : W.cell? ((⟨g, o, spot⟩ : Addr).add (0 * 6 + 0)) = some (.string (q 0).S) := h3
        simpa [Addr.add] using World.cell?_spot h4
      subst hsp
      have h20 := h2 0 (by omega)
      rw [add_none] at h20
      obtain ⟨C, t, f, h3, h4⟩ := cell_blk (show W.cell? ⟨g, o + (j * 6 + 0), none⟩ = some (.string z.S) from h20)
      have hget : ∀ i, i < 6 → C[o + j * 6 + i]? = (ac z)[i]? := fun i hi6 => by
        have h5 := h2 i hi6
        rw [add_none] at h5
        unfold World.cell? at h5
        rw [show W.heap[g]? = _ from h3] at h5
        simp only [Option.isSome_none, Bool.false_eq_true, if_false] at h5
        rw [← h5, Nat.add_assoc]
      have hsz : o + j * 6 + 6 ≤ C.size := by
        have h6 := hget 5 (by omega)
        have h7 : C[o + j * 6 + 5]? = some z.c5 := h6
        have := (Array.getElem?_eq_some_iff.1 h7).1
        omega
      refine ⟨htx, g, o, C, t, f, rfl, h3, hsz, ?_⟩
      apply Array.ext_getElem?
      intro i
      rw [Array.getElem?_extract]
      by_cases hi6 : i < 6
      · rw [if_pos (by omega), hget i hi6]
      · rw [if_neg (by omega), Array.getElem?_eq_none (by rw [ac_size]; omega)]
    · obtain ⟨j, hj, rfl⟩ := List.mem_map.1 hx
      exact (hq j (List.mem_range.1 hj)).1
end Go.Proofs.YtjgfljckmckhcaaDoor

/- For any sectors' bytes and any text JournalSpoilt of layer 9 returns true: whatever lies on a disk, a journal is opened, of some texts, and goes on; opened again it tells them all. No condition; the table of the rounds' constants is tied to the program's text by the card. -/
import Derived.Test.YtjgfljckmckhcaaDoorCards
import Derived.Test.YtjgfljckmckhcaaDoorTie
import Derived.WalkKit
import Derived.ProofKit
import Derived.OpenShut
import Derived.Deep.DeepHandedRow
import Derived.Lib.LaidTab
import Derived.ShutString
import Derived.Carry
import Derived.Test.YtjgfljckmckhcaaDoorZ18
import Derived.Test.YtjgfljckmckhcaaDoorZ44
namespace Go.Proofs.YtjgfljckmckhcaaDoor.journalSpoilt
open Go.ChangeShapes Go.WideShapes Go.ChangeAt Go.RowKit
open Go.ChangeMaps (open_string shut_string)
set_option linter.unusedVariables false

theorem own : ownKnob Tryd.prog.godebug = none := by kernel_rfl
theorem gTab : Tryd.prog.globalNamed "keyloft/sha.roots" = some 0 := by kernel_rfl
theorem gTabType : (Tryd.prog.globals[0]?).map (·.type) = some 137 := by kernel_rfl
theorem c124 : Tryd.prog.cellsOf 124 = 1 := by kernel_rfl
theorem c137 : Tryd.prog.cellsOf 137 = 64 := by kernel_rfl

def zs : List Int := [1116352408, 1899447441, 3049323471, 3921009573, 961987163, 1508970993, 2453635748, 2870763221, 3624381080, 310598401, 607225278, 1426881987, 1925078388, 2162078206, 2614888103, 3248222580, 3835390401, 4022224774, 264347078, 604807628, 770255983, 1249150122, 1555081692, 1996064986, 2554220882, 2821834349, 2952996808, 3210313671, 3336571891, 3584528711, 113926993, 338241895, 666307205, 773529912, 1294757372, 1396182291, 1695183700, 1986661051, 2177026350, 2456956037, 2730485921, 2820302411, 3259730800, 3345764771, 3516065817, 3600352804, 4094571909, 275423344, 430227734, 506948616, 659060556, 883997877, 958139571, 1322822218, 1537002063, 1747873779, 1955562222, 2024104815, 2227730452, 2361852424, 2428436474, 2756734187, 3204031479, 3329325298]
/-- What the row's list gives: the table's cells hold its numbers. -/
theorem table {W : World} (h : laidMetH Tryd.prog Rows.journalSpoiltRow.laid W) : Lib.TabIs Tryd.prog W "keyloft/sha.roots" .u32 zs :=
  Lib.tabIs_of_head (rest := []) gTab gTabType Tryd.underlying137 Tryd.underlying124 c124 c137 h
theorem zs_cells : (zs.map fun z => Value.int .u32 z).toArray = Own.cv .u32 Sm.rootsL := by kernel_rfl
theorem roots {W : World} (h : laidMetH Tryd.prog Rows.journalSpoiltRow.laid W) : Sm.Roots W := by
  have ht := table h
  unfold Lib.TabIs World.var? at ht
  rw [gTab] at ht
  simp only [Option.bind_some] at ht
  split at ht
  · rename_i cs t f hh
    have e := Option.some.inj ht
    rw [zs_cells] at e
    exact ⟨t, f, by unfold Own.blk; rw [hh, e]⟩
  · cases ht
theorem laidOut : laidOutB Tryd.prog = true := by kernel_rfl
theorem cells9 : Tryd.prog.cellsOf 9 = 1 := by kernel_rfl
/-- A row of texts that came in. -/
theorem txs_of {W : World} {b o len cap : Nat} {ss : List ByteArray} (hl : len ≤ ss.length) (hcell : ∀ i, i < ss.length → W.cell? ((⟨b, o, none⟩ : Addr).add i) = some (.string (ss.getD i ByteArray.empty))) : TxAt W [] (.slice (some ⟨b, o, none⟩) len cap) (ss.take len) := by
  have hlen : (ss.take len).length = len := by rw [List.length_take]; omega
  have hc : ∀ j s, (ss.take len)[j]? = some s → ∃ c t f, W.heap[b]? = some (.cells c t f) ∧ c[o + j]? = some (.string s) := fun j s hs => by
    have hj := (List.getElem?_eq_some_iff.1 hs).1
    have hjl : j < ss.length := by simp at hj; omega
    have hs' : ss[j]? = some s := by rw [← hs, List.getElem?_take_of_lt (by simp at hj; omega)]
    have h := hcell j hjl
    have hadd : (⟨b, o, none⟩ : Addr).add j = ⟨b, o + j, none⟩ := by unfold Addr.add; split <;> simp_all
    rw [hadd, List.getD_eq_getElem?_getD, hs'] at h
    unfold World.cell? at h
    cases hb : W.heap[b]? with
    | none => simp [hb] at h
    | some ob =>
      cases ob with
      | cells c t f =>
        simp only [hb, Option.isSome_none, Bool.false_eq_true, if_false] at h
        exact ⟨c, t, f, rfl, by simpa using h⟩
      | _ => simp [hb] at h
  refine ⟨some ⟨b, o, none⟩, cap, by rw [hlen], fun hne => ?_⟩
  obtain ⟨s0, hs0⟩ : ∃ s0, (ss.take len)[0]? = some s0 := ⟨_, List.getElem?_eq_getElem (by
    rcases Nat.eq_zero_or_pos (ss.take len).length with h0 | h0
    · exact absurd (List.length_eq_zero_iff.1 h0) hne
    · exact h0)⟩
  obtain ⟨c, t, f, hb, _⟩ := hc 0 s0 hs0
  have hbl := (Array.getElem?_eq_some_iff.1 hb).1
  refine ⟨b, o, c, t, f, rfl, fun L d _ => ?_, fun k s hs => ?_⟩
  · have := Own.blk_old W L d b (show Own.blk W b = some (.cells c t f) from hb)
    exact this
  · obtain ⟨c', t', f', hb', hx⟩ := hc k s hs
    rw [hb] at hb'
    simp only [Option.some.injEq, Obj.cells.injEq] at hb'
    rw [hb'.1]; exact hx

set_option maxRecDepth 100000 in
/-- What the walk gives, for every argument and every world that holds the table. -/
theorem contract (H : Type) (enc : TypeId × Value → H) (W : World) (base : Nat) (args : Array Value) (ds gs : List (DataW H)) (before : List MemPlace)
    (hval : ∀ (j : Nat) t v, Tryd.f4.params[j]? = some t → args[j]? = some v → Value.okWide Tryd.prog W .any base t v)
    (hW : DataW.Whole enc Tryd.prog Tryd.f4.params.toList Rows.journalSpoiltSpec.vars false W args.toList ds gs before) (hL : laidMetH Tryd.prog Rows.journalSpoiltRow.laid W) :
    Calls Tryd.prog 4 args W fun e W' => ∃ v, e = .returned v ∧ Rows.journalSpoiltSpec.post enc Tryd.prog Tryd.f4 false true false false W args v W' := by
  have hW' := hW
  obtain ⟨p, q, hA0, hV, rfl, hfz, hnd⟩ := hW
  have hA : DataW.TrodAll enc Tryd.prog W 0 (fun _ => true) true Tryd.f4.params.toList args.toList ds p := hA0
  rw [Tryd.params4] at hA hval
  obtain ⟨v0, vs0, d0, ds0, p0, q0, hargs, rfl, rfl, h0, r0⟩ := trodAll_cons hA
  obtain ⟨v1, vs1, d1, ds1, p1, q1, rfl, rfl, rfl, h1, r1⟩ := trodAll_cons r0
  obtain ⟨rfl, rfl, rfl⟩ := trodAll_nil r1
  obtain rfl : args = #[v0, v1] := by
    clear hval hW' hL hA0 r0 r1 h0 h1 hA hV
    cases args
    simp_all
  obtain ⟨rfl, rfl⟩ := trodVars_none hV
  obtain ⟨a0, len, cap, rfl⟩ := okWide_slice Tryd.underlying32 (hval 0 32 v0 rfl rfl)
  have h0k := h0
  have h1k := h1
  obtain ⟨y, rfl, rfl, rfl, w1⟩ := open_string Tryd.underlying9 (hval 1 9 v1 rfl rfl) h1
  obtain ⟨fuel, hf⟩ := h0
  clear hA0
  simp only [List.append_nil] at hW'
  have hlt : ∀ x ∈ p0, x.block < W.heap.size := fun x hx => by simpa using hW'.lt x hx
  have walk : Calls Tryd.prog 4 #[.slice a0 len cap, .string y] W fun e w' => e = .returned (.bool true) ∧ Own.Grows W w' := by
    rcases Go.ChangeShapes.open_strings Tryd.underlying32 Tryd.underlying9 cells9 hf with ⟨hcs, hx⟩ | ⟨a, len', cap', ss, hcs, _, hl, hm, hz, hx, hcell, hws⟩
    · simp [Value.cells] at hcs
      obtain ⟨rfl, rfl, rfl⟩ := hcs
      exact spoilt_any W (roots hL) _ [] ⟨none, 0, rfl, fun h => absurd rfl h⟩ y
    · simp [Value.cells] at hcs
      obtain ⟨rfl, rfl, rfl⟩ := hcs
      simp only [Prod.mk.injEq] at hx
      obtain ⟨rfl, rfl⟩ := hx
      simp only [if_true] at hz
      obtain ⟨b, o, spot⟩ := a
      by_cases hl0 : len = 0
      · subst hl0
        exact spoilt_any W (roots hL) _ [] ⟨_, _, rfl, fun h => absurd rfl h⟩ y
      · have hspot : spot = none := by simpa [Addr.add] using World.cell?_spot (hcell 0 (by omega))
        subst hspot
        exact spoilt_any W (roots hL) _ (ss.take len) (txs_of (by omega) hcell) y
  refine walk.mono fun e W' ⟨he, hg⟩ => ?_
  subst he
  exact ⟨_, rfl, [d0, .lit (.string y.data.toList)], [], p0 ++ [], [], p0 ++ [], [], (by simpa using hW'), (trodAll_cons_mk (shut_bool Tryd.underlying4 _) trodAll_mk0), trodAll_cons_mk (Below.trod laidOut (by kernel_rfl) (of_decide_eq_true (by kernel_rfl)) h0k hg.below hlt) (trodAll_mk1 (Below.trod laidOut (by kernel_rfl) (of_decide_eq_true (by kernel_rfl)) h1k hg.below (fun x hx => by simp at hx))), rfl, hg.below.frame _, fun h => by cases h⟩

/-- A world for the witness: the settled one, the table holding what its initialiser lays. -/
noncomputable def laidWorld (os : Os) : World :=
  { World.holding Tryd.prog os ⟨#[], #[], []⟩ with heap := (World.holding Tryd.prog os ⟨#[], #[], []⟩).heap.modify 0 fun
      | .cells _ t frozen => .cells (Own.cv .u32 Sm.rootsL) t frozen
      | o => o }
theorem laid_met (os : Os) : laidMet Tryd.prog Rows.journalSpoiltRow.laid ((laidWorld os).forCall (fun _ _ => 0) ⟨#[], #[.slice none 0 0, .string ByteArray.empty], []⟩).memory :=
  laidMet_of_run' 8 (by kernel_rfl) (by kernel_rfl)
theorem reads (os : Os) {H : Type} (enc : TypeId × Value → H) : ∃ places, DataW.whole enc Tryd.prog ((laidWorld os).forCall (fun _ _ => 0) ⟨#[], #[.slice none 0 0, .string ByteArray.empty], []⟩).memory Tryd.f4.params.toList Rows.journalSpoiltSpec.vars false #[Value.slice none 0 0, .string ByteArray.empty].toList 8 = some ([.nil, .lit (.string [])], [], places) :=
  ⟨[], by kernel_rfl⟩

set_option maxRecDepth 100000 in
theorem lifted (os : Os) (started : os.Started) (H : Type) (enc : TypeId × Value → H) (F : Stop.Interp) :
    ReturnsInHanded {} Tryd.checked os 4 .any ((OpenSpec.ofChange Rows.journalSpoiltSpec).preRow enc Tryd.prog Tryd.f4 Rows.journalSpoiltRow.domain false Rows.journalSpoiltRow.laid) (((OpenSpec.ofChange Rows.journalSpoiltSpec).at F).post enc Tryd.prog Tryd.f4 false true false false) := by
  obtain ⟨places, hx⟩ := reads os enc
  refine returnsInHanded_of_row (C := Tryd.checked) (s := OpenSpec.ofChange Rows.journalSpoiltSpec) own started (by kernel_rfl) Tryd.func4
    (witness_row_at (enc := enc) (C := Tryd.checked) false (laidWorld os) #[.slice none 0 0, .string ByteArray.empty] rfl (by kernel_rfl) (by kernel_rfl) (by kernel_rfl)
      (OpenSpec.preRow_of_cond 8 hx (by kernel_rfl) (fun k hk => by cases hk) (by kernel_rfl) (laid_met os))) ?_
  intro W base args ds gs before hval hW _ _ _ hL _ _
  exact contract H enc W base args ds gs before hval hW hL

theorem said : Rows.JournalSpoiltSaid :=
  OpenClaim.holds_of_cond 4 Tryd.f4 rfl rfl rfl rfl rfl rfl rfl ⟨rfl, rfl, rfl, rfl, rfl⟩ rfl rfl rfl rfl rfl (by kernel_rfl) Tryd.func4 (by kernel_rfl)
    (of_decide_eq_true (by kernel_rfl)) (by unfold Func.isWrapper; first | (rw [if_pos (by decide +kernel)]; kernel_rfl) | (rw [if_neg (by decide +kernel)]; exact ⟨rfl, rfl⟩))
    (fun os started H enc _ F => by rw [OpenClaim.pre_eq_preRow]; exact lifted os started H enc F)

/-- No parameter wants a stand-in; the program's own looks are off: what the card asks. -/
theorem plain (f : FuncId) (fn : Func) (hf : Tryd.pinned.checked.prog.funcNamed "keyloft/keyloftlaw09.JournalSpoilt" = some f) (hfn : Tryd.pinned.checked.prog.funcs[f]? = some fn) :
    false = Tryd.pinned.checked.prog.looks [] ∧ ∀ (j : Nat) t, fn.params[j]? = some t → Tryd.pinned.checked.prog.wantsStandIn t = false := by
  obtain rfl : f = 4 := Option.some.inj ((show Tryd.prog.funcNamed "keyloft/keyloftlaw09.JournalSpoilt" = some 4 by kernel_rfl).symm.trans hf) |>.symm
  obtain rfl : fn = Tryd.f4 := (Option.some.inj (Tryd.func4.symm.trans hfn)).symm
  refine ⟨by kernel_rfl, fun j t ht => ?_⟩
  rw [Tryd.params4] at ht
  have hm := Array.mem_of_getElem? ht
  simp only [List.mem_toArray, List.mem_cons, List.not_mem_nil, or_false] at hm
  rcases hm with rfl | rfl
  · exact (show Tryd.prog.wantsStandIn 32 = false by kernel_rfl)
  · exact (show Tryd.prog.wantsStandIn 9 = false by kernel_rfl)

theorem card : Rows.JournalSpoiltCardSaid :=
  Claim7.holds_tied_plain_at .later [] _ _ _ _ said (fun _ h => by cases h) (by kernel_rfl) (fun _ h => by cases h) journalSpoilt_row_tie rfl ⟨rfl, rfl⟩ (by kernel_rfl) rfl plain (by kernel_rfl)
#print axioms card
end Go.Proofs.YtjgfljckmckhcaaDoor.journalSpoilt

/- Contexts: where each key's pair stands, by contract. No condition but the row's sizes. -/
import Derived.Test.YtfihbfkgkljjdaaProg
import Derived.Test.YtfihbfkgkljjdaaP1
import Derived.WalkKit
import Derived.WalkSpells
import Derived.Carry
import Derived.Lib.Hide
import Derived.Outline
import Derived.Maps.OwnOps
namespace Go.Proofs.Ytfihbfkgkljjdaa
open Go.RowKit Go.Own Go.Maps Go.WideMaps
set_option maxRecDepth 100000 in
theorem fits_any (x : P2) (h1 : x.1.size ≤ 9223372036854775807) (h2 : x.2.size ≤ 9223372036854775807) (w : World) :
    Calls Try.prog 49 #[.agg #[.string x.1, .string x.2]] w fun e w' => e = .returned (.bool (fitP x)) ∧ Below w.heap.size w w' := by
  obtain ⟨k, v⟩ := x
  simp only at h1 h2 ⊢
  have hc : k.size < 1 ∨ (1 ≤ k.size ∧ 32 < k.size) ∨ (1 ≤ k.size ∧ k.size ≤ 32 ∧ v.size ≤ 64) ∨ (1 ≤ k.size ∧ k.size ≤ 32 ∧ 64 < v.size) := by omega
  rcases hc with h | ⟨h, h'⟩ | ⟨h, h', h''⟩ | ⟨h, h', h''⟩
  all_goals
    try have H : Hid (fitP (k, v) = true) := Lib.hid (by simp only [fitP, Bool.and_eq_true, decide_eq_true_eq]; omega)
    try have H : Hid (fitP (k, v) = false) := Lib.hid (by simp only [fitP, Bool.and_eq_false_iff, decide_eq_false_iff_not]; omega)
    try have d1 : decide (1 ≤ (k.size : Int)) = true := by simp; omega
    try have d1 : decide (1 ≤ (k.size : Int)) = false := by simp; omega
    try have d2 : decide ((k.size : Int) ≤ 32) = true := by simp; omega
    try have d2 : decide ((k.size : Int) ≤ 32) = false := by simp; omega
    try have d3 : decide ((v.size : Int) ≤ 64) = true := by simp; omega
    try have d3 : decide ((v.size : Int) ≤ 64) = false := by simp; omega
    go_enter Try.func49, Try.ntmps49
    go_wp2
    go_ret
    exact ⟨by rw [H.out]; rfl, (Below.refl _ w).alloc (Nat.le_refl _) _⟩
theorem mem_place {L : List P2} {x : P2} (h : x ∈ L) : ∃ i : Nat, L[i]? = some x := by
  obtain ⟨i, hi, e⟩ := List.getElem_of_mem h
  exact ⟨i, by rw [List.getElem?_eq_getElem hi, e]⟩
/-- The slice v holds the pairs L. -/
def PsC (w : World) (v : Value) (L : List P2) : Prop :=
  ∃ p cap, v = .slice p L.length cap ∧ L.length ≤ cap ∧ ∀ (j : Nat) u, (cellsP L)[j]? = some u → ∃ b o, p = some ⟨b, o, none⟩ ∧ w.cell? ⟨b, o + j, none⟩ = some u
theorem PsC.at {w : World} {p : Option Addr} {n cap : Nat} {L : List P2} (h : PsC w (.slice p n cap) L) {k : Nat} {x : P2} (hx : L[k]? = some x) :
    ∃ b o, p = some ⟨b, o, none⟩ ∧ w.cell? ⟨b, o + k * 2, none⟩ = some (.string x.1) ∧ w.cell? ⟨b, o + k * 2 + 1, none⟩ = some (.string x.2) := by
  obtain ⟨p', cap', e, _, hc⟩ := h
  simp only [Value.slice.injEq] at e
  obtain ⟨rfl, _, _⟩ := e
  obtain ⟨h0, h1⟩ := cellsP_at L k x hx
  obtain ⟨b, o, rfl, c0⟩ := hc _ _ h0
  obtain ⟨b', o', e', c1⟩ := hc _ _ h1
  simp only [Option.some.injEq, Addr.mk.injEq] at e'
  obtain ⟨rfl, rfl, _⟩ := e'
  exact ⟨b, o, rfl, c0, c1⟩
theorem PsC.first {w : World} {p : Option Addr} {n cap : Nat} {L : List P2} (h : PsC w (.slice p n cap) L) (k : Nat) (hk : k ≤ L.length) : PsC w (.slice p k cap) (L.take k) := by
  obtain ⟨p', cap', e, hle, hc⟩ := h
  simp only [Value.slice.injEq] at e
  obtain ⟨rfl, _, rfl⟩ := e
  refine ⟨p, cap, by rw [List.length_take, Nat.min_eq_left hk], by rw [List.length_take]; omega, fun j u hu => ?_⟩
  rw [← cellsP_take] at hu
  rw [List.getElem?_take] at hu
  split at hu
  · exact hc j u hu
  · cases hu
theorem PsC.cap_le {w : World} {p : Option Addr} {n cap : Nat} {L : List P2} (h : PsC w (.slice p n cap) L) : n = L.length ∧ L.length ≤ cap := by
  obtain ⟨p', cap', e, hle, hc⟩ := h
  simp only [Value.slice.injEq] at e
  obtain ⟨rfl, h2, rfl⟩ := e
  exact ⟨h2, hle⟩
theorem PsC.below {w w' : World} {v : Value} {L : List P2} (h : PsC w v L) (hb : Below w.heap.size w w') : PsC w' v L := by
  obtain ⟨p, cap, e, hle, hc⟩ := h
  refine ⟨p, cap, e, hle, fun j u hu => ?_⟩
  obtain ⟨b, o, h1, h2⟩ := hc j u hu
  exact ⟨b, o, h1, by rw [hb.cell (p := ⟨b, o + j, none⟩) (World.block_lt_of_cell? w _ h2)]; exact h2⟩
theorem ld_pair {P : Program} {T : TypeId} (W : World) {b o : Nat} {k v : Value} (ha : (isAgg T).run P W = .ok true W) (hz : (sizeOf T).run P W = .ok 2 W) (h0 : W.cell? ⟨b, o, none⟩ = some k) (h1 : W.cell? ⟨b, o + 1, none⟩ = some v) :
    (Instr.loadAt T (.pointer (some ⟨b, o, none⟩))).run P W = .ok (.agg #[k, v]) W := by
  have hl := run_loadCells_list (P := P) W ⟨b, o, none⟩ [k, v] (fun j u hu => by
    have hadd : (⟨b, o, none⟩ : Addr).add j = ⟨b, o + j, none⟩ := by unfold Addr.add; split <;> simp_all
    rw [hadd]
    match j, hu with
    | 0, hu => simpa using hu ▸ h0
    | 1, hu => simpa using hu ▸ h1
    | j + 2, hu => simp at hu)
  simp only [List.length_cons, List.length_nil, Nat.zero_add, Nat.reduceAdd] at hl
  simp [Instr.loadAt, Instr.sureAddr, loadVar, ha, hz, hl]
theorem own_below {H : Type} {P : Program} {k : TypeId} {R : Value → Option (DataW H × List MemPlace)} {w w' : World} {b n B : Nat} {D : DataW H} (h : w.ownsMap P k R b n D) (hb : Below B w w') (hB : b < B) : w'.ownsMap P k R b n D := by
  obtain ⟨es, clock, h1, F, hs, hD⟩ := h
  exact ⟨es, clock, (hb.block b hB).trans h1, F, hs, hD⟩
theorem cell_new (w : World) (c : Array Value) (t : TypeId) (j : Nat) : (w.alloc (.cells c t)).cell? ⟨w.heap.size, j, none⟩ = c[j]? := by
  have h := heap_alloc_new w (.cells c t)
  simp only [World.cell?, h, Option.isSome_none, Bool.false_eq_true, if_false]
theorem law9 : Keyed Try.prog 9 := string_keyed Try.underlying9
theorem zero3 (w : World) : (zeroValue 3).run Try.prog w = .ok (.int .i64 0) w := by kernel_rfl
set_option maxRecDepth 100000 in
set_option maxHeartbeats 1000000 in
theorem places_any (L : List P2) (p : Option Addr) (cap : Nat) (hL : L.length ≤ 1000000) (hs : ∀ x ∈ L, x.1.size ≤ 1000000 ∧ x.2.size ≤ 1000000) (w : World) (hP : PsC w (.slice p L.length cap) L) :
    Calls Try.prog 42 #[.slice p L.length cap] w fun e w' => Below w.heap.size w w' ∧ ((rightP L = false ∧ e = .returned (.tuple #[.map none, .bool false])) ∨ (rightP L = true ∧ ∃ B, w.heap.size ≤ B ∧ e = .returned (.tuple #[.map (some B), .bool true]) ∧ w'.ownsMap Try.prog 9 (plainElem (H := Unit) Try.prog 3) B L.length (mpD L L.length))) := by
  have hmm : ∀ (z : Int) (W : World), (Instr.makeMap 78 (some (.int .i64 z))).run Try.prog W = .ok (.map (some W.heap.size)) (W.alloc (.map #[] 0)) := fun _ _ => by kernel_rfl
  obtain ⟨n, hn⟩ : ∃ n, L.length = n := ⟨_, rfl⟩
  rw [hn] at hL ⊢
  have HN := Lib.hid hn
  by_cases h8 : n ≤ 8
  · have h8' : ¬ (8 : Int) < (n : Int) := by omega
    have HP := Lib.hid hP
    clear hn hP
    go_enter Try.func42, Try.ntmps42
    go_wp2
    go_loopw [17] (fun i wr => ∃ k : Nat, k ≤ n ∧ i = .int .i64 (k : Int) ∧ wr.ownsMap Try.prog 9 (plainElem (H := Unit) Try.prog 3) w.heap.size k (mpD L k) ∧ Below w.heap.size w wr ∧ Hid (OkTo L k)) (fun i _ => n - (intOf i).toNat)
    case atStart => exact ⟨0, Nat.zero_le _, rfl, World.ownsMap_made _ _ _ _, (Below.refl _ _).alloc (Nat.le_refl _) _, Lib.hid (OkTo.zero L)⟩
    case round =>
      obtain ⟨k, hk, rfl, hown, hnx, HO⟩ := hrel
      by_cases hlt : k < n
      · obtain ⟨x, hx⟩ : ∃ x, L[k]? = some x := ⟨_, List.getElem?_eq_getElem (by rw [HN.out]; exact hlt)⟩
        obtain ⟨b, o, rfl, c0, c1⟩ := (HP.out.below hnx).at hx
        have hsx := hs x (List.mem_of_getElem? hx)
        have hb0 : b < wr.heap.size := World.block_lt_of_cell? wr _ c0
        have hbw := hnx.size
        have hkey : keyOf Try.prog 9 (.string x.1) = some (.string x.1.data.toList) := keyOf_string_mk Try.underlying9 (by unfold maxLen; omega)
        have hhas := mpD_has L (kl x) k (by rw [HN.out]; exact hk)
        by_cases htw : kl x ∈ (L.take k).map kl
        · have HZ : Hid (rightP L = false) := Lib.hid (not_right_twice hx htw)
          rw [decide_eq_true htw] at hhas
          unfold kl at hhas
          have hs1 : x.1.size ≤ 1000000 := hsx.1
          clear hx htw hs hsx
          go_wp2_with (at_lookup; refine wpList_lookup_own_ok_int _ rfl _ _ 78 rfl 9 3 .i64 law9 Try.underlying78 Try.underlying3 (zero3 _) w.heap.size k _ rfl (hown.alloc _) _ _ rfl hkey ?_; intro c hat hwc; clear hat hwc)
          go_ret2
          exact ⟨(hnx.alloc hbw _), Or.inl ⟨HZ.out, rfl⟩⟩
        · rw [decide_eq_false htw] at hhas
          unfold kl at hhas
          cases hft : fitP x with
          | false =>
            have HZ : Hid (rightP L = false) := Lib.hid (not_right_fit hx hft)
            have hfit := fits_any x (by omega) (by omega)
            rw [hft] at hfit
            have HF := Lib.hid hfit
            clear hx htw hs hft hfit
            go_wp2_with (first
              | (at_lookup; refine wpList_lookup_own_ok_int _ rfl _ _ 78 rfl 9 3 .i64 law9 Try.underlying78 Try.underlying3 (zero3 _) w.heap.size k _ rfl (hown.alloc _) _ _ rfl hkey ?_; intro c hat hwc; clear hat hwc)
              | (go_at_call 49; refine (HF.out _).mono ?_; rintro e w1 ⟨rfl, hb1⟩; replace hb1 := Lib.hid hb1))
            go_ret2
            exact ⟨(hnx.alloc hbw _).trans (hb1.out.mono (by simp; omega)), Or.inl ⟨HZ.out, rfl⟩⟩
          | true =>
            have HN2 := Lib.hid (HO.out.succ hx hft htw)
            have hfit := fits_any x (by omega) (by omega)
            rw [hft] at hfit
            have HF := Lib.hid hfit
            have HM := Lib.hid (mpD_succ hx)
            clear hx htw hs hft hfit
            go_wp2_with (first
              | (at_lookup; refine wpList_lookup_own_ok_int _ rfl _ _ 78 rfl 9 3 .i64 law9 Try.underlying78 Try.underlying3 (zero3 _) w.heap.size k _ rfl (hown.alloc _) _ _ rfl hkey ?_; intro c hat hwc; clear hat hwc)
              | (go_at_call 49; fail))
            refine (HF.out _).mono ?_
            rintro e w1 ⟨rfl, hb1⟩
            have d0 : w1.cell? ⟨wr.heap.size, 0, none⟩ = some (.string x.1) := by
              rw [hb1.cell (p := ⟨wr.heap.size, 0, none⟩) (by simp)]
              exact cell_new _ _ _ _
            have HOWN := Lib.hid (own_below (hown.alloc (.cells #[.string x.1, .string x.2] 42)) hb1 (by simp; omega))
            replace hb1 := Lib.hid hb1
            go_wp2_with (at_mapUpdate; refine wpList_mapUpdate_own _ rfl _ _ _ 78 rfl 9 3 law9 Try.underlying78 _ w.heap.size k _ rfl HOWN.out (by unfold maxLen; omega) _ _ _ rfl rfl hkey _ [] (plainElem_int Try.underlying3 (WalkArith.wf_i64 (by omega))) ?_; intro w2 hown2 hgrow2)
            have R1 : w2.ownsMap Try.prog 9 (plainElem (H := Unit) Try.prog 3) w.heap.size (k + 1) (mpD L (k + 1)) := by rw [HM.out]; exact hown2
            have R2 : Below w.heap.size w w1 := (hnx.alloc hbw _).trans (hb1.out.mono (by simp; omega))
            have R3 : Below w.heap.size w w2 := R2.grown hgrow2 R2.size (fun j hj => by cases hj; exact Nat.le_refl _)
            clear hown2 hgrow2 hown hnx R2
            go_wp2
            go_roundw
            case rel => exact ⟨k + 1, by omega, by go_num, R1, R3, HN2⟩
            case measure => simp [intOf]; omega
      · obtain rfl : k = n := by omega
        have hle : ¬ (k : Int) < (k : Int) := by omega
        have HR : Hid (rightP L = true) := Lib.hid ((show OkTo L L.length by rw [HN.out]; exact HO.out).all (by rw [HN.out]; exact h8))
        go_wp2
        go_ret2
        exact ⟨hnx, Or.inr ⟨HR.out, _, Nat.le_refl _, rfl, hown⟩⟩
  · have h8' : (8 : Int) < (n : Int) := by omega
    have HZ : Hid (rightP L = false) := Lib.hid (not_right_long (by omega))
    clear hn hP
    go_enter Try.func42, Try.ntmps42
    go_wp2
    go_ret2
    exact ⟨Below.refl _ _, Or.inl ⟨HZ.out, rfl⟩⟩
end Go.Proofs.Ytfihbfkgkljjdaa

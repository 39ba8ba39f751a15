/- The law's Texts and Made: by contract, given what disk.New and journal.Open answer. No condition but the sizes. | Appends to rows of the law's acts. No condition but the sizes. | The document's told, by contract. No condition but that the value is small enough. | The document's told of any value; its Print: by contract. No condition but that the value is small enough. | The document's Print, by contract; how long what is printed is at most. No condition but that the value is small enough. -/
import Derived.Test.YtlogjpmdfimgdaaGreatDoorX13
import Derived.RegionTactic
import Derived.ChangeAlike
import Derived.Deep.AppendSrc
import Derived.Test.YtlogjpmdfimgdaaGreatDoorX05
import Derived.Laws.Concat
import Derived.Test.YtlogjpmdfimgdaaGreatDoorX04
namespace Go.Proofs.YtlogjpmdfimgdaaGreatDoor
open Go Go.RowKit Go.Own Go.Own.Fr Go.Maps Go.WideMaps
theorem strs_ff {a b : ByteArray} (h : a ≠ b) : (a.toList == b.toList) = false := by
  rw [ByteArray.toList_eq, ByteArray.toList_eq]
  exact beq_eq_false_iff_ne.2 fun e => h (ByteArray.ext (Array.toList_inj.1 e))
theorem below_dr {B : Nat} {w w' : World} (h : Below B w w') (k : Nat) : Below B w (w'.drewN k) := ⟨h.os, h.tape, h.output, h.size, h.block⟩
open Classical in
noncomputable def sameL (l m : List ByteArray) : Bool := decide (l = m)
def TextsQ (b : Bool) (w : World) (e : Ending) (w' : World) : Prop := e = .returned (.bool b) ∧ Below w.heap.size w w'
set_option maxRecDepth 100000 in
set_option maxHeartbeats 4000000 in
theorem texts_any (l m : List ByteArray) (v u : Value) (w : World) (hv : StrRow w v l) (hu : StrRow w u m) (hl : l.length ≤ 9223372036854775807) (hm : m.length ≤ 9223372036854775807) : Calls Tryz.prog 12 #[v, u] w (TextsQ (sameL l m) w) := by
  obtain ⟨p, c, rfl, hc, hrow⟩ := hv
  obtain ⟨p2, c2, rfl, hc2, hrow2⟩ := hu
  obtain ⟨bb, hbb⟩ : ∃ bb, sameL l m = bb := ⟨_, rfl⟩
  rw [hbb]
  have HBB : Hid (decide (l = m) = bb) := Lib.hid hbb
  have HR := Lib.hid hrow
  have HR2 := Lib.hid hrow2
  by_cases hlen : l.length = m.length
  case neg =>
    have hb : bb = false := by rw [← HBB.out]; exact decide_eq_false fun e => hlen (by rw [e])
    subst hb
    have hz : ((l.length : Int) != (m.length : Int)) = true := by simp; omega
    generalize l.length = n at *
    generalize m.length = k at *
    clear hlen hbb hrow hrow2
    go_enter Tryz.func12, Tryz.ntmps12
    go_wp2
    go_ret
    exact ⟨rfl, Below.refl _ _⟩
  obtain ⟨n, hn⟩ : ∃ n, l.length = n := ⟨_, rfl⟩
  have hn2 : m.length = n := by omega
  have HN := Lib.hid hn
  have HN2 := Lib.hid hn2
  rw [hn] at hl hc ⊢
  rw [hn2] at hm hc2 ⊢
  clear hlen hbb hrow hrow2 hn hn2
  go_enter Tryz.func12, Tryz.ntmps12
  go_wp2
  go_loopw [5] (fun i wr => ∃ j : Nat, j ≤ n ∧ i = .int .i64 (j : Int) ∧ Hid (Below w.heap.size w wr) ∧ Hid (l.take j = m.take j)) (fun i _ => n - (intOf i).toNat)
  case atStart => exact ⟨0, Nat.zero_le _, rfl, Lib.hid (Below.refl _ _), Lib.hid rfl⟩
  case round =>
    obtain ⟨j, hj, rfl, HB, HT⟩ := hrel
    by_cases hlt : j < n
    · have hlti : (j : Int) < (n : Int) := by omega
      obtain ⟨x, hx⟩ : ∃ x, l[j]? = some x := ⟨l[j]'(by have := HN.out; omega), List.getElem?_eq_getElem _⟩
      obtain ⟨y, hy⟩ : ∃ y, m[j]? = some y := ⟨m[j]'(by have := HN2.out; omega), List.getElem?_eq_getElem _⟩
      obtain ⟨b, o, rfl, hb, d⟩ := HR.out j x hx
      obtain ⟨b2, o2, rfl, hb2, d2⟩ := HR2.out j y hy
      have dd := (HB.out.cell (p := ⟨b, o + j, none⟩) hb).trans d
      have dd2 := (HB.out.cell (p := ⟨b2, o2 + j, none⟩) hb2).trans d2
      by_cases hxy : x = y
      · have hq : (x.toList == y.toList) = true := by rw [hxy]; exact beq_self_eq_true _
        have HS : Hid (l.take (j + 1) = m.take (j + 1)) := Lib.hid (by rw [take_get hx, take_get hy, HT.out, hxy])
        clear hx hy hxy d d2
        go_wp2
        go_quiet (fail)
        have HBD := Lib.hid (below_dr HB.out nq)
        go_wp2
        go_roundw
        case rel => exact ⟨j + 1, by omega, by go_num, HBD, HS⟩
        case measure => simp [intOf]; omega
      · have hq : (x.toList == y.toList) = false := strs_ff hxy
        have hb : bb = false := by
          rw [← HBB.out]
          refine decide_eq_false fun e => hxy ?_
          rw [e] at hx
          exact Option.some.inj (hx.symm.trans hy)
        subst hb
        clear hx hy hxy d d2
        go_wp2
        go_quiet (fail)
        have HBD := Lib.hid (below_dr HB.out nq)
        go_wp2
        go_ret
        exact ⟨rfl, HBD.out⟩
    · obtain rfl : j = n := by omega
      have hb : bb = true := by
        rw [← HBB.out]
        refine decide_eq_true ?_
        have h := HT.out
        rwa [List.take_of_length_le (by rw [HN.out]; exact Nat.le_refl _), List.take_of_length_le (by rw [HN2.out]; exact Nat.le_refl _)] at h
      subst hb
      go_wp2
      go_ret
      exact ⟨rfl, HB.out⟩
section
variable {Sg : Type} {base : Nat} {JS : (Nat → Prop) → World → Addr → Sg → Prop} {good : Sg → Prop} {tx : Sg → List (List Nat)} {apE : Sg → List Nat → Int} {apS : Sg → List Nat → Sg} {anE : Sg → List (List Nat) → Int} {anS : Sg → List (List Nat) → Sg}
/-- A store on a new disk. -/
def MadeQ (base : Nat) (JS : (Nat → Prop) → World → Addr → Sg → Prop) (DS : World → Addr → Prop) (s : Sg) (w : World) (e : Ending) (w' : World) : Prop :=
  ∃ O S sb b n jp dp, e = .returned (.tuple #[.pointer (some dp), .pointer (some ⟨sb, 0, none⟩)]) ∧ n ≤ 765000 ∧ StoreAt base JS O S w' sb jp b n s (fun _ => none) ∧ Below w.heap.size w w' ∧ DS w' dp ∧ ∀ k, Ft O S sb b k → w.heap.size ≤ k
/-- What disk.New answers where journal.Open then makes a journal. -/
def DNewQ (JS : (Nat → Prop) → World → Addr → Sg → Prop) (DS : World → Addr → Prop) (s : Sg) (w : World) (e : Ending) (w' : World) : Prop :=
  ∃ dp Od, e = .returned (.tuple #[.pointer (some dp), .int .i64 0]) ∧ Below w.heap.size w w' ∧ (∀ k, Od k → w.heap.size ≤ k) ∧ Calls Tryz.prog 24 #[.pointer (some dp)] w' (fun e w2 => JOpenQ JS Od s w' e w2 ∧ ∀ w3, Below w2.heap.size w2 w3 → DS w3 dp)
set_option maxRecDepth 100000 in
set_option maxHeartbeats 2000000 in
theorem made_any (HJ : Jour base JS good tx apE apS anE anS) (DS : World → Addr → Prop) (size : Int) (s : Sg) (w : World) (hnew : Calls Tryz.prog 23 #[.int .i64 size] w (DNewQ JS DS s w)) (hgood : good s) (hg : tx s = []) (hbw : base ≤ w.heap.size) :
    Calls Tryz.prog 7 #[.int .i64 size] w (MadeQ base JS DS s w) := by
  have HO := Lib.hid hnew
  clear hnew
  go_enter Tryz.func7, Tryz.ntmps7
  go_wp2_with fail
  refine HO.out.mono ?_
  rintro e w1 ⟨dp, Od, rfl, hb1, hod, hop⟩
  have HB1 := Lib.hid hb1
  have HOD := Lib.hid hod
  have HOP := Lib.hid hop
  clear hb1 hod hop HO
  go_wp2_with fail
  refine HOP.out.mono ?_
  rintro e w2 ⟨⟨O, jp, rfl, j1, j2, j3⟩, hds⟩
  have HS := Lib.hid (open_any HJ O jp s w2 j1 hgood (Nat.le_trans (Nat.le_trans hbw HB1.out.size) j2.size))
  rw [hg] at HS
  have HJ2 := Lib.hid j2
  have HJ3 := Lib.hid j3
  have HDS := Lib.hid hds
  clear HOP j1 j2 j3 hds
  go_wp2_with fail
  refine HS.out.mono ?_
  rintro e w3 ⟨hB, ⟨h, _⟩ | ⟨g', sb, b, n, S, h, rfl, hn, ⟨q1, q2, q3⟩, hst⟩⟩
  · cases h
  · obtain rfl := Option.some.inj h
    have HQ : Hid (MadeQ base JS DS s w (.returned (.tuple #[.pointer (some dp), .pointer (some ⟨sb, 0, none⟩)])) w3) := Lib.hid ⟨O, S, sb, b, n, jp, dp, rfl, hn, hst, (HB1.out.trans (HJ2.out.mono HB1.out.size)).trans (hB.mono (HB1.out.trans (HJ2.out.mono HB1.out.size)).size), HDS.out _ hB, fun k hk => by
      have hz := HJ2.out.size
      have hz1 := HB1.out.size
      rcases hk with h | h | h | h
      · rcases HJ3.out k h with h | h
        · exact HOD.out k h
        · omega
      · have := q3 k h; omega
      · omega
      · omega⟩
    clear hB hst HS hn q1 q2 q3
    go_wp2
    go_ret2
    exact HQ.out
end
end Go.Proofs.YtlogjpmdfimgdaaGreatDoor
namespace Go.Proofs.YtlogjpmdfimgdaaGreatDoor
open Go Go.RowKit Go.Own Go.Own.Fr Go.Maps Go.WideMaps
/-- The slice v holds these cells, five a place. -/
def CellR (w : World) (v : Value) (n : Nat) (cs : List Value) : Prop :=
  ∃ p cap, v = .slice p n cap ∧ n ≤ cap ∧ cs.length = n * 5 ∧ (∀ u ∈ cs, u.oneCell' = true) ∧ ∀ (j : Nat) u, cs[j]? = some u → ∃ b o, p = some ⟨b, o, none⟩ ∧ w.cell? ⟨b, o + j, none⟩ = some u
theorem inCh_one {w : World} {v : Value} {l : List (ByteArray × V × Bool)} (h : InCh w v l) : v.oneCell' = true := by
  obtain ⟨p, cap, rfl, _⟩ := h
  rfl
theorem fifth (j : Nat) : j = j / 5 * 5 + j % 5 := by omega
theorem InAct.cells {w : World} {p : Option Addr} {n cap : Nat} {L : List Ac} (h : InAct w (.slice p n cap) L) : ∃ cs, CellR w (.slice p n cap) n cs ∧ ∀ (j : Nat) (x : Ac), L[j]? = some x → ∃ lv, cs[j * 5]? = some lv ∧ cs[j * 5 + 1]? = some (.bool x.cp) ∧ cs[j * 5 + 2]? = some (.int .i64 x.k1) ∧ cs[j * 5 + 3]? = some (.int .u64 x.k2) ∧ cs[j * 5 + 4]? = some (.int .i64 x.k3) ∧ InCh w lv x.l := by
  obtain ⟨p', cap', e, hcap, hrow⟩ := h
  simp only [Value.slice.injEq] at e
  obtain ⟨rfl, hn, rfl⟩ := e
  cases p with
  | none =>
    have hL : L = [] := by
      cases L with
      | nil => rfl
      | cons x L => obtain ⟨b, o, lv, e, _⟩ := hrow 0 x rfl; cases e
    subst hL
    subst hn
    exact ⟨[], ⟨_, _, rfl, hcap, rfl, fun u hu => by simp at hu, fun j u hu => by simp at hu⟩, fun j x hx => by simp at hx⟩
  | some a =>
    obtain ⟨b, o, q, ha⟩ : ∃ b o q, a = ⟨b, o, q⟩ := ⟨_, _, _, rfl⟩
    have hf : ∀ j, j < n * 5 → ∃ u, w.cell? ⟨b, o + j, none⟩ = some u ∧ u.oneCell' = true ∧ q = none := fun j hj => by
      obtain ⟨x, hx⟩ : ∃ x, L[j / 5]? = some x := ⟨_, List.getElem?_eq_getElem (by omega)⟩
      obtain ⟨b', o', lv, e, hb, d0, d1, d2, d3, d4, d5⟩ := hrow _ x hx
      rw [ha] at e
      simp only [Option.some.injEq, Addr.mk.injEq] at e
      obtain ⟨rfl, rfl, rfl⟩ := e
      have hm : j % 5 = 0 ∨ j % 5 = 1 ∨ j % 5 = 2 ∨ j % 5 = 3 ∨ j % 5 = 4 := by omega
      rcases hm with hm | hm | hm | hm | hm
      · exact ⟨lv, by rw [show o + j = o + j / 5 * 5 by omega]; exact d0, inCh_one d5, rfl⟩
      · exact ⟨_, by rw [show o + j = o + j / 5 * 5 + 1 by omega]; exact d1, rfl, rfl⟩
      · exact ⟨_, by rw [show o + j = o + j / 5 * 5 + 2 by omega]; exact d2, rfl, rfl⟩
      · exact ⟨_, by rw [show o + j = o + j / 5 * 5 + 3 by omega]; exact d3, rfl, rfl⟩
      · exact ⟨_, by rw [show o + j = o + j / 5 * 5 + 4 by omega]; exact d4, rfl, rfl⟩
    obtain ⟨cs, hcs⟩ : ∃ cs, (List.range (n * 5)).map (fun j => (w.cell? ⟨b, o + j, none⟩).getD undef) = cs := ⟨_, rfl⟩
    have hget : ∀ (j : Nat) u, cs[j]? = some u → j < n * 5 ∧ w.cell? ⟨b, o + j, none⟩ = some u ∧ u.oneCell' = true ∧ q = none := fun j u hu => by
      have hlt : j < n * 5 := by
        have := (List.getElem?_eq_some_iff.1 hu).1
        rw [← hcs] at this
        simpa using this
      obtain ⟨y, h1, h2, h3⟩ := hf j hlt
      rw [← hcs] at hu
      simp [hlt, h1] at hu
      subst hu
      exact ⟨hlt, h1, h2, h3⟩
    have hput : ∀ (j : Nat) u, j < n * 5 → w.cell? ⟨b, o + j, none⟩ = some u → cs[j]? = some u := fun j u hj h => by
      rw [← hcs]
      simp [hj, h]
    refine ⟨cs, ⟨_, _, rfl, by omega, by rw [← hcs]; simp, fun u hu => ?_, fun j u hu => ?_⟩, fun j x hx => ?_⟩
    · obtain ⟨j, hj⟩ := List.getElem?_of_mem hu
      exact (hget j u hj).2.2.1
    · obtain ⟨_, h1, _, h3⟩ := hget j u hu
      exact ⟨b, o, by rw [ha, h3], h1⟩
    · have hlt : j < L.length := (List.getElem?_eq_some_iff.1 hx).1
      obtain ⟨b', o', lv, e, hb, d0, d1, d2, d3, d4, d5⟩ := hrow _ x hx
      rw [ha] at e
      simp only [Option.some.injEq, Addr.mk.injEq] at e
      obtain ⟨rfl, rfl, _⟩ := e
      exact ⟨lv, hput _ _ (by omega) d0, hput _ _ (by omega) d1, hput _ _ (by omega) d2, hput _ _ (by omega) d3, hput _ _ (by omega) d4, d5⟩
theorem CellR.src {W : World} {p : Option Addr} {n cap : Nat} {cs : List Value} (h : CellR W (.slice p n cap) n cs) (i : TypeInfo) (hi : i.size = 5) : Src Tryz.prog i.size 22 (.slice p n cap) n cs W := by
  obtain ⟨p', cap', e, hcap, hlen, hone, hc⟩ := h
  simp only [Value.slice.injEq] at e
  obtain ⟨rfl, _, rfl⟩ := e
  cases p with
  | none =>
    have hL : cs = [] := by
      cases cs with
      | nil => rfl
      | cons x L => obtain ⟨b, o, e, _⟩ := hc 0 x rfl; cases e
    subst hL
    have : n = 0 := by simp at hlen; omega
    subst this
    exact Src.ofNil W Tryz.underlying22 cap
  | some a =>
    refine Src.ofSlice W Tryz.underlying22 a n cap cs (by rw [hlen, hi]) (fun j u hu => ?_) hone
    obtain ⟨b, o, e2, h⟩ := hc j u hu
    obtain rfl := Option.some.inj e2
    have hadd : (⟨b, o, none⟩ : Addr).add j = ⟨b, o + j, none⟩ := by unfold Addr.add; split <;> simp_all
    rw [hadd]; exact h
theorem info43 : (Tryz.prog.info? 43).map (fun i => (i.zero, i.size, i.bytes)) = some (some (.agg #[.slice none 0 0, .bool false, .int .i64 0, .int .u64 0, .int .i64 0]), 5, 56) := by kernel_rfl
def OwnR5 (w : World) (B : Nat) (v : Value) (n : Nat) (cs : List Value) : Prop := w.ownsRow B 43 5 v n cs
theorem firstC (W : World) (g k : Nat) : (Builtin.firstCells k 0 (.slice (some ⟨g, 0, none⟩) 0 0)).run Tryz.prog W = .ok (([] : List Value).toArray) W := by
  simp [Builtin.firstCells, loadCells, loadCellsFrom]
/-- Behind a row without room. -/
theorem appC_fresh {W : World} {B g : Nat} (hg : B ≤ g) (hb : W.heap[g]? = some (.cells #[] 43 (0, 0))) {p : Option Addr} {n cap : Nat} {cs : List Value} (hP : CellR W (.slice p n cap) n cs) (hn : n ≤ 2513169434900) (hB : B ≤ W.heap.size) (ty : TypeId) :
    ∃ v' W', (Builtin.append_ #[22, 22] ty #[.slice (some ⟨g, 0, none⟩) 0 0, .slice p n cap]).run Tryz.prog W = .ok v' W' ∧ OwnR5 W' B v' n cs ∧ Below W.heap.size W W' := by
  obtain ⟨i, hi, hz, h2, h32⟩ := info_parts info43
  have hs := hP.src i h2
  have hnl : cs.length = n * 5 := by obtain ⟨_, _, _, _, h, _⟩ := hP; exact h
  by_cases h0 : n = 0
  · subst h0
    have hL : cs = [] := List.eq_nil_of_length_eq_zero (by omega)
    subst hL
    refine ⟨.slice (some ⟨g, 0, none⟩) 0 0, W, ?_, ⟨rfl, Or.inr ⟨g, 0, #[], rfl, hg, hb, Nat.le_refl _, Nat.zero_le _, rfl, rfl⟩⟩, Below.refl _ _⟩
    have := run_append_room_src (P := Tryz.prog) W 22 22 ty 43 i Tryz.underlying22 hi g 0 0 0 (.slice p 0 cap) 0 [] hs (by omega) (fun j hj => by simp at hj) (fun j hj => by simp at hj)
    simpa [World.setCells] using this
  · have hr := run_append_grow_src (P := Tryz.prog) W 22 22 ty 43 i _ Tryz.underlying22 hi hz (some ⟨g, 0, none⟩) 0 0 [] (firstC _ _ _) (.slice p n cap) n cs hs (by omega) (by omega) (growslice_fits (by omega) (by rw [h32]; omega))
    have hge := grownCap_ge W (0 + n) 0 43
    have hle := grownCap_le_maxLen W (0 + n) 0 43 (by unfold maxLen; omega)
    rw [Nat.zero_add] at hr hge hle
    refine ⟨_, _, hr, ⟨by rw [hnl], Or.inr ⟨W.heap.size, grownCap W n 0 43, _, rfl, hB, heap_alloc_new W.drew _, ?_, hle, ?_, ?_⟩⟩, ?_⟩
    · omega
    · simp [size_zeroCells, hnl, Value.cells]; omega
    · simp only [List.nil_append, Array.toList_append]
      rw [← hnl]
      exact List.take_left
    · exact (Below.refl W.heap.size W).drew.alloc (by simp) _
/-- One place more behind a row of the call's own. -/
theorem appC_own {W : World} {B : Nat} {v : Value} {n : Nat} {cs : List Value} (hown : OwnR5 W B v n cs) {a : Addr} {ds : List Value} (hlen : ds.length = 5) (hds : ∀ (j : Nat) u, ds[j]? = some u → W.cell? (a.add j) = some u) (hone : ∀ u ∈ ds, u.oneCell' = true) (hn : n ≤ 2513169434900) (hB : B ≤ W.heap.size) (ty : TypeId) :
    ∃ v' W', (Builtin.append_ #[22, 22] ty #[v, .slice (some a) 1 1]).run Tryz.prog W = .ok v' W' ∧ OwnR5 W' B v' (n + 1) (cs ++ ds) ∧ W.grownBy W' v.ownBlock := by
  obtain ⟨i, hi, hz, h2, h32⟩ := info_parts info43
  obtain ⟨v', W', hr, hown', hg, _⟩ := run_append_own (P := Tryz.prog) W B 22 ty 43 i _ 5 56 Tryz.underlying22 hi hz h2 h32 rfl (by decide) v n cs hown a 1 1 ds (by rw [hlen]) hds hone (by unfold maxLen; omega) (by omega) hB
  exact ⟨v', W', hr, hown', hg⟩
theorem OwnR5.parts {w : World} {B : Nat} {v : Value} {n : Nat} {cs : List Value} (h : OwnR5 w B v (n + 1) cs) : ∃ g cap, v = .slice (some ⟨g, 0, none⟩) (n + 1) cap ∧ n + 1 ≤ cap ∧ g < w.heap.size ∧ ∀ (j : Nat) u, cs[j]? = some u → w.cell? ⟨g, j, none⟩ = some u := by
  have hc := fun g (e : v.ownBlock = some g) => h.cells (g := g) e
  rcases h.2 with ⟨_, h0⟩ | ⟨g, cap, cur, rfl, hb, hg, h1, h2, h3, h4⟩
  · cases h0
  · refine ⟨g, cap, rfl, h1, (Array.getElem?_eq_some_iff.1 hg).1, fun j u hu => ?_⟩
    have := hc g rfl j u hu
    have hadd : (⟨g, 0, none⟩ : Addr).add j = ⟨g, 0 + j, none⟩ := by unfold Addr.add; split <;> simp_all
    rwa [hadd, Nat.zero_add] at this
/-- The script with one act more, in a row of the call's own. -/
theorem OwnR5.acts {w w' : World} {B n : Nat} {v lv : Value} {L : List Ac} {cs : List Value} {l : List (ByteArray × V × Bool)} (h : OwnR5 w' B v (n + 1) (cs ++ [lv, .bool false, .int .i64 0, .int .u64 0, .int .i64 0])) (hn : L.length = n) (hlen : cs.length = n * 5)
    (hrow : ∀ (j : Nat) (x : Ac), L[j]? = some x → ∃ lv, cs[j * 5]? = some lv ∧ cs[j * 5 + 1]? = some (.bool x.cp) ∧ cs[j * 5 + 2]? = some (.int .i64 x.k1) ∧ cs[j * 5 + 3]? = some (.int .u64 x.k2) ∧ cs[j * 5 + 4]? = some (.int .i64 x.k3) ∧ InCh w lv x.l) (hl : InCh w lv l) (hC : ∀ u y, InCh w u y → InCh w' u y) :
    InAct w' v (L ++ [⟨l, false, 0, 0, 0⟩]) := by
  obtain ⟨g, cap, rfl, hcap, hg, hc⟩ := h.parts
  refine ⟨_, cap, by rw [List.length_append, hn]; rfl, by rw [List.length_append, hn]; exact hcap, fun j x hx => ?_⟩
  by_cases hj : j < n
  · rw [List.getElem?_append_left (by omega)] at hx
    obtain ⟨lv', e0, e1, e2, e3, e4, e5⟩ := hrow j x hx
    have get : ∀ {k : Nat} {u : Value}, cs[k]? = some u → w'.cell? ⟨g, k, none⟩ = some u := fun {k u} hk => hc k u (by rw [List.getElem?_append_left (List.getElem?_eq_some_iff.1 hk).1]; exact hk)
    refine ⟨g, 0, lv', rfl, hg, ?_, ?_, ?_, ?_, ?_, hC _ _ e5⟩ <;> rw [Nat.zero_add]
    · exact get e0
    · exact get e1
    · exact get e2
    · exact get e3
    · exact get e4
  · have hjn : j = n := by
      have := (List.getElem?_eq_some_iff.1 hx).1
      rw [List.length_append, hn] at this
      simp at this
      omega
    subst hjn
    rw [List.getElem?_append_right (by omega), hn, Nat.sub_self] at hx
    simp at hx
    subst hx
    have get : ∀ (k : Nat) (u : Value), [lv, .bool false, .int .i64 0, .int .u64 0, .int .i64 0][k]? = some u → w'.cell? ⟨g, j * 5 + k, none⟩ = some u := fun k u hk => hc _ u (by rw [List.getElem?_append_right (by omega), hlen, Nat.add_sub_cancel_left]; exact hk)
    refine ⟨g, 0, lv, rfl, hg, ?_, ?_, ?_, ?_, ?_, hC _ _ hl⟩ <;> rw [Nat.zero_add]
    · exact get 0 _ rfl
    · exact get 1 _ rfl
    · exact get 2 _ rfl
    · exact get 3 _ rfl
    · exact get 4 _ rfl
end Go.Proofs.YtlogjpmdfimgdaaGreatDoor
namespace Go.Proofs.YtlogjpmdfimgdaaGreatDoor
open Go.RowKit Go.Own
attribute [-go_sem] run_string_add_if
theorem bytes_own (W : World) (B : Nat) (cs : List Nat) (hB : B ≤ W.heap.size) (hl : cs.length ≤ 1000) : OwnB (W.alloc (.cells (nb cs).toArray 5)) B (.slice (some ⟨W.heap.size, 0, none⟩) cs.length cs.length) cs :=
  ⟨by simp [nb], Or.inr ⟨W.heap.size, cs.length, (nb cs).toArray, rfl, hB, heap_alloc_new W _, by simp, by unfold maxLen; omega, by simp [nb], List.take_of_length_le (by simp [nb])⟩⟩
theorem conv_one (W : World) (H : Nat) (x : Int) (c : Nat) (hx : x = (c : Int)) (hH : W.heap.size = H) :
    (convert 140 9 (.slice (some ⟨H, 0, none⟩) 1 1)).run Tryz.prog (W.alloc (.cells #[.int .u8 x] 5)) = .ok (.string (mkS [c])) (W.alloc (.cells #[.int .u8 x] 5)) := by
  subst hx hH
  exact OwnB.str (bytes_own W 0 [c] (Nat.zero_le _) (by simp))
theorem conv_two (W : World) (H : Nat) (x y : Int) (c d : Nat) (hx : x = (c : Int)) (hy : y = (d : Int)) (hH : W.heap.size = H) :
    (convert 140 9 (.slice (some ⟨H, 0, none⟩) 2 2)).run Tryz.prog (W.alloc (.cells #[.int .u8 x, .int .u8 y] 5)) = .ok (.string (mkS [c, d])) (W.alloc (.cells #[.int .u8 x, .int .u8 y] 5)) := by
  subst hx hy hH
  exact OwnB.str (bytes_own W 0 [c, d] (Nat.zero_le _) (by simp))
theorem add_run (a b : ByteArray) (l : List Nat) (h : a ++ b = mkS l) (hs : a.size + b.size ≤ 9223372036854775807) (W : World) : (Op.stringOp .add a b).run Tryz.prog W = .ok (.string (mkS l)) W := by
  rw [← h]; exact run_string_add_sum W a b hs
theorem cat_l (c : Nat) (l : List Nat) : mkS [c] ++ mkS l = mkS (c :: l) := by rw [← mkS_append]; rfl
theorem cat_s (l : List Nat) (s : ByteArray) : mkS l ++ s = mkS (l ++ bys s) := by rw [mkS_append, mkS_bys]
/-- What the document's told answers. -/
def ToldQ (a : A) (d : Nat) (w : World) (e : Ending) (w' : World) : Prop :=
  e = .returned (.tuple #[.string (if er a d = 0 then mkS (pr a) else { data := #[] }), .int .i64 (er a d)]) ∧ Below w.heap.size w w'
def ToldB (x : V) : Prop := ∀ (d : Nat) (v : Value) (w : World), d ≤ 8 → fewV x d = true → Holds w v x → Calls Tryz.prog 102 #[v, .int .i64 (d : Int)] w (ToldQ (ofV x) d w)
set_option maxRecDepth 100000 in
set_option maxHeartbeats 1000000 in
theorem told_text (n : Int) (s : ByteArray) (b : Bool) (l : List V) (d : Nat) (v : Value) (w : World) (hs : s.size ≤ 70000) (hv : Holds w v (.mk 2 n s b l)) :
    Calls Tryz.prog 102 #[v, .int .i64 (d : Int)] w (ToldQ (.str s) d w) := by
  obtain ⟨p, cap, hp⟩ := VAt.parts hv
  obtain ⟨rfl, _, _, _, _, _, _⟩ := hp
  by_cases h : 65535 < s.size
  · have HE : Hid (er (.str s) d = 3) := Lib.hid (by rw [er, if_pos h])
    have d1 : decide ((65535 : Int) < (s.size : Int)) = true := by simp; omega
    clear hv
    go_enter Tryz.func102, Tryz.ntmps102
    go_wp2
    go_ret2
    exact ⟨by rw [HE.out]; rfl, (Below.refl _ w).alloc (Nat.le_refl _) _⟩
  · have HE : Hid (er (.str s) d = 0) := Lib.hid (by rw [er, if_neg h])
    have d1 : decide ((65535 : Int) < (s.size : Int)) = false := by simp; omega
    clear hv
    have hcv := conv_two (w.alloc (.cells #[.int .i64 2, .int .i64 n, .string s, .bool b, .slice p l.length cap] 59)) (w.heap.size + 1) ((s.size : Int) / 256) ((s.size : Int) % 256) (s.size / 256) (s.size % 256) (by omega) (by omega) (by simp)
    have e2 : [s.size / 256, s.size % 256] = be 2 s.size := by simp [be]; omega
    rw [e2] at hcv
    have ha1 := add_run { data := #[115] } (mkS (be 2 s.size)) (115 :: be 2 s.size) (cat_l 115 _) (by rw [mkS_size, be_length]; simp [ByteArray.size])
    have ha2 := add_run (mkS (115 :: be 2 s.size)) s (115 :: be 2 s.size ++ bys s) (cat_s _ _) (by rw [mkS_size, List.length_cons, be_length]; omega)
    clear e2
    go_enter Tryz.func102, Tryz.ntmps102
    go_wp2
    go_ret2
    exact ⟨by rw [HE.out]; rfl, ((Below.refl _ w).alloc (Nat.le_refl _) _).alloc (by simp) _⟩
theorem low_byte (n : Int) (j : Nat) (hj : j < 8) : n / 256 ^ j % 256 = ((u64 n / 256 ^ j % 256 : Nat) : Int) := by
  obtain ⟨r, hr⟩ : ∃ r : Nat, (r : Int) = n % (two64 : Int) := ⟨(n % (two64 : Int)).toNat, Int.toNat_of_nonneg (Int.emod_nonneg _ (by unfold two64; omega))⟩
  have hu : u64 n = r := by unfold u64; omega
  have hn : n = (r : Int) + 256 ^ j * (256 * (256 ^ (7 - j) * (n / (two64 : Int)))) := by
    have h1 := Int.emod_add_mul_ediv n (two64 : Int)
    have h2 : (two64 : Int) = 256 ^ j * (256 * 256 ^ (7 - j)) := by
      rw [← Int.pow_succ', ← Int.pow_add, show j + (7 - j + 1) = 8 by omega]
      rfl
    rw [← hr] at h1
    rw [← Int.mul_assoc 256, ← Int.mul_assoc (256 ^ j), ← h2]
    exact h1.symm
  rw [hu, hn, Int.add_mul_ediv_left _ _ (by exact Int.ne_of_gt (Int.pow_pos (by omega)))]
  have h3 : (r : Int) / 256 ^ j = ((r / 256 ^ j : Nat) : Int) := by simp
  rw [h3]
  omega
set_option maxRecDepth 100000 in
set_option maxHeartbeats 1000000 in
theorem told_num (n : Int) (s : ByteArray) (b : Bool) (l : List V) (d : Nat) (v : Value) (w : World) (hv : Holds w v (.mk 1 n s b l)) :
    Calls Tryz.prog 102 #[v, .int .i64 (d : Int)] w (ToldQ (.num n) d w) := by
  obtain ⟨p, cap, hp⟩ := VAt.parts hv
  obtain ⟨rfl, _, _, _, _, _, _⟩ := hp
  have HE : Hid (er (.num n) d = 0) := Lib.hid rfl
  clear hv
  go_enter Tryz.func102, Tryz.ntmps102
  go_wp2
  have HW0 : Hid (Below w.heap.size w (w.alloc (.cells #[.int .i64 1, .int .i64 n, .string s, .bool b, .slice p l.length cap] 59))) := Lib.hid ((Below.refl _ w).alloc (Nat.le_refl _) _)
  generalize w.alloc (.cells #[.int .i64 1, .int .i64 n, .string s, .bool b, .slice p l.length cap] 59) = W0 at *
  go_loopw [6, 7, 8] (fun t x i wr => ∃ (j : Nat) (z : Int) (q : ByteArray), j ≤ 8 ∧ i = .int .i64 (j : Int) ∧ x = .int .i64 z ∧ t = .string q ∧ Hid (z = n / 256 ^ j) ∧ Hid (q = mkS (be j (u64 n))) ∧ Hid (Below w.heap.size w wr)) (fun _ _ i _ => 8 - (intOf i).toNat)
  case atStart => exact ⟨0, n, _, by omega, rfl, rfl, rfl, Lib.hid (by simp), Lib.hid rfl, HW0⟩
  case round =>
    obtain ⟨j, z, q, hj, rfl, rfl, rfl, HZ, HQ, HB⟩ := hrel
    by_cases hlt : j < 8
    · have hji : (j : Int) < 8 := by omega
      have hcv := conv_one wr wr.heap.size (z % 256) (u64 n / 256 ^ j % 256) (by rw [HZ.out]; exact low_byte n j hlt) rfl
      have ha := add_run (mkS [u64 n / 256 ^ j % 256]) q (u64 n / 256 ^ j % 256 :: be j (u64 n)) (by rw [HQ.out]; exact cat_l _ _) (by rw [HQ.out, mkS_size, mkS_size, be_length]; simp; omega)
      have HZ2 : Hid (z / 256 = n / 256 ^ (j + 1)) := Lib.hid (by
        rw [HZ.out, Int.ediv_ediv_of_nonneg (Int.pow_nonneg (by omega)), Int.pow_succ])
      have HQ2 : Hid (mkS (u64 n / 256 ^ j % 256 :: be j (u64 n)) = mkS (be (j + 1) (u64 n))) := Lib.hid rfl
      obtain ⟨q2, hq2⟩ : ∃ q2, mkS (u64 n / 256 ^ j % 256 :: be j (u64 n)) = q2 := ⟨_, rfl⟩
      obtain ⟨q1, hq1⟩ : ∃ q1, mkS [u64 n / 256 ^ j % 256] = q1 := ⟨_, rfl⟩
      rw [hq2] at ha HQ2
      rw [hq1] at ha hcv
      clear hq1 hq2
      have HB2 : Hid (Below w.heap.size w (wr.alloc (.cells #[.int .u8 (z % 256)] 5))) := Lib.hid (HB.out.alloc HB.out.size _)
      go_wp2
      go_roundw
      case rel => exact ⟨j + 1, _, q2, by omega, by go_num, rfl, rfl, HZ2, HQ2, HB2⟩
      case measure => simp [intOf]; omega
    · obtain rfl : j = 8 := by omega
      have HT : Hid (mkS (105 :: be 8 (u64 n)) = if er (.num n) d = 0 then mkS (pr (.num n)) else { data := #[] }) := Lib.hid (by rw [HE.out]; rfl)
      have ha := add_run { data := #[105] } q (105 :: be 8 (u64 n)) (by rw [HQ.out]; exact cat_l _ _) (by rw [HQ.out, mkS_size, be_length]; simp [ByteArray.size])
      obtain ⟨q2, hq2⟩ : ∃ q2, mkS (105 :: be 8 (u64 n)) = q2 := ⟨_, rfl⟩
      rw [hq2] at ha HT
      clear hq2
      go_wp2
      go_ret2
      exact ⟨by rw [← HT.out, HE.out]; rfl, HB.out⟩
end Go.Proofs.YtlogjpmdfimgdaaGreatDoor
namespace Go.Proofs.YtlogjpmdfimgdaaGreatDoor
open Go.RowKit Go.Own
attribute [-go_sem] run_string_add_if
set_option maxRecDepth 100000 in
set_option maxHeartbeats 1000000 in
theorem told_bool (n : Int) (s : ByteArray) (b : Bool) (l : List V) (d : Nat) (v : Value) (w : World) (hv : Holds w v (.mk 3 n s b l)) :
    Calls Tryz.prog 102 #[v, .int .i64 (d : Int)] w (ToldQ (.bool b) d w) := by
  obtain ⟨p, cap, hp⟩ := VAt.parts hv
  obtain ⟨rfl, _, _, _, _, _, _⟩ := hp
  have HE : Hid (er (.bool b) d = 0) := Lib.hid rfl
  clear hv
  cases b
  · go_enter Tryz.func102, Tryz.ntmps102
    go_wp2
    go_ret2
    exact ⟨by rw [HE.out]; rfl, (Below.refl _ w).alloc (Nat.le_refl _) _⟩
  · go_enter Tryz.func102, Tryz.ntmps102
    go_wp2
    go_ret2
    exact ⟨by rw [HE.out]; rfl, (Below.refl _ w).alloc (Nat.le_refl _) _⟩
set_option maxRecDepth 100000 in
set_option maxHeartbeats 1000000 in
theorem told_none (k n : Int) (s : ByteArray) (b : Bool) (l : List V) (d : Nat) (v : Value) (w : World) (hk : k ≠ 1 ∧ k ≠ 2 ∧ k ≠ 3 ∧ k ≠ 4) (hv : Holds w v (.mk k n s b l)) :
    Calls Tryz.prog 102 #[v, .int .i64 (d : Int)] w (ToldQ .none d w) := by
  obtain ⟨p, cap, hp⟩ := VAt.parts hv
  obtain ⟨rfl, _, _, _, _, _, _⟩ := hp
  have HE : Hid (er .none d = 9) := Lib.hid rfl
  obtain ⟨k1, k2, k3, k4⟩ := hk
  have e1 : (k == 1) = false := by simp [k1]
  have e2 : (k == 2) = false := by simp [k2]
  have e3 : (k == 3) = false := by simp [k3]
  have e4 : (k == 4) = false := by simp [k4]
  clear hv k1 k2 k3 k4
  go_enter Tryz.func102, Tryz.ntmps102
  go_wp2
  go_ret2
  exact ⟨by rw [HE.out]; rfl, (Below.refl _ w).alloc (Nat.le_refl _) _⟩
set_option maxRecDepth 100000 in
set_option maxHeartbeats 1000000 in
theorem told_list (n : Int) (s : ByteArray) (b : Bool) (l : List V) (ih : ∀ x ∈ l, ToldB x) (d : Nat) (v : Value) (w : World) (hd : d ≤ 8) (hf : fewV (.mk 4 n s b l) d = true) (hv : Holds w v (.mk 4 n s b l)) (hz : sz (.list (l.map ofV)) d ≤ 140737488355328) :
    Calls Tryz.prog 102 #[v, .int .i64 (d : Int)] w (ToldQ (.list (l.map ofV)) d w) := by
  obtain ⟨p, cap, hp⟩ := VAt.parts hv
  obtain ⟨rfl, _, _, _, hle, hcap, hsub⟩ := hp
  obtain ⟨_, hf2, hf3⟩ := fewV_parts hf
  obtain ⟨m, hm⟩ : ∃ m, l.length = m := ⟨_, rfl⟩
  rw [hm] at hle hf2 ⊢
  have hml : (l.map ofV).length = m := by rw [List.length_map, hm]
  have hcs : (255 < m) ∨ (m ≤ 255 ∧ 8 ≤ d) ∨ (m ≤ 255 ∧ d < 8) := by omega
  rcases hcs with h | ⟨h, h2⟩ | ⟨h, h2⟩
  · have HE : Hid (er (.list (l.map ofV)) d = 3) := Lib.hid (by rw [er, if_pos (by omega)])
    have d1 : decide ((255 : Int) < (m : Int)) = true := by simp; omega
    clear hv hsub ih hm hf hf3 hml hz
    go_enter Tryz.func102, Tryz.ntmps102
    go_wp2
    go_ret2
    exact ⟨by rw [HE.out]; rfl, (Below.refl _ w).alloc (Nat.le_refl _) _⟩
  · have HE : Hid (er (.list (l.map ofV)) d = 3) := Lib.hid (by rw [er, if_pos (by omega)])
    have d1 : decide ((255 : Int) < (m : Int)) = false := by simp; omega
    have d2 : decide ((8 : Int) ≤ (d : Int)) = true := by simp; omega
    clear hv hsub ih hm hf hf3 hml hz
    go_enter Tryz.func102, Tryz.ntmps102
    go_wp2
    go_ret2
    exact ⟨by rw [HE.out]; rfl, (Below.refl _ w).alloc (Nat.le_refl _) _⟩
  · have hc : ¬ (255 < (l.map ofV).length ∨ 8 ≤ d) := by omega
    have HE : Hid (er (.list (l.map ofV)) d = ers (l.map ofV) (d + 1)) := Lib.hid (by rw [er, if_neg hc])
    rw [sz, if_neg hc] at hz
    have d1 : decide ((255 : Int) < (m : Int)) = false := by simp; omega
    have d2 : decide ((8 : Int) ≤ (d : Int)) = false := by simp; omega
    have HM := Lib.hid hm
    have HML := Lib.hid hml
    have HSUB := Lib.hid hsub
    have HI := Lib.hid ih
    have HF3 := Lib.hid hf3
    have hcv := conv_one (w.alloc (.cells #[.int .i64 4, .int .i64 n, .string s, .bool b, .slice p m cap] 59)) (w.heap.size + 1) (m : Int) m rfl (by simp)
    have ha := add_run { data := #[108] } (mkS [m]) [108, m] (cat_l _ _) (by rw [mkS_size]; simp [ByteArray.size])
    have HW0 : Hid (Below w.heap.size w ((w.alloc (.cells #[.int .i64 4, .int .i64 n, .string s, .bool b, .slice p m cap] 59)).alloc (.cells #[.int .u8 (m : Int)] 5))) := Lib.hid (((Below.refl _ w).alloc (Nat.le_refl _) _).alloc (by simp) _)
    have HC4 : Hid (((w.alloc (.cells #[.int .i64 4, .int .i64 n, .string s, .bool b, .slice p m cap] 59)).alloc (.cells #[.int .u8 (m : Int)] 5)).cell? ⟨w.heap.size, 4, none⟩ = some (.slice p m cap)) := Lib.hid (by
      rw [Below.cell (B := w.heap.size + 1) ((Below.refl _ _).alloc (by simp) _) (p := ⟨w.heap.size, 4, none⟩) (by simp)]
      exact cell_new _ _ _ _)
    have HZ0 : Hid (((w.alloc (.cells #[.int .i64 4, .int .i64 n, .string s, .bool b, .slice p m cap] 59)).alloc (.cells #[.int .u8 (m : Int)] 5)).heap.size = w.heap.size + 2) := Lib.hid (by simp)
    have HSM : Hid (mkS [108, m] = mkS (108 :: (be 1 m ++ prs ((l.map ofV).take 0)))) := Lib.hid (by simp [be, prs]; rw [Nat.mod_eq_of_lt (by omega)])
    clear hv hsub ih hm hf hf3 hml hc
    go_enter Tryz.func102, Tryz.ntmps102
    go_wp2
    generalize (w.alloc (.cells #[.int .i64 4, .int .i64 n, .string s, .bool b, .slice p m cap] 59)).alloc (.cells #[.int .u8 (m : Int)] 5) = W0 at *
    clear hcv ha
    go_loopw [9, 10] (fun t i wr => ∃ (j : Nat) (q : ByteArray), j ≤ m ∧ i = .int .i64 (j : Int) ∧ t = .string q ∧ Hid (q = mkS (108 :: (be 1 m ++ prs ((l.map ofV).take j)))) ∧ Hid (ers ((l.map ofV).take j) (d + 1) = 0) ∧ Hid (Below (w.heap.size + 1) W0 wr)) (fun _ i _ => m - (intOf i).toNat)
    case atStart => exact ⟨0, _, Nat.zero_le _, rfl, rfl, HSM, Lib.hid (by simp [ers]), Lib.hid (Below.refl _ _)⟩
    case round =>
      obtain ⟨j, q, hj, rfl, rfl, HQ, HEJ, HB⟩ := hrel
      have c4 : wr.cell? ⟨w.heap.size, 4, none⟩ = some (.slice p m cap) := by rw [HB.out.cell (p := ⟨w.heap.size, 4, none⟩) (by simp)]; exact HC4.out
      have HBW : Hid (Below w.heap.size w wr) := Lib.hid (HW0.out.trans (HB.out.mono (by omega)))
      have hzr : w.heap.size + 1 ≤ wr.heap.size := by have := HB.out.size; rw [HZ0.out] at this; omega
      by_cases hlt : j < m
      · obtain ⟨x, hx⟩ : ∃ x, l[j]? = some x := ⟨_, List.getElem?_eq_getElem (by rw [HM.out]; exact hlt)⟩
        obtain ⟨g, o, t0, t1, t2, t3, t4, rfl, _, hg, hvx, e0, e1, e2, e3, e4⟩ := HSUB.out j x hx
        have hk : ∀ i, wr.cell? ⟨g, i, none⟩ = w.cell? ⟨g, i, none⟩ := fun i => HBW.out.cell (p := ⟨g, i, none⟩) hg
        rw [← hk] at e0 e1 e2 e3 e4
        have hmx : (l.map ofV)[j]? = some (ofV x) := by simp [hx]
        have HC := Lib.hid (HI.out x (List.mem_of_getElem? hx) (d + 1) _ wr (by omega) (HF3.out x (List.mem_of_getElem? hx)) (Holds.below hvx.holds HBW.out))
        have e1' : (((d + 1 : Nat)) : Int) = (d : Int) + 1 := by omega
        rw [e1'] at HC
        have HPS := Lib.hid (prs_snoc hmx)
        have hle2 := szs_le hmx (d + 1)
        have hlen := prs_len HEJ.out
        by_cases hex : er (ofV x) (d + 1) = 0
        · have HES := Lib.hid (ers_snoc hmx HEJ.out hex)
          have hpl := pr_sz _ _ hex
          have ha := add_run q (mkS (pr (ofV x))) (108 :: (be 1 m ++ prs ((l.map ofV).take j)) ++ pr (ofV x)) (by rw [HQ.out, mkS_append]) (by
            rw [HQ.out, mkS_size, mkS_size, List.length_cons, List.length_append, be_length]; omega)
          have HQ2 : Hid (mkS (108 :: (be 1 m ++ prs ((l.map ofV).take j)) ++ pr (ofV x)) = mkS (108 :: (be 1 m ++ prs ((l.map ofV).take (j + 1))))) := Lib.hid (by rw [HPS.out]; simp)
          unfold ToldQ at HC
          rw [hex, if_pos rfl] at HC
          obtain ⟨q2, hq2⟩ : ∃ q2, mkS (108 :: (be 1 m ++ prs ((l.map ofV).take j)) ++ pr (ofV x)) = q2 := ⟨_, rfl⟩
          obtain ⟨q1, hq1⟩ : ∃ q1, mkS (pr (ofV x)) = q1 := ⟨_, rfl⟩
          rw [hq2] at ha HQ2
          rw [hq1] at ha HC
          clear hx hmx hk hvx hle2 hlen e1' hex hpl hq1 hq2
          go_wp2_with (go_at_call 102; fail)
          refine HC.out.mono ?_
          rintro e w3 ⟨rfl, hb3⟩
          have HB3 : Hid (Below (w.heap.size + 1) W0 w3) := Lib.hid (HB.out.trans (hb3.mono hzr))
          clear hb3
          go_wp2
          go_roundw
          case rel => exact ⟨j + 1, q2, by omega, by go_num, rfl, HQ2, HES, HB3⟩
          case measure => simp [intOf]; omega
        · have HST := Lib.hid (ers_stop hmx HEJ.out hex)
          unfold ToldQ at HC
          rw [if_neg hex] at HC
          obtain ⟨z, hz'⟩ : ∃ z, er (ofV x) (d + 1) = z := ⟨_, rfl⟩
          rw [hz'] at HC HST hex
          have hzb : (z == 0) = false := by simpa using hex
          have hzb2 : (z != 0) = true := by simpa using hex
          have HZ := Lib.hid hex
          clear hx hmx hk hvx hle2 hlen e1' hex hz'
          go_wp2_with (go_at_call 102; fail)
          refine HC.out.mono ?_
          rintro e w3 ⟨rfl, hb3⟩
          have HB3 : Hid (Below w.heap.size w w3) := Lib.hid (HBW.out.trans (hb3.mono (by omega)))
          clear hb3
          go_wp2
          go_ret2
          exact ⟨by rw [HE.out, HST.out, if_neg HZ.out]; rfl, HB3.out⟩
      · obtain rfl : j = m := by omega
        have hfull : (l.map ofV).take j = l.map ofV := List.take_of_length_le (by rw [HML.out]; exact Nat.le_refl _)
        have HE0 : Hid (er (.list (l.map ofV)) d = 0) := Lib.hid (by have h := HEJ.out; rw [hfull] at h; rw [HE.out, h])
        have HT : Hid (q = mkS (pr (.list (l.map ofV)))) := Lib.hid (by rw [HQ.out, hfull, pr, HML.out])
        clear hfull
        go_wp2
        go_ret2
        exact ⟨by rw [HE0.out, if_pos rfl, ← HT.out]; rfl, HBW.out⟩
end Go.Proofs.YtlogjpmdfimgdaaGreatDoor
namespace Go.Own
theorem bnd_top : ∀ (d f : Nat), f + d = 8 → bnd f d ≤ bnd 8 0
  | 0, f, h => by obtain rfl : f = 8 := by omega
                  exact Nat.le_refl _
  | d + 1, f, h => Nat.le_trans (bnd_mono f d) (bnd_top d (f + 1) (by omega))
theorem sz_top (v : V) (d : Nat) (hd : d ≤ 8) (hv : fewV v d = true) : sz (ofV v) d ≤ 100000000000000 :=
  Nat.le_trans (sz_bnd v (8 - d) d (by omega) hv) (Nat.le_trans (bnd_top d (8 - d) (by omega)) bnd_le)
end Go.Own
namespace Go.Proofs.YtlogjpmdfimgdaaGreatDoor
open Go.RowKit Go.Own
theorem told_any (x : V) : ToldB x := by
  induction x using V.ind with
  | h k n s b l ih =>
    intro d v w hd hf hv
    have hz := sz_top _ d hd hf
    rcases kinds k with rfl | rfl | rfl | rfl | hk
    · rw [show ofV (.mk 1 n s b l) = .num n by simp [ofV]]
      exact told_num n s b l d v w hv
    · rw [show ofV (.mk 2 n s b l) = .str s by simp [ofV]]
      exact told_text n s b l d v w (fewV_parts hf).1 hv
    · rw [show ofV (.mk 3 n s b l) = .bool b by simp [ofV]]
      exact told_bool n s b l d v w hv
    · rw [show ofV (.mk 4 n s b l) = .list (l.map ofV) by simp [ofV, ofVs_map]] at hz ⊢
      exact told_list n s b l ih d v w hd hf hv (by omega)
    · rw [show ofV (.mk k n s b l) = .none by simp [ofV, hk]]
      exact told_none k n s b l d v w hk hv
theorem VAt.five {w : World} {S : Nat → Prop} {v : Value} {x : V} (h : VAt w S v x) : ∃ c0 c1 c2 c3 c4, v = .agg #[c0, c1, c2, c3, c4] := by
  cases h <;> exact ⟨_, _, _, _, _, rfl⟩
set_option maxRecDepth 100000 in
set_option maxHeartbeats 1000000 in
theorem rprint_any (x : V) (v : Value) (w : World) (hf : fewV x 0 = true) (hv : Holds w v x) : Calls Tryz.prog 72 #[v] w (PrintQ (ofV x) w) := by
  obtain ⟨c0, c1, c2, c3, c4, rfl⟩ := VAt.five hv
  have HC := Lib.hid (told_any x 0 (.agg #[c0, c1, c2, c3, c4]) (w.alloc (.cells #[c0, c1, c2, c3, c4] 59)) (by omega) hf (hv.below ((Below.refl _ w).alloc (Nat.le_refl _) _)))
  have HP : Hid ((if er (ofV x) 0 = 0 then mkS (pr (ofV x)) else { data := #[] }) = prt (ofV x)) := Lib.hid rfl
  unfold ToldQ at HC
  rw [HP.out] at HC
  unfold PrintQ
  obtain ⟨z, hz⟩ : ∃ z, er (ofV x) 0 = z := ⟨_, rfl⟩
  obtain ⟨t, ht⟩ : ∃ t, prt (ofV x) = t := ⟨_, rfl⟩
  rw [hz, ht] at HC ⊢
  clear hf hv hz ht HP
  go_enter Tryz.func72, Tryz.ntmps72
  go_wp2_with (go_at_call 102; fail)
  refine HC.out.mono ?_
  rintro e w3 ⟨rfl, hb3⟩
  have HB3 : Hid (Below w.heap.size w w3) := Lib.hid (((Below.refl _ w).alloc (Nat.le_refl _) _).trans (hb3.mono (by simp)))
  clear hb3
  go_wp2
  go_ret2
  exact ⟨rfl, HB3.out⟩
end Go.Proofs.YtlogjpmdfimgdaaGreatDoor

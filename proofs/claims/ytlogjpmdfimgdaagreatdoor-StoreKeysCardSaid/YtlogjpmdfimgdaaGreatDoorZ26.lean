/- Between two texts of a journal that is made anew: what lies in memory; one text more. No condition. | slices.Reverse over a row of rows, in place: by contract. No condition but the size. -/
import Derived.Test.YtlogjpmdfimgdaaGreatDoorZ24
import Derived.Test.YtlogjpmdfimgdaaGreatDoorZ23
namespace Go.Proofs.YtlogjpmdfimgdaaGreatDoor.Jf
open Go Go.RowKit Go.Own.Jf
structure AnI (w : World) (L3 : List Obj) (b5 i : Nat) (h0 : Hf) (bs : List ByteArray) (k : Nat) (L : List Obj) (v7 vt : Value) (H : Hf) (lss : List (List Stp)) (R : List Value) (css : List (List Value)) : Prop where
  lays : h0.lays ((bs.take k).map bys) = some (H, lss)
  box : L[b5]? = some (.cells (hcl (.pointer (some ⟨w.heap.size + i, 0, none⟩)) H.first H.size H.gen vt H.used) 107 (0, 0))
  row7 : RowV (fun p => L3.length ≤ p ∧ NotAt w vt p) w L 1 k v7 R
  rowt : RowV (fun p => L3.length ≤ p ∧ NotAt w v7 p) w L 1 k vt (strs ((bs.take k).map bys))
  cl : css.length = k
  each : ∀ (j : Nat) x vs ss, R[j]? = some x → css[j]? = some vs → lss[j]? = some ss → RowV (fun p => L3.length ≤ p ∧ NotAt w v7 p ∧ NotAt w vt p) w L 1 vs.length x vs ∧ Steps w L (fun p => L3.length ≤ p ∧ NotAt w v7 p ∧ NotAt w vt p) i vs ss
  keep : L3.length ≤ L.length ∧ ∀ p, p < L3.length → p ≠ b5 → L[p]? = L3[p]?
theorem notAt_nil (w : World) (p : Nat) : NotAt w (.slice none 0 0) p := fun n c e => by simp at e
theorem AnI.start {w : World} {L3 : List Obj} {b5 i : Nat} {h0 : Hf} {bs : List ByteArray} (hb : L3[b5]? = some (.cells (hcl (.pointer (some ⟨w.heap.size + i, 0, none⟩)) h0.first h0.size h0.gen (.slice none 0 0) h0.used) 107 (0, 0))) : AnI w L3 b5 i h0 bs 0 L3 (.slice none 0 0) (.slice none 0 0) h0 [] [] [] :=
  ⟨rfl, hb, .inl ⟨rfl, rfl, rfl⟩, .inl ⟨rfl, rfl, rfl⟩, rfl, fun j x vs ss h => by simp at h, Nat.le_refl _, fun _ _ _ => rfl⟩
theorem rowV_lt {A : Nat → Prop} {w : World} {l : List Obj} {sz n : Nat} {v : Value} {C : List Value} (h : RowV A w l sz n v C) {p : Nat} (hp : ¬ NotAt w v p) : p < l.length := by
  rcases Nat.lt_or_ge p l.length with h' | h'
  · exact h'
  · exact absurd (h.beyond h') hp
theorem AnI.step {w : World} {L3 : List Obj} {b5 i : Nat} {h0 : Hf} {bs : List ByteArray} {k : Nat} {L : List Obj} {v7 vt : Value} {H : Hf} {lss : List (List Stp)} {R : List Value} {css : List (List Value)} (h : AnI w L3 b5 i h0 bs k L v7 vt H lss R css) (hb5 : b5 < L3.length)
    {s : ByteArray} (hs : bs[k]? = some s) (hroom : ¬ H.room < ((bys s).length : Int)) {La Lb Lc : List Obj} {v v7' vt' : Value} {vs : List Value}
    (ha : L.length ≤ La.length ∧ ∀ p, p < L.length → La[p]? = L[p]?) (hv : RowV (fun p => L.length ≤ p) w La 1 vs.length v vs) (hst : Steps w La (fun p => L.length ≤ p) i vs (H.laying (bys s)))
    (hb : La.length ≤ Lb.length ∧ ∀ p, p < La.length → NotAt w v7 p → Lb[p]? = La[p]?) (h7 : RowV (fun p => ¬ NotAt w v7 p ∨ La.length ≤ p) w Lb 1 (k + 1) v7' (R ++ [v]))
    (hc : Lb.length ≤ Lc.length ∧ ∀ p, p < Lb.length → NotAt w vt p → Lc[p]? = Lb[p]?) (ht : RowV (fun p => ¬ NotAt w vt p ∨ Lb.length ≤ p) w Lc 1 (k + 1) vt' (strs ((bs.take k).map bys ++ [bys s]))) :
    AnI w L3 b5 i h0 bs (k + 1) (Lc.set b5 (.cells (hcl (.pointer (some ⟨w.heap.size + i, 0, none⟩)) H.first H.size H.gen vt' (H.used + secs s.size)) 107 (0, 0))) v7' vt' (H.with (bys s)) (lss ++ [H.laying (bys s)]) (R ++ [v]) (css ++ [vs]) := by
  have hL3 := h.keep.1
  have e1 : (bs.take (k + 1)).map bys = (bs.take k).map bys ++ [bys s] := by rw [List.take_add_one, hs]; simp
  have hRl : R.length = k := by have := h.row7.length; omega
  have hll : lss.length = k := by
    have := (lays_ok _ _ _ _ h.lays).len
    rw [this, List.length_map, List.length_take]
    have := (List.getElem?_eq_some_iff.1 hs).1
    omega
  have k0 : ∀ p, p < L3.length → NotAt w v7 p ∧ NotAt w vt p := fun p hp => ⟨rowV_off h.row7 fun h' => by omega, rowV_off h.rowt fun h' => by omega⟩
  have kset : ∀ p, p ≠ b5 → (Lc.set b5 (.cells (hcl (.pointer (some ⟨w.heap.size + i, 0, none⟩)) H.first H.size H.gen vt' (H.used + secs s.size)) 107 (0, 0)))[p]? = Lc[p]? := fun p hp => List.getElem?_set_ne fun e => hp e.symm
  have kk : ∀ p, p < La.length → p ≠ b5 → NotAt w v7 p → NotAt w vt p → (Lc.set b5 (.cells (hcl (.pointer (some ⟨w.heap.size + i, 0, none⟩)) H.first H.size H.gen vt' (H.used + secs s.size)) 107 (0, 0)))[p]? = La[p]? := fun p hp hne n1 n2 => by
    rw [kset p hne, hc.2 p (by omega) n2, hb.2 p hp n1]
  have o7 : ∀ p, p < La.length → NotAt w v7 p → NotAt w v7' p := fun p hp hn => rowV_off h7 fun h' => h'.elim (fun h2 => h2 hn) fun h2 => by omega
  have ot : ∀ p, p < Lb.length → NotAt w vt p → NotAt w vt' p := fun p hp hn => rowV_off ht fun h' => h'.elim (fun h2 => h2 hn) fun h2 => by omega
  refine ⟨?_, ?_, ?_, ?_, by rw [List.length_append, h.cl]; rfl, fun j x us ss h1 h2 h3 => ?_, by rw [List.length_set]; omega, fun p hp hne => ?_⟩
  · rw [e1, lays_snoc, h.lays]
    simp only
    rw [if_neg hroom]
  · rw [set_some (show Lc[b5]? = some (Lc[b5]'(by omega)) from List.getElem?_eq_getElem _), ← bys_length]
    rfl
  · refine h7.mono fun p hp hlt => ?_
    have hp2 : L3.length ≤ p ∧ NotAt w vt p := by
      rcases hp with hp | hp
      · exact rowV_on h.row7 hp
      · exact ⟨by omega, h.rowt.beyond (by omega)⟩
    exact ⟨⟨hp2.1, ot p hlt hp2.2⟩, by rw [kset p (by omega), hc.2 p hlt hp2.2]⟩
  · rw [e1]
    refine ht.mono fun p hp hlt => ?_
    have hp2 : L3.length ≤ p ∧ NotAt w v7' p := by
      rcases hp with hp | hp
      · have h1 := rowV_on h.rowt hp
        have h2 := rowV_lt h.rowt hp
        exact ⟨h1.1, o7 p (by omega) h1.2⟩
      · exact ⟨by omega, h7.beyond hp⟩
    exact ⟨hp2, kset p (by omega)⟩
  · by_cases hj : j < k
    · rw [List.getElem?_append_left (by omega)] at h1
      rw [List.getElem?_append_left (by rw [h.cl]; omega)] at h2
      rw [List.getElem?_append_left (by omega)] at h3
      have h4 := h.each j x us ss h1 h2 h3
      have hm : ∀ p, (L3.length ≤ p ∧ NotAt w v7 p ∧ NotAt w vt p) → p < L.length → (L3.length ≤ p ∧ NotAt w v7' p ∧ NotAt w vt' p) ∧ (Lc.set b5 (.cells (hcl (.pointer (some ⟨w.heap.size + i, 0, none⟩)) H.first H.size H.gen vt' (H.used + secs s.size)) 107 (0, 0)))[p]? = L[p]? := fun p hp hlt =>
        ⟨⟨hp.1, o7 p (by omega) hp.2.1, ot p (by omega) hp.2.2⟩, by rw [kk p (by omega) (by omega) hp.2.1 hp.2.2, ha.2 p hlt]⟩
      exact ⟨h4.1.mono hm, h4.2.mono hm⟩
    · have hjk : j = k := by
        have := (List.getElem?_eq_some_iff.1 h1).1
        rw [List.length_append, List.length_singleton] at this; omega
      subst hjk
      rw [List.getElem?_append_right (by omega), hRl, Nat.sub_self] at h1
      rw [List.getElem?_append_right (by rw [h.cl]; omega), h.cl, Nat.sub_self] at h2
      rw [List.getElem?_append_right (by omega), hll, Nat.sub_self] at h3
      simp at h1 h2 h3
      subst h1; subst h2; subst h3
      have hm : ∀ p, L.length ≤ p → p < La.length → (L3.length ≤ p ∧ NotAt w v7' p ∧ NotAt w vt' p) ∧ (Lc.set b5 (.cells (hcl (.pointer (some ⟨w.heap.size + i, 0, none⟩)) H.first H.size H.gen vt' (H.used + secs s.size)) 107 (0, 0)))[p]? = La[p]? := fun p hp hlt =>
        have n1 := h.row7.beyond hp
        have n2 := h.rowt.beyond hp
        ⟨⟨by omega, o7 p hlt n1, ot p (by omega) n2⟩, kk p hlt (by omega) n1 n2⟩
      exact ⟨hv.mono hm, hst.mono hm⟩
  · rw [kk p (by omega) hne (k0 p hp).1 (k0 p hp).2, ha.2 p (by omega)]
    exact h.keep.2 p hp hne
theorem map_rev_get {α : Type} (l : List α) (j n : Nat) (hn : l.length = n) (hj : j < n) : l.reverse[j]? = l[n - 1 - j]? := by
  rw [List.getElem?_reverse (by omega), hn]
/-- Behind the last one: the rows in the other order. -/
theorem AnI.rev {w : World} {L3 : List Obj} {b5 i B : Nat} {h0 : Hf} {bs : List ByteArray} {n : Nat} {L : List Obj} {v7 vt : Value} {H : Hf} {lss : List (List Stp)} {R : List Value} {css : List (List Value)} (h : AnI w L3 b5 i h0 bs n L v7 vt H lss R css) (hB : B ≤ L3.length) (hn : bs.length = n) (hn1 : 1 ≤ n) {b cap : Nat} {X : List Value} {T : TypeId} {Y : Array Value}
    (hv : v7 = .slice (some ⟨w.heap.size + b, 0, none⟩) n cap) (hX : X.take n = R) (hbl : b < L.length) (hb3 : L3.length ≤ b) (h1 : ∀ j, j < n → Y[j]? = X[n - 1 - j]?) (d : Nat) :
    rrB w B i lss.reverse v7 (Wd w (L.set b (.cells Y T (0, 0))) d) := by
  have hll : lss.length = n := by
    have := (lays_ok _ _ _ _ h.lays).len
    rw [this, List.length_map, List.length_take]; omega
  have hRl : R.length = n := by have := h.row7.length; omega
  have hXl : n ≤ X.length := by rw [← hX, List.length_take] at hRl; omega
  have hYs : n ≤ Y.size := by
    have e := h1 (n - 1) (by omega)
    rw [show n - 1 - (n - 1) = 0 by omega, List.getElem?_eq_getElem (by omega)] at e
    have := (Array.getElem?_eq_some_iff.1 e).1
    omega
  refine ⟨b, cap, Y.toList, T, css.reverse, _, d, rfl, by rw [List.length_set]; have := h.keep.1; omega, by omega, by rw [List.length_reverse, hll]; exact hv, by rw [Array.toArray_toList]; exact set_some (show L[b]? = some (L[b]'hbl) from List.getElem?_eq_getElem _), by rw [List.length_reverse, hll, Array.length_toList]; exact hYs, by rw [List.length_reverse, List.length_reverse, h.cl, hll], fun k x vs ss e1 e2 e3 => ?_⟩
  have hk : k < n := by
    have := (List.getElem?_eq_some_iff.1 e2).1
    rw [List.length_reverse, h.cl] at this; exact this
  rw [Array.getElem?_toList, h1 k hk] at e1
  rw [map_rev_get _ _ n h.cl hk] at e2
  rw [map_rev_get _ _ n hll hk] at e3
  have e1' : R[n - 1 - k]? = some x := by rw [← hX, List.getElem?_take_of_lt (by omega)]; exact e1
  have h4 := h.each _ x vs ss e1' e2 e3
  have hm : ∀ p, (L3.length ≤ p ∧ NotAt w v7 p ∧ NotAt w vt p) → p < L.length → B ≤ p ∧ (L.set b (.cells Y T (0, 0)))[p]? = L[p]? := fun p hp _ => ⟨by omega, List.getElem?_set_ne fun e => hp.2.1 n cap (by rw [hv, e])⟩
  exact ⟨h4.1.mono hm, h4.2.mono hm⟩
end Go.Proofs.YtlogjpmdfimgdaaGreatDoor.Jf
namespace Go.Proofs.YtlogjpmdfimgdaaGreatDoor.Jf
open Go Go.RowKit Go.Own.Jf
attribute [-go_sem] Sm.execOp_bs run_string_add_if
theorem stX_at {P : Program} {T : TypeId} {w : World} {l : List Obj} {d i o : Nat} {c : Array Value} {v z : Value} {t : TypeId} (h1 : (sizeOf T).run P (Wd w l d) = .ok 1 (Wd w l d)) (h2 : l[i]? = some (.cells c t (0, 0))) (hv : v.oneCell' = true) (h3 : c[o]? = some z) :
    stX P T 1 (some (.cells c t (0, 0))) w l d i o v = .ok () (Wd w (l.set i (.cells (splA c o [v]) t (0, 0))) d) :=
  stX_mix1 h1 hv h2 (Array.getElem?_eq_some_iff.1 h3).1
theorem splA_get {c : Array Value} {o : Nat} {v z : Value} (h : c[o]? = some z) (j : Nat) : (splA c o [v])[j]? = if o = j then some v else c[j]? := by
  have ho : o < c.toList.length := by rw [Array.length_toList]; exact (Array.getElem?_eq_some_iff.1 h).1
  have e : splA c o [v] = (c.toList.set o v).toArray := by
    unfold splA
    rw [List.set_eq_take_append_cons_drop, if_pos ho]
    simp
  rw [e, List.getElem?_toArray, List.getElem?_set]
  split
  · rfl
  · rw [Array.getElem?_toList]
attribute [local go_sem] agj78 isaj78 csj78 szj78 ldX_mix1 stX_at
/-- The first k and the last k of n have changed places. -/
def RevI (X : List Value) (n k : Nat) (Y : Array Value) : Prop := ∀ j, Y[j]? = if j < k ∨ (n ≤ j + k ∧ j < n) then X[n - 1 - j]? else X[j]?
set_option maxRecDepth 100000 in
set_option maxHeartbeats 4000000 in
theorem reverse_any (w : World) (l : List Obj) (d b n cap : Nat) (X : List Value) (T : TypeId) (hb : l[b]? = some (.cells X.toArray T (0, 0))) (hn : n ≤ X.length) (hn1 : 1 ≤ n) (hn2 : n ≤ 100000) (h1 : ∀ (j : Nat) v, j < n → X[j]? = some v → v.oneCell' = true) :
    Calls Tryz.prog 87 #[.slice (some ⟨w.heap.size + b, 0, none⟩) n cap] (Wd w l d) fun e w' => (∃ v, e = .returned v) ∧ ∃ Y d', w' = Wd w (l.set b (.cells Y T (0, 0))) d' ∧ (∀ j, j < n → Y[j]? = X[n - 1 - j]?) ∧ ∀ j, n ≤ j → Y[j]? = X[j]? := by
  have HB := Lib.hid hb
  have hlb : l = l.set b (.cells X.toArray T (0, 0)) := by
    apply List.ext_getElem?
    intro p
    by_cases e : b = p
    · subst e; rw [set_some hb, hb]
    · rw [List.getElem?_set_ne e]
  have HLB := Lib.hid hlb
  have HNX := Lib.hid hn
  clear hb hlb hn
  go_enter Tryz.func87, Tryz.ntmps87
  go_wp2_with fail
  go_loopw [2, 3] (fun e ix wr => ∃ (k : Nat) (Y : Array Value) (L : List Obj) (d : Nat), k ≤ n / 2 ∧ e = .int .i64 (k : Int) ∧ ix = .int .i64 ((n : Int) - 1 - (k : Int)) ∧ Hid (RevI X n k Y) ∧ Hid (L = l.set b (.cells Y T (0, 0))) ∧ wr = Wd w L d) (fun e _ _ => n - (intOf e).toNat)
  case atStart => exact ⟨0, X.toArray, l, d, Nat.zero_le _, rfl, by congr 1; omega, Lib.hid (fun j => by rw [if_neg (by omega), List.getElem?_toArray]), HLB, rfl⟩
  case round =>
    obtain ⟨k, Y, L, d2, hk, rfl, rfl, HI, HL, rfl⟩ := hrel
    by_cases hlt : (k : Int) < (n : Int) - 1 - (k : Int)
    · obtain ⟨c, hc⟩ : ∃ c, n - 1 - k = c := ⟨_, rfl⟩
      have hci : (n : Int) - 1 - (k : Int) = (c : Int) := by omega
      have hcell : L[b]? = some (.cells Y T (0, 0)) := by rw [HL.out]; exact set_some HB.out
      obtain ⟨x, hxX⟩ : ∃ x, X[k]? = some x := ⟨_, List.getElem?_eq_getElem (by have := HNX.out; omega)⟩
      obtain ⟨y, hyX⟩ : ∃ y, X[c]? = some y := ⟨_, List.getElem?_eq_getElem (by have := HNX.out; omega)⟩
      have hx : Y[k]? = some x := by rw [HI.out k, if_neg (by omega)]; exact hxX
      have hy : Y[c]? = some y := by rw [HI.out c, if_neg (by omega)]; exact hyX
      have hx1 : x.oneCell' = true := h1 k x (by omega) hxX
      have hy1 : y.oneCell' = true := h1 c y (by omega) hyX
      have hsp : (splA Y k [y])[c]? = some y := by rw [splA_get hx, if_neg (by omega)]; exact hy
      have HI2 : Hid (RevI X n (k + 1) (splA (splA Y k [y]) c [x])) := Lib.hid fun j => by
        rw [splA_get hsp, splA_get hx, HI.out j]
        by_cases e1 : c = j
        · subst e1
          rw [if_pos rfl, if_pos (by omega), show n - 1 - c = k by omega, hxX]
        · rw [if_neg e1]
          by_cases e2 : k = j
          · subst e2
            rw [if_pos rfl, if_pos (by omega), hc, hyX]
          · rw [if_neg e2]
            by_cases e3 : j < k ∨ (n ≤ j + k ∧ j < n)
            · rw [if_pos e3, if_pos (by omega)]
            · rw [if_neg e3, if_neg (by omega)]
      have HXY := Lib.hid (And.intro hxX hyX)
      have HC := Lib.hid hc
      rw [hci] at hlt ⊢
      have hkn : (k : Int) < n := by omega
      have hcn : (c : Int) < n := by omega
      have hc0 : (0 : Int) ≤ c := by omega
      have hsl : ∀ Z, (L.set b Z)[b]? = some Z := fun Z => set_some hcell
      have hkm : k + 1 ≤ n / 2 := by omega
      clear hxX hyX hc hci
      go_wp2_with fail
      go_region
      go_wp2
      go_roundw
      case rel => exact ⟨k + 1, _, _, _, hkm, by go_num, by have := HC.out; congr 1; omega, HI2, Lib.hid (by rw [HL.out]; simp), rfl⟩
      case measure => simp [intOf]; omega
    · have hkn : k = n / 2 := by omega
      go_wp2
      go_end0
      refine ⟨⟨_, rfl⟩, Y, ⟨d2, by rw [HL.out]⟩, fun j hj => ?_, fun j hj => ?_⟩
      · rw [HI.out j]
        by_cases e3 : j < k ∨ (n ≤ j + k ∧ j < n)
        · rw [if_pos e3]
        · rw [if_neg e3, show n - 1 - j = j by omega]
      · rw [HI.out j, if_neg (by omega)]
end Go.Proofs.YtlogjpmdfimgdaaGreatDoor.Jf

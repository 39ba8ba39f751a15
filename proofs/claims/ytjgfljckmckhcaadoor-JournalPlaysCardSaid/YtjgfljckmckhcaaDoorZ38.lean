/- slices.Reverse over a row of rows, in place: by contract. No condition but the size. -/
import Derived.Test.YtjgfljckmckhcaaDoorZ32
namespace Go.Proofs.YtjgfljckmckhcaaDoor
open Go Go.RowKit Go.Own
attribute [-go_sem] Sm.execOp_bs run_string_add_if
theorem stX_at {P : Program} {T : TypeId} {w : World} {l : List Obj} {d i o : Nat} {c : Array Value} {v z : Value} {t : TypeId} (h1 : (sizeOf T).run P (Wd w l d) = .ok 1 (Wd w l d)) (h2 : l[i]? = some (.cells c t (0, 0))) (hv : v.oneCell' = true) (h3 : c[o]? = some z) :
    stX P T 1 (some (.cells c t (0, 0))) w l d i o v = .ok () (Wd w (l.set i (.cells (splA c o [v]) t (0, 0))) d) :=
  stX_mix1 h1 hv h2 (Array.getElem?_eq_some_iff.1 h3).1
theorem splA_get {c : Array Value} {o : Nat} {v z : Value} (h : c[o]? = some z) (j : Nat) : (splA c o [v])[j]? = if o = j then some v else c[j]? := by
  have ho : o < c.toList.length := by rw [Array.length_toList]; exact (Array.getElem?_eq_some_iff.1 h).1
  have e : splA c o [v] = (c.toList.set o v).toArray := by
    unfold splA
    rw [List.set_eq_take_append_cons_drop, if_pos ho]
    simp
  rw [e, List.getElem?_toArray, List.getElem?_set]
  split
  · rfl
  · rw [Array.getElem?_toList]
attribute [local go_sem] agj78 isaj78 csj78 szj78 ldX_mix1 stX_at
/-- The first k and the last k of n have changed places. -/
def RevI (X : List Value) (n k : Nat) (Y : Array Value) : Prop := ∀ j, Y[j]? = if j < k ∨ (n ≤ j + k ∧ j < n) then X[n - 1 - j]? else X[j]?
set_option maxRecDepth 100000 in
set_option maxHeartbeats 4000000 in
theorem reverse_any (w : World) (l : List Obj) (d b n cap : Nat) (X : List Value) (T : TypeId) (hb : l[b]? = some (.cells X.toArray T (0, 0))) (hn : n ≤ X.length) (hn1 : 1 ≤ n) (hn2 : n ≤ 100000) (h1 : ∀ (j : Nat) v, j < n → X[j]? = some v → v.oneCell' = true) :
    Calls Tryd.prog 42 #[.slice (some ⟨w.heap.size + b, 0, none⟩) n cap] (Wd w l d) fun e w' => (∃ v, e = .returned v) ∧ ∃ Y d', w' = Wd w (l.set b (.cells Y T (0, 0))) d' ∧ (∀ j, j < n → Y[j]? = X[n - 1 - j]?) ∧ ∀ j, n ≤ j → Y[j]? = X[j]? := by
  have HB := Lib.hid hb
  have hlb : l = l.set b (.cells X.toArray T (0, 0)) := by
    apply List.ext_getElem?
    intro p
    by_cases e : b = p
    · subst e; rw [set_some hb, hb]
    · rw [List.getElem?_set_ne e]
  have HLB := Lib.hid hlb
  have HNX := Lib.hid hn
  clear hb hlb hn
  go_enter Tryd.func42, Tryd.ntmps42
  go_wp2_with fail
  go_loopw [2, 3] (fun e ix wr => ∃ (k : Nat) (Y : Array Value) (L : List Obj) (d : Nat), k ≤ n / 2 ∧ e = .int .i64 (k : Int) ∧ ix = .int .i64 ((n : Int) - 1 - (k : Int)) ∧ Hid (RevI X n k Y) ∧ Hid (L = l.set b (.cells Y T (0, 0))) ∧ wr = Wd w L d) (fun e _ _ => n - (intOf e).toNat)
  case atStart => exact ⟨0, X.toArray, l, d, Nat.zero_le _, rfl, by congr 1; omega, Lib.hid (fun j => by rw [if_neg (by omega), List.getElem?_toArray]), HLB, rfl⟩
  case round =>
    obtain ⟨k, Y, L, d2, hk, rfl, rfl, HI, HL, rfl⟩ := hrel
    by_cases hlt : (k : Int) < (n : Int) - 1 - (k : Int)
    · obtain ⟨c, hc⟩ : ∃ c, n - 1 - k = c := ⟨_, rfl⟩
      have hci : (n : Int) - 1 - (k : Int) = (c : Int) := by omega
      have hcell : L[b]? = some (.cells Y T (0, 0)) := by rw [HL.out]; exact set_some HB.out
      obtain ⟨x, hxX⟩ : ∃ x, X[k]? = some x := ⟨_, List.getElem?_eq_getElem (by have := HNX.out; omega)⟩
      obtain ⟨y, hyX⟩ : ∃ y, X[c]? = some y := ⟨_, List.getElem?_eq_getElem (by have := HNX.out; omega)⟩
      have hx : Y[k]? = some x := by rw [HI.out k, if_neg (by omega)]; exact hxX
      have hy : Y[c]? = some y := by rw [HI.out c, if_neg (by omega)]; exact hyX
      have hx1 : x.oneCell' = true := h1 k x (by omega) hxX
      have hy1 : y.oneCell' = true := h1 c y (by omega) hyX
      have hsp : (splA Y k [y])[c]? = some y := by rw [splA_get hx, if_neg (by omega)]; exact hy
      have HI2 : Hid (RevI X n (k + 1) (splA (splA Y k [y]) c [x])) := Lib.hid fun j => by
        rw [splA_get hsp, splA_get hx, HI.out j]
        by_cases e1 : c = j
        · subst e1
          rw [if_pos rfl, if_pos (by omega), show n - 1 - c = k by omega, hxX]
        · rw [if_neg e1]
          by_cases e2 : k = j
          · subst e2
            rw [if_pos rfl, if_pos (by omega), hc, hyX]
          · rw [if_neg e2]
            by_cases e3 : j < k ∨ (n ≤ j + k ∧ j < n)
            · rw [if_pos e3, if_pos (by omega)]
            · rw [if_neg e3, if_neg (by omega)]
      have HXY := Lib.hid (And.intro hxX hyX)
      have HC := Lib.hid hc
      rw [hci] at hlt ⊢
      have hkn : (k : Int) < n := by omega
      have hcn : (c : Int) < n := by omega
      have hc0 : (0 : Int) ≤ c := by omega
      have hsl : ∀ Z, (L.set b Z)[b]? = some Z := fun Z => set_some hcell
      have hkm : k + 1 ≤ n / 2 := by omega
      clear hxX hyX hc hci
      go_wp2_with fail
      go_region
      go_wp2
      go_roundw
      case rel => exact ⟨k + 1, _, _, _, hkm, by go_num, by have := HC.out; congr 1; omega, HI2, Lib.hid (by rw [HL.out]; simp), rfl⟩
      case measure => simp [intOf]; omega
    · have hkn : k = n / 2 := by omega
      go_wp2
      go_end0
      refine ⟨⟨_, rfl⟩, Y, ⟨d2, by rw [HL.out]⟩, fun j hj => ?_, fun j hj => ?_⟩
      · rw [HI.out j]
        by_cases e3 : j < k ∨ (n ≤ j + k ∧ j < n)
        · rw [if_pos e3]
        · rw [if_neg e3, show n - 1 - j = j by omega]
      · rw [HI.out j, if_neg (by omega)]
end Go.Proofs.YtjgfljckmckhcaaDoor

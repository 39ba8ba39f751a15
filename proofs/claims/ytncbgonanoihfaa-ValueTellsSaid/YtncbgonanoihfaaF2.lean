/- The document's parse of what is no list: by contract. No condition but the text's length. -/
import Derived.Test.YtncbgonanoihfaaF1
import Derived.Test.YtncbgonanoihfaaP4
namespace Go.Proofs.Ytncbgonanoihfaa
open Go.RowKit Go.Own
/-- What the document's parse answers over the text L. -/
def RP (L : List Nat) (r : Option (A × List Nat)) (w : World) (e : Ending) (w' : World) : Prop :=
  (∃ a t' v, r = some (a, t') ∧ e = .returned (.tuple #[v, .int .i64 (((L.length - t'.length : Nat)) : Int)]) ∧ VAt w' (fun b => w.heap.size ≤ b) v (toV a) ∧ Below w.heap.size w w') ∨
  (r = none ∧ e = .returned (.tuple #[.agg #[.int .i64 0, .int .i64 0, .string { data := #[] }, .bool false, .slice none 0 0], .int .i64 (-1)]) ∧ Below w.heap.size w w')
theorem RP.no {L : List Nat} {w w' : World} (h : Below w.heap.size w w') : RP L none w (.returned (.tuple #[.agg #[.int .i64 0, .int .i64 0, .string { data := #[] }, .bool false, .slice none 0 0], .int .i64 (-1)])) w' := Or.inr ⟨rfl, rfl, h⟩
theorem RP.ok {L : List Nat} {a : A} {t' : List Nat} {n : Int} {w w' : World} {v : Value} (hn : (((L.length - t'.length : Nat)) : Int) = n) (hv : VAt w' (fun b => w.heap.size ≤ b) v (toV a)) (h : Below w.heap.size w w') : RP L (some (a, t')) w (.returned (.tuple #[v, .int .i64 n])) w' :=
  Or.inl ⟨a, t', v, rfl, by rw [hn], hv, h⟩
theorem idx (L : List Nat) (hb : ∀ c ∈ L, c < 256) (q : ByteArray) (hq : mkS L = q) (i : Nat) (hi : i < L.length) (z : Int) (hz : z = (i : Int)) (W : World) : (Instr.index 9 (.string q) (.int .i64 z)).run Try.prog W = .ok (.int .u8 ((gi L i : Nat) : Int)) W := by
  subst hq hz
  exact gi_mkS L i hi hb W
theorem gi_drop (L : List Nat) (a i : Nat) : gi (L.drop a) i = gi L (a + i) := by simp [gi]
theorem drop_at {L : List Nat} {a : Nat} (h : a < L.length) : L.drop a = gi L a :: L.drop (a + 1) := by
  rw [List.drop_eq_getElem_cons h]
  simp [gi, h]
set_option maxRecDepth 100000 in
set_option maxHeartbeats 1000000 in
theorem rp_end (L : List Nat) (d : Int) (w : World) : Calls Try.prog 29 #[.string (mkS L), .int .i64 (L.length : Int), .int .i64 d] w (RP L none w) := by
  obtain ⟨q, hq⟩ : ∃ q, mkS L = q := ⟨_, rfl⟩
  have hz : q.size = L.length := by rw [← hq, mkS_size]
  obtain ⟨n, hn⟩ : ∃ n, L.length = n := ⟨_, rfl⟩
  rw [hn] at hz ⊢
  rw [hq]
  have HBR : Hid (Blk (w.alloc (.cells #[.int .i64 0, .int .i64 0, .string { data := #[] }, .bool false, .slice none 0 0] 24)) w.heap.size #[.int .i64 0, .int .i64 0, .string { data := #[] }, .bool false, .slice none 0 0]) := Lib.hid (blk_new w _)
  clear hq hn
  go_enter Try.func29, Try.ntmps29
  go_wp2_with (with_reducible refine wpList_put5 w.heap.size _ _ _ _ _ _ _ _ _ _ rfl rfl HBR.out ones_zero ?_)
  intro w2 hr2 hg2
  have HB2 := Lib.hid (below_blk ((Below.refl _ w).alloc (Nat.le_refl _) _) hg2 (by simp) (Nat.le_refl _))
  have y0 := hr2.cell 0
  have y1 := hr2.cell 1
  have y2 := hr2.cell 2
  have y3 := hr2.cell 3
  have y4 := hr2.cell 4
  simp at y0 y1 y2 y3 y4
  clear hr2 hg2
  go_wp2
  refine bodyPost_ret (v := .tuple #[.agg #[.int .i64 0, .int .i64 0, .string { data := #[] }, .bool false, .slice none 0 0], .int .i64 (-1)]) (by simp [results, Try.results29, go_sem, y0, y1, y2, y3, y4]) rfl ?_
  exact RP.no HB2.out
set_option maxRecDepth 100000 in
set_option maxHeartbeats 1000000 in
theorem rp_other (L : List Nat) (hb : ∀ c ∈ L, c < 256) (a : Nat) (ha : a < L.length) (d : Int) (hc : gi L a ≠ 105 ∧ gi L a ≠ 115 ∧ gi L a ≠ 121 ∧ gi L a ≠ 110 ∧ gi L a ≠ 108) (w : World) : Calls Try.prog 29 #[.string (mkS L), .int .i64 (a : Int), .int .i64 d] w (RP L none w) := by
  obtain ⟨q, hq⟩ : ∃ q, mkS L = q := ⟨_, rfl⟩
  have hix := idx L hb q hq a ha (a : Int) rfl
  have hz : q.size = L.length := by rw [← hq, mkS_size]
  obtain ⟨n, hn⟩ : ∃ n, L.length = n := ⟨_, rfl⟩
  obtain ⟨c, hce⟩ : ∃ c, gi L a = c := ⟨_, rfl⟩
  rw [hn] at hz ha
  rw [hce] at hix hc
  rw [hq]
  obtain ⟨h1, h2, h3, h4, h5⟩ := hc
  have d1 : ((c : Int) == 105) = false := by simp; omega
  have d2 : ((c : Int) == 115) = false := by simp; omega
  have d3 : ((c : Int) == 121) = false := by simp; omega
  have d4 : ((c : Int) == 110) = false := by simp; omega
  have d5 : ((c : Int) == 108) = false := by simp; omega
  have hai : (a : Int) < (n : Int) := by omega
  have HBR : Hid (Blk (w.alloc (.cells #[.int .i64 0, .int .i64 0, .string { data := #[] }, .bool false, .slice none 0 0] 24)) w.heap.size #[.int .i64 0, .int .i64 0, .string { data := #[] }, .bool false, .slice none 0 0]) := Lib.hid (blk_new w _)
  clear hq hn hce h1 h2 h3 h4 h5 hb
  go_enter Try.func29, Try.ntmps29
  go_wp2_with (with_reducible refine wpList_put5 w.heap.size _ _ _ _ _ _ _ _ _ _ rfl rfl HBR.out ones_zero ?_)
  intro w2 hr2 hg2
  have HB2 := Lib.hid (below_blk ((Below.refl _ w).alloc (Nat.le_refl _) _) hg2 (by simp) (Nat.le_refl _))
  have y0 := hr2.cell 0
  have y1 := hr2.cell 1
  have y2 := hr2.cell 2
  have y3 := hr2.cell 3
  have y4 := hr2.cell 4
  simp at y0 y1 y2 y3 y4
  clear hr2 hg2
  go_wp2
  refine bodyPost_ret (v := .tuple #[.agg #[.int .i64 0, .int .i64 0, .string { data := #[] }, .bool false, .slice none 0 0], .int .i64 (-1)]) (by simp [results, Try.results29, go_sem, y0, y1, y2, y3, y4]) rfl ?_
  exact RP.no HB2.out
theorem ones_of (k n : Int) (s : ByteArray) (b : Bool) (p : Option Addr) (m c : Nat) : (#[.int .i64 k, .int .i64 n, .string s, .bool b, .slice p m c] : Array Value).all (·.oneCell') = true := by simp [Value.oneCell']
set_option maxRecDepth 100000 in
set_option maxHeartbeats 1000000 in
theorem rp_bool (L : List Nat) (hb : ∀ c ∈ L, c < 256) (hL : L.length ≤ 3000) (a : Nat) (ha : a < L.length) (d : Int) (b : Bool) (hc : gi L a = if b then 121 else 110) (w : World) : Calls Try.prog 29 #[.string (mkS L), .int .i64 (a : Int), .int .i64 d] w (RP L (some (.bool b, L.drop (a + 1))) w) := by
  obtain ⟨q, hq⟩ : ∃ q, mkS L = q := ⟨_, rfl⟩
  have hix := idx L hb q hq a ha (a : Int) rfl
  have hz : q.size = L.length := by rw [← hq, mkS_size]
  have HLN : Hid ((((L.length - (L.drop (a + 1)).length : Nat)) : Int) = (a : Int) + 1) := Lib.hid (by rw [List.length_drop]; omega)
  obtain ⟨n, hn⟩ : ∃ n, L.length = n := ⟨_, rfl⟩
  rw [hn] at hz hL ha
  rw [hc] at hix
  rw [hq]
  have hai : (a : Int) < (n : Int) := by omega
  have HBR : Hid (Blk (w.alloc (.cells #[.int .i64 0, .int .i64 0, .string { data := #[] }, .bool false, .slice none 0 0] 24)) w.heap.size #[.int .i64 0, .int .i64 0, .string { data := #[] }, .bool false, .slice none 0 0]) := Lib.hid (blk_new w _)
  clear hq hn hc hb
  cases b
  all_goals
    go_enter Try.func29, Try.ntmps29
    go_wp2_with (with_reducible refine wpList_put5 w.heap.size _ _ _ _ _ _ _ _ _ _ rfl rfl HBR.out (ones_of 3 0 _ _ _ _ _) ?_)
    intro w2 hr2 hg2
    have HB2 := Lib.hid (below_blk ((Below.refl _ w).alloc (Nat.le_refl _) _) hg2 (by simp) (Nat.le_refl _))
    have y0 := hr2.cell 0
    have y1 := hr2.cell 1
    have y2 := hr2.cell 2
    have y3 := hr2.cell 3
    have y4 := hr2.cell 4
    simp at y0 y1 y2 y3 y4
    clear hr2 hg2
    go_wp2
  · refine bodyPost_ret (v := .tuple #[.agg #[.int .i64 3, .int .i64 0, .string { data := #[] }, .bool false, .slice none 0 0], .int .i64 ((a : Int) + 1)]) (by simp [results, Try.results29, go_sem, y0, y1, y2, y3, y4]) rfl ?_
    exact RP.ok HLN.out (.nil 3 0 _ false (in_small 3 (by omega) (by omega)) (in_small 0 (by omega) (by omega)) (by decide)) HB2.out
  · refine bodyPost_ret (v := .tuple #[.agg #[.int .i64 3, .int .i64 0, .string { data := #[] }, .bool true, .slice none 0 0], .int .i64 ((a : Int) + 1)]) (by simp [results, Try.results29, go_sem, y0, y1, y2, y3, y4]) rfl ?_
    exact RP.ok HLN.out (.nil 3 0 _ true (in_small 3 (by omega) (by omega)) (in_small 0 (by omega) (by omega)) (by decide)) HB2.out
end Go.Proofs.Ytncbgonanoihfaa

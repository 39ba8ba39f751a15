/- GrantTells' own walk. -/
import Derived.Test.YtfihbfkgkljjdaaGI
import Derived.Test.YtfihbfkgkljjdaaO2
import Derived.Test.YtfihbfkgkljjdaaC6
namespace Go.Proofs.Ytfihbfkgkljjdaa
open Go.RowKit Go.Own Go.Maps Go.WideMaps
/-- Grants with their slices, as cells. -/
def cellsQ (Q : List (Gr × Value)) : List Value := Q.flatMap fun x => [.int .i64 x.1.id, .string x.1.who, .string x.1.ret, .int .i64 x.1.ops, x.2, .bool x.1.eq]
theorem cellsQ_length (Q : List (Gr × Value)) : (cellsQ Q).length = Q.length * 6 := by
  induction Q with
  | nil => rfl
  | cons x Q ih => simp only [cellsQ, List.flatMap_cons, List.length_append, List.length_cons, List.length_nil] at ih ⊢; omega
theorem cellsQ_append (Q R : List (Gr × Value)) : cellsQ (Q ++ R) = cellsQ Q ++ cellsQ R := by simp [cellsQ]
theorem cellsQ_at : ∀ (Q : List (Gr × Value)) (j : Nat) (x : Gr × Value), Q[j]? = some x → ∀ i u, [Value.int .i64 x.1.id, .string x.1.who, .string x.1.ret, .int .i64 x.1.ops, x.2, .bool x.1.eq][i]? = some u → (cellsQ Q)[j * 6 + i]? = some u
  | [], j, x, h, _, _, _ => by simp at h
  | y :: Q, j, x, h, i, u, hu => by
    have hi : i < 6 := by have := (List.getElem?_eq_some_iff.1 hu).1; simpa using this
    have e : cellsQ (y :: Q) = [Value.int .i64 y.1.id, .string y.1.who, .string y.1.ret, .int .i64 y.1.ops, y.2, .bool y.1.eq] ++ cellsQ Q := by simp [cellsQ]
    rw [e]
    match j, h with
    | 0, h =>
      have : y = x := by simpa using h
      subst this
      rw [Nat.zero_mul, Nat.zero_add, List.getElem?_append_left (by simpa using hi)]
      exact hu
    | j + 1, h =>
      rw [List.getElem?_append_right (by simp; omega)]
      have := cellsQ_at Q j x (by simpa using h) i u hu
      rw [← this]
      congr 1
      simp; omega
/-- The slice v holds these grants, in a row of the call's own. -/
def OwnQ (w : World) (B : Nat) (v : Value) (Q : List (Gr × Value)) : Prop := w.ownsRow B 30 6 v Q.length (cellsQ Q)
theorem OwnQ.nil (w : World) (B : Nat) : OwnQ w B (.slice none 0 0) [] := World.ownsRow_nil w B 30 6
def SlQ (w : World) (Q : List (Gr × Value)) : Prop := ∀ x ∈ Q, ∃ q c, x.2 = .slice q x.1.need.length c ∧ PsC w (.slice q x.1.need.length c) x.1.need
theorem SlQ.below {w w' : World} {Q : List (Gr × Value)} (h : SlQ w Q) (hb : Below w.heap.size w w') : SlQ w' Q := fun x hx => by
  obtain ⟨q, c, e, hp⟩ := h x hx
  exact ⟨q, c, e, hp.below hb⟩
theorem OwnQ.row {w : World} {B : Nat} {v : Value} {Q : List (Gr × Value)} (h : OwnQ w B v Q) (hs : SlQ w Q) : RowG w v (Q.map (·.1)) := by
  rcases h.2 with ⟨rfl, h2⟩ | ⟨g, cap, cur, rfl, _, _, hnc, _⟩
  · have : Q = [] := List.eq_nil_of_length_eq_zero h2
    subst this
    exact RowG.nil w
  · refine ⟨some ⟨g, 0, none⟩, cap, by rw [List.length_map], by rw [List.length_map]; exact hnc, fun j y hy => ?_⟩
    rw [List.getElem?_map] at hy
    obtain ⟨x, hx, rfl⟩ := Option.map_eq_some_iff.1 hy
    obtain ⟨q, c, e, hp⟩ := hs x (List.mem_of_getElem? hx)
    have hc : ∀ i u, [Value.int .i64 x.1.id, .string x.1.who, .string x.1.ret, .int .i64 x.1.ops, x.2, .bool x.1.eq][i]? = some u → w.cell? ⟨g, 0 + j * 6 + i, none⟩ = some u := fun i u hu => by
      have := h.cells (g := g) rfl (j * 6 + i) u (cellsQ_at Q j x hx i u hu)
      rw [hadd, Nat.zero_add] at this
      rw [Nat.zero_add]
      exact this
    exact ⟨g, 0, q, c, rfl, hc 0 _ rfl, hc 1 _ rfl, hc 2 _ rfl, hc 3 _ rfl, by rw [hc 4 _ rfl, e], hc 5 _ rfl, hp⟩
theorem info30 : (Try.prog.info? 30).map (fun i => (i.zero, i.size, i.bytes)) = some (some (.agg #[.int .i64 0, .string { data := #[] }, .string { data := #[] }, .int .i64 0, .slice none 0 0, .bool false]), 6, 80) := by kernel_rfl
theorem six_new (w : World) (a b c d e f : Value) (t : TypeId) : ∀ (j : Nat) u, [a, b, c, d, e, f][j]? = some u → (w.alloc (.cells #[a, b, c, d, e, f] t)).cell? ((⟨w.heap.size, 0, none⟩ : Addr).add j) = some u := fun j u h => by
  rw [hadd, Nat.zero_add, cell_new]
  simpa using h
theorem six_one (i o : Int) (s r : ByteArray) (p : Option Addr) (n c : Nat) (q : Bool) : ∀ u ∈ [Value.int .i64 i, .string s, .string r, .int .i64 o, .slice p n c, .bool q], u.oneCell' = true := fun u h => by
  simp at h; rcases h with rfl | rfl | rfl | rfl | rfl | rfl <;> rfl
theorem below_own {W0 w w' : World} {v : Value} {xs : List Value} {n : Nat} (hb : Below W0.heap.size W0 w) (h : w.ownsRow W0.heap.size 30 6 v n xs) (hg : w.grownBy w' v.ownBlock) : Below W0.heap.size W0 w' :=
  hb.grown hg hb.size (fun k hk => (h.lt k hk).1)
set_option linter.unusedVariables false
set_option maxRecDepth 100000 in
set_option maxHeartbeats 4000000 in
theorem tells_skip (l : List Gr) (hl : l.length ≤ 9223372036854775807) (hs : ∀ g ∈ l, sane g) (p : Option Addr) (cap : Nat) (owner who : ByteArray) (ho : owner.size ≤ 9223372036854775807) (hw : who.size ≤ 9223372036854775807) (op : Int) (hop : -9223372036854775808 ≤ op ∧ op < 9223372036854775808) (x : List P2) (hx : x.length ≤ 9223372036854775807) (hxs : ∀ y ∈ x, y.1.size ≤ 9223372036854775807 ∧ y.2.size ≤ 9223372036854775807) (q : Option Addr) (qcap : Nat) (w : World) (hr : RowG w (.slice p l.length cap) l) (hq : PsC w (.slice q x.length qcap) x) (h : 10 < l.length ∨ 300 < owner.size ∨ 300 < who.size ∨ fewB x = false) :
    Calls Try.prog 3 #[.slice p l.length cap, .string owner, .string who, .int .i64 op, .slice q x.length qcap] w fun e w' => e = .returned (.bool true) ∧ Below w.heap.size w w' := by
  have HAW := Lib.hid (awake_any w)
  have HF4 := Lib.hid (fun W h => few_any x q qcap hx hxs W h)
  have HR := Lib.hid hr
  have HQ := Lib.hid hq
  obtain ⟨n, hn⟩ : ∃ n, l.length = n := ⟨_, rfl⟩
  obtain ⟨lx, hlx⟩ : ∃ n, x.length = n := ⟨_, rfl⟩
  have HL := Lib.hid hn
  simp only [hn] at HR hl ⊢
  simp only [hlx] at HQ HF4 ⊢
  obtain ⟨fx, hfx⟩ : ∃ f, fewB x = f := ⟨_, rfl⟩
  rw [hn, hfx] at h
  rw [hfx] at HF4
  clear hr hq hs hx hxs hn hlx hfx
  by_cases h1 : 10 < n
  · have d1 : decide ((10 : Int) < (n : Int)) = true := by simp; omega
    clear h
    go_enter Try.func3, Try.ntmps3
    go_wp2_with fail
    refine HAW.out.mono ?_
    rintro e w1 ⟨rfl, hb⟩
    replace hb := Lib.hid hb
    go_wp2
    go_ret
    exact ⟨rfl, hb.out⟩
  have d1 : decide ((10 : Int) < (n : Int)) = false := by simp; omega
  by_cases h2 : 300 < owner.size
  · have d2 : decide ((300 : Int) < (owner.size : Int)) = true := by simp; omega
    clear h
    go_enter Try.func3, Try.ntmps3
    go_wp2_with fail
    refine HAW.out.mono ?_
    rintro e w1 ⟨rfl, hb⟩
    replace hb := Lib.hid hb
    go_wp2
    go_ret
    exact ⟨rfl, hb.out⟩
  have d2 : decide ((300 : Int) < (owner.size : Int)) = false := by simp; omega
  by_cases h3 : 300 < who.size
  · have d3 : decide ((300 : Int) < (who.size : Int)) = true := by simp; omega
    clear h
    go_enter Try.func3, Try.ntmps3
    go_wp2_with fail
    refine HAW.out.mono ?_
    rintro e w1 ⟨rfl, hb⟩
    replace hb := Lib.hid hb
    go_wp2
    go_ret
    exact ⟨rfl, hb.out⟩
  have d3 : decide ((300 : Int) < (who.size : Int)) = false := by simp; omega
  obtain rfl : fx = false := by rcases h with h | h | h | h; omega; omega; omega; exact h
  clear h h1 h2 h3
  go_enter Try.func3, Try.ntmps3
  go_wp2_with fail
  refine HAW.out.mono ?_
  rintro e w1 ⟨rfl, hb⟩
  replace hb := Lib.hid hb
  go_wp2_with fail
  refine (HF4.out _ (HQ.out.below hb.out)).mono ?_
  rintro e w2 ⟨rfl, hw2⟩
  cases hw2
  go_wp2
  go_ret
  exact ⟨rfl, hb.out⟩
set_option maxRecDepth 100000 in
set_option maxHeartbeats 8000000 in
theorem tells_main (l : List Gr) (hl : l.length ≤ 9223372036854775807) (hs : ∀ g ∈ l, sane g) (p : Option Addr) (cap : Nat) (owner who : ByteArray) (ho : owner.size ≤ 9223372036854775807) (hw : who.size ≤ 9223372036854775807) (op : Int) (hop : -9223372036854775808 ≤ op ∧ op < 9223372036854775808) (x : List P2) (hx : x.length ≤ 9223372036854775807) (hxs : ∀ y ∈ x, y.1.size ≤ 9223372036854775807 ∧ y.2.size ≤ 9223372036854775807) (q : Option Addr) (qcap : Nat) (w : World) (hr : RowG w (.slice p l.length cap) l) (hq : PsC w (.slice q x.length qcap) x) (hl10 : l.length ≤ 10) (ho3 : owner.size ≤ 300) (hw3 : who.size ≤ 300) (hfx0 : fewB x = true) :
    Calls Try.prog 3 #[.slice p l.length cap, .string owner, .string who, .int .i64 op, .slice q x.length qcap] w fun e w' => e = .returned (.bool true) ∧ Below w.heap.size w w' := by
  have HAW := Lib.hid (awake_any w)
  have HF4 := Lib.hid (fun W h => few_any x q qcap hx hxs W h)
  have HR := Lib.hid hr
  have HQ := Lib.hid hq
  have hfx1 : fitsL x := by rw [fewB_iff] at hfx0; exact ⟨by omega, fun y hy => by have := hfx0.2 y hy; omega⟩
  have HF1 := Lib.hid (fun g (hg : g ∈ l) v W h => fewG_any g (hs g hg) v W h)
  have HC1 := Lib.hid (fun g (hg : g.small) v W h => right_grant g hg v W h)
  have HC2 := Lib.hid (fun g (hg : g.small) v W h => right_doc g hg v W h)
  have HC3 := Lib.hid (fun g (hg : g.small) v W h1 h2 => allows_any g hg v who op x hfx1 q qcap W h1 h2)
  have HC4 := Lib.hid (fun g (hg : g.small) v W h1 h2 => allows_doc g hg v who op hop x hfx1 q qcap W h1 h2)
  have HC5 := Lib.hid (fun a b (ha : a.small) (hb : b.small) va vb W h1 h2 => narrower_any a b ha hb va vb W h1 h2)
  have HC6 := Lib.hid (fun a b (ha : a.small) (hb : b.small) va vb W h1 h2 => narrower_doc a b ha hb va vb W h1 h2)
  have HC7 := Lib.hid (fun (hsm : ∀ g ∈ l, g.small) p cap W h1 h2 => any_any l (by omega) hsm p cap owner who op x hfx1 q qcap W h1 h2)
  have HC8 := Lib.hid (fun (hsm : ∀ g ∈ l, g.small) p cap W h1 h2 => any_doc l (by omega) hsm p cap owner who op hop x hfx1 q qcap W h1 h2)
  rw [hfx0] at HF4
  obtain ⟨ans, hans⟩ : ∃ b, anyB l owner who op x = b := ⟨_, rfl⟩
  rw [hans] at HC7 HC8
  obtain ⟨i0, hi, hz0, hz1, hz2⟩ := info_parts info30
  obtain ⟨n, hn⟩ : ∃ n, l.length = n := ⟨_, rfl⟩
  obtain ⟨lx, hlx⟩ : ∃ n, x.length = n := ⟨_, rfl⟩
  have HL := Lib.hid hn
  simp only [hn] at HR HC7 HC8 hl hl10 ⊢
  simp only [hlx] at HQ HF4 HC3 HC4 HC7 HC8 ⊢
  clear hr hq hs hx hxs hn hlx hfx0 hfx1 hans hop ho hw
  have d1 : decide ((10 : Int) < (n : Int)) = false := by simp; omega
  have d2 : decide ((300 : Int) < (owner.size : Int)) = false := by simp; omega
  have d3 : decide ((300 : Int) < (who.size : Int)) = false := by simp; omega
  go_enter Try.func3, Try.ntmps3
  go_wp2_with fail
  refine HAW.out.mono ?_
  rintro e w1 ⟨rfl, hb⟩
  replace hb := Lib.hid hb
  go_wp2_with fail
  refine (HF4.out _ (HQ.out.below hb.out)).mono ?_
  rintro e w2 ⟨rfl, hw2⟩
  cases hw2
  clear d1 d2 d3 ho3 hw3
  have HR1 := Lib.hid (HR.out.below hb.out)
  go_wp2
  go_loopw [11, 12] (fun v i wr => ∃ (k : Nat) (Q : List (Gr × Value)), k ≤ n ∧ i = .int .i64 (k : Int) ∧ Hid (OwnQ wr w1.heap.size v Q) ∧ Hid (Q.map (·.1) = l.take k) ∧ Hid (SlQ w1 Q) ∧ Hid (∀ g ∈ l.take k, fewG g = true) ∧ Hid (Below w1.heap.size w1 wr)) (fun _ i _ => n - (intOf i).toNat)
  case atStart => exact ⟨0, [], Nat.zero_le _, rfl, Lib.hid (OwnQ.nil _ _), Lib.hid (by simp), Lib.hid (fun x hx => by simp at hx), Lib.hid (fun g hg => by simp at hg), Lib.hid (Below.refl _ _)⟩
  case round =>
    obtain ⟨k, Q, hk, rfl, HO, HM, HSQ, HFW, HB⟩ := hrel
    by_cases hlt : k < n
    · obtain ⟨g, hg⟩ : ∃ g, l[k]? = some g := ⟨_, List.getElem?_eq_getElem (by rw [HL.out]; exact hlt)⟩
      obtain ⟨hcl, gb, go, q2, c2, rfl, k0, k1, k2, k3, k4, k5, hP⟩ := (HR1.out.below HB.out).at hg
      obtain ⟨hcl2, gb', go', q2', c2', e1, _, _, _, _, j4, _, hP0⟩ := HR1.out.at hg
      clear hcl hcl2
      have hsame : q2' = q2 ∧ c2' = c2 := by
        have h1 := cellOld HB.out j4
        simp only [Option.some.injEq, Addr.mk.injEq, and_true] at e1
        obtain ⟨rfl, rfl⟩ := e1
        rw [k4] at h1
        simpa using h1.symm
      obtain ⟨rfl, rfl⟩ := hsame
      clear e1 j4
      have hki : (k : Int) < n := by omega
      have HFg := Lib.hid (HF1.out g (List.mem_of_getElem? hg) (grV g q2' c2') wr ⟨q2', c2', rfl, hP⟩)
      obtain ⟨fg, hfg⟩ : ∃ f, fewG g = f := ⟨_, rfl⟩
      rw [hfg] at HFg
      have HQ2 : Hid ((Q ++ [(g, Value.slice q2' g.need.length c2')]).map (·.1) = l.take (k + 1)) := Lib.hid (by rw [List.map_append, HM.out, List.take_add_one, hg]; rfl)
      have HS2 : Hid (SlQ w1 (Q ++ [(g, Value.slice q2' g.need.length c2')])) := Lib.hid (fun y hy => by
        rcases List.mem_append.1 hy with h | h
        · exact HSQ.out y h
        · simp at h; subst h; exact ⟨q2', c2', rfl, hP0⟩)
      have HF2 : Hid (fg = true → ∀ y ∈ l.take (k + 1), fewG y = true) := Lib.hid (fun h y hy => by
        rw [List.take_add_one, hg] at hy
        rcases List.mem_append.1 hy with h1 | h1
        · exact HFW.out y h1
        · simp at h1; rw [h1, hfg, h])
      have HQL : Hid (Q.length = k) := Lib.hid (by
        have := congrArg List.length HM.out
        rw [List.length_map, List.length_take, HL.out] at this
        omega)
      have HCQ : Hid (cellsQ (Q ++ [(g, Value.slice q2' g.need.length c2')]) = cellsQ Q ++ [.int .i64 g.id, .string g.who, .string g.ret, .int .i64 g.ops, .slice q2' g.need.length c2', .bool g.eq]) := Lib.hid (by rw [cellsQ_append]; rfl)
      have HLL : Hid ((Q ++ [(g, Value.slice q2' g.need.length c2')]).length = k + 1) := Lib.hid (by rw [List.length_append, HQL.out]; rfl)
      obtain ⟨Q2, hQ2⟩ : ∃ Q2, Q ++ [(g, Value.slice q2' g.need.length c2')] = Q2 := ⟨_, rfl⟩
      simp only [hQ2] at HQ2 HS2 HCQ HLL
      clear hg hP hP0 hfg hQ2
      obtain ⟨id, gw, ret, ops, need, eq⟩ := g
      simp only [grV] at HFg HCQ k0 k1 k2 k3 k4 k5
      obtain ⟨nn, hnn⟩ : ∃ m, need.length = m := ⟨_, rfl⟩
      simp only [hnn] at HFg HCQ k4
      clear hnn
      cases fg
      · go_wp2_with fail
        refine HFg.out.mono ?_
        rintro e w3 ⟨rfl, hw3⟩
        have HZ := Lib.hid (hb.out.trans ((HB.out.trans (hw3.mono HB.out.size)).mono hb.out.size))
        clear hw3 k0 k1 k2 k3 k4 k5
        go_wp2
        go_ret
        exact ⟨rfl, HZ.out⟩
      · go_wp2_with fail
        refine HFg.out.mono ?_
        rintro e w3 ⟨rfl, hw3⟩
        replace k0 := cellOld hw3 k0
        replace k1 := cellOld hw3 k1
        replace k2 := cellOld hw3 k2
        replace k3 := cellOld hw3 k3
        replace k4 := cellOld hw3 k4
        replace k5 := cellOld hw3 k5
        have hown : w3.ownsRow w1.heap.size 30 6 u11 k (cellsQ Q) := by
          have := HO.out
          unfold OwnQ at this
          rw [HQL.out] at this
          exact World.ownsRow.kept this (row := none) ⟨hw3.os, hw3.tape, hw3.output, hw3.size, fun k hk _ => hw3.block k hk⟩ (by cases u11.ownBlock <;> simp)
        have hsz : w1.heap.size ≤ w3.heap.size := Nat.le_trans HB.out.size hw3.size
        have HB3 := Lib.hid (HB.out.trans (hw3.mono HB.out.size))
        clear hw3
        have HOW := Lib.hid hown
        go_wp2_with (at_builtin; refine wpList_append_own _ rfl (.tmp 47) (.tmp 52) 26 rfl w1.heap.size 30 i0 _ 6 80 Try.underlying26 hi hz0 hz1 hz2 rfl (by decide) _ _ _ rfl (hown.alloc _) ⟨w3.heap.size, 0, none⟩ 1 1 [.int .i64 id, .string gw, .string ret, .int .i64 ops, .slice q2' nn c2', .bool eq] rfl rfl (six_new _ _ _ _ _ _ _ _) (six_one _ _ _ _ _ _ _ _) (by unfold maxLen; omega) (by omega) (by simp; omega) ?_)
        intro v3 w4 hown3 hgrow3 _
        have HO3 : Hid (OwnQ w4 w1.heap.size v3 Q2) := Lib.hid (by
          unfold OwnQ
          rw [HCQ.out, HLL.out]
          exact hown3)
        have HB4 : Hid (Below w1.heap.size w1 w4) := Lib.hid (below_own (HB3.out.alloc hsz _) (HOW.out.alloc _) hgrow3)
        clear hown3 hgrow3 hown hsz k0 k1 k2 k3 k4 k5
        go_wp2
        go_roundw
        case rel => exact ⟨k + 1, Q2, by omega, by go_num, HO3, HQ2, HS2, Lib.hid (HF2.out trivial), HB4⟩
        case measure => simp [intOf]; omega
    · have hkn : k = n := by omega
      subst hkn
      have HMl : Hid (Q.map (·.1) = l) := Lib.hid (by rw [HM.out, List.take_of_length_le (by rw [HL.out]; exact Nat.le_refl _)])
      have HSM : Hid (∀ g ∈ l, g.small) := Lib.hid (fun g hg => fewG_small (HFW.out g (by rw [List.take_of_length_le (by rw [HL.out]; exact Nat.le_refl _)]; exact hg)))
      have hrm : RowG wr u11 l := by
        have := HO.out.row (HSQ.out.below HB.out)
        rwa [HMl.out] at this
      have HRL := Lib.hid (HR1.out.below HB.out)
      have HBW := Lib.hid (hb.out.trans (HB.out.mono hb.out.size))
      obtain ⟨pm, cm, e11, _⟩ := id hrm
      rw [HL.out] at e11
      subst e11
      have HRM := Lib.hid hrm
      clear hrm HO HM HSQ HFW HMl HB
      obtain ⟨W2, rfl⟩ : ∃ W2, W2 = wr := ⟨_, rfl⟩
      go_wp2
      go_loopw [13] (fun i wr2 => ∃ j : Nat, j ≤ k ∧ i = .int .i64 (j : Int) ∧ Hid (Below W2.heap.size W2 wr2)) (fun i _ => k - (intOf i).toNat)
      case atStart => exact ⟨0, Nat.zero_le _, rfl, Lib.hid (Below.refl _ _)⟩
      case round =>
        obtain ⟨j, hj, rfl, HB⟩ := hrel
        obtain ⟨wr2, rfl⟩ : ∃ wr2, wr2 = wr := ⟨_, rfl⟩
        by_cases hjl : j < k
        · obtain ⟨g, hg⟩ : ∃ g, l[j]? = some g := ⟨_, List.getElem?_eq_getElem (by rw [HL.out]; exact hjl)⟩
          have hji : (j : Int) < k := by omega
          have hsm := HSM.out g (List.mem_of_getElem? hg)
          obtain ⟨e1, b, o, q2, c2, rfl, k0, k1, k2, k3, k4, k5, hP⟩ := (HRL.out.below HB.out).at hg
          obtain ⟨e2, b2, o2, q3, c3, rfl, m0, m1, m2, m3, m4, m5, hP2⟩ := (HRM.out.below HB.out).at hg
          clear e1 e2
          obtain ⟨rg, hrg⟩ : ∃ r, g.right = r := ⟨_, rfl⟩
          obtain ⟨al, hal⟩ : ∃ r, allowB g who op x = r := ⟨_, rfl⟩
          have HQw : Hid (∀ V : Gw wr2, PsC V.1 (.slice q lx qcap) x) := Lib.hid (fun V => (HQ.out.below (HBW.out.trans (HB.out.mono HBW.out.size))).below V.2)
          have R1 : Hid (∀ V : Gw wr2, Calls Try.prog 9 #[grV g q2 c2] V.1 fun e w' => e = .returned (.bool rg) ∧ Grew wr2 w') := Lib.hid (fun V => grew_call (by have := HC1.out g hsm (grV g q2 c2) V.1 ⟨q2, c2, rfl, hP.below V.2⟩; rwa [hrg] at this))
          have R2 : Hid (∀ V : Gw wr2, Calls Try.prog 10 #[grV g q3 c3] V.1 fun e w' => e = .returned (.bool rg) ∧ Grew wr2 w') := Lib.hid (fun V => grew_call (by have := HC2.out g hsm (grV g q3 c3) V.1 ⟨q3, c3, rfl, hP2.below V.2⟩; rwa [hrg] at this))
          have R3 : Hid (∀ V : Gw wr2, Calls Try.prog 11 #[grV g q2 c2, .string who, .int .i64 op, .slice q lx qcap] V.1 fun e w' => e = .returned (.bool al) ∧ Grew wr2 w') := Lib.hid (fun V => grew_call (by have := HC3.out g hsm (grV g q2 c2) V.1 ⟨q2, c2, rfl, hP.below V.2⟩ (HQw.out V); rwa [hal] at this))
          have R4 : Hid (∀ V : Gw wr2, Calls Try.prog 12 #[grV g q3 c3, .string who, .int .i64 op, .slice q lx qcap] V.1 fun e w' => e = .returned (.bool al) ∧ Grew wr2 w') := Lib.hid (fun V => grew_call (by have := HC4.out g hsm (grV g q3 c3) V.1 ⟨q3, c3, rfl, hP2.below V.2⟩ (HQw.out V); rwa [hal] at this))
          have HSG := Lib.hid hsm
          have HP1 := Lib.hid hP
          have HP2 := Lib.hid hP2
          have HGG := Lib.hid hg
          clear hrg hal hsm hg hP hP2
          obtain ⟨vl, hvl⟩ : ∃ v, grV g q2 c2 = v := ⟨_, rfl⟩
          obtain ⟨id, gw, ret, ops, need, eq⟩ := g
          clear hvl vl
          simp only [grV] at R1 R2 R3 R4 k0 k1 k2 k3 k4 k5 m0 m1 m2 m3 m4 m5
          obtain ⟨nn, hnn⟩ : ∃ m, need.length = m := ⟨_, rfl⟩
          simp only [hnn] at R1 R2 R3 R4 k4 m4
          have HNN := Lib.hid hnn
          clear hnn
          have K0 := fun V : Gw wr2 => cellOld V.2 k0
          have K1 := fun V : Gw wr2 => cellOld V.2 k1
          have K2 := fun V : Gw wr2 => cellOld V.2 k2
          have K3 := fun V : Gw wr2 => cellOld V.2 k3
          have K4 := fun V : Gw wr2 => cellOld V.2 k4
          have K5 := fun V : Gw wr2 => cellOld V.2 k5
          have M0 := fun V : Gw wr2 => cellOld V.2 m0
          have M1 := fun V : Gw wr2 => cellOld V.2 m1
          have M2 := fun V : Gw wr2 => cellOld V.2 m2
          have M3 := fun V : Gw wr2 => cellOld V.2 m3
          have M4 := fun V : Gw wr2 => cellOld V.2 m4
          have M5 := fun V : Gw wr2 => cellOld V.2 m5
          clear k0 k1 k2 k3 k4 k5 m0 m1 m2 m3 m4 m5
          go_wp2
          refine wp_region_grew (by kernel_rfl) (by kernel_rfl) ?_
          repeat (go_big_quiet_step ((first | (with_reducible exact R1.out _) | (with_reducible exact R2.out _) | (with_reducible exact R3.out _) | (with_reducible exact R4.out _))))
          refine wpQuiet_nil ?_
          intro V
          have k0 := K0 V
          have k1 := K1 V
          have k2 := K2 V
          have k3 := K3 V
          have k4 := K4 V
          have k5 := K5 V
          have m0 := M0 V
          have m1 := M1 V
          have m2 := M2 V
          have m3 := M3 V
          have m4 := M4 V
          have m5 := M5 V
          replace HB := Lib.hid (HB.out.trans (V.2.mono HB.out.size))
          replace HP1 := Lib.hid (HP1.out.below V.2)
          replace HP2 := Lib.hid (HP2.out.below V.2)
          obtain ⟨W3, hW3⟩ : ∃ W3, V.1 = W3 := ⟨_, rfl⟩
          rw [hW3] at HB HP1 HP2 k0 k1 k2 k3 k4 k5 m0 m1 m2 m3 m4 m5 ⊢
          clear hW3 R1 R2 R3 R4 HQw K0 K1 K2 K3 K4 K5 M0 M1 M2 M3 M4 M5 V
          have HK := Lib.hid (And.intro k0 (And.intro k1 (And.intro k2 (And.intro k3 (And.intro k4 k5)))))
          have HMM := Lib.hid (And.intro m0 (And.intro m1 (And.intro m2 (And.intro m3 (And.intro m4 m5)))))
          clear k0 k1 k2 k3 k4 k5 m0 m1 m2 m3 m4 m5
          go_wp2
          go_loopw [14] (fun i wr3 => ∃ t : Nat, t ≤ k ∧ i = .int .i64 (t : Int) ∧ Hid (Below W3.heap.size W3 wr3)) (fun i _ => k - (intOf i).toNat)
          case atStart => exact ⟨0, Nat.zero_le _, rfl, Lib.hid (Below.refl _ _)⟩
          case round =>
            obtain ⟨t, ht, rfl, HB2⟩ := hrel
            obtain ⟨wr3, rfl⟩ : ∃ wr3, wr3 = wr := ⟨_, rfl⟩
            by_cases htl : t < k
            · obtain ⟨h, hh⟩ : ∃ g, l[t]? = some g := ⟨_, List.getElem?_eq_getElem (by rw [HL.out]; exact htl)⟩
              have hti : (t : Int) < k := by omega
              have hsm2 := HSM.out h (List.mem_of_getElem? hh)
              have hBB := HB.out.trans (HB2.out.mono HB.out.size)
              obtain ⟨e1, b3, o3, q4, c4, e3, x0, x1, x2, x3, x4, x5, hPx⟩ := (HRL.out.below hBB).at hh
              obtain ⟨e2, b4, o4, q5, c5, e4, y0, y1, y2, y3, y4, y5, hPy⟩ := (HRM.out.below hBB).at hh
              clear e1 e2
              simp only [Option.some.injEq, Addr.mk.injEq, and_true] at e3 e4
              obtain ⟨rfl, rfl⟩ := e3
              obtain ⟨rfl, rfl⟩ := e4
              obtain ⟨k0, k1, k2, k3, k4, k5⟩ := HK.out
              obtain ⟨m0, m1, m2, m3, m4, m5⟩ := HMM.out
              have HPl := HP1.out.below HB2.out
              have HPm := HP2.out.below HB2.out
              replace k0 := cellOld HB2.out k0
              replace k1 := cellOld HB2.out k1
              replace k2 := cellOld HB2.out k2
              replace k3 := cellOld HB2.out k3
              replace k4 := cellOld HB2.out k4
              replace k5 := cellOld HB2.out k5
              replace m0 := cellOld HB2.out m0
              replace m1 := cellOld HB2.out m1
              replace m2 := cellOld HB2.out m2
              replace m3 := cellOld HB2.out m3
              replace m4 := cellOld HB2.out m4
              replace m5 := cellOld HB2.out m5
              obtain ⟨na, hna⟩ : ∃ r, narrowB ⟨id, gw, ret, ops, need, eq⟩ h = r := ⟨_, rfl⟩
              have R5 : Hid (∀ V : Gw wr3, Calls Try.prog 13 #[grV ⟨id, gw, ret, ops, need, eq⟩ q2 c2, grV h q4 c4] V.1 fun e w' => e = .returned (.bool na) ∧ Grew wr3 w') := Lib.hid (fun V => grew_call (by have := HC5.out ⟨id, gw, ret, ops, need, eq⟩ h HSG.out hsm2 (grV ⟨id, gw, ret, ops, need, eq⟩ q2 c2) (grV h q4 c4) V.1 ⟨q2, c2, rfl, HPl.below V.2⟩ ⟨q4, c4, rfl, hPx.below V.2⟩; rwa [hna] at this))
              have R6 : Hid (∀ V : Gw wr3, Calls Try.prog 14 #[grV ⟨id, gw, ret, ops, need, eq⟩ q3 c3, grV h q5 c5] V.1 fun e w' => e = .returned (.bool na) ∧ Grew wr3 w') := Lib.hid (fun V => grew_call (by have := HC6.out ⟨id, gw, ret, ops, need, eq⟩ h HSG.out hsm2 (grV ⟨id, gw, ret, ops, need, eq⟩ q3 c3) (grV h q5 c5) V.1 ⟨q3, c3, rfl, HPm.below V.2⟩ ⟨q5, c5, rfl, hPy.below V.2⟩; rwa [hna] at this))
              clear hna hPx hPy HPl HPm hsm2 hh hBB
              obtain ⟨id2, gw2, ret2, ops2, need2, eq2⟩ := h
              simp only [grV, HNN.out] at R5 R6 x0 x1 x2 x3 x4 x5 y0 y1 y2 y3 y4 y5
              obtain ⟨n2, hn2⟩ : ∃ m, need2.length = m := ⟨_, rfl⟩
              simp only [hn2] at R5 R6 x4 y4
              clear hn2
              have K0 := fun V : Gw wr3 => cellOld V.2 k0
              have K1 := fun V : Gw wr3 => cellOld V.2 k1
              have K2 := fun V : Gw wr3 => cellOld V.2 k2
              have K3 := fun V : Gw wr3 => cellOld V.2 k3
              have K4 := fun V : Gw wr3 => cellOld V.2 k4
              have K5 := fun V : Gw wr3 => cellOld V.2 k5
              have M0 := fun V : Gw wr3 => cellOld V.2 m0
              have M1 := fun V : Gw wr3 => cellOld V.2 m1
              have M2 := fun V : Gw wr3 => cellOld V.2 m2
              have M3 := fun V : Gw wr3 => cellOld V.2 m3
              have M4 := fun V : Gw wr3 => cellOld V.2 m4
              have M5 := fun V : Gw wr3 => cellOld V.2 m5
              have X0 := fun V : Gw wr3 => cellOld V.2 x0
              have X1 := fun V : Gw wr3 => cellOld V.2 x1
              have X2 := fun V : Gw wr3 => cellOld V.2 x2
              have X3 := fun V : Gw wr3 => cellOld V.2 x3
              have X4 := fun V : Gw wr3 => cellOld V.2 x4
              have X5 := fun V : Gw wr3 => cellOld V.2 x5
              have Y0 := fun V : Gw wr3 => cellOld V.2 y0
              have Y1 := fun V : Gw wr3 => cellOld V.2 y1
              have Y2 := fun V : Gw wr3 => cellOld V.2 y2
              have Y3 := fun V : Gw wr3 => cellOld V.2 y3
              have Y4 := fun V : Gw wr3 => cellOld V.2 y4
              have Y5 := fun V : Gw wr3 => cellOld V.2 y5
              clear k0 k1 k2 k3 k4 k5 m0 m1 m2 m3 m4 m5 x0 x1 x2 x3 x4 x5 y0 y1 y2 y3 y4 y5
              go_wp2
              refine wp_region_grew (by kernel_rfl) (by kernel_rfl) ?_
              repeat (go_big_quiet_step ((first | (with_reducible exact R5.out _) | (with_reducible exact R6.out _))))
              refine wpQuiet_nil ?_
              intro V
              replace HB2 := Lib.hid (HB2.out.trans (V.2.mono HB2.out.size))
              obtain ⟨W4, hW4⟩ : ∃ W4, V.1 = W4 := ⟨_, rfl⟩
              rw [hW4] at HB2 ⊢
              clear hW4 R5 R6 K0 K1 K2 K3 K4 K5 M0 M1 M2 M3 M4 M5 X0 X1 X2 X3 X4 X5 Y0 Y1 Y2 Y3 Y4 Y5 V
              go_wp2
              go_roundw
              case rel => exact ⟨t + 1, by omega, by simp, HB2⟩
              case measure => simp [intOf]; omega
            · have htn : t = k := by omega
              subst htn
              have HB3 := Lib.hid (HB.out.trans (HB2.out.mono HB.out.size))
              go_wp2
              go_roundw
              case rel => exact ⟨j + 1, by omega, by simp, HB3⟩
              case measure => simp [intOf]; omega
        · have hjn : j = k := by omega
          subst hjn
          have HA1 := Lib.hid (HC7.out HSM.out p cap _ (HRL.out.below HB.out) (HQ.out.below (HBW.out.trans (HB.out.mono HBW.out.size))))
          have HBZ := Lib.hid (HBW.out.trans (HB.out.mono HBW.out.size))
          go_wp2_with fail
          refine HA1.out.mono ?_
          rintro e w7 ⟨rfl, hw7⟩
          have HBY := Lib.hid (HB.out.trans (hw7.mono HB.out.size))
          replace HBZ := Lib.hid (HBZ.out.trans (hw7.mono HBZ.out.size))
          clear hw7 HA1
          go_wp2_with fail
          refine (HC8.out HSM.out _ _ _ (HRM.out.below HBY.out) (HQ.out.below HBZ.out)).mono ?_
          rintro e w8 ⟨rfl, hw8⟩
          replace HBZ := Lib.hid (HBZ.out.trans (hw8.mono HBZ.out.size))
          clear hw8
          go_wp2
          go_ret
          exact ⟨by simp, HBZ.out⟩
end Go.Proofs.Ytfihbfkgkljjdaa

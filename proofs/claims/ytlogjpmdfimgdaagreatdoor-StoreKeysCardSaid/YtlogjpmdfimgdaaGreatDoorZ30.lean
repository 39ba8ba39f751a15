/- A disk, and a journal on it, among the call's own blocks: each operation by contract. No condition but that the disk counts little. | Two rows of texts that are the same; writes and a flush of a disk; rows of texts wherever they lie. No condition but the sizes. -/
import Derived.Test.YtlogjpmdfimgdaaGreatDoorZ29
namespace Go.Proofs.YtlogjpmdfimgdaaGreatDoor.Jf
open Go Go.RowKit Go.Own.Jf
/-- A disk; the places that P allows are others'. -/
def Sd (w : World) (P : Nat → Prop) (l : List Obj) (i s q : Nat) (M : Dk) : Prop :=
  ∃ vw O, DAt w l i s q vw O M ∧ (∀ p, O p → p < l.length) ∧ ∀ p, P p → O p
/-- A disk and a journal on it. -/
def St (w : World) (P : Nat → Prop) (l : List Obj) (i s q jo : Nat) (J : Jn) (M : Dk) : Prop :=
  ∃ vw O A vt, DAt w l i s q vw O M ∧ JAt w l jo i A J vt ∧ (∀ p, O p → p < l.length) ∧ O jo ∧ (∀ p, A p → O p) ∧ ∀ p, P p → O p ∧ ¬ A p ∧ p ≠ jo
def Up (l l' : List Obj) (P : Nat → Prop) : Prop := l.length ≤ l'.length ∧ ∀ p, P p → l'[p]? = l[p]?
theorem Up.trans {l l' l'' : List Obj} {P : Nat → Prop} (h : Up l l' P) (k : Up l' l'' P) : Up l l'' P := ⟨Nat.le_trans h.1 k.1, fun p hp => (k.2 p hp).trans (h.2 p hp)⟩
theorem Up.app (l g : List Obj) {P : Nat → Prop} (hP : ∀ p, P p → p < l.length) : Up l (l ++ g) P := ⟨by rw [List.length_append]; omega, fun p hp => List.getElem?_append_left (hP p hp)⟩
/-- Those of P, and what is new. -/
def Pn (P : Nat → Prop) (l l' : List Obj) : Nat → Prop := fun p => P p ∨ (l.length ≤ p ∧ p < l'.length)
theorem Sd.ok {w : World} {P : Nat → Prop} {l : List Obj} {i s q : Nat} {M : Dk} (h : Sd w P l i s q M) : M.Ok := by
  obtain ⟨_, _, h, _⟩ := h
  exact h.ok
theorem St.disk {w : World} {P : Nat → Prop} {l : List Obj} {i s q jo : Nat} {J : Jn} {M : Dk} (h : St w P l i s q jo J M) : Sd w P l i s q M := by
  obtain ⟨vw, O, A, vt, h1, _, h3, _, _, h6⟩ := h
  exact ⟨vw, O, h1, h3, fun p hp => (h6 p hp).1⟩
theorem Sd.lt {w : World} {P : Nat → Prop} {l : List Obj} {i s q : Nat} {M : Dk} (h : Sd w P l i s q M) : ∀ p, P p → p < l.length := by
  obtain ⟨_, _, _, h2, h3⟩ := h
  exact fun p hp => h2 p (h3 p hp)
theorem Sd.mono {w : World} {P P' : Nat → Prop} {l : List Obj} {i s q : Nat} {M : Dk} (h : Sd w P l i s q M) (hP : ∀ p, P' p → P p) : Sd w P' l i s q M := by
  obtain ⟨vw, O, h1, h2, h3⟩ := h
  exact ⟨vw, O, h1, h2, fun p hp => h3 p (hP p hp)⟩
theorem St.mono {w : World} {P P' : Nat → Prop} {l : List Obj} {i s q jo : Nat} {J : Jn} {M : Dk} (h : St w P l i s q jo J M) (hP : ∀ p, P' p → P p) : St w P' l i s q jo J M := by
  obtain ⟨vw, O, A, vt, h1, h2, h3, h4, h5, h6⟩ := h
  exact ⟨vw, O, A, vt, h1, h2, h3, h4, h5, fun p hp => h6 p (hP p hp)⟩
theorem Sd.app {w : World} {P : Nat → Prop} {l : List Obj} {i s q : Nat} {M : Dk} (h : Sd w P l i s q M) (g : List Obj) : Sd w (Pn P l (l ++ g)) (l ++ g) i s q M := by
  obtain ⟨vw, O, h1, h2, h3⟩ := h
  refine ⟨vw, Pn O l (l ++ g), h1.keep fun p hp hlt => ⟨fun h' => h'.elim hp fun h'' => by omega, List.getElem?_append_left hlt⟩, fun p hp => hp.elim (fun h' => by rw [List.length_append]; have := h2 p h'; omega) fun h' => h'.2, fun p hp => hp.imp (h3 p) id⟩
theorem St.app {w : World} {P : Nat → Prop} {l : List Obj} {i s q jo : Nat} {J : Jn} {M : Dk} (h : St w P l i s q jo J M) (g : List Obj) : St w (Pn P l (l ++ g)) (l ++ g) i s q jo J M := by
  obtain ⟨vw, O, A, vt, h1, h2, h3, h4, h5, h6⟩ := h
  refine ⟨vw, Pn O l (l ++ g), A, vt, h1.keep fun p hp hlt => ⟨fun h' => h'.elim hp fun h'' => by omega, List.getElem?_append_left hlt⟩, ⟨app_some h2.cells, h2.row.more g, h2.jA, h2.ok⟩, fun p hp => hp.elim (fun h' => by rw [List.length_append]; have := h3 p h'; omega) fun h' => h'.2, .inl h4, fun p hp => .inl (h5 p hp), fun p hp => ?_⟩
  rcases hp with hp | hp
  · exact ⟨.inl (h6 p hp).1, (h6 p hp).2⟩
  · have hl := (List.getElem?_eq_some_iff.1 h2.cells).1
    exact ⟨.inr hp, fun ha => by have := h3 p (h5 p ha); omega, by omega⟩
/-- Room. -/
theorem room_st {w : World} {P : Nat → Prop} {l : List Obj} {i s q jo : Nat} {J : Jn} {M : Dk} (h : St w P l i s q jo J M) (d : Nat) :
    Calls Tryz.prog 56 #[.pointer (some ⟨w.heap.size + jo, 0, none⟩)] (Wd w l d) fun e w' => e = .returned (.int .i64 J.now.room) ∧ ∃ g' d', w' = Wd w (l ++ g') d' := by
  obtain ⟨vw, O, A, vt, h1, h2, _⟩ := h
  exact jroom_any w l d jo i A J vt h2
/-- Texts. -/
theorem texts_st {w : World} {P : Nat → Prop} {l : List Obj} {i s q jo : Nat} {J : Jn} {M : Dk} (h : St w P l i s q jo J M) (hs : ∀ t ∈ J.now.texts, t.length ≤ 1000000 ∧ B8 t) (d : Nat) :
    Calls Tryz.prog 44 #[.pointer (some ⟨w.heap.size + jo, 0, none⟩)] (Wd w l d) fun e w' => ∃ v g' d', e = .returned v ∧ w' = Wd w (l ++ g') d' ∧ RowV (fun p => l.length ≤ p) w (l ++ g') 1 J.now.texts.length v (strs J.now.texts) := by
  obtain ⟨vw, O, A, vt, h1, h2, _⟩ := h
  exact texts_any w l d jo i A J vt h2 hs
/-- What an operation of a journal leaves. -/
def OpQ (w : World) (P : Nat → Prop) (l : List Obj) (i s q jo : Nat) (r : Jn × Dk × Nat) (e : Ending) (w' : World) : Prop :=
  ∃ l' d', e = .returned (.int .i64 ((r.2.2 : Nat) : Int)) ∧ w' = Wd w l' d' ∧ St w P l' i s q jo r.1 r.2.1 ∧ Up l l' P
theorem opQ_of {w : World} {P : Nat → Prop} {l : List Obj} {i s q jo : Nat} {O A : Nat → Prop} {r : Jn × Dk × Nat} {e : Ending} {w' : World} (h : AppQ w l jo i s q O A r e w') (hO : ∀ p, O p → p < l.length) (hjO : O jo) (hAO : ∀ p, A p → O p) (hP : ∀ p, P p → O p ∧ ¬ A p ∧ p ≠ jo) : OpQ w P l i s q jo r e w' := by
  obtain ⟨l', d', vw', vt', O', he, hw, hD, hJ, hl, hk, hOO, hO'⟩ := h
  refine ⟨l', d', he, hw, ⟨vw', O', fun p => A p ∨ (l.length ≤ p ∧ O' p), vt', hD, hJ, hO', hOO _ hjO, fun p hp => hp.elim (fun ha => hOO p (hAO p ha)) fun h' => h'.2, fun p hp => ?_⟩, hl, fun p hp => hk p (hP p hp).1 (hP p hp).2.2 (hP p hp).2.1⟩
  have h1 := hP p hp
  exact ⟨hOO p h1.1, fun h' => h'.elim h1.2.1 fun h2 => by have := hO p h1.1; omega, h1.2.2⟩
theorem append_st {w : World} (hR : Sm.Roots w) {P : Nat → Prop} {l : List Obj} {i s q jo : Nat} {J : Jn} {M : Dk} (h : St w P l i s q jo J M) (t : ByteArray) (hc : M.count < 1000000000000) (d : Nat) :
    Calls Tryz.prog 34 #[.pointer (some ⟨w.heap.size + jo, 0, none⟩), .string t] (Wd w l d) fun e w' => OpQ w P l i s q jo (J.append M (bys t)) e w' := by
  obtain ⟨vw, O, A, vt, h1, h2, h3, h4, h5, h6⟩ := h
  exact (append_any w hR l d jo i s q vw O A J vt M h2 h1 h3 h4 h5 t hc).mono fun e w' hq => opQ_of hq h3 h4 h5 h6
theorem anew_st {w : World} (hR : Sm.Roots w) {P : Nat → Prop} {l : List Obj} {i s q jo : Nat} {J : Jn} {M : Dk} (h : St w P l i s q jo J M) (hfs : J.now.first ≤ J.now.size) (v : Value) (bs : List ByteArray) (hv : TxAt w l v bs) (hbs : bs.length ≤ 100000) (hc : M.count < 1000000000000) (d : Nat) :
    Calls Tryz.prog 63 #[.pointer (some ⟨w.heap.size + jo, 0, none⟩), v] (Wd w l d) fun e w' => OpQ w P l i s q jo (J.anew M (bs.map bys)) e w' := by
  obtain ⟨vw, O, A, vt, h1, h2, h3, h4, h5, h6⟩ := h
  exact (anew_any w hR l d jo i s q vw O A J vt M h2 h1 h3 h4 h5 hfs v bs hv hbs hc).mono fun e w' hq => opQ_of hq h3 h4 h5 h6
/-- Opened. -/
theorem open_st {w : World} (hR : Sm.Roots w) {P : Nat → Prop} {l : List Obj} {i s q : Nat} {M : Dk} (h : Sd w P l i s q M) (hl : Live M) (h8 : 8 ≤ M.n) (h2 : M.n % 2 = 0) {J : Jn} (hJ : openJ M = (some J, 0)) (d : Nat) :
    Calls Tryz.prog 24 #[.pointer (some ⟨w.heap.size + i, 0, none⟩)] (Wd w l d) fun e w' => ∃ jo g' d', e = .returned (.tuple #[.pointer (some ⟨w.heap.size + jo, 0, none⟩), .int .i64 0]) ∧ w' = Wd w (l ++ g') d' ∧ St w P (l ++ g') i s q jo J M := by
  obtain ⟨vw, O, k1, k2, k3⟩ := h
  refine (open_good w hR l d i s q vw O M k1 hl h8 h2).mono ?_
  rintro e w' ⟨g', d', rfl, hq⟩
  rw [hJ] at hq
  rcases hq with ⟨h0, _⟩ | ⟨J', jo, vt, h0, hjo, he, hJA⟩
  · cases h0
  · obtain rfl := Option.some.inj h0
    have hlj := (List.getElem?_eq_some_iff.1 hJA.cells).1
    refine ⟨jo, g', d', he, rfl, vw, Pn O l (l ++ g'), fun p => (l.length ≤ p ∧ p ≠ jo) ∧ p < (l ++ g').length, vt, k1.keep fun p hp hlt => ⟨fun h' => h'.elim hp fun h'' => by omega, List.getElem?_append_left hlt⟩, ⟨hJA.cells, hJA.row.mono fun p hp hlt => ⟨⟨hp, hlt⟩, rfl⟩, fun h' => h'.1.2 rfl, hJA.ok⟩, fun p hp => hp.elim (fun h' => by rw [List.length_append]; have := k2 p h'; omega) fun h' => h'.2, .inr ⟨hjo, hlj⟩, fun p hp => .inr ⟨hp.1.1, hp.2⟩, fun p hp => ?_⟩
    have := k2 p (k3 p hp)
    exact ⟨.inl (k3 p hp), fun h' => by omega, by omega⟩
/-- A new disk. -/
theorem new_st (w : World) (l : List Obj) (d n : Nat) (h1 : 1 ≤ n) (h2 : n ≤ 4096) : Calls Tryz.prog 23 #[.int .i64 (n : Int)] (Wd w l d) fun e w' => ∃ i s q g' d', e = .returned (.tuple #[.pointer (some ⟨w.heap.size + i, 0, none⟩), .int .i64 0]) ∧ w' = Wd w (l ++ g') d' ∧ Sd w (fun p => p < l.length) (l ++ g') i s q (newK n) ∧ i = l.length + 2 := by
  refine (new_any w l d n h1 h2 (fun p => p < l.length) fun p hp => hp).mono ?_
  rintro e w' ⟨i, s, q, l', d', vw, he, rfl, hD, hK, hi⟩
  have hp : ∀ p, p < l.length → l'[p]? = l[p]? := fun p hp => hK.2 p hp hp
  obtain ⟨g, rfl⟩ := prefix_of hp
  exact ⟨i, s, q, g, d', he, rfl, ⟨vw, _, hD, fun p hp => by rw [List.length_append]; omega, fun p hp => hp⟩, hi⟩
end Go.Proofs.YtlogjpmdfimgdaaGreatDoor.Jf
namespace Go.Proofs.YtlogjpmdfimgdaaGreatDoor.Jf
open Go Go.RowKit Go.Own.Jf
theorem TxAt.more {w : World} {l l' : List Obj} {v : Value} {bs : List ByteArray} (h : TxAt w l v bs) (hl : l.length ≤ l'.length) (hs : ∀ p, p < l.length → l'[p]? = l[p]?) : TxAt w l' v bs := by
  obtain ⟨q, c, hv, h⟩ := h
  refine ⟨q, c, hv, fun hb => ?_⟩
  obtain ⟨b, o, X, T, f, h1, h2, h3⟩ := h hb
  exact ⟨b, o, X, T, f, h1, fun L d hL => h2 L d fun p hp => (hL p (by omega)).trans (hs p hp), h3⟩
/-- A row of the call's own, as a row of texts. -/
theorem TxAt.row {A : Nat → Prop} {w : World} {l : List Obj} {n : Nat} {v : Value} {ts : List (List Nat)} (h : RowV A w l 1 n v (strs ts)) : TxAt w l v (ts.map mkS) := by
  have hn : n = ts.length := by have := h.length; rw [strs_length] at this; omega
  rcases h with ⟨rfl, h0, hC⟩ | ⟨i, c, X, t, _, rfl, hi, hX, hnc, hXt⟩
  · have : ts = [] := by
      cases ts with
      | nil => rfl
      | cons a r => simp [strs] at hC
    subst this
    exact ⟨none, 0, rfl, fun h => absurd rfl h⟩
  · refine ⟨some ⟨w.heap.size + i, 0, none⟩, c, by rw [List.length_map, ← hn], fun _ => ⟨w.heap.size + i, 0, X.toArray, t, (0, 0), rfl, fun L d hL => by rw [blk_at, hL i (List.getElem?_eq_some_iff.1 hi).1]; exact hi, fun k s hs => ?_⟩⟩
    have hk := (List.getElem?_eq_some_iff.1 hs).1
    rw [List.length_map] at hk
    have h2 : (strs ts)[k]? = some (.string s) := by
      unfold strs
      rw [List.getElem?_map] at hs ⊢
      cases hc : ts[k]? with
      | none => rw [hc] at hs; cases hs
      | some t => rw [hc] at hs; simp at hs; subst hs; rfl
    rw [← hXt, List.getElem?_take_of_lt (by omega)] at h2
    rw [Nat.zero_add, List.getElem?_toArray]; exact h2
/-- A journal stays, where only others' blocks change. -/
theorem St.other {w : World} {P : Nat → Prop} {l l' : List Obj} {i s q jo : Nat} {J : Jn} {M : Dk} (h : St w P l i s q jo J M) (hl : l.length ≤ l'.length) (hs : ∀ p, p < l.length → ¬ P p → l'[p]? = l[p]?) : St w P l' i s q jo J M := by
  obtain ⟨vw, O, A, vt, h1, h2, h3, h4, h5, h6⟩ := h
  have hj := (List.getElem?_eq_some_iff.1 h2.cells).1
  refine ⟨vw, O, A, vt, h1.keep fun p hp hlt => ⟨hp, hs p hlt fun h' => hp (h6 p h').1⟩, ⟨(hs jo hj fun h' => (h6 jo h').2.2 rfl).trans h2.cells, h2.row.mono fun p hp hlt => ⟨hp, hs p hlt fun h' => (h6 p h').2.1 hp⟩, h2.jA, h2.ok⟩, fun p hp => Nat.lt_of_lt_of_le (h3 p hp) hl, h4, h5, h6⟩
theorem write_sd {w : World} {P : Nat → Prop} {l : List Obj} {i s q : Nat} {M : Dk} (h : Sd w P l i s q M) (x : Int) (y : ByteArray) (hc : M.count < 1099511627776) (d : Nat) :
    Calls Tryz.prog 119 #[.pointer (some ⟨w.heap.size + i, 0, none⟩), .int .i64 x, .string y] (Wd w l d) fun e w' => ∃ l' d', e = .returned (.int .i64 (((M.write x (bys y)).2 : Nat) : Int)) ∧ w' = Wd w l' d' ∧ Sd w P l' i s q (M.write x (bys y)).1 ∧ Up l l' P := by
  obtain ⟨vw, O, h1, h2, h3⟩ := h
  refine (write_any w l d i s q vw O M x y h1 hc h2).mono ?_
  rintro e w' ⟨he, l', d', vw', rfl, hD, hK⟩
  exact ⟨l', d', he, rfl, ⟨vw', O, hD, fun p hp => Nat.lt_of_lt_of_le (h2 p hp) hK.1, h3⟩, hK.1, fun p hp => hK.2 p (h3 p hp) (h2 p (h3 p hp))⟩
theorem flush_sd {w : World} {P : Nat → Prop} {l : List Obj} {i s q : Nat} {M : Dk} (h : Sd w P l i s q M) (hc : M.count ≤ 1099511627776) (d : Nat) :
    Calls Tryz.prog 86 #[.pointer (some ⟨w.heap.size + i, 0, none⟩)] (Wd w l d) fun e w' => ∃ l' d', e = .returned (.int .i64 (((M.flush).2 : Nat) : Int)) ∧ w' = Wd w l' d' ∧ Sd w P l' i s q (M.flush).1 ∧ Up l l' P := by
  obtain ⟨vw, O, h1, h2, h3⟩ := h
  refine (flush_any w l d i s q vw O M h1 hc h2).mono ?_
  rintro e w' ⟨he, l', d', vw', rfl, hD, hK⟩
  exact ⟨l', d', he, rfl, ⟨vw', O, hD, fun p hp => Nat.lt_of_lt_of_le (h2 p hp) hK.1, h3⟩, hK.1, fun p hp => hK.2 p (h3 p hp) (h2 p (h3 p hp))⟩
attribute [-go_sem] Sm.execOp_bs run_string_add_if
attribute [local go_sem] agj9 isaj9 csj9 szj9 agj32 isaj32 csj32 szj32 ldX_mix1
set_option maxRecDepth 100000 in
theorem same_any (w : World) (l : List Obj) (d : Nat) (v1 v2 : Value) (bs : List ByteArray) (h1 : TxAt w l v1 bs) (h2 : TxAt w l v2 bs) (hn : bs.length ≤ 100000) :
    Calls Tryz.prog 12 #[v1, v2] (Wd w l d) fun e w' => e = .returned (.bool true) ∧ ∃ d', w' = Wd w l d' := by
  obtain ⟨q1, c1, rfl, h1⟩ := h1
  obtain ⟨q2, c2, rfl, h2⟩ := h2
  obtain ⟨n, hN⟩ : ∃ n, bs.length = n := ⟨_, rfl⟩
  rw [hN] at hn ⊢
  have H1 := Lib.hid h1
  have H2 := Lib.hid h2
  have HN := Lib.hid hN
  clear h1 h2 hN
  go_enter Tryz.func12, Tryz.ntmps12
  go_wp2_with fail
  go_loopw [5] (fun ix wr => ∃ (k d : Nat), k ≤ n ∧ ix = .int .i64 (k : Int) ∧ wr = Wd w l d) (fun ix _ => n - (intOf ix).toNat)
  case atStart => exact ⟨0, d, Nat.zero_le _, rfl, rfl⟩
  case round =>
    obtain ⟨k, d2, hk, rfl, rfl⟩ := hrel
    by_cases hlt : k < n
    · obtain ⟨s, hs⟩ : ∃ s, bs[k]? = some s := ⟨_, List.getElem?_eq_getElem (by rw [HN.out]; exact hlt)⟩
      have hne : bs ≠ [] := fun e => by rw [e] at hs; simp at hs
      obtain ⟨b1, o1, X1, T1, f1, rfl, k1, k2⟩ := H1.out hne
      obtain ⟨b2, o2, X2, T2, f2, rfl, k3, k4⟩ := H2.out hne
      have hx1 := k2 k s hs
      have hx2 := k4 k s hs
      have hb1 : ∀ d, blk (Wd w l d) b1 = some (.cells X1 T1 f1) := fun d => k1 l d fun _ _ => rfl
      have hb2 : ∀ d, blk (Wd w l d) b2 = some (.cells X2 T2 f2) := fun d => k3 l d fun _ _ => rfl
      have hki : (k : Int) < n := by omega
      clear k1 k2 k3 k4 hs hne H1 H2
      go_wp2_with fail
      go_region
      go_wp2
      go_roundw
      case rel => exact ⟨k + 1, _, by omega, by go_num, rfl⟩
      case measure => simp [intOf]; omega
    · obtain rfl : k = n := by omega
      go_wp2
      go_ret
      exact ⟨rfl, _, rfl⟩
end Go.Proofs.YtlogjpmdfimgdaaGreatDoor.Jf

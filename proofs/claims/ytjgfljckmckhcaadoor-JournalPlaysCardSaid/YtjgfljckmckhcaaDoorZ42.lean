/- A journal's texts, handed out: by contract. No condition but the sizes. | A disk, and a journal on it, among the call's own blocks: each operation by contract. No condition but that the disk counts little. | The law's own example, plainly: by the kernel. No condition. -/
import Derived.Test.YtjgfljckmckhcaaDoorZ33
import Derived.Test.YtjgfljckmckhcaaDoorZ41
import Derived.Test.YtjgfljckmckhcaaDoorZ19
namespace Go.Proofs.YtjgfljckmckhcaaDoor
open Go Go.RowKit Go.Own
attribute [-go_sem] Sm.execOp_bs run_string_add_if
theorem z9e : zeroOf Tryd.prog 9 = .string .empty := by kernel_rfl
theorem mkX_str {w : World} {l : List Obj} {d c : Nat} (hc : c ≤ 1000000) :
    mkX Tryd.prog 32 (.string .empty) w l d 0 (c : Int) = .ok (.slice (some ⟨w.heap.size + l.length, 0, none⟩) 0 c) (Wd w (l ++ [.cells (List.replicate c (Value.string .empty)).toArray 9 (0, 0)]) d) := by
  have h1 : (Tryd.prog.info? 9).map (fun i => (i.zero, i.size, i.bytes)) = some (some (.string .empty), 1, 16) := by kernel_rfl
  obtain ⟨i, hi, h1⟩ := Option.map_eq_some_iff.1 h1
  simp only [Prod.mk.injEq] at h1
  obtain ⟨hz, hs, hb⟩ := h1
  have hwc : IntKind.i64.wrap (c : Int) = (c : Int) := by rw [IntKind.wrap_i64]; omega
  have hw0 : IntKind.i64.wrap (0 : Int) = 0 := rfl
  have e1 : ¬ ((c : Int) < 0) := by omega
  simp [mkX, Instr.makeSlice, run_underlying Tryd.underlying32, asInt, asIntOf, typeInfo, hi, hb, hwc, hw0, e1, sizeOf, hs, zeroValue, hz, Value.cells, newRow, Nat.mod_one, Wd_size, Wd_alloc]
  rw [if_neg (by omega)]
  by_cases h0 : c = 0
  · subst h0
    rw [if_pos rfl]
    simp [Array.range_zero']
  · have hrow : (Array.range c).map (fun _ => Value.string .empty) = Array.replicate c (Value.string .empty) := by
      apply Array.ext'
      simp [List.map_const', Array.toList_range]
    rw [if_neg h0, hrow]
attribute [local go_sem] agj61 csj61 szj61 agj64 csj64 szj64 agj25 isaj25 csj25 szj25 agj9 isaj9 csj9 szj9 agj32 isaj32 csj32 szj32 ldJ4 ldX_mix1 z9e mkX_str bsj32s
set_option maxRecDepth 100000 in
set_option maxHeartbeats 2000000 in
theorem texts_any (w : World) (l : List Obj) (d jo i : Nat) (A : Nat → Prop) (J : Jn) (vt : Value) (h : JAt w l jo i A J vt) (hs : ∀ t ∈ J.now.texts, t.length ≤ 1000000 ∧ B8 t) :
    Calls Tryd.prog 14 #[.pointer (some ⟨w.heap.size + jo, 0, none⟩)] (Wd w l d) fun e w' => ∃ v g' d', e = .returned v ∧ w' = Wd w (l ++ g') d' ∧ RowV (fun p => l.length ≤ p) w (l ++ g') 1 J.now.texts.length v (strs J.now.texts) := by
  have hj := h.cells
  have hrow := h.row
  have hok := h.ok
  obtain ⟨n, hn⟩ : ∃ n, J.now.texts.length = n := ⟨_, rfl⟩
  have hnb : n ≤ 4096 := by have := hok.texts; have := hok.used; have := hok.size; omega
  have hn6 : n ≤ 1000000 := by omega
  obtain ⟨tq, tc, rfl⟩ := hrow.form
  rw [hn] at hj hrow ⊢
  have HROW := Lib.hid hrow
  have HN := Lib.hid hn
  have HS := Lib.hid hs
  have HJ := Lib.hid hj
  obtain ⟨fi, hfi⟩ : ∃ fi, J.now.first = fi := ⟨_, rfl⟩
  clear h hrow hn hs hok hfi
  go_enter Tryd.func14, Tryd.ntmps14
  have hjg : ∀ g', (l ++ g')[jo]? = _ := fun g' => app_some HJ.out
  go_wp2_with fail
  go_loopw [3, 19] (fun e ix wr => ∃ (k : Nat) (L : List Obj) (d : Nat), k ≤ n ∧ Hid (RowV (fun p => l.length ≤ p) w L 1 k e (strs (J.now.texts.take k))) ∧ ix = .int .i64 (k : Int) ∧ Hid (l.length ≤ L.length ∧ ∀ p, p < l.length → L[p]? = l[p]?) ∧ wr = Wd w L d) (fun _ i _ => n - (intOf i).toNat)
  case atStart =>
    refine ⟨0, _, _, Nat.zero_le _, Lib.hid (.inr ⟨l.length, n, List.replicate n (.string .empty), 9, Nat.le_refl _, rfl, by simp, by simp, Nat.zero_le _, rfl⟩), rfl, Lib.hid ⟨by simp, fun p hp => List.getElem?_append_left hp⟩, rfl⟩
  case round =>
    clear hj hjg
    obtain ⟨k, L, d2, hk, HR, rfl, HL, rfl⟩ := hrel
    by_cases hlt : k < n
    · obtain ⟨x, hx⟩ : ∃ x, J.now.texts[k]? = some x := ⟨_, List.getElem?_eq_getElem (by rw [HN.out]; exact hlt)⟩
      have hxs := HS.out x (List.mem_of_getElem? hx)
      have hbx : bys (mkS x) = x := bys_mkS _ hxs.2
      rcases HROW.out with ⟨_, h0, _⟩ | ⟨j, c, X, T, hAj, hv, hjX, hXl, hnc, hXt⟩
      · omega
      simp only [Value.slice.injEq] at hv
      obtain ⟨rfl, _, rfl⟩ := hv
      have hva : X.toArray[k]? = some (.string (mkS x)) := by
        have h2 : (strs J.now.texts)[k]? = some (.string (mkS x)) := by simp [strs, hx]
        rw [← hXt, List.getElem?_take_of_lt (by omega)] at h2
        rw [List.getElem?_toArray]; exact h2
      have hblk : ∀ d, blk (Wd w L d) (w.heap.size + j) = some (.cells X.toArray T (0, 0)) := fun d => by rw [blk_at, HL.out.2 j (List.getElem?_eq_some_iff.1 hjX).1]; exact hjX
      have hki : (k : Int) < n := by omega
      have HC := Lib.hid fun W => clone_any (mkS x) (by rw [mkS_size]; exact hxs.1) W
      have HX := Lib.hid hx
      clear hx hXt hXl hjX
      go_wp2_with fail
      refine (HC.out _).mono ?_
      rintro e w' ⟨rfl, g1, d3, rfl⟩
      rw [Wd_wd]
      have HR1 : Hid (RowV (fun p => l.length ≤ p) w (L ++ g1 ++ [.cells #[.string (mkS x)] 9 (0, 0)]) 1 k _ (strs (J.now.texts.take k))) := Lib.hid (RowV.more (RowV.more HR.out g1) _)
      have HLT : Hid (RowV (fun _ => True) w (L ++ g1 ++ [.cells #[.string (mkS x)] 9 (0, 0)]) 1 1 (.slice (some ⟨w.heap.size + (L ++ g1).length, 0, none⟩) 1 1) [.string (mkS x)]) := Lib.hid (.inr ⟨(L ++ g1).length, 1, [_], 9, trivial, rfl, by simp, rfl, Nat.le_refl _, rfl⟩)
      have HL1 : Hid (l.length ≤ (L ++ g1).length ∧ ∀ p, p < l.length → (L ++ g1)[p]? = l[p]?) := Lib.hid ⟨by have := HL.out.1; rw [List.length_append]; omega, fun p hp => by rw [List.getElem?_append_left (by have := HL.out.1; omega)]; exact HL.out.2 p hp⟩
      obtain ⟨L1, hL1⟩ : ∃ L1, L ++ g1 = L1 := ⟨_, rfl⟩
      rw [hL1] at HR1 HLT HL1 ⊢
      clear hL1 hblk hva
      go_wp2_with (refine wpList_row rfl (.tmp 23) (.tmp 26) 32 9 rfl rt32 (A := fun p => l.length ≤ p) (B := fun _ => True) (fun p hp => by have := HL1.out.1; first | omega | (rw [List.length_append] at hp; omega)) _ k (strs (J.now.texts.take k)) rfl HR1.out _ 1 [.string (mkS x)] rfl HLT.out (by intro u hu; rw [List.mem_singleton.1 hu]; rfl) (by omega) ?_)
      intro v3 l3 d4 HR3 HG3 HS3
      have HOF : Hid (l.length ≤ l3.length ∧ ∀ p, p < l.length → l3[p]? = l[p]?) := Lib.hid ⟨by have h1 := HG3.out; have h2 := HL1.out.1; first | omega | (rw [List.length_append] at h1; omega), fun p hp => by
        rw [HS3.out p (by have := HL1.out.1; first | omega | (rw [List.length_append]; omega)) (rowV_off HR1.out (by omega)), List.getElem?_append_left (by have := HL1.out.1; omega)]; exact HL1.out.2 p hp⟩
      have HT : Hid (strs (J.now.texts.take (k + 1)) = strs (J.now.texts.take k) ++ [.string (mkS x)]) := Lib.hid (by rw [List.take_add_one, HX.out]; simp [strs])
      go_wp2
      go_roundw
      case rel => exact ⟨k + 1, l3, d4, by omega, by rw [HT.out]; exact HR3, by go_num, HOF, rfl⟩
      case measure => simp [intOf]; omega
    · obtain rfl : k = n := by omega
      have hR := HR.out
      rw [List.take_of_length_le (by rw [HN.out]; exact Nat.le_refl _)] at hR
      have HR2 := Lib.hid hR
      clear hR
      go_wp2
      go_ret
      obtain ⟨g2, rfl⟩ := prefix_of HL.out.2
      exact ⟨_, g2, d2, rfl, rfl, HR2.out⟩
end Go.Proofs.YtjgfljckmckhcaaDoor
namespace Go.Proofs.YtjgfljckmckhcaaDoor
open Go Go.RowKit Go.Own
/-- A disk; the places that P allows are others'. -/
def Sd (w : World) (P : Nat → Prop) (l : List Obj) (i s q : Nat) (M : Dk) : Prop :=
  ∃ vw O, DAt w l i s q vw O M ∧ (∀ p, O p → p < l.length) ∧ ∀ p, P p → O p
/-- A disk and a journal on it. -/
def St (w : World) (P : Nat → Prop) (l : List Obj) (i s q jo : Nat) (J : Jn) (M : Dk) : Prop :=
  ∃ vw O A vt, DAt w l i s q vw O M ∧ JAt w l jo i A J vt ∧ (∀ p, O p → p < l.length) ∧ O jo ∧ (∀ p, A p → O p) ∧ ∀ p, P p → O p ∧ ¬ A p ∧ p ≠ jo
def Up (l l' : List Obj) (P : Nat → Prop) : Prop := l.length ≤ l'.length ∧ ∀ p, P p → l'[p]? = l[p]?
theorem Up.trans {l l' l'' : List Obj} {P : Nat → Prop} (h : Up l l' P) (k : Up l' l'' P) : Up l l'' P := ⟨Nat.le_trans h.1 k.1, fun p hp => (k.2 p hp).trans (h.2 p hp)⟩
theorem Up.app (l g : List Obj) {P : Nat → Prop} (hP : ∀ p, P p → p < l.length) : Up l (l ++ g) P := ⟨by rw [List.length_append]; omega, fun p hp => List.getElem?_append_left (hP p hp)⟩
/-- Those of P, and what is new. -/
def Pn (P : Nat → Prop) (l l' : List Obj) : Nat → Prop := fun p => P p ∨ (l.length ≤ p ∧ p < l'.length)
theorem Sd.ok {w : World} {P : Nat → Prop} {l : List Obj} {i s q : Nat} {M : Dk} (h : Sd w P l i s q M) : M.Ok := by
  obtain ⟨_, _, h, _⟩ := h
  exact h.ok
theorem St.disk {w : World} {P : Nat → Prop} {l : List Obj} {i s q jo : Nat} {J : Jn} {M : Dk} (h : St w P l i s q jo J M) : Sd w P l i s q M := by
  obtain ⟨vw, O, A, vt, h1, _, h3, _, _, h6⟩ := h
  exact ⟨vw, O, h1, h3, fun p hp => (h6 p hp).1⟩
theorem Sd.lt {w : World} {P : Nat → Prop} {l : List Obj} {i s q : Nat} {M : Dk} (h : Sd w P l i s q M) : ∀ p, P p → p < l.length := by
  obtain ⟨_, _, _, h2, h3⟩ := h
  exact fun p hp => h2 p (h3 p hp)
theorem Sd.mono {w : World} {P P' : Nat → Prop} {l : List Obj} {i s q : Nat} {M : Dk} (h : Sd w P l i s q M) (hP : ∀ p, P' p → P p) : Sd w P' l i s q M := by
  obtain ⟨vw, O, h1, h2, h3⟩ := h
  exact ⟨vw, O, h1, h2, fun p hp => h3 p (hP p hp)⟩
theorem St.mono {w : World} {P P' : Nat → Prop} {l : List Obj} {i s q jo : Nat} {J : Jn} {M : Dk} (h : St w P l i s q jo J M) (hP : ∀ p, P' p → P p) : St w P' l i s q jo J M := by
  obtain ⟨vw, O, A, vt, h1, h2, h3, h4, h5, h6⟩ := h
  exact ⟨vw, O, A, vt, h1, h2, h3, h4, h5, fun p hp => h6 p (hP p hp)⟩
theorem Sd.app {w : World} {P : Nat → Prop} {l : List Obj} {i s q : Nat} {M : Dk} (h : Sd w P l i s q M) (g : List Obj) : Sd w (Pn P l (l ++ g)) (l ++ g) i s q M := by
  obtain ⟨vw, O, h1, h2, h3⟩ := h
  refine ⟨vw, Pn O l (l ++ g), h1.keep fun p hp hlt => ⟨fun h' => h'.elim hp fun h'' => by omega, List.getElem?_append_left hlt⟩, fun p hp => hp.elim (fun h' => by rw [List.length_append]; have := h2 p h'; omega) fun h' => h'.2, fun p hp => hp.imp (h3 p) id⟩
theorem St.app {w : World} {P : Nat → Prop} {l : List Obj} {i s q jo : Nat} {J : Jn} {M : Dk} (h : St w P l i s q jo J M) (g : List Obj) : St w (Pn P l (l ++ g)) (l ++ g) i s q jo J M := by
  obtain ⟨vw, O, A, vt, h1, h2, h3, h4, h5, h6⟩ := h
  refine ⟨vw, Pn O l (l ++ g), A, vt, h1.keep fun p hp hlt => ⟨fun h' => h'.elim hp fun h'' => by omega, List.getElem?_append_left hlt⟩, ⟨app_some h2.cells, h2.row.more g, h2.jA, h2.ok⟩, fun p hp => hp.elim (fun h' => by rw [List.length_append]; have := h3 p h'; omega) fun h' => h'.2, .inl h4, fun p hp => .inl (h5 p hp), fun p hp => ?_⟩
  rcases hp with hp | hp
  · exact ⟨.inl (h6 p hp).1, (h6 p hp).2⟩
  · have hl := (List.getElem?_eq_some_iff.1 h2.cells).1
    exact ⟨.inr hp, fun ha => by have := h3 p (h5 p ha); omega, by omega⟩
/-- Room. -/
theorem room_st {w : World} {P : Nat → Prop} {l : List Obj} {i s q jo : Nat} {J : Jn} {M : Dk} (h : St w P l i s q jo J M) (d : Nat) :
    Calls Tryd.prog 15 #[.pointer (some ⟨w.heap.size + jo, 0, none⟩)] (Wd w l d) fun e w' => e = .returned (.int .i64 J.now.room) ∧ ∃ g' d', w' = Wd w (l ++ g') d' := by
  obtain ⟨vw, O, A, vt, h1, h2, _⟩ := h
  exact jroom_any w l d jo i A J vt h2
/-- Texts. -/
theorem texts_st {w : World} {P : Nat → Prop} {l : List Obj} {i s q jo : Nat} {J : Jn} {M : Dk} (h : St w P l i s q jo J M) (hs : ∀ t ∈ J.now.texts, t.length ≤ 1000000 ∧ B8 t) (d : Nat) :
    Calls Tryd.prog 14 #[.pointer (some ⟨w.heap.size + jo, 0, none⟩)] (Wd w l d) fun e w' => ∃ v g' d', e = .returned v ∧ w' = Wd w (l ++ g') d' ∧ RowV (fun p => l.length ≤ p) w (l ++ g') 1 J.now.texts.length v (strs J.now.texts) := by
  obtain ⟨vw, O, A, vt, h1, h2, _⟩ := h
  exact texts_any w l d jo i A J vt h2 hs
/-- What an operation of a journal leaves. -/
def OpQ (w : World) (P : Nat → Prop) (l : List Obj) (i s q jo : Nat) (r : Jn × Dk × Nat) (e : Ending) (w' : World) : Prop :=
  ∃ l' d', e = .returned (.int .i64 ((r.2.2 : Nat) : Int)) ∧ w' = Wd w l' d' ∧ St w P l' i s q jo r.1 r.2.1 ∧ Up l l' P
theorem opQ_of {w : World} {P : Nat → Prop} {l : List Obj} {i s q jo : Nat} {O A : Nat → Prop} {r : Jn × Dk × Nat} {e : Ending} {w' : World} (h : AppQ w l jo i s q O A r e w') (hO : ∀ p, O p → p < l.length) (hjO : O jo) (hAO : ∀ p, A p → O p) (hP : ∀ p, P p → O p ∧ ¬ A p ∧ p ≠ jo) : OpQ w P l i s q jo r e w' := by
  obtain ⟨l', d', vw', vt', O', he, hw, hD, hJ, hl, hk, hOO, hO'⟩ := h
  refine ⟨l', d', he, hw, ⟨vw', O', fun p => A p ∨ (l.length ≤ p ∧ O' p), vt', hD, hJ, hO', hOO _ hjO, fun p hp => hp.elim (fun ha => hOO p (hAO p ha)) fun h' => h'.2, fun p hp => ?_⟩, hl, fun p hp => hk p (hP p hp).1 (hP p hp).2.2 (hP p hp).2.1⟩
  have h1 := hP p hp
  exact ⟨hOO p h1.1, fun h' => h'.elim h1.2.1 fun h2 => by have := hO p h1.1; omega, h1.2.2⟩
theorem append_st {w : World} (hR : Sm.Roots w) {P : Nat → Prop} {l : List Obj} {i s q jo : Nat} {J : Jn} {M : Dk} (h : St w P l i s q jo J M) (t : ByteArray) (hc : M.count < 1000000000000) (d : Nat) :
    Calls Tryd.prog 19 #[.pointer (some ⟨w.heap.size + jo, 0, none⟩), .string t] (Wd w l d) fun e w' => OpQ w P l i s q jo (J.append M (bys t)) e w' := by
  obtain ⟨vw, O, A, vt, h1, h2, h3, h4, h5, h6⟩ := h
  exact (append_any w hR l d jo i s q vw O A J vt M h2 h1 h3 h4 h5 t hc).mono fun e w' hq => opQ_of hq h3 h4 h5 h6
theorem anew_st {w : World} (hR : Sm.Roots w) {P : Nat → Prop} {l : List Obj} {i s q jo : Nat} {J : Jn} {M : Dk} (h : St w P l i s q jo J M) (hfs : J.now.first ≤ J.now.size) (v : Value) (bs : List ByteArray) (hv : TxAt w l v bs) (hbs : bs.length ≤ 100000) (hc : M.count < 1000000000000) (d : Nat) :
    Calls Tryd.prog 20 #[.pointer (some ⟨w.heap.size + jo, 0, none⟩), v] (Wd w l d) fun e w' => OpQ w P l i s q jo (J.anew M (bs.map bys)) e w' := by
  obtain ⟨vw, O, A, vt, h1, h2, h3, h4, h5, h6⟩ := h
  exact (anew_any w hR l d jo i s q vw O A J vt M h2 h1 h3 h4 h5 hfs v bs hv hbs hc).mono fun e w' hq => opQ_of hq h3 h4 h5 h6
/-- Opened. -/
theorem open_st {w : World} (hR : Sm.Roots w) {P : Nat → Prop} {l : List Obj} {i s q : Nat} {M : Dk} (h : Sd w P l i s q M) (hl : Live M) (h8 : 8 ≤ M.n) (h2 : M.n % 2 = 0) {J : Jn} (hJ : openJ M = (some J, 0)) (d : Nat) :
    Calls Tryd.prog 9 #[.pointer (some ⟨w.heap.size + i, 0, none⟩)] (Wd w l d) fun e w' => ∃ jo g' d', e = .returned (.tuple #[.pointer (some ⟨w.heap.size + jo, 0, none⟩), .int .i64 0]) ∧ w' = Wd w (l ++ g') d' ∧ St w P (l ++ g') i s q jo J M := by
  obtain ⟨vw, O, k1, k2, k3⟩ := h
  refine (open_good w hR l d i s q vw O M k1 hl h8 h2).mono ?_
  rintro e w' ⟨g', d', rfl, hq⟩
  rw [hJ] at hq
  rcases hq with ⟨h0, _⟩ | ⟨J', jo, vt, h0, hjo, he, hJA⟩
  · cases h0
  · obtain rfl := Option.some.inj h0
    have hlj := (List.getElem?_eq_some_iff.1 hJA.cells).1
    refine ⟨jo, g', d', he, rfl, vw, Pn O l (l ++ g'), fun p => (l.length ≤ p ∧ p ≠ jo) ∧ p < (l ++ g').length, vt, k1.keep fun p hp hlt => ⟨fun h' => h'.elim hp fun h'' => by omega, List.getElem?_append_left hlt⟩, ⟨hJA.cells, hJA.row.mono fun p hp hlt => ⟨⟨hp, hlt⟩, rfl⟩, fun h' => h'.1.2 rfl, hJA.ok⟩, fun p hp => hp.elim (fun h' => by rw [List.length_append]; have := k2 p h'; omega) fun h' => h'.2, .inr ⟨hjo, hlj⟩, fun p hp => .inr ⟨hp.1.1, hp.2⟩, fun p hp => ?_⟩
    have := k2 p (k3 p hp)
    exact ⟨.inl (k3 p hp), fun h' => by omega, by omega⟩
/-- A new disk. -/
theorem new_st (w : World) (l : List Obj) (d n : Nat) (h1 : 1 ≤ n) (h2 : n ≤ 4096) : Calls Tryd.prog 8 #[.int .i64 (n : Int)] (Wd w l d) fun e w' => ∃ i s q g' d', e = .returned (.tuple #[.pointer (some ⟨w.heap.size + i, 0, none⟩), .int .i64 0]) ∧ w' = Wd w (l ++ g') d' ∧ Sd w (fun p => p < l.length) (l ++ g') i s q (newK n) := by
  refine (new_any w l d n h1 h2 (fun p => p < l.length) fun p hp => hp).mono ?_
  rintro e w' ⟨i, s, q, l', d', vw, he, rfl, hD, hK⟩
  have hp : ∀ p, p < l.length → l'[p]? = l[p]? := fun p hp => hK.2 p hp hp
  obtain ⟨g, rfl⟩ := prefix_of hp
  exact ⟨i, s, q, g, d', he, rfl, vw, _, hD, fun p hp => by rw [List.length_append]; omega, fun p hp => hp⟩
end Go.Proofs.YtjgfljckmckhcaaDoor
namespace Go.Proofs.YtjgfljckmckhcaaDoor
open Go.RowKit Go.Own
def one3 : List Nat := [111, 110, 101]
def two3 : List Nat := [116, 119, 111]
def all3 : List Nat := [97, 108, 108]
def lost4 : List Nat := [108, 111, 115, 116]
def awk1 : Jn × Dk × Nat := (⟨⟨0, 8, 0, 0, []⟩, false⟩ : Jn).append (newK 16) one3
def awk2 : Jn × Dk × Nat := awk1.1.append awk1.2.1 two3
def awk3 : Jn × Dk × Nat := awk2.1.anew awk2.2.1 [all3]
def awk4 : Jn × Dk × Nat := awk3.1.append (awk3.2.1.arm 2 0 0) lost4
def awkB : Bool :=
  (match (openJ (newK 16)).1 with | none => false | some j => decide (j.now.texts = [] ∧ j.now.room = 462 ∧ j.now.gen = 0 ∧ j.now.used = 0 ∧ j.now.first = 0 ∧ j.now.size = 8 ∧ j.off = false)) && decide ((openJ (newK 16)).2 = 0) &&
  decide (awk1.2.2 = 0) && decide (awk2.2.2 = 0) && decide (awk3.2.2 = 0) && decide (awk4.2.2 = 7) && decide (awk4.1.now.texts = []) &&
  decide ((openJ awk4.2.1.start).2 = 0) && (match (openJ awk4.2.1.start).1 with | none => false | some j => decide (j.now.texts = [all3]))
end Go.Proofs.YtjgfljckmckhcaaDoor

/- Rows of steps, and rows of such rows, in whatever has grown: what makes them, what joins them. No condition but the sizes. | A journal in memory; its room; a text more: by contract. No condition but the sizes. | A text more, all ways: by contract. No condition but that the disk counts little. -/
import Derived.Test.YtlogjpmdfimgdaaGreatDoorZ22
namespace Go.Proofs.YtlogjpmdfimgdaaGreatDoor.Jf
open Go Go.RowKit Go.Own.Jf
def srB (w : World) (B i : Nat) (ss : List Stp) (v : Value) (W : World) : Prop := ∃ vs L d, W = Wd w L d ∧ B ≤ L.length ∧ RowV (fun p => B ≤ p) w L 1 ss.length v vs ∧ Steps w L (fun p => B ≤ p) i vs ss
theorem srB_last (w : World) (B i : Nat) (ss : List Stp) : Lasts (srB w B i ss) := by
  rintro v W W' ⟨vs, L, d, rfl, hb, hr, hs⟩ hB
  obtain ⟨g, d', rfl⟩ := below_grows hB
  exact ⟨vs, L ++ g, d', rfl, by rw [List.length_append]; omega, hr.more g, hs.mono fun p hp hlt => ⟨hp, List.getElem?_append_left hlt⟩⟩
def rrB (w : World) (B i : Nat) (sss : List (List Stp)) (v : Value) (W : World) : Prop :=
  ∃ (b cap : Nat) (X : List Value) (T : TypeId) (css : List (List Value)) (L : List Obj) (d : Nat), W = Wd w L d ∧ B ≤ L.length ∧ B ≤ b ∧ v = .slice (some ⟨w.heap.size + b, 0, none⟩) sss.length cap ∧ L[b]? = some (.cells X.toArray T (0, 0)) ∧ sss.length ≤ X.length ∧ css.length = sss.length ∧
    ∀ (k : Nat) x vs ss, X[k]? = some x → css[k]? = some vs → sss[k]? = some ss → RowV (fun p => B ≤ p) w L 1 vs.length x vs ∧ Steps w L (fun p => B ≤ p) i vs ss
theorem rrB_last (w : World) (B i : Nat) (sss : List (List Stp)) : Lasts (rrB w B i sss) := by
  rintro v W W' ⟨b, cap, X, T, css, L, d, rfl, hb, hb2, hv, hx, hl, hcl, hr⟩ hB
  obtain ⟨g, d', rfl⟩ := below_grows hB
  refine ⟨b, cap, X, T, css, L ++ g, d', rfl, by rw [List.length_append]; omega, hb2, hv, app_some hx, hl, hcl, fun k x vs ss h1 h2 h3 => ?_⟩
  have := hr k x vs ss h1 h2 h3
  exact ⟨this.1.more g, this.2.mono fun p hp hlt => ⟨hp, List.getElem?_append_left hlt⟩⟩
theorem Steps.flatten {w : World} {L : List Obj} {A : Nat → Prop} {i : Nat} : ∀ (css : List (List Value)) (sss : List (List Stp)), css.length = sss.length → (∀ (k : Nat) vs ss, css[k]? = some vs → sss[k]? = some ss → Steps w L A i vs ss) → Steps w L A i css.flatten sss.flatten
  | [], [], _, _ => Steps.nil _ _ _ _
  | vs :: css, ss :: sss, hl, h => by
    rw [List.flatten_cons, List.flatten_cons]
    exact (h 0 vs ss rfl rfl).append (Steps.flatten css sss (by simpa using hl) fun k vs ss h1 h2 => h (k + 1) vs ss h1 h2)
  | [], _ :: _, hl, _ => by cases hl
  | _ :: _, [], hl, _ => by cases hl
theorem below_of (w : World) (L g : List Obj) (d d' : Nat) : Below (Wd w L d).heap.size (Wd w L d) (Wd w (L ++ g) d') := by
  have := (Grows.of (Wd w L d) g d').below
  rwa [Wd_wd] at this
theorem sr_of {w : World} {B i : Nat} {ss : List Stp} {v : Value} {vs : List Value} {L g : List Obj} {d : Nat} (hB : B ≤ L.length) (hr : RowV (fun p => L.length ≤ p) w (L ++ g) 1 vs.length v vs) (hs : Steps w (L ++ g) (fun p => L.length ≤ p) i vs ss) : srB w B i ss v (Wd w (L ++ g) d) :=
  ⟨vs, L ++ g, d, rfl, by rw [List.length_append]; omega, by rw [← hs.1]; exact hr.mono fun p hp _ => ⟨by omega, rfl⟩, hs.mono fun p hp _ => ⟨by omega, rfl⟩⟩
/-- Rows joined. -/
theorem concat_rr (w : World) (W : World) (B i : Nat) (sss : List (List Stp)) (v : Value) (h : rrB w B i sss v W) (hb : sss.flatten.length ≤ 500000) (hn : sss.length ≤ 500000) :
    Calls Tryz.prog 59 #[v] W fun e W' => ∃ v', e = .returned v' ∧ Below W.heap.size W W' ∧ srB w B i sss.flatten v' W' := by
  obtain ⟨b, cap, X, T, css, L, d, rfl, hB, hb2, rfl, hx, hl, hcl, hr⟩ := h
  have hs : Steps w L (fun p => B ≤ p) i css.flatten sss.flatten := Steps.flatten css sss hcl fun k vs ss h1 h2 => by
    have hk := (List.getElem?_eq_some_iff.1 h1).1
    exact (hr k _ vs ss (List.getElem?_eq_getElem (by omega)) h1 h2).2
  refine (concat_any w L d b sss.length cap X T css hx ⟨hcl, hl, fun k x C h1 h2 => ?_⟩ css.flatten.length rfl (by rw [hs.1]; exact hb) hn).mono ?_
  · have hk := (List.getElem?_eq_some_iff.1 h2).1
    have h3 : sss[k]? = some (sss[k]'(by omega)) := List.getElem?_eq_getElem _
    have := hr k x C _ h1 h2 h3
    exact ⟨this.1.mono fun p _ _ => ⟨trivial, rfl⟩, this.2.one⟩
  · rintro e W' ⟨v', g', d', he, rfl, hR⟩
    exact ⟨v', he, below_of _ _ _ _ _, css.flatten, L ++ g', d', rfl, by rw [List.length_append]; omega, by rw [← hs.1]; exact hR.mono fun p hp _ => ⟨by omega, rfl⟩, hs.mono fun p hp hlt => ⟨hp, List.getElem?_append_left hlt⟩⟩
theorem laying_sr (w : World) (hR : Sm.Roots w) (W : World) (L : List Obj) (d : Nat) (hW : W = Wd w L d) (B i fi n g u c : Nat) (hB : B ≤ L.length) (q : Option Addr) (ts : List (List Nat)) (t : ByteArray) (ht : t.size ≤ 65535) (hts : ts.length ≤ 100000) (hfi : fi ≤ 100000) (hu : u ≤ 100000) :
    Calls Tryz.prog 61 #[.agg (hcl (.pointer (some ⟨w.heap.size + i, 0, none⟩)) fi n g (.slice q ts.length c) u), .string t] W fun e W' => ∃ v', e = .returned v' ∧ Below W.heap.size W W' ∧ srB w B i ((⟨fi, n, g, u, ts⟩ : Hf).laying (bys t)) v' W' := by
  subst hW
  refine (laying_any w hR L d i fi n g u c q ts t ht hts hfi hu).mono ?_
  rintro e W' ⟨v, vs, g', d', he, rfl, hr, hs⟩
  exact ⟨v, he, below_of _ _ _ _ _, sr_of hB hr hs⟩
theorem ending_sr (w : World) (W : World) (L : List Obj) (d : Nat) (hW : W = Wd w L d) (B i fi n g u : Nat) (hB : B ≤ L.length) (vt : Value) (hu : u ≤ n) (hn : n ≤ 100000) (hfi : fi ≤ 100000) (ts : List (List Nat)) :
    Calls Tryz.prog 60 #[.agg (hcl (.pointer (some ⟨w.heap.size + i, 0, none⟩)) fi n g vt u)] W fun e W' => ∃ v', e = .returned v' ∧ Below W.heap.size W W' ∧ srB w B i (⟨fi, n, g, u, ts⟩ : Hf).ending v' W' := by
  subst hW
  refine (ending_any w L d i fi n g u vt hu hn hfi ts).mono ?_
  rintro e W' ⟨v, vs, g', d', he, rfl, hr, hs⟩
  exact ⟨v, he, below_of _ _ _ _ _, sr_of hB (by rw [hs.1]; exact hr) hs⟩
set_option maxRecDepth 100000 in
/-- A literal row of two rows. -/
theorem lays_rr2 {dst : Option Tmp} {ty : TypeId} {pos : String} {after : Array Edge} {guard : Option (Nat × Bool)} {x y : Operand} {W : World} {j : Nat} {ps : List (Value → World → Prop)} {a : Act} {w : World} {B i : Nat} {s1 s2 : List Stp}
    (h1 : srB w B i s1 (a.eval x) W) (h2 : srB w B i s2 (a.eval y) W) (hT : ∀ u W, rrB w B i [s1, s2] u W → TL ps j u W) : Lays Tryz.prog (TL ps) j { dst, op := .buildSlice 160 2 #[(0, x), (1, y)], type := ty, pos, after, guard } a W := by
  obtain ⟨v1, L, d, rfl, hb, r1, t1⟩ := h1
  obtain ⟨v2, L', d', e, _, r2, t2⟩ := h2
  obtain rfl := Wd_inj e
  have hbs := bsj842 (RowV.one r1) (RowV.one r2) w L d
  unfold bsN at hbs
  have he : (execOp a.eval { dst, op := .buildSlice 160 2 #[(0, x), (1, y)], type := ty, pos, after, guard }).run Tryz.prog (Wd w L d) = .ok (.value (.slice (some ⟨w.heap.size + L.length, 0, none⟩) 2 2)) (Wd w (L ++ [.cells #[a.eval x, a.eval y] 129 (0, 0)]) d) := by
    unfold execOp
    simp only [List.map_toArray, List.map_cons, List.map_nil, Sem.run_bind, hbs, Result.andThen_ok]
    rfl
  refine lays_value he (below_of _ _ _ _ _) (hT _ _ ⟨L.length, 2, [a.eval x, a.eval y], 129, [v1, v2], _, d, rfl, by rw [List.length_append]; omega, hb, rfl, by simp, Nat.le_refl _, rfl, fun k z vs ss hx hv hs => ?_⟩)
  match k, hx, hv, hs with
  | 0, hx, hv, hs =>
    simp at hx hv hs; subst hx; subst hv; subst hs
    exact ⟨by rw [t1.1]; exact RowV.more r1 _, t1.mono fun p hp hlt => ⟨hp, List.getElem?_append_left hlt⟩⟩
  | 1, hx, hv, hs =>
    simp at hx hv hs; subst hx; subst hv; subst hs
    exact ⟨by rw [t2.1]; exact RowV.more r2 _, t2.mono fun p hp hlt => ⟨hp, List.getElem?_append_left hlt⟩⟩
  | k + 2, hx, _, _ => simp at hx
end Go.Proofs.YtlogjpmdfimgdaaGreatDoor.Jf
namespace Go.Proofs.YtlogjpmdfimgdaaGreatDoor.Jf
open Go Go.RowKit Go.Own.Jf
/-- The sizes of a journal. -/
structure Jn.Ok (J : Jn) : Prop where
  first : J.now.first ≤ 4096
  size : J.now.size ≤ 4096
  used : J.now.used ≤ J.now.size
  texts : J.now.texts.length ≤ J.now.used
  gen : J.now.gen ≤ 1099511627776
theorem down_length (h : Hf) (y : List Nat) : ∀ c, (h.down y c).length = c + 2
  | 0 => rfl
  | c + 1 => by
    show (_ :: h.down y c).length = _
    rw [List.length_cons, down_length h y c]
theorem laying_length (h : Hf) (t : List Nat) (ht : t.length ≤ 65535) : (h.laying t).length ≤ 1030 := by
  unfold Hf.laying
  rw [List.length_append, down_length, laid_length, List.length_singleton]
  omega
theorem ending_length (h : Hf) : h.ending.length ≤ 1 := by unfold Hf.ending; split <;> simp
/-- A journal in memory, at place jo, of the disk at place i; its texts' row lies where A allows. -/
structure JAt (w : World) (l : List Obj) (jo i : Nat) (A : Nat → Prop) (J : Jn) (vt : Value) : Prop where
  cells : l[jo]? = some (.cells (jcl (.pointer (some ⟨w.heap.size + i, 0, none⟩)) J.now.first J.now.size J.now.gen vt J.now.used J.off) 110 (0, 0))
  row : RowV A w l 1 J.now.texts.length vt (strs J.now.texts)
  jA : ¬ A jo
  ok : J.Ok
attribute [-go_sem] Sm.execOp_bs run_string_add_if
attribute [local go_sem] agj61 csj61 szj61 agj64 csj64 szj64 agj25 isaj25 csj25 szj25 agj9 isaj9 csj9 szj9 agj38 isaj38 csj38 szj38 ldJA ldJ6 sz4 isa4 ag4 zj61 alXA ldH3 ldHA stH3 stHAp
set_option maxRecDepth 100000 in
theorem jroom_any (w : World) (l : List Obj) (d jo i : Nat) (A : Nat → Prop) (J : Jn) (vt : Value) (h : JAt w l jo i A J vt) :
    Calls Tryz.prog 56 #[.pointer (some ⟨w.heap.size + jo, 0, none⟩)] (Wd w l d) fun e w' => e = .returned (.int .i64 J.now.room) ∧ ∃ g' d', w' = Wd w (l ++ g') d' := by
  have hj := h.cells
  have HR := Lib.hid fun W => room_any (.pointer (some ⟨w.heap.size + i, 0, none⟩)) vt J.now.first J.now.size J.now.gen J.now.used (by have := h.ok.size; omega) (by have := h.ok.size; have := h.ok.used; omega) W
  clear h
  go_enter Tryz.func56, Tryz.ntmps56
  go_wp2_with fail
  refine (HR.out _).mono ?_
  rintro e w' ⟨rfl, g', d', rfl⟩
  rw [Wd_wd]
  go_wp2
  go_ret
  exact ⟨rfl, _, _, rfl⟩
/-- What an append leaves. -/
def AppQ (w : World) (l : List Obj) (jo i sd q : Nat) (O A : Nat → Prop) (r : Jn × Dk × Nat) (e : Ending) (w' : World) : Prop :=
  ∃ l' d' vw' vt' O', e = .returned (.int .i64 ((r.2.2 : Nat) : Int)) ∧ w' = Wd w l' d' ∧ DAt w l' i sd q vw' O' r.2.1 ∧ JAt w l' jo i (fun p => A p ∨ (l.length ≤ p ∧ O' p)) r.1 vt' ∧ l.length ≤ l'.length ∧ (∀ p, O p → p ≠ jo → ¬ A p → l'[p]? = l[p]?) ∧ (∀ p, O p → O' p) ∧ ∀ p, O' p → p < l'.length
set_option maxRecDepth 100000 in
set_option maxHeartbeats 8000000 in
theorem append_on (w : World) (hR : Sm.Roots w) (l : List Obj) (d jo i sd q : Nat) (vw : Value) (O A : Nat → Prop) (J : Jn) (vt : Value) (M : Dk) (h : JAt w l jo i A J vt) (hD : DAt w l i sd q vw O M) (hO : ∀ p, O p → p < l.length) (hjO : O jo) (hAO : ∀ p, A p → O p) (t : ByteArray) (ht : (t.size : Int) ≤ J.now.room) (hoff : J.off = false) (hc : M.count < 1000000000000) :
    Calls Tryz.prog 34 #[.pointer (some ⟨w.heap.size + jo, 0, none⟩), .string t] (Wd w l d) fun e w' => AppQ w l jo i sd q O A (J.append M (bys t)) e w' := by
  obtain ⟨now, off⟩ := J
  obtain ⟨fi, n, g, u, ts⟩ := now
  obtain rfl : off = false := hoff
  have hj := h.cells
  have hok := h.ok
  obtain ⟨tq, tc, rfl⟩ := h.row.form
  have HJR := Lib.hid fun d => jroom_any w l d jo i A _ _ h
  have ht2 : t.size ≤ 65535 := by
    have h2 : (t.size : Int) ≤ min 65535 (((n : Int) - u) * 64 - 50) := ht
    omega
  have hfit : u + secs t.size ≤ n := by
    have h2 : (t.size : Int) ≤ min 65535 (((n : Int) - u) * 64 - 50) := ht
    unfold secs; omega
  obtain ⟨rm, hrm⟩ : ∃ rm, (⟨fi, n, g, u, ts⟩ : Hf).room = rm := ⟨_, rfl⟩
  have hroom : (t.size : Int) ≤ (⟨fi, n, g, u, ts⟩ : Hf).room := ht
  have ht' : ¬ (rm < (t.size : Int)) := by
    have : (t.size : Int) ≤ (⟨fi, n, g, u, ts⟩ : Hf).room := ht
    omega
  have HJR2 : Hid (∀ d, Calls Tryz.prog 56 #[.pointer (some ⟨w.heap.size + jo, 0, none⟩)] (Wd w l d) fun e w' => e = .returned (.int .i64 rm) ∧ ∃ g' d', w' = Wd w (l ++ g') d') := Lib.hid (by rw [← hrm]; exact HJR.out)
  simp only at hj
  have hfi : fi ≤ 4096 := hok.first
  have hn : n ≤ 4096 := hok.size
  have hu : u ≤ n := hok.used
  have hts : ts.length ≤ u := hok.texts
  have hrow : RowV A w l 1 ts.length (.slice tq ts.length tc) (strs ts) := h.row
  obtain ⟨G, hG⟩ : ∃ G, max g 1 = G := ⟨_, rfl⟩
  have hGi : max (g : Int) 1 = (G : Int) := by omega
  have HGE := Lib.hid hG
  have HROW := Lib.hid hrow
  have HD := Lib.hid hD
  have HO := Lib.hid hO
  have HAO := Lib.hid hAO
  have HJO := Lib.hid hjO
  have HH := Lib.hid h
  have HJ := Lib.hid hj
  have HROOM := Lib.hid hroom
  have hgen : g ≤ 1099511627776 := hok.gen
  clear HJR hrm hroom hG hrow hD hO hAO hjO h hok
  go_enter Tryz.func34, Tryz.ntmps34
  go_wp2_with fail
  refine (HJR2.out _).mono ?_
  rintro e w' ⟨rfl, g1, d1, rfl⟩
  have hj0 : (l ++ g1)[jo]? = some (.cells (jcl (.pointer (some ⟨w.heap.size + i, 0, none⟩)) fi n g (.slice tq ts.length tc) u false) 110 (0, 0)) := app_some HJ.out
  have hs0 : ∀ p, p < l.length → (l ++ g1)[p]? = l[p]? := fun p hp => List.getElem?_append_left hp
  have hl0 : l.length ≤ (l ++ g1).length := by rw [List.length_append]; omega
  obtain ⟨L0, hL0⟩ : ∃ L0, l ++ g1 = L0 := ⟨_, rfl⟩
  rw [hL0] at hj0 hs0 hl0 ⊢
  have HS0 := Lib.hid hs0
  have HL0 := Lib.hid hl0
  clear hs0 hl0 hL0 hj HJR2
  go_wp2_with fail
  refine (with_any w (L0 ++ [Obj.cells (hcl (.pointer (some ⟨w.heap.size + i, 0, none⟩)) fi n G (.slice tq ts.length tc) u) 107 (0, 0)]) d1 _ tq fi n G u ts.length tc ts (fun p => A p ∨ l.length ≤ p) (fun p hp => .inr (by rw [List.length_append] at hp; have := HL0.out; omega)) (HROW.out.mono fun p hp hlt => ⟨.inl hp, by rw [List.getElem?_append_left (by have := HL0.out; omega)]; exact HS0.out p hlt⟩) t (by omega) (by omega) (by omega)).mono ?_
  rintro e w' ⟨vx, L1, d2, rfl, rfl, hr1, hl1, hs1⟩
  obtain ⟨xq, xc, rfl⟩ := hr1.form
  obtain ⟨U, hU⟩ : ∃ U, u + secs t.size = U := ⟨_, rfl⟩
  rw [hU] at hfit ⊢
  have HU := Lib.hid hU
  have HR1 := Lib.hid hr1
  have hb5 : L1[L0.length]? = some (Obj.cells (hcl (.pointer (some ⟨w.heap.size + i, 0, none⟩)) fi n G (.slice tq ts.length tc) u) 107 (0, 0)) := by
    rw [hs1 _ (by rw [List.length_append, List.length_singleton]; omega) (HROW.out.beyond HL0.out)]; simp
  have hk1 : ∀ p, p < l.length → NotAt w (.slice tq ts.length tc) p → L1[p]? = l[p]? := fun p hp hn => by
    rw [hs1 p (by rw [List.length_append]; have := HL0.out; omega) hn, List.getElem?_append_left (by have := HL0.out; omega)]; exact HS0.out p hp
  have hl10 : L0.length + 1 ≤ L1.length := by rw [List.length_append, List.length_singleton] at hl1; exact hl1
  have HB5' := Lib.hid hb5
  have HK1 := Lib.hid hk1
  have HL10 := Lib.hid hl10
  clear hr1 hs1 hl1 hb5 hk1 hU hl10 hj0
  go_wp2_with fail
  obtain ⟨L2, hL2⟩ : ∃ L2, L1 ++ [Obj.cells (hcl (.pointer (some ⟨w.heap.size + i, 0, none⟩)) fi n G (.slice xq (ts.length + 1) xc) U) 107 (0, 0)] = L2 := ⟨_, rfl⟩
  have HB5 : Hid (blk (Wd w L2 d2) (w.heap.size + L0.length) = some (Obj.cells (hcl (.pointer (some ⟨w.heap.size + i, 0, none⟩)) fi n G (.slice tq ts.length tc) u) 107 (0, 0))) := Lib.hid (by rw [blk_at, ← hL2]; exact app_some HB5'.out)
  have HB6 : Hid (blk (Wd w L2 d2) (w.heap.size + L1.length) = some (Obj.cells (hcl (.pointer (some ⟨w.heap.size + i, 0, none⟩)) fi n G (.slice xq (ts.length + 1) xc) U) 107 (0, 0))) := Lib.hid (by rw [blk_at, ← hL2]; simp)
  have HL2 : Hid (L2.length = L1.length + 1 ∧ ∀ p, p < L1.length → L2[p]? = L1[p]?) := Lib.hid (by rw [← hL2]; exact ⟨by simp, fun p hp => List.getElem?_append_left hp⟩)
  rw [hL2]
  obtain ⟨E1, hE1⟩ : ∃ E1, (⟨fi, n, G, U, ts ++ [bys t]⟩ : Hf).ending = E1 := ⟨_, rfl⟩
  obtain ⟨E2, hE2⟩ : ∃ E2, (⟨fi, n, G, u, ts⟩ : Hf).laying (bys t) = E2 := ⟨_, rfl⟩
  have HEN : Hid (∀ L d, L2.length ≤ L.length → Calls Tryz.prog 60 #[.agg (hcl (.pointer (some ⟨w.heap.size + i, 0, none⟩)) fi n G (.slice xq (ts.length + 1) xc) U)] (Wd w L d) fun e W' => ∃ v', e = .returned v' ∧ Below (Wd w L d).heap.size (Wd w L d) W' ∧ srB w L2.length i E1 v' W') := Lib.hid fun L d hl => hE1 ▸ ending_sr w _ L d rfl L2.length i fi n G U hl _ hfit (by omega) (by omega) (ts ++ [bys t])
  have HLA : Hid (∀ L d, L2.length ≤ L.length → Calls Tryz.prog 61 #[.agg (hcl (.pointer (some ⟨w.heap.size + i, 0, none⟩)) fi n G (.slice tq ts.length tc) u), .string t] (Wd w L d) fun e W' => ∃ v', e = .returned v' ∧ Below (Wd w L d).heap.size (Wd w L d) W' ∧ srB w L2.length i E2 v' W') := Lib.hid fun L d hl => hE2 ▸ laying_sr w hR _ L d rfl L2.length i fi n G u tc hl tq ts t ht2 (by omega) (by omega) (by omega)
  have HEL : Hid (([E1, E2] : List (List Stp)).flatten.length ≤ 500000) := Lib.hid (by
    have h1 := ending_length (⟨fi, n, G, U, ts ++ [bys t]⟩ : Hf)
    have h2 := laying_length (⟨fi, n, G, u, ts⟩ : Hf) (bys t) (by rw [bys_length]; exact ht2)
    rw [hE1] at h1
    rw [hE2] at h2
    simp only [List.flatten_cons, List.flatten_nil, List.length_append, List.append_nil]
    omega)
  have HNE : Hid (¬ ([E1, E2] : List (List Stp)).flatten.length = 0) := Lib.hid (by
    rw [← hE2]; simp [Hf.laying])
  have HE1 := Lib.hid hE1
  have HAP : Hid ((⟨⟨fi, n, g, u, ts⟩, false⟩ : Jn).append M (bys t) = (⟨⟨fi, n, g, u, ts⟩, false⟩ : Jn).turn M ⟨fi, n, G, U, ts ++ [bys t]⟩ ([E1, E2] : List (List Stp)).flatten) := Lib.hid (by
    have hrm : ¬ (⟨fi, n, g, u, ts⟩ : Hf).room < ((bys t).length : Int) := by rw [bys_length]; have := HROOM.out; omega
    unfold Jn.append
    rw [if_neg (by simp), if_neg hrm, ← hE1, ← hE2, ← HGE.out, ← HU.out, ← bys_length]
    simp [Hf.with])
  have HJN : Hid (NotAt w (.slice tq ts.length tc) jo) := Lib.hid (rowV_off HROW.out HH.out.jA)
  have hsb : 1 ≤ secs t.size := secs_pos _
  have HOK : Hid ((⟨⟨fi, n, G, U, ts ++ [bys t]⟩, false⟩ : Jn).Ok ∧ (⟨⟨0, n, 0, 0, []⟩, true⟩ : Jn).Ok) := Lib.hid ⟨⟨hfi, hn, hfit, by show (ts ++ [bys t]).length ≤ U; rw [List.length_append, List.length_singleton]; have := HU.out; omega, by show G ≤ _; have := HGE.out; omega⟩, ⟨Nat.zero_le _, hn, Nat.zero_le _, Nat.le_refl _, Nat.zero_le _⟩⟩
  have HE2 := Lib.hid hE2
  clear hE1 hE2 hL2 HB5'
  refine wp_region_fine_drop 9 (TL [eqv (.pointer (some ⟨w.heap.size + jo, 0, none⟩)), eqv (.agg (hcl (.pointer (some ⟨w.heap.size + i, 0, none⟩)) fi n G (.slice xq (ts.length + 1) xc) U)), eqv (.agg (hcl (.pointer (some ⟨w.heap.size + i, 0, none⟩)) fi n G (.slice xq (ts.length + 1) xc) U)), srB w L2.length i E1, eqv (.agg (hcl (.pointer (some ⟨w.heap.size + i, 0, none⟩)) fi n G (.slice tq ts.length tc) u)), eqv (.string t), srB w L2.length i E2, rrB w L2.length i [E1, E2], srB w L2.length i ([E1, E2] : List (List Stp)).flatten]) (by kernel_rfl) (by kernel_rfl) (by kernel_rfl) (by kernel_rfl) (TL_last (List.forall_mem_cons.2 ⟨eqv_last _, List.forall_mem_cons.2 ⟨eqv_last _, List.forall_mem_cons.2 ⟨eqv_last _, List.forall_mem_cons.2 ⟨srB_last _ _ _ _, List.forall_mem_cons.2 ⟨eqv_last _, List.forall_mem_cons.2 ⟨eqv_last _, List.forall_mem_cons.2 ⟨srB_last _ _ _ _, List.forall_mem_cons.2 ⟨rrB_last _ _ _ _, List.forall_mem_cons.2 ⟨srB_last _ _ _ _, fun _ h => (List.not_mem_nil h).elim⟩⟩⟩⟩⟩⟩⟩⟩⟩)) (TL_no_guard (by kernel_rfl)) ?_ ?_
  · intro ix o ho a W hB hdep hfix
    simp only [List.take_succ_cons, List.take_zero] at ho hdep hfix
    match ix, ho with
    | 0, ho =>
      simp only [List.getElem?_cons_zero, Option.some.injEq] at ho; subst ho
      exact lays_eq _ rfl (exec_move (hfix 0 (by decide +kernel)))
    | 1, ho =>
      simp only [List.getElem?_cons_zero, List.getElem?_cons_succ, Option.some.injEq] at ho; subst ho
      exact lays_eq _ rfl (exec_load (hfix 6 (by decide +kernel)) (ldHA agj61 (blk_below hB HB6.out)))
    | 2, ho =>
      simp only [List.getElem?_cons_zero, List.getElem?_cons_succ, Option.some.injEq] at ho; subst ho
      exact lays_eq _ rfl (exec_load (hfix 6 (by decide +kernel)) (ldHA agj61 (blk_below hB HB6.out)))
    | 3, ho =>
      simp only [List.getElem?_cons_zero, List.getElem?_cons_succ, Option.some.injEq] at ho; subst ho
      have e1 : a.tmps.getD 29 undef = .agg (hcl (.pointer (some ⟨w.heap.size + i, 0, none⟩)) fi n G (.slice xq (ts.length + 1) xc) U) := hdep 2 _ 29 rfl rfl (by decide +kernel)
      obtain ⟨gS, dS, rfl⟩ := below_grows hB
      refine lays_call #[.agg (hcl (.pointer (some ⟨w.heap.size + i, 0, none⟩)) fi n G (.slice xq (ts.length + 1) xc) U)] (by simp [Act.eval, e1]) (by kernel_rfl) ((HEN.out (L2 ++ gS) dS (by rw [List.length_append]; omega)).mono ?_)
      rintro e W' ⟨z, he, hb, hs⟩
      exact ⟨z, he, hb, hs⟩
    | 4, ho =>
      simp only [List.getElem?_cons_zero, List.getElem?_cons_succ, Option.some.injEq] at ho; subst ho
      exact lays_eq _ rfl (exec_load (hfix 5 (by decide +kernel)) (ldHA agj61 (blk_below hB HB5.out)))
    | 5, ho =>
      simp only [List.getElem?_cons_zero, List.getElem?_cons_succ, Option.some.injEq] at ho; subst ho
      exact lays_eq _ rfl (exec_move (hfix 1 (by decide +kernel)))
    | 6, ho =>
      simp only [List.getElem?_cons_zero, List.getElem?_cons_succ, Option.some.injEq] at ho; subst ho
      have e1 : a.tmps.getD 31 undef = .agg (hcl (.pointer (some ⟨w.heap.size + i, 0, none⟩)) fi n G (.slice tq ts.length tc) u) := hdep 4 _ 31 rfl rfl (by decide +kernel)
      have e2 : a.tmps.getD 32 undef = .string t := hdep 5 _ 32 rfl rfl (by decide +kernel)
      obtain ⟨gS, dS, rfl⟩ := below_grows hB
      refine lays_call #[.agg (hcl (.pointer (some ⟨w.heap.size + i, 0, none⟩)) fi n G (.slice tq ts.length tc) u), .string t] (by simp [Act.eval, e1, e2]) (by kernel_rfl) ((HLA.out (L2 ++ gS) dS (by rw [List.length_append]; omega)).mono ?_)
      rintro e W' ⟨z, he, hb, hs⟩
      exact ⟨z, he, hb, hs⟩
    | 7, ho =>
      simp only [List.getElem?_cons_zero, List.getElem?_cons_succ, Option.some.injEq] at ho; subst ho
      have e1 : srB w L2.length i E1 (a.tmps.getD 30 undef) W := hdep 3 _ 30 rfl rfl (by decide +kernel)
      have e2 : srB w L2.length i E2 (a.tmps.getD 33 undef) W := hdep 6 _ 33 rfl rfl (by decide +kernel)
      exact lays_rr2 e1 e2 (fun _ _ h => h)
    | 8, ho =>
      simp only [List.getElem?_cons_zero, List.getElem?_cons_succ, Option.some.injEq] at ho; subst ho
      have e1 : rrB w L2.length i [E1, E2] (a.tmps.getD 34 undef) W := hdep 7 _ 34 rfl rfl (by decide +kernel)
      refine lays_call #[a.tmps.getD 34 undef] (by simp [Act.eval]) (by kernel_rfl) ((concat_rr w W L2.length i [E1, E2] _ e1 HEL.out (by show 2 ≤ 500000; omega)).mono ?_)
      rintro e W' ⟨z, he, hb, hs⟩
      exact ⟨z, he, hb, hs⟩
    | ix + 9, ho => simp at ho
  · intro a W hB hd hsz hfix hT
    simp only [List.take_succ_cons, List.take_zero, List.drop_succ_cons, List.drop_zero] at hfix hT ⊢
    have f27 : a.tmps.getD 27 undef = .pointer (some ⟨w.heap.size + jo, 0, none⟩) := hT 0 _ 27 rfl rfl
    have f28 : a.tmps.getD 28 undef = .agg (hcl (.pointer (some ⟨w.heap.size + i, 0, none⟩)) fi n G (.slice xq (ts.length + 1) xc) U) := hT 1 _ 28 rfl rfl
    have g35 : srB w L2.length i ([E1, E2] : List (List Stp)).flatten (a.tmps.getD 35 undef) W := hT 8 _ 35 rfl rfl
    rw [frame_lit a 37 hsz hd]
    clear hfix hT hsz hd
    simp only [List.range, List.range.loop, List.map]
    generalize a.tmps = t at *
    simp only [f27, f28]
    clear f27 f28
    obtain ⟨gS, dS, rfl⟩ := below_grows hB
    obtain ⟨vs, L3, d6, e6, hb, hr3, hs3⟩ := g35
    obtain rfl := Wd_inj e6
    rcases hr3 with ⟨_, h0, _⟩ | ⟨r, cap, X, T, hBr, hvr, hXr, hXl, hmX, hXv⟩
    · exact absurd h0 HNE.out
    simp only [hvr]
    obtain ⟨ss, hss⟩ : ∃ ss, ([E1, E2] : List (List Stp)).flatten = ss := ⟨_, rfl⟩
    have hap := HAP.out
    have hel := HEL.out
    rw [hss] at hs3 hmX hXv hap hel hvr ⊢
    obtain ⟨m, hm⟩ : ∃ m, ss.length = m := ⟨_, rfl⟩
    rw [hm] at hmX hXv hel hvr ⊢
    have HAP2 := Lib.hid hap
    obtain ⟨L, hL⟩ : ∃ L, L2 ++ gS = L := ⟨_, rfl⟩
    have hLk : ∀ p, p < L2.length → L[p]? = L2[p]? := fun p hp => by rw [← hL, List.getElem?_append_left hp]
    have hLl : L2.length ≤ L.length := by rw [← hL, List.length_append]; omega
    rw [hL] at hXr hs3 ⊢
    have hLL : ∀ p, p < l.length → NotAt w (.slice tq ts.length tc) p → L[p]? = l[p]? := fun p hp hn => by
      rw [hLk p (by have := HL2.out.1; have := HL10.out; have := HL0.out; omega), HL2.out.2 p (by have := HL10.out; have := HL0.out; omega)]; exact HK1.out p hp hn
    have hl1L : l.length ≤ L.length := by have := HL2.out.1; have := HL10.out; have := HL0.out; omega
    have HT := Lib.hid (turn_any w L dS i sd q vw (fun p => O p ∨ (l.length ≤ p ∧ p < L.length)) M (HD.out.keep fun p hp hlt => ⟨fun h' => h'.elim hp (fun h2 => by omega), hLL p hlt (rowV_off HROW.out fun ha => hp (HAO.out p ha))⟩) (fun p hp => hp.elim (fun h' => Nat.lt_of_lt_of_le (HO.out p h') hl1L) (fun h' => h'.2)) jo r m cap _ _ _ _ _ _ _ fi n G U (ts.length + 1) xc xq X T vs ss (by rw [hLL jo (HO.out _ HJO.out) HJN.out]; exact HJ.out) (.inl HJO.out) hXr (.inr ⟨by have := HL2.out.1; have := HL10.out; have := HL0.out; omega, (List.getElem?_eq_some_iff.1 hXr).1⟩) (by omega) (by rw [← hXv, Nat.mul_one]) hm (hs3.mono fun p hp hlt => ⟨.inr ⟨by have := HL2.out.1; have := HL10.out; have := HL0.out; omega, hlt⟩, rfl⟩) (by omega) (by omega))
    have HLL := Lib.hid hLL
    have HLK : Hid (∀ p, p < L1.length → L[p]? = L1[p]?) := Lib.hid fun p hp => by rw [hLk p (by have := HL2.out.1; omega)]; exact HL2.out.2 p hp
    have HLE : Hid (l.length ≤ L.length ∧ L1.length ≤ L.length) := Lib.hid ⟨hl1L, by have := HL2.out.1; omega⟩
    clear hLL hLk hLl hl1L hL hs3 hXr hXl hmX hXv hvr hap hel hm hss e6 hb hBr hB
    go_wp2_with fail
    refine HT.out.mono ?_
    rintro e w' ⟨l', d', vw', he, rfl, hD3, hl3, hs4, hj4⟩
    obtain ⟨Z, hZ⟩ : ∃ Z : Int, (if (runS M ss).2 = true then (0 : Int) else 7) = Z := ⟨_, rfl⟩
    rw [hZ] at he
    subst he
    have HZ := Lib.hid hZ
    clear hZ
    have HD3 := Lib.hid hD3
    have HL3 := Lib.hid hl3
    have HS4 := Lib.hid hs4
    have HJ4 := Lib.hid hj4
    clear hD3 hl3 hs4 hj4 HT
    go_wp2
    go_ret
    have hz := HZ.out
    have hj5 := HJ4.out
    have hjne : ∀ p, (A p ∨ l.length ≤ p) → p ≠ jo := fun p hp e => by
      subst e
      exact hp.elim HH.out.jA (fun h' => by have := HO.out _ HJO.out; omega)
    have hkeep : ∀ p, O p → p ≠ jo → ¬ A p → l'[p]? = l[p]? := fun p hp hne hA => (HS4.out p (.inl hp) hne).trans (HLL.out p (HO.out p hp) (rowV_off HROW.out hA))
    have hlt : ∀ p, (O p ∨ (l.length ≤ p ∧ p < L.length)) → p < l'.length := fun p hp => by
      have := HL3.out
      rcases hp with h' | h'
      · have := HO.out p h'; have := HLE.out.1; omega
      · omega
    have hlen : l.length ≤ l'.length := by have := HL3.out; have := HLE.out.1; omega
    unfold AppQ
    rw [HAP2.out]
    unfold Jn.turn
    cases hb : (runS M ss).2 with
    | true =>
      rw [hb, if_pos rfl] at hz hj5
      rw [if_pos rfl]
      refine ⟨l', d', vw', .slice xq (ts.length + 1) xc, fun p => O p ∨ (l.length ≤ p ∧ p < L.length), by rw [← hz]; rfl, rfl, HD3.out, ⟨hj5, ?_, fun h' => hjne jo (h'.imp id fun h2 => h2.1) rfl, HOK.out.1⟩, hlen, hkeep, fun p hp => .inl hp, hlt⟩
      show RowV _ w l' 1 (ts ++ [_]).length _ _
      rw [List.length_append]
      exact HR1.out.mono fun p hp hlt2 => ⟨hp.imp id fun h' => ⟨h', .inr ⟨h', by have := HLE.out.2; omega⟩⟩, (HS4.out p (hp.elim (fun ha => .inl (HAO.out p ha)) fun h' => .inr ⟨h', by have := HLE.out.2; omega⟩) (hjne p hp)).trans (HLK.out p hlt2)⟩
    | false =>
      rw [hb, if_neg (by simp)] at hz hj5
      rw [if_neg (by simp)]
      exact ⟨l', d', vw', .slice none 0 0, fun p => O p ∨ (l.length ≤ p ∧ p < L.length), by rw [← hz]; rfl, rfl, HD3.out, ⟨hj5, .inl ⟨rfl, rfl, rfl⟩, fun h' => hjne jo (h'.imp id fun h2 => h2.1) rfl, HOK.out.2⟩, hlen, hkeep, fun p hp => .inl hp, hlt⟩
end Go.Proofs.YtlogjpmdfimgdaaGreatDoor.Jf
namespace Go.Proofs.YtlogjpmdfimgdaaGreatDoor.Jf
open Go Go.RowKit Go.Own.Jf
attribute [-go_sem] Sm.execOp_bs run_string_add_if
attribute [local go_sem] agj64 csj64 szj64 ldJ6 sz4 isa4 ag4
/-- Nothing is done. -/
theorem appQ_same {w : World} {l g : List Obj} {d jo i sd q : Nat} {vw vt : Value} {O A : Nat → Prop} {J : Jn} {M : Dk} (h : JAt w l jo i A J vt) (hD : DAt w l i sd q vw O M) (hO : ∀ p, O p → p < l.length) {c : Nat} : AppQ w l jo i sd q O A (J, M, c) (.returned (.int .i64 (c : Int))) (Wd w (l ++ g) d) :=
  ⟨l ++ g, d, vw, vt, O, rfl, rfl, hD.app g, ⟨app_some h.cells, (RowV.more h.row g).mono fun p hp _ => ⟨.inl hp, rfl⟩, fun h' => h'.elim h.jA fun h2 => by have := (List.getElem?_eq_some_iff.1 h.cells).1; omega, h.ok⟩, by rw [List.length_append]; omega, fun p hp _ _ => List.getElem?_append_left (hO p hp), fun _ hp => hp, fun p hp => by rw [List.length_append]; have := hO p hp; omega⟩
set_option maxRecDepth 100000 in
theorem append_any (w : World) (hR : Sm.Roots w) (l : List Obj) (d jo i sd q : Nat) (vw : Value) (O A : Nat → Prop) (J : Jn) (vt : Value) (M : Dk) (h : JAt w l jo i A J vt) (hD : DAt w l i sd q vw O M) (hO : ∀ p, O p → p < l.length) (hjO : O jo) (hAO : ∀ p, A p → O p) (t : ByteArray) (hc : M.count < 1000000000000) :
    Calls Tryz.prog 34 #[.pointer (some ⟨w.heap.size + jo, 0, none⟩), .string t] (Wd w l d) fun e w' => AppQ w l jo i sd q O A (J.append M (bys t)) e w' := by
  by_cases hoff : J.off = true
  · have ha : J.append M (bys t) = (J, M, 7) := by unfold Jn.append; rw [if_pos hoff]
    rw [ha]
    have hj := h.cells
    rw [hoff] at hj
    have HQ : Hid (∀ d, AppQ w l jo i sd q O A (J, M, 7) (.returned (.int .i64 7)) (Wd w l d)) := Lib.hid fun d => by
      have := appQ_same (g := []) (d := d) (c := 7) h hD hO
      rw [List.append_nil] at this
      exact this
    clear h hD hO hjO hAO ha hoff
    go_enter Tryz.func34, Tryz.ntmps34
    go_wp2
    go_ret
    exact HQ.out _
  · have hoff' : J.off = false := by simpa using hoff
    by_cases hr : J.now.room < (t.size : Int)
    · have ha : J.append M (bys t) = (J, M, 6) := by unfold Jn.append; rw [if_neg hoff, if_pos (by rw [bys_length]; exact hr)]
      rw [ha]
      have hj := h.cells
      rw [hoff'] at hj
      have HQ : Hid (∀ g d, AppQ w l jo i sd q O A (J, M, 6) (.returned (.int .i64 6)) (Wd w (l ++ g) d)) := Lib.hid fun g d => appQ_same (c := 6) h hD hO
      have HJR := Lib.hid fun d => jroom_any w l d jo i A J vt h
      obtain ⟨rm, hrm⟩ : ∃ rm, J.now.room = rm := ⟨_, rfl⟩
      rw [hrm] at hr HJR
      clear h hD hO hjO hAO ha hoff hoff' hrm
      go_enter Tryz.func34, Tryz.ntmps34
      go_wp2_with fail
      refine (HJR.out _).mono ?_
      rintro e w' ⟨rfl, g1, d1, rfl⟩
      go_wp2
      go_ret
      exact HQ.out _ _
    · exact append_on w hR l d jo i sd q vw O A J vt M h hD hO hjO hAO t (by omega) hoff' hc
end Go.Proofs.YtlogjpmdfimgdaaGreatDoor.Jf

/- The document's journal, act by act: by contract. No condition but the sizes. | The journal side by side with the document's: what isn't gone through, and sizes that are no size. No condition. | A region that draws its order, one of whose operations is a store, not the last: by properties that last, ahead of it and behind. No condition. | More operations by themselves: the law's. No condition. -/
import Derived.Test.YtjgfljckmckhcaaDoorY03
import Derived.Test.YtjgfljckmckhcaaDoorZ46
import Derived.Test.YtjgfljckmckhcaaDoorY01
namespace Go.Proofs.YtjgfljckmckhcaaDoor
open Go Go.RowKit Go.Own
attribute [-go_sem] Sm.execOp_bs run_string_add_if
attribute [local go_sem] agj9 isaj9 csj9 szj9 agj32 isaj32 csj32 szj32 ag34 cs34 sz34 z34 alXA ldM0 ldM1 ldM2 ldM3 ldMA stMs ag42 cs42 sz42 ldX_mix1 isa4 ag4 sz4
set_option maxRecDepth 100000 in
set_option maxHeartbeats 4000000 in
theorem model_any (w : World) (l : List Obj) (d : Nat) (A : Nat → Prop) (m : Md) (vt : Value) (hrow : RowV A w l 1 m.texts.length vt (strs m.texts)) (x : Ac) (hv : TxAt w [] x.sv x.L) (hok : AcOk x) (hL : x.L.length ≤ 100000) (hh : m.half ≤ 100000) (ht : m.taken ≤ m.half) (hn : m.texts.length ≤ 100000) (hg : m.gen ≤ 1000000) :
    Calls Tryd.prog 11 #[.agg (mc m.half vt m.taken m.gen), .agg (ac x)] (Wd w l d) fun e w' => ModQ w A l (m.act x) e w' := by
  have k0 : (ac x)[0]? = some (.string x.S) := rfl
  have k1 : (ac x)[1]? = some (.bool x.New) := rfl
  have k2 : (ac x)[2]? = some x.sv := rfl
  obtain ⟨l1, hl1⟩ : ∃ l1, l ++ [Obj.cells (mc m.half vt m.taken m.gen) 34 (0, 0), Obj.cells (ac x) 42 (0, 0), Obj.cells (mc 0 (.slice none 0 0) 0 0) 34 (0, 0)] = l1 := ⟨_, rfl⟩
  have HP : Hid (l.length + 2 < l1.length ∧ ∀ p, p < l.length → l1[p]? = l[p]?) := Lib.hid (by rw [← hl1]; exact ⟨by rw [List.length_append]; simp, fun p hp => List.getElem?_append_left hp⟩)
  have hb0 : ∀ d, blk (Wd w l1 d) (w.heap.size + l.length) = some (.cells (mc m.half vt m.taken m.gen) 34 (0, 0)) := fun d => by rw [blk_at, ← hl1]; simp
  have hg0 : l1[l.length]? = some (.cells (mc m.half vt m.taken m.gen) 34 (0, 0)) := by rw [← hl1]; simp
  have hb1 : ∀ d, blk (Wd w l1 d) (w.heap.size + (l.length + 1)) = some (.cells (ac x) 42 (0, 0)) := fun d => by rw [blk_at, ← hl1, List.getElem?_append_right (by omega), Nat.add_sub_cancel_left]; rfl
  have hg1 : l1[l.length + 1]? = some (.cells (ac x) 42 (0, 0)) := by rw [← hl1, List.getElem?_append_right (by omega), Nat.add_sub_cancel_left]; rfl
  have HZ : Hid (l1[l.length + 2]? = some (.cells (mc 0 (.slice none 0 0) 0 0) 34 (0, 0))) := Lib.hid (by rw [← hl1, List.getElem?_append_right (by omega), Nat.add_sub_cancel_left]; rfl)
  have HROW : Hid (RowV (fun p => A p ∧ p < l.length) w l1 1 m.texts.length vt (strs m.texts)) := Lib.hid (hrow.mono fun p hp hlt => ⟨⟨hp, hlt⟩, HP.out.2 p hlt⟩)
  have HV : Hid (TxAt w l1 x.sv x.L) := Lib.hid (hv.more (Nat.zero_le _) fun p hp => by simp at hp)
  have HAN := Lib.hid fun d => ranew_any w l1 d (fun p => A p ∧ p < l.length) m vt HROW.out x.sv x.L HV.out hok.2.2 hL hh hg
  have HAP := Lib.hid fun d => rapp_any w l1 d (fun p => A p ∧ p < l.length) m vt HROW.out x.S hok.1 hh ht hn
  have HAC : Hid (m.act x = if x.New = true then m.anew (x.L.map bys) else m.app (bys x.S)) := Lib.hid rfl
  obtain ⟨r, hr⟩ : ∃ r, m.act x = r := ⟨_, rfl⟩
  have HFIN : Hid (∀ (g' : List Obj) (dw : Nat) (v9 : Value) (c : Array Value) (z : Int), RowV (fun p => (A p ∧ p < l.length) ∨ l1.length ≤ p) w (l1 ++ g') 1 r.1.texts.length v9 (strs r.1.texts) → c = mc r.1.half v9 r.1.taken r.1.gen → z = ((r.2 : Nat) : Int) → ModQ w A l r (.returned (.tuple #[.agg c, .int .i64 z])) (Wd w ((l1 ++ g').set (l.length + 2) (Obj.cells c 34 (0, 0))) dw)) := Lib.hid fun g' dw v9 c z h3 hc hz => by
    subst hc; subst hz
    have hl1 := HP.out.1
    have hpre : ∀ p, p < l.length → ((l1 ++ g').set (l.length + 2) (Obj.cells (mc r.1.half v9 r.1.taken r.1.gen) 34 (0, 0)))[p]? = l[p]? := fun p hp => by
      rw [List.getElem?_set_ne (by omega), List.getElem?_append_left (by omega)]; exact HP.out.2 p hp
    obtain ⟨g2, hg2⟩ := prefix_of hpre
    rw [hg2]
    refine ⟨v9, g2, dw, rfl, rfl, ?_⟩
    rw [← hg2]
    rcases h3 with h3 | ⟨i, c, X, t, hA, hvx, hi, hX, hnc, hXt⟩
    · exact .inl h3
    · by_cases e : l.length + 2 = i
      · exfalso
        subst e
        omega
      · exact .inr ⟨i, c, X, t, hA.imp (fun h => h.1) fun h => by omega, hvx, by rw [List.getElem?_set_ne e]; exact hi, hX, hnc, hXt⟩
  rw [hr] at HAC ⊢
  clear hr hrow
  go_enter Tryd.func11, Tryd.ntmps11
  cases hx : x.New with
  | true =>
    rw [hx] at k1
    have hr2 : r = m.anew (x.L.map bys) := by have := HAC.out; rw [hx] at this; exact this
    rw [← hr2] at HAN
    have hgg0 : ∀ g', (l1 ++ g')[l.length + 2]? = some (.cells (mc 0 (.slice none 0 0) 0 0) 34 (0, 0)) := fun g' => app_some HZ.out
    clear hr2
    go_wp2_with fail
    refine (HAN.out _).mono ?_
    rintro e w' ⟨v9, g', d', rfl, rfl, h9⟩
    obtain ⟨q9, c9, rfl⟩ := h9.form
    obtain ⟨z, hz⟩ : ∃ z, ((r.2 : Nat) : Int) = z := ⟨_, rfl⟩
    rw [hz]
    have H9 := Lib.hid h9
    have HZZ := Lib.hid hz
    clear h9 hz
    obtain ⟨a1, ha1⟩ : ∃ a1, r.1.half = a1 := ⟨_, rfl⟩
    obtain ⟨a2, ha2⟩ : ∃ a2, r.1.texts.length = a2 := ⟨_, rfl⟩
    obtain ⟨a3, ha3⟩ : ∃ a3, r.1.taken = a3 := ⟨_, rfl⟩
    obtain ⟨a4, ha4⟩ : ∃ a4, r.1.gen = a4 := ⟨_, rfl⟩
    rw [ha1, ha2, ha3, ha4]
    have HEQ := Lib.hid (And.intro ha1 (And.intro ha2 (And.intro ha3 ha4)))
    clear ha1 ha2 ha3 ha4
    go_wp2
    refine ret_mix2 (i := l.length + 2) (c := mc a1 (.slice q9 a2 c9) a3 a4) (t := 34) (f := (0, 0)) rfl rfl rfl ag34 (set_some (hgg0 g')) rfl rfl ?_
    exact HFIN.out g' d' _ _ z H9.out (by rw [HEQ.out.1, HEQ.out.2.1, HEQ.out.2.2.1, HEQ.out.2.2.2]) HZZ.out.symm
  | false =>
    rw [hx] at k1
    have hr2 : r = m.app (bys x.S) := by have := HAC.out; rw [hx] at this; exact this
    rw [← hr2] at HAP
    have hgg0 : ∀ g', (l1 ++ g')[l.length + 2]? = some (.cells (mc 0 (.slice none 0 0) 0 0) 34 (0, 0)) := fun g' => app_some HZ.out
    clear hr2
    go_wp2_with fail
    refine (HAP.out _).mono ?_
    rintro e w' ⟨v9, g', d', rfl, rfl, h9⟩
    obtain ⟨q9, c9, rfl⟩ := h9.form
    obtain ⟨z, hz⟩ : ∃ z, ((r.2 : Nat) : Int) = z := ⟨_, rfl⟩
    rw [hz]
    have H9 := Lib.hid h9
    have HZZ := Lib.hid hz
    clear h9 hz
    obtain ⟨a1, ha1⟩ : ∃ a1, r.1.half = a1 := ⟨_, rfl⟩
    obtain ⟨a2, ha2⟩ : ∃ a2, r.1.texts.length = a2 := ⟨_, rfl⟩
    obtain ⟨a3, ha3⟩ : ∃ a3, r.1.taken = a3 := ⟨_, rfl⟩
    obtain ⟨a4, ha4⟩ : ∃ a4, r.1.gen = a4 := ⟨_, rfl⟩
    rw [ha1, ha2, ha3, ha4]
    have HEQ := Lib.hid (And.intro ha1 (And.intro ha2 (And.intro ha3 ha4)))
    clear ha1 ha2 ha3 ha4
    go_wp2
    refine ret_mix2 (i := l.length + 2) (c := mc a1 (.slice q9 a2 c9) a3 a4) (t := 34) (f := (0, 0)) rfl rfl rfl ag34 (set_some (hgg0 g')) rfl rfl ?_
    exact HFIN.out g' d' _ _ z H9.out (by rw [HEQ.out.1, HEQ.out.2.1, HEQ.out.2.2.1, HEQ.out.2.2.2]) HZZ.out.symm
end Go.Proofs.YtjgfljckmckhcaaDoor
namespace Go.Proofs.YtjgfljckmckhcaaDoor
open Go Go.RowKit Go.Own
attribute [-go_sem] Sm.execOp_bs run_string_add_if
attribute [local go_sem] agj61 csj61 szj61 agj64 csj64 szj64 agj25 isaj25 csj25 szj25 agj9 isaj9 csj9 szj9 agj32 isaj32 csj32 szj32 bsj32s ldX_mix1 ag42 cs42 sz42
set_option maxRecDepth 100000 in
/-- Too many acts, or a size between. -/
theorem plays_few (A : List Ac) (v : Value) (z : Int) (w : World) (hR : Sm.Roots w) (hA : Acts w v A) (hok : ∀ x ∈ A, AcOk x) (h : ¬ FewOk A ∨ (200 < z ∧ z ≤ 4096)) :
    Calls Tryd.prog 3 #[.int .i64 z, v] w fun e w' => e = .returned (.bool true) ∧ Grows w w' := by
  refine calls_wd ?_
  have HFW := Lib.hid fun l d => few_any A v w l d hA hok
  obtain ⟨po, cap, rfl, _⟩ := hA
  obtain ⟨n, hN⟩ : ∃ n, A.length = n := ⟨_, rfl⟩
  rw [hN] at HFW ⊢
  have H := Lib.hid h
  clear h hN
  go_enter Tryd.func3, Tryd.ntmps3
  go_wp2_with fail
  refine (awake_any w hR [] _).mono ?_
  rintro e w' ⟨rfl, g1, d1, rfl⟩
  rw [List.nil_append]
  go_wp2_with fail
  refine (HFW.out _ _).mono ?_
  rintro e w' ⟨b, d2, rfl, hb, rfl⟩
  have HB := Lib.hid hb
  clear hb
  cases b with
  | false =>
    go_wp2
    go_ret
    exact ⟨rfl, Grows.of _ _ _⟩
  | true =>
    have h1 : 200 < z ∧ z ≤ 4096 := H.out.elim (fun h' => absurd (HB.out.1 rfl) h') id
    obtain ⟨h200, h4096⟩ := h1
    go_wp2
    go_ret
    exact ⟨rfl, Grows.of _ _ _⟩
set_option maxRecDepth 100000 in
/-- No disk of this size. -/
theorem plays_bad (A : List Ac) (v : Value) (z : Int) (w : World) (hR : Sm.Roots w) (hA : Acts w v A) (hok : ∀ x ∈ A, AcOk x) (hf : FewOk A) (h : z < 1 ∨ 4096 < z) :
    Calls Tryd.prog 3 #[.int .i64 z, v] w fun e w' => e = .returned (.bool true) ∧ Grows w w' := by
  refine calls_wd ?_
  have HFW := Lib.hid fun l d => few_any A v w l d hA hok
  obtain ⟨po, cap, rfl, _⟩ := hA
  obtain ⟨n, hN⟩ : ∃ n, A.length = n := ⟨_, rfl⟩
  rw [hN] at HFW ⊢
  have HF := Lib.hid hf
  have HN := Lib.hid fun w => new_bad w z h
  have HZ := Lib.hid h
  clear h hN hf
  go_enter Tryd.func3, Tryd.ntmps3
  go_wp2_with fail
  refine (awake_any w hR [] _).mono ?_
  rintro e w' ⟨rfl, g1, d1, rfl⟩
  rw [List.nil_append]
  go_wp2_with fail
  refine (HFW.out _ _).mono ?_
  rintro e w' ⟨b, d2, rfl, hb, rfl⟩
  obtain rfl : b = true := hb.2 HF.out
  clear hb HFW
  by_cases h200 : 200 < z
  · have h4096 : ¬ z ≤ 4096 := by have := HZ.out; omega
    go_wp2_with fail
    refine (HN.out _).mono ?_
    rintro e w' ⟨rfl, rfl⟩
    go_wp2
    go_ret
    exact ⟨rfl, Grows.of _ _ _⟩
  · go_wp2_with fail
    refine (HN.out _).mono ?_
    rintro e w' ⟨rfl, rfl⟩
    go_wp2
    go_ret
    exact ⟨rfl, Grows.of _ _ _⟩
set_option maxRecDepth 100000 in
/-- No journal on a disk of this size. -/
theorem plays_odd (A : List Ac) (v : Value) (m : Nat) (w : World) (hR : Sm.Roots w) (hA : Acts w v A) (hok : ∀ x ∈ A, AcOk x) (hf : FewOk A) (h1 : 1 ≤ m) (h200 : m ≤ 200) (hb : m < 8 ∨ m % 2 ≠ 0) :
    Calls Tryd.prog 3 #[.int .i64 (m : Int), v] w fun e w' => e = .returned (.bool true) ∧ Grows w w' := by
  refine calls_wd ?_
  have HFW := Lib.hid fun l d => few_any A v w l d hA hok
  obtain ⟨po, cap, rfl, _⟩ := hA
  obtain ⟨n, hN⟩ : ∃ n, A.length = n := ⟨_, rfl⟩
  rw [hN] at HFW ⊢
  have HF := Lib.hid hf
  have HM := Lib.hid (And.intro h1 (And.intro h200 hb))
  have h200i : ¬ (200 : Int) < (m : Int) := by omega
  clear hN hf h1 h200 hb
  go_enter Tryd.func3, Tryd.ntmps3
  go_wp2_with fail
  refine (awake_any w hR [] _).mono ?_
  rintro e w' ⟨rfl, g1, d1, rfl⟩
  rw [List.nil_append]
  go_wp2_with fail
  refine (HFW.out _ _).mono ?_
  rintro e w' ⟨b, d2, rfl, hb, rfl⟩
  obtain rfl : b = true := hb.2 HF.out
  clear hb HFW
  go_wp2_with fail
  refine (new_st w g1 d2 m (by have := HM.out.1; omega) (by have := HM.out.2.1; omega)).mono ?_
  rintro e w' ⟨i, s, q, g2, d3, rfl, rfl, hs⟩
  have HO : Hid (∀ d, Calls Tryd.prog 9 #[.pointer (some ⟨w.heap.size + i, 0, none⟩)] (Wd w (g1 ++ g2) d) fun e w' => e = .returned (.tuple #[.pointer none, .int .i64 1]) ∧ w' = Wd w (g1 ++ g2) d) := Lib.hid fun d => by
    obtain ⟨vw, O, h1, _⟩ := hs
    exact open_bad w _ d i s q vw O _ h1 HM.out.2.2
  clear hs
  go_wp2_with fail
  refine (HO.out _).mono ?_
  rintro e w' ⟨rfl, rfl⟩
  by_cases h8 : m < 8
  · have h8i : (m : Int) < 8 := by omega
    go_wp2
    go_ret
    exact ⟨rfl, Grows.of _ _ _⟩
  · have h8i : ¬ (m : Int) < 8 := by omega
    have hm0 : (m : Int) % 2 = 1 := by have := HM.out.2.2; omega
    go_wp2
    go_ret
    exact ⟨rfl, Grows.of _ _ _⟩
end Go.Proofs.YtjgfljckmckhcaaDoor
namespace Go.Own
open Go Go.RowKit
structure FInvH (l : List Oper) (s0 : Nat) (WI : Bool → World → Prop) (T : Bool → Nat → Value → World → Prop) (a0 : Act) (done : Array Bool) (a : Act) (W : World) : Prop where
  world : WI (done.getD s0 false) W
  defers : a.defers = a0.defers
  size : a.tmps.size = a0.tmps.size
  fixed : ∀ s, (∀ i o, l[i]? = some o → done.getD i false = true → o.dst ≠ some s) → a.tmps.getD s undef = a0.tmps.getD s undef
  vals : ∀ i o s, l[i]? = some o → done.getD i false = true → o.dst = some s → T (done.getD s0 false) i (a.tmps.getD s undef) W
  closed : ∀ i o, l[i]? = some o → done.getD i false = true → ∀ e ∈ o.after, Region.binds .any e = true → done.getD e.on false = true
def plainH (l : List Oper) (n s0 : Nat) : Bool :=
  (l.zipIdx.all fun (o, i) => o.after.all fun e => !Region.binds .any e || decide (e.on < i)) && (l.zipIdx.all fun (o, i) => (decide (i = s0) || o.dst.any (fun s => decide (s < n))) && o.guard.isNone) && decide ((l.map fun o => o.dst).Nodup) && (match l[s0]? with | none => false | some o => o.dst.isNone)
theorem any_fine_store {P : Program} {Q : Exit → Act → World → Prop} {a0 : Act} {w0 : World} (hd tl : List Oper) {L : List Oper} (hL : L = hd ++ tl) (s0 : Nat) (hs0 : s0 < hd.length) (WI : Bool → World → Prop) (T : Bool → Nat → Value → World → Prop) (hW0 : WI false { w0 with drawn := w0.drawn + 1 }) (hWB : ∀ b W W', WI b W → Below W.heap.size W W' → WI b W') (hp : plainH hd a0.tmps.size s0 = true)
    (hb0 : ((hd ++ tl).zipIdx.all fun (o, i) => o.after.all fun e => !Region.binds .any e || decide (e.on < i)) = true) (ht : tailB hd tl = true)
    (hlast : ∀ b i v W W', T b i v W → Below W.heap.size W W' → T b i v W')
    (hspec : ∀ o, hd[s0]? = some o → ∀ (a : Act) (W : World), WI false W → (∀ j oj s, hd[j]? = some oj → oj.dst = some s → waits o j = true → T false j (a.tmps.getD s undef) W) → (∀ s, keepsB hd s0 s = true → a.tmps.getD s undef = a0.tmps.getD s undef) → ∀ Q, o.wp P a W (fun a' W' => a' = a ∧ WI true W' ∧ ∀ j oj s, hd[j]? = some oj → waitsN (hd ++ tl) 5 oj s0 = false → j ≠ s0 → oj.dst = some s → T false j (a.tmps.getD s undef) W → T true j (a.tmps.getD s undef) W') Q)
    (hstep : ∀ i o, hd[i]? = some o → i ≠ s0 → ∀ (a : Act) (W : World) (b : Bool), WI b W → (waitsN (hd ++ tl) 5 o s0 = true → b = true) → (∀ o0, hd[s0]? = some o0 → b = true → waits o0 i = false) → (∀ j oj s, hd[j]? = some oj → oj.dst = some s → waits o j = true → T b j (a.tmps.getD s undef) W) → (∀ s, keepsB hd i s = true → a.tmps.getD s undef = a0.tmps.getD s undef) → Lays P (T b) i o a W)
    (hend : ∀ (a : Act) (W : World), WI true W → a.defers = a0.defers → a.tmps.size = a0.tmps.size → (∀ s, (hd.all fun o => decide (o.dst ≠ some s)) = true → a.tmps.getD s undef = a0.tmps.getD s undef) → (∀ i o s, hd[i]? = some o → o.dst = some s → T true i (a.tmps.getD s undef) W) → wpList P (hd ++ tl).toArray Q tl a W) :
    wpAny P .any L.toArray Q L.toArray.size (Array.replicate L.toArray.size false) a0 { w0 with drawn := w0.drawn + 1 } := by
  subst hL
  simp only [plainH, Bool.and_eq_true, decide_eq_true_eq] at hp
  obtain ⟨⟨⟨hb, hg⟩, hn⟩, hz0⟩ := hp
  have hg2 : ∀ (i : Nat) (o : Oper), hd[i]? = some o → (i ≠ s0 → ∃ s, o.dst = some s ∧ s < a0.tmps.size) ∧ o.guard = none := fun i o ho => by
    have h1 := List.all_eq_true.1 hg (o, i) (by rw [List.mem_zipIdx_iff_getElem?]; simpa using ho)
    simp only [Bool.and_eq_true, Bool.or_eq_true, Option.any_eq_true, decide_eq_true_eq, Option.isNone_iff_eq_none] at h1
    exact ⟨fun hne => (h1.1.resolve_left hne), h1.2⟩
  have hz1 : ∀ o, hd[s0]? = some o → o.dst = none := fun o ho => by
    rw [ho] at hz0
    simpa using hz0
  have hnd : ∀ (i j : Nat) (oi oj : Oper), hd[i]? = some oi → hd[j]? = some oj → oi.dst = oj.dst → i = j := fun i j oi oj h1 h2 e => by
    have hi := (List.getElem?_eq_some_iff.1 h1).1
    have hj := (List.getElem?_eq_some_iff.1 h2).1
    refine (List.getElem_inj (xs := hd.map fun o => o.dst) (h₀ := by simpa using hi) (h₁ := by simpa using hj) hn).1 ?_
    simp only [List.getElem_map]
    rw [(List.getElem?_eq_some_iff.1 h1).2, (List.getElem?_eq_some_iff.1 h2).2, e]
  have hhd : ∀ {i : Nat}, i < hd.length → (hd ++ tl)[i]? = hd[i]? := fun h => List.getElem?_append_left h
  have htl : ∀ {k : Nat} {o : Oper}, (hd ++ tl)[hd.length + k]? = some o → ∀ j, j < hd.length + k → waitsN (hd ++ tl) 5 o j = true := fun {k o} ho j hj => by
    rw [List.getElem?_append_right (by omega), Nat.add_sub_cancel_left] at ho
    have h1 := List.all_eq_true.1 ht (o, k) (by rw [List.mem_zipIdx_iff_getElem?]; simpa using ho)
    exact List.all_eq_true.1 h1 j (List.mem_range.2 hj)
  refine wpAny_of_inv2 (fun done a W => done.size = (hd ++ tl).length ∧ (∀ i o, (hd ++ tl)[i]? = some o → done.getD i false = true → ∀ e ∈ o.after, Region.binds .any e = true → done.getD e.on false = true) ∧
      (((∀ i, hd.length ≤ i → done.getD i false = false) ∧ FInvH hd s0 WI T a0 done a W) ∨
       ∃ m, (∀ i, i < hd.length + m → done.getD i false = true) ∧ (∀ i, hd.length + m ≤ i → done.getD i false = false) ∧ wpList P (hd ++ tl).toArray Q (tl.drop m) a W)) (by simpa using hb0) ?_ ?_ _ _ _ _ (by simp) ?_ ?_
  · rintro done a W i ⟨hds, hcl, hI⟩ hnd1 hdep hlt
    have hil : i < (hd ++ tl).length := by simpa using hlt
    have ho : (hd ++ tl)[i]? = some (hd ++ tl)[i] := List.getElem?_eq_getElem hil
    generalize hoi : (hd ++ tl)[i] = o at ho
    have hnf : done.getD i false = false := by
      cases h : done.getD i false with
      | false => rfl
      | true => rw [getD_both hnd1] at h; cases h
    have hdo := hdep o (by simpa using ho)
    have hcl' : ∀ j oj, (hd ++ tl)[j]? = some oj → (done.setIfInBounds i true).getD j false = true → ∀ e ∈ oj.after, Region.binds .any e = true → (done.setIfInBounds i true).getD e.on false = true := fun j oj hj hdj e he hbi => by
      rcases done_set hdj with h1 | h1
      · subst h1
        have : oj = o := Option.some.inj (hj.symm.trans ho)
        subst this
        have h2 := hdo e he hbi
        by_cases e2 : i = e.on
        · rw [← e2] at h2; rw [hnf] at h2; cases h2
        · rw [getD_set_ne false e2]; exact h2
      · have h2 := hcl j oj hj h1 e he hbi
        by_cases e2 : i = e.on
        · rw [← e2] at h2; rw [hnf] at h2; cases h2
        · rw [getD_set_ne false e2]; exact h2
    -- what the tail's operation waits for is done
    have hw2 : ∀ k, i = hd.length + k → ∀ j, j < i → done.getD j false = true := fun k hk j hj => by
      exact waitsN_done hcl 5 o j hdo (htl (k := k) (o := o) (by rw [← hk]; exact ho) j (by omega))
    have hseq : ∀ m, i = hd.length + m → (∀ j, j < i → done.getD j false = true) → (∀ j, i ≤ j → done.getD j false = false) → wpList P (hd ++ tl).toArray Q (tl.drop m) a W →
        wpOp P (hd ++ tl).toArray Q i (fun a' W' => (done.setIfInBounds i true).size = (hd ++ tl).length ∧ (∀ i_1 o, (hd ++ tl)[i_1]? = some o → (done.setIfInBounds i true).getD i_1 false = true → ∀ e ∈ o.after, Region.binds .any e = true → (done.setIfInBounds i true).getD e.on false = true) ∧
          (((∀ j, hd.length ≤ j → (done.setIfInBounds i true).getD j false = false) ∧ FInvH hd s0 WI T a0 (done.setIfInBounds i true) a' W') ∨
           ∃ m, (∀ j, j < hd.length + m → (done.setIfInBounds i true).getD j false = true) ∧ (∀ j, hd.length + m ≤ j → (done.setIfInBounds i true).getD j false = false) ∧ wpList P (hd ++ tl).toArray Q (tl.drop m) a' W')) a W := fun m hm1 hlow hhigh hl => by
      have hom : tl[m]? = some o := by
        have := ho
        rw [hm1, List.getElem?_append_right (by omega), Nat.add_sub_cancel_left] at this
        exact this
      have hml := (List.getElem?_eq_some_iff.1 hom).1
      rw [List.drop_eq_getElem_cons hml, (List.getElem?_eq_some_iff.1 hom).2] at hl
      have hK : ∀ a' W', wpList P (hd ++ tl).toArray Q (tl.drop (m + 1)) a' W' → ((done.setIfInBounds i true).size = (hd ++ tl).length ∧ (∀ i_1 o, (hd ++ tl)[i_1]? = some o → (done.setIfInBounds i true).getD i_1 false = true → ∀ e ∈ o.after, Region.binds .any e = true → (done.setIfInBounds i true).getD e.on false = true) ∧
          (((∀ j, hd.length ≤ j → (done.setIfInBounds i true).getD j false = false) ∧ FInvH hd s0 WI T a0 (done.setIfInBounds i true) a' W') ∨
           ∃ m, (∀ j, j < hd.length + m → (done.setIfInBounds i true).getD j false = true) ∧ (∀ j, hd.length + m ≤ j → (done.setIfInBounds i true).getD j false = false) ∧ wpList P (hd ++ tl).toArray Q (tl.drop m) a' W')) := fun a' W' h => by
        refine ⟨by simp [hds], hcl', .inr ⟨m + 1, fun j hj => ?_, fun j hj => ?_, h⟩⟩
        · by_cases e : i = j
          · subst e; simp [hds ▸ hil]
          · rw [getD_set_ne false e]; exact hlow j (by omega)
        · rw [getD_set_ne false (by omega)]; exact hhigh j (by omega)
      unfold wpOp
      have ho' : (hd ++ tl).toArray[i]? = some o := by simpa using ho
      rw [ho']
      simp only [wpList] at hl
      split at hl
      · rename_i hw
        simp only [hw, if_true]
        exact hl.imp (Oper.wp_mono hK) fun h => h
      · rename_i hw
        simp only [hw]
        exact hK _ _ hl
    rcases hI with ⟨hT0, hI⟩ | ⟨m, hlow, hhigh, hl⟩
    · by_cases hih : i < hd.length
      · rw [hhd hih] at ho
        have hgn := (hg2 i o ho).2
        have hvals : ∀ j oj s, hd[j]? = some oj → oj.dst = some s → waits o j = true → T (done.getD s0 false) j (a.tmps.getD s undef) W := fun j oj sj hj hsj hw => by
          obtain ⟨e, he, hbi, hon⟩ := waits_spec hw
          exact hI.vals j oj sj hj (hon ▸ hdo e he hbi) hsj
        have hfix : ∀ s', keepsB hd i s' = true → a.tmps.getD s' undef = a0.tmps.getD s' undef := fun s' hk => hI.fixed s' fun j oj hj hdj hds2 => by
          have h1 := List.all_eq_true.1 hk (oj, j) (by rw [List.mem_zipIdx_iff_getElem?]; simpa using hj)
          simp only [Bool.or_eq_true, decide_eq_true_eq] at h1
          rcases h1 with (h1 | h1) | h1
          · exact h1 hds2
          · subst h1; rw [hnf] at hdj; cases hdj
          · obtain ⟨e, he, hbi, hon⟩ := waits_spec h1
            have h2 := hI.closed j oj hj hdj e he hbi
            rw [hon, hnf] at h2; cases h2
        refine wpOp_want o (by simpa [hhd hih] using ho) (by simp [Region.wanted, hgn]) ?_
        by_cases his : i = s0
        · subst his
          have hw := hI.world
          rw [hnf] at hw hvals
          have hdz := hz1 o ho
          refine Oper.wp_mono ?_ (hspec o ho a W hw hvals hfix _)
          rintro a' W' ⟨rfl, hWt, hT⟩
          refine ⟨by simp [hds], hcl', .inl ⟨fun j hj => by rw [getD_set_ne false (by omega)]; exact hT0 j hj, ?_⟩⟩
          have hself : (done.setIfInBounds i true).getD i false = true := getD_set_self (by omega)
          refine ⟨by rw [hself]; exact hWt, hI.defers, hI.size, fun k hk => ?_, fun j oj sj hj hdj hsj => ?_, fun j oj hj hdj e he hbi => ?_⟩
          · exact hI.fixed k fun j oj hj hdj => hk j oj hj (by
              by_cases e : i = j
              · subst e; rw [hnf] at hdj; cases hdj
              · rw [getD_set_ne false e]; exact hdj)
          · rw [hself]
            rcases done_set hdj with h1 | h1
            · subst h1
              have : oj = o := Option.some.inj (hj.symm.trans ho)
              subst this
              rw [hdz] at hsj; cases hsj
            · have hv := hI.vals j oj sj hj h1 hsj
              rw [hnf] at hv
              refine hT j oj sj hj ?_ (fun e => by subst e; rw [hnf] at h1; cases h1) hsj hv
              cases hwn : waitsN (hd ++ tl) 5 oj i with
              | false => rfl
              | true =>
                have h9 := waitsN_done hcl 5 oj i (fun e he hbi => hcl j oj (by rw [hhd (List.getElem?_eq_some_iff.1 hj).1]; exact hj) h1 e he hbi) hwn
                rw [hnf] at h9; cases h9
          · exact hcl' j oj (by rw [hhd (List.getElem?_eq_some_iff.1 hj).1]; exact hj) hdj e he hbi
        · obtain ⟨s, hs, hsz⟩ := (hg2 i o ho).1 his
          have hkeep : (done.setIfInBounds i true).getD s0 false = done.getD s0 false := getD_set_ne false his
          refine Oper.wp_mono ?_ (hstep i o ho his a W _ hI.world (fun hw => waitsN_done hcl 5 o s0 hdo hw) (fun o0 ho0 hb => by
            cases hwt : waits o0 i with
            | false => rfl
            | true =>
              obtain ⟨e, he, hbi, hon⟩ := waits_spec hwt
              have h2 := hI.closed s0 o0 ho0 hb e he hbi
              rw [hon, hnf] at h2; cases h2) hvals hfix _)
          rintro a' W' ⟨v, rfl, hB, hTi⟩
          refine ⟨by simp [hds], hcl', .inl ⟨fun j hj => by rw [getD_set_ne false (by omega)]; exact hT0 j hj, ?_⟩⟩
          have hput := fun k => put_at (a := a) (s := s) (v := v) (by rw [hI.size]; exact hsz) k
          rw [hs]
          refine ⟨by rw [hkeep]; exact hWB _ _ _ hI.world hB, hI.defers, ?_, fun k hk => ?_, fun j oj sj hj hdj hsj => ?_, fun j oj hj hdj e he hbi => ?_⟩
          · simp [Act.put, hI.size]
          · rw [hput k]
            have hne : k ≠ s := fun e => hk i o ho (by
              have hds : i < done.size := by omega
              simp [hds]) (by rw [e]; exact hs)
            rw [if_neg hne]
            exact hI.fixed k fun j oj hj hdj => hk j oj hj (by
              by_cases e : i = j
              · subst e; rw [hnf] at hdj; cases hdj
              · rw [getD_set_ne false e]; exact hdj)
          · rw [hput sj, hkeep]
            rcases done_set hdj with h1 | h1
            · subst h1
              have : oj = o := Option.some.inj (hj.symm.trans ho)
              subst this
              rw [if_pos (Option.some.inj (hsj.symm.trans hs))]
              exact hTi
            · have hne : sj ≠ s := fun e => by
                have := hnd j i oj o hj ho (by rw [hsj, hs, e])
                subst this
                rw [hnf] at h1; cases h1
              rw [if_neg hne]
              exact hlast _ _ _ _ _ (hI.vals j oj sj hj h1 hsj) hB
          · exact hcl' j oj (by rw [hhd (List.getElem?_eq_some_iff.1 hj).1]; exact hj) hdj e he hbi
      · obtain ⟨k, hk⟩ : ∃ k, i = hd.length + k := ⟨i - hd.length, by omega⟩
        have hlow := hw2 k hk
        have hk0 : k = 0 := by
          rcases Nat.eq_zero_or_pos k with h | h
          · exact h
          · have h1 := hlow hd.length (by omega)
            rw [hT0 _ (Nat.le_refl _)] at h1; cases h1
        subst hk0
        refine hseq 0 hk hlow (fun j hj => hT0 j (by omega)) ?_
        rw [List.drop_zero]
        exact hend a W (by have h9 := hI.world; rw [hlow s0 (by omega)] at h9; exact h9) hI.defers hI.size (fun s hs => hI.fixed s fun j o ho _ => by
          have := List.all_eq_true.1 hs o (List.mem_of_getElem? ho)
          simpa using this) (fun j o s ho hs => by have h9 := hI.vals j o s ho (hlow j (by have := (List.getElem?_eq_some_iff.1 ho).1; omega)) hs; rw [hlow s0 (by omega)] at h9; exact h9)
    · have him : i = hd.length + m := by
        rcases Nat.lt_trichotomy i (hd.length + m) with h | h | h
        · rw [hlow i h] at hnf; cases hnf
        · exact h
        · obtain ⟨k, hk⟩ : ∃ k, i = hd.length + k := ⟨i - hd.length, by omega⟩
          have h1 := hw2 k hk (hd.length + m) h
          rw [hhigh _ (Nat.le_refl _)] at h1; cases h1
      exact hseq m him (fun j hj => hlow j (by omega)) (fun j hj => hhigh j (by omega)) hl
  · rintro done a W ⟨hds, hcl, hI⟩ hall
    have hall' : ∀ i, i < (hd ++ tl).length → done.getD i false = true := fun i hi => hall i (by simpa using hi)
    rcases hI with ⟨hT0, hI⟩ | ⟨m, hlow, hhigh, hl⟩
    · have h0 : tl = [] := by
        cases tl with
        | nil => rfl
        | cons o r =>
          have h1 := hall' hd.length (by simp)
          rw [hT0 _ (Nat.le_refl _)] at h1; cases h1
      subst h0
      exact hend a W (by have h9 := hI.world; rw [hall' s0 (by simpa using hs0)] at h9; exact h9) hI.defers hI.size (fun s hs => hI.fixed s fun j o ho _ => by
          have := List.all_eq_true.1 hs o (List.mem_of_getElem? ho)
          simpa using this) (fun j o s ho hs => by have h9 := hI.vals j o s ho (hall' j (by have := (List.getElem?_eq_some_iff.1 ho).1; simp; omega)) hs; rw [hall' s0 (by simp; omega)] at h9; exact h9)
    · have hml : tl.length ≤ m := by
        rcases Nat.lt_or_ge m tl.length with h | h
        · have h1 := hall' (hd.length + m) (by simp; omega)
          rw [hhigh _ (Nat.le_refl _)] at h1; cases h1
        · exact h
      rw [List.drop_of_length_le hml] at hl
      exact hl
  · have hc : ∀ (n m : Nat), ((List.range m).countP fun i => !(Array.replicate n false).getD i true) ≤ m := fun n m => by
      have := List.countP_le_length (l := List.range m) (p := fun i => !(Array.replicate n false).getD i true)
      simpa using this
    exact hc _ _
  · have hz : ∀ n j, (Array.replicate n false).getD j false ≠ true := fun n j h => by rw [getD_replicate_false] at h; cases h
    exact ⟨by simp, fun i o _ h => absurd h (hz _ _), .inl ⟨fun i _ => getD_replicate_false _ _, by rw [getD_replicate_false]; exact hW0, rfl, rfl, fun _ _ => rfl, fun i o s _ h => absurd h (hz _ _), fun i o _ h => absurd h (hz _ _)⟩⟩
theorem wp_region_fine_store {P : Program} {id : Nat} {Q : Exit → Act → World → Prop} {a0 : Act} {w0 : World} {L : List Oper} (n s0 : Nat) (hs0 : s0 < (L.take n).length) (WI : Bool → World → Prop) (T : Bool → Nat → Value → World → Prop) (hm : P.follows .mixedOrders = true) (hp : plainH (L.take n) a0.tmps.size s0 = true)
    (hb0 : (L.zipIdx.all fun (o, i) => o.after.all fun e => !Region.binds .any e || decide (e.on < i)) = true) (ht : tailB (L.take n) (L.drop n) = true)
    (hW0 : WI false { w0 with drawn := w0.drawn + 1 }) (hWB : ∀ b W W', WI b W → Below W.heap.size W W' → WI b W')
    (hlast : ∀ b i v W W', T b i v W → Below W.heap.size W W' → T b i v W')
    (hspec : ∀ o, (L.take n)[s0]? = some o → ∀ (a : Act) (W : World), WI false W → (∀ j oj s, (L.take n)[j]? = some oj → oj.dst = some s → waits o j = true → T false j (a.tmps.getD s undef) W) → (∀ s, keepsB (L.take n) s0 s = true → a.tmps.getD s undef = a0.tmps.getD s undef) → ∀ Q, o.wp P a W (fun a' W' => a' = a ∧ WI true W' ∧ ∀ j oj s, (L.take n)[j]? = some oj → waitsN L 5 oj s0 = false → j ≠ s0 → oj.dst = some s → T false j (a.tmps.getD s undef) W → T true j (a.tmps.getD s undef) W') Q)
    (hstep : ∀ i o, (L.take n)[i]? = some o → i ≠ s0 → ∀ (a : Act) (W : World) (b : Bool), WI b W → (waitsN L 5 o s0 = true → b = true) → (∀ o0, (L.take n)[s0]? = some o0 → b = true → waits o0 i = false) → (∀ j oj s, (L.take n)[j]? = some oj → oj.dst = some s → waits o j = true → T b j (a.tmps.getD s undef) W) → (∀ s, keepsB (L.take n) i s = true → a.tmps.getD s undef = a0.tmps.getD s undef) → Lays P (T b) i o a W)
    (hend : ∀ (a : Act) (W : World), WI true W → a.defers = a0.defers → a.tmps.size = a0.tmps.size → (∀ s, ((L.take n).all fun o => decide (o.dst ≠ some s)) = true → a.tmps.getD s undef = a0.tmps.getD s undef) → (∀ i o s, (L.take n)[i]? = some o → o.dst = some s → T true i (a.tmps.getD s undef) W) → wpList P L.toArray Q (L.drop n) a W) :
    (Code.region id L.toArray true).wp P Q a0 w0 :=
  wp_region_any hm (any_fine_store (L.take n) (L.drop n) (List.take_append_drop n L).symm s0 hs0 WI T hW0 hWB hp (by rw [List.take_append_drop]; exact hb0) ht hlast (by rw [List.take_append_drop]; exact hspec) (by rw [List.take_append_drop]; exact hstep) (by rw [List.take_append_drop]; exact hend))
end Go.Own
namespace Go.Proofs.YtjgfljckmckhcaaDoor
open Go Go.RowKit Go.Own
attribute [-go_sem] Sm.execOp_bs run_string_add_if
attribute [local go_sem] agj61 csj61 szj61 agj64 csj64 szj64 agj25 isaj25 csj25 szj25 agj9 isaj9 csj9 szj9 agj32 isaj32 csj32 szj32 bsj32s ldX_mix1 ag42 cs42 sz42 ag34 cs34 sz34 z34 alXA ldMA stMs
section
variable {ρ : Operand → Value} {W : World} {dst : Option Tmp} {ty : TypeId} {pos : String} {after : Array Edge} {guard : Option (Nat × Bool)} {x y z : Operand}
theorem exec_index22 {g o n c k : Nat} (h1 : ρ x = .slice (some ⟨g, o, none⟩) n c) (h2 : ρ y = .int .i64 (k : Int)) (hk : k < n) : (execOp ρ { dst, op := .indexAddr 22 x y, type := ty, pos, after, guard }).run Tryd.prog W = .ok (.value (.pointer (some ⟨g, o + k * 6, none⟩))) W := by
  have hki : (k : Int) < (n : Int) := by omega
  simp [execOp, h1, h2, go_sem, hki]
theorem exec_extract {vs : Array Value} {n : Nat} {v : Value} (h1 : ρ x = .tuple vs) (hv : vs[n]? = some v) : (execOp ρ { dst, op := .extract x n, type := ty, pos, after, guard }).run Tryd.prog W = .ok (.value v) W := by
  simp [execOp, h1, go_sem, hv]
theorem exec_neq3 {a b : Int} (h1 : ρ x = .int .i64 a) (h2 : ρ y = .int .i64 b) : (execOp ρ { dst, op := .binOp .neq 3 x y 3, type := ty, pos, after, guard }).run Tryd.prog W = .ok (.value (.bool (a != b))) W := by
  simp [execOp, h1, h2, go_sem]
theorem exec_neq26 {a b : Int} (h1 : ρ x = .int .i64 a) (h2 : ρ y = .int .i64 b) : (execOp ρ { dst, op := .binOp .neq 26 x y 26, type := ty, pos, after, guard }).run Tryd.prog W = .ok (.value (.bool (a != b))) W := by
  simp [execOp, h1, h2, go_sem]
theorem exec_nil29 {b : Addr} (h1 : ρ x = .pointer (some b)) (h2 : ρ y = .pointer none) : (execOp ρ { dst, op := .binOp .eql 29 x y 29, type := ty, pos, after, guard }).run Tryd.prog W = .ok (.value (.bool false)) W := by
  simp [execOp, h1, h2, go_sem]
theorem exec_pick {b : Bool} {u v : Value} (h1 : ρ x = .bool b) (h2 : ρ y = u) (h3 : ρ z = v) : (execOp ρ { dst, op := .pick x y z, type := ty, pos, after, guard }).run Tryd.prog W = .ok (.value (if b then u else v)) W := by
  cases b <;> simp [execOp, h1, h2, h3, go_sem]
end
/-! ### the document's journal in a region that draws -/
/-- A row of texts is no block of a journal's numbers. -/
theorem row_mset {A : Nat → Prop} {w : World} {L : List Obj} {n : Nat} {v : Value} {ts : List (List Nat)} {j : Nat} {h tk g h' tk' g' : Nat} {vt vt' : Value} (hr : RowV A w L 1 n v (strs ts)) (hj : L[j]? = some (.cells (mc h vt tk g) 34 (0, 0))) :
    RowV A w (L.set j (.cells (mc h' vt' tk' g') 34 (0, 0))) 1 n v (strs ts) := by
  have hl := hr.length
  rcases hr with hr | ⟨i, c, X, t, hA, hv, hi, hX, hnc, hXt⟩
  · exact .inl hr
  · by_cases e : j = i
    · subst e
      rw [hj] at hi
      simp only [Option.some.injEq, Obj.cells.injEq, and_true] at hi
      obtain ⟨h1, h2⟩ := hi
      have hXe : X = (mc h vt tk g).toList := by rw [h1]
      cases n with
      | zero =>
        have hX4 : (mc h' vt' tk' g').toList.length = c * 1 := by rw [← hX, hXe]; rfl
        refine .inr ⟨j, c, (mc h' vt' tk' g').toList, 34, hA, hv, ?_, hX4, hnc, ?_⟩
        · rw [List.getElem?_set_self (List.getElem?_eq_some_iff.1 hj).1, Array.toArray_toList]
        · rw [← hXt]; simp
      | succ n =>
        exfalso
        cases ts with
        | nil => simp [strs] at hl
        | cons t0 ts =>
          have : (X.take ((n + 1) * 1))[0]? = some (.string (mkS t0)) := by rw [hXt]; rfl
          rw [List.getElem?_take_of_lt (by omega), hXe] at this
          simp [mc] at this
    · exact .inr ⟨i, c, X, t, hA, hv, by rw [List.getElem?_set_ne e]; exact hi, hX, hnc, hXt⟩
def mdT (w : World) (A : Nat → Prop) (r : Md × Nat) (v : Value) (W : World) : Prop := ∃ vt' L' d', W = Wd w L' d' ∧ v = .tuple #[.agg (mc r.1.half vt' r.1.taken r.1.gen), .int .i64 ((r.2 : Nat) : Int)] ∧ RowV A w L' 1 r.1.texts.length vt' (strs r.1.texts)
def mdA (w : World) (A : Nat → Prop) (r : Md × Nat) (v : Value) (W : World) : Prop := ∃ vt' L' d', W = Wd w L' d' ∧ v = .agg (mc r.1.half vt' r.1.taken r.1.gen) ∧ RowV A w L' 1 r.1.texts.length vt' (strs r.1.texts)
def mdZ (w : World) (B : Nat) (v : Value) (W : World) : Prop := ∃ j L' d', W = Wd w L' d' ∧ B ≤ j ∧ v = .pointer (some ⟨w.heap.size + j, 0, none⟩) ∧ L'[j]? = some (.cells (mc 0 (.slice none 0 0) 0 0) 34 (0, 0))
def mdS (w : World) (A : Nat → Prop) (B : Nat) (r : Md × Nat) (v : Value) (W : World) : Prop := ∃ j vt' L' d', W = Wd w L' d' ∧ B ≤ j ∧ v = .pointer (some ⟨w.heap.size + j, 0, none⟩) ∧ L'[j]? = some (.cells (mc r.1.half vt' r.1.taken r.1.gen) 34 (0, 0)) ∧ RowV A w L' 1 r.1.texts.length vt' (strs r.1.texts)
section
variable {w : World} {A : Nat → Prop} {B : Nat} {r : Md × Nat}
theorem mdT_last : Lasts (mdT w A r) := by
  rintro v W W' ⟨vt, L, d, rfl, hv, hr⟩ hB
  obtain ⟨g, d', rfl⟩ := below_grows hB
  exact ⟨vt, _, d', rfl, hv, hr.more g⟩
theorem mdA_last : Lasts (mdA w A r) := by
  rintro v W W' ⟨vt, L, d, rfl, hv, hr⟩ hB
  obtain ⟨g, d', rfl⟩ := below_grows hB
  exact ⟨vt, _, d', rfl, hv, hr.more g⟩
theorem mdZ_last : Lasts (mdZ w B) := by
  rintro v W W' ⟨j, L, d, rfl, hb, hv, hr⟩ hB
  obtain ⟨g, d', rfl⟩ := below_grows hB
  exact ⟨j, _, d', rfl, hb, hv, app_some hr⟩
theorem mdS_last : Lasts (mdS w A B r) := by
  rintro v W W' ⟨j, vt, L, d, rfl, hb, hv, hr, hrow⟩ hB
  obtain ⟨g, d', rfl⟩ := below_grows hB
  exact ⟨j, vt, _, d', rfl, hb, hv, app_some hr, hrow.more g⟩
end
section
variable {dst : Option Tmp} {ty : TypeId} {pos : String} {after : Array Edge} {guard : Option (Nat × Bool)} {x y : Operand} {a : Act}
set_option maxRecDepth 100000 in
theorem lays_alloc34 {T : Nat → Value → World → Prop} {i : Nat} {w : World} {L : List Obj} {d B : Nat} (hB : B ≤ L.length) (hT : ∀ v W, mdZ w B v W → T i v W) : Lays Tryd.prog T i { dst, op := .alloc 34, type := ty, pos, after, guard } a (Wd w L d) := by
  have he : (execOp a.eval { dst, op := .alloc 34, type := ty, pos, after, guard }).run Tryd.prog (Wd w L d) = .ok (.value (.pointer (some ⟨w.heap.size + L.length, 0, none⟩))) (Wd w (L ++ [.cells (mc 0 (.slice none 0 0) 0 0) 34 (0, 0)]) d) := by
    simp [go_sem]
  exact lays_value he (below_of _ _ _ _ _) (hT _ _ ⟨L.length, _, _, rfl, hB, rfl, by simp⟩)
set_option maxRecDepth 100000 in
theorem store34 {w : World} {L : List Obj} {d j h tk g h' tk' g' n c : Nat} {q : Option Addr} {vt : Value} {Q : Exit → Act → World → Prop} {R : Act → World → Prop} (h1 : a.eval x = .pointer (some ⟨w.heap.size + j, 0, none⟩)) (h2 : a.eval y = .agg (mc h' (.slice q n c) tk' g')) (hj : L[j]? = some (.cells (mc h vt tk g) 34 (0, 0)))
    (hR : R a (Wd w (L.set j (.cells (mc h' (.slice q n c) tk' g') 34 (0, 0))) d)) : Oper.wp Tryd.prog { dst := none, op := .store 34 x y, type := ty, pos, after, guard } a (Wd w L d) R Q := by
  have he : (execOp a.eval { dst := none, op := .store 34 x y, type := ty, pos, after, guard }).run Tryd.prog (Wd w L d) = .ok .skip (Wd w (L.set j (.cells (mc h' (.slice q n c) tk' g') 34 (0, 0))) d) := by
    have hs := stMs (w := w) (d := d) (h' := h') (tk' := tk') (g' := g') (x := n) (c := c) (q := q) hj
    rw [execOp_store, h1, h2]
    simp [run_stN, cs34, hj, hs, Result.andThen]
  unfold Oper.wp
  rw [he]
  exact hR
end

section
variable {ρ : Operand → Value} {W : World} {dst : Option Tmp} {ty : TypeId} {pos : String} {after : Array Edge} {guard : Option (Nat × Bool)} {x y z : Operand}
theorem exec_same3 {a : Int} (h1 : ρ x = .int .i64 a) (h2 : ρ y = .int .i64 a) : (execOp ρ { dst, op := .binOp .neq 3 x y 3, type := ty, pos, after, guard }).run Tryd.prog W = .ok (.value (.bool false)) W := by
  have := exec_neq3 (dst := dst) (ty := ty) (pos := pos) (after := after) (guard := guard) (W := W) h1 h2
  rw [this, show (a != a) = false from by simp]
theorem exec_same26 {a : Int} (h1 : ρ x = .int .i64 a) (h2 : ρ y = .int .i64 a) : (execOp ρ { dst, op := .binOp .neq 26 x y 26, type := ty, pos, after, guard }).run Tryd.prog W = .ok (.value (.bool false)) W := by
  have := exec_neq26 (dst := dst) (ty := ty) (pos := pos) (after := after) (guard := guard) (W := W) h1 h2
  rw [this, show (a != a) = false from by simp]
theorem exec_or {b : Bool} (h1 : ρ x = .bool false) (h2 : ρ z = .bool b) : (execOp ρ { dst, op := .pick x y z, type := ty, pos, after, guard }).run Tryd.prog W = .ok (.value (.bool b)) W := by
  have := exec_pick (dst := dst) (ty := ty) (pos := pos) (after := after) (guard := guard) (W := W) (y := y) h1 rfl h2
  rw [this]; rfl
theorem exec_not1 (h1 : ρ x = .bool true) : (execOp ρ { dst, op := .unOp .not 4 x, type := ty, pos, after, guard }).run Tryd.prog W = .ok (.value (.bool false)) W := exec_not h1
end
theorem wp_call {P : Program} {a : Act} {W : World} {dst : Option Tmp} {f : FuncId} {xs : Array Operand} {ats : Array TypeId} {ty : TypeId} {pos : String} {after : Array Edge} {guard : Option (Nat × Bool)} {R : Act → World → Prop} {Q : Exit → Act → World → Prop} (args : Array Value) (hargs : xs.map a.eval = args)
    (hf : (callFunc f args).run P W = .ok (.enter f args) W) (hc : Calls P f args W fun e W' => ∃ v, e = .returned v ∧ R (a.put dst v) W') : Oper.wp P { dst, op := .call { callee := .value (.func f), args := xs, argTypes := ats }, type := ty, pos, after, guard } a W R Q := by
  unfold Oper.wp
  rw [execOp_call_go, hargs]
  simp only [Array.empty_append, Array.append_empty]
  rw [hf]
  refine hc.mono ?_
  rintro e W' ⟨v, rfl, hR⟩
  exact hR
/-- Texts, in whatever has grown. -/
def txB (w : World) (bs : List ByteArray) (v : Value) (W : World) : Prop := ∃ L' d', W = Wd w L' d' ∧ TxAt w L' v bs
theorem txB_last {w : World} {bs : List ByteArray} : Lasts (txB w bs) := by
  rintro v W W' ⟨L, d, rfl, hr⟩ hB
  obtain ⟨g, d', rfl⟩ := below_grows hB
  exact ⟨_, d', rfl, hr.more (by rw [List.length_append]; omega) fun p hp => List.getElem?_append_left hp⟩
end Go.Proofs.YtjgfljckmckhcaaDoor

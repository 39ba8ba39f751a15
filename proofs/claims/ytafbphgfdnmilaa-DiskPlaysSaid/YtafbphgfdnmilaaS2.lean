/- The program's disk and the document's side by side in memory. No condition. -/
import Derived.Test.YtafbphgfdnmilaaS1
import Derived.Test.YtafbphgfdnmilaaM1
import Derived.Test.YtafbphgfdnmilaaC8
namespace Go.Own
open Go.RowKit
theorem wp_region_big_all {P : Program} {id : Nat} {Q : Exit → Act → World → Prop} {a : Act} {w : World} {l0 : List Obj} {d : Nat} {l : List Oper} (hm : P.follows .mixedOrders = true) (hB : Region.lexB .any l.toArray = true)
    (h : wpQuiet P l.toArray (More w l0) (fun a' => ∀ g e, Q .normal a' (Wd w (l0 ++ g) e)) l a) : (Code.region id l.toArray true).wp P Q a (Wd w l0 d) := by
  refine wp_region_quiet (C := More w l0) hm hB ⟨[], d + 1, by rw [List.append_nil]; rfl⟩ ?_
  have e : (fun a' => ∀ w', More w l0 w' → Q .normal a' w') = fun a' => ∀ g e, Q .normal a' (Wd w (l0 ++ g) e) := by
    funext a'
    exact propext all_more
  rw [e]
  exact h
end Go.Own
namespace Go.Proofs.Ytafbphgfdnmilaa
open Go.RowKit Go.Own
theorem Ext.form {l l' : List Obj} (h : Ext l l') : ∃ g, l' = l ++ g := by
  refine ⟨l'.drop l.length, ?_⟩
  have hl := h.1
  refine List.ext_getElem (by simp; omega) fun p h1 h2 => ?_
  rcases Nat.lt_or_ge p l.length with hp | hp
  · rw [List.getElem_append_left hp]
    have := h.2 p hp
    rw [List.getElem?_eq_getElem h1, List.getElem?_eq_getElem hp] at this
    exact Option.some.inj this
  · rw [List.getElem_append_right hp, List.getElem_drop]
    congr 1; omega
structure Play (w : World) (l : List Obj) (i s q : Nat) (vw : Value) (O : Nat → Prop) (M : Dk) (mb : Nat) (vl vr : Value) (R : Rk) (n c : Nat) : Prop where
  lt : ∀ p, O p → p < l.length
  dk : DAt w l i s q vw O M
  own : O mb
  blk : l[mb]? = some (.cells (rc vl vr R) 35 (0, 0))
  ref : RAt (fun p => O p ∧ p ≠ mb) w l vl vr R
  rel : Rel M R
  bnd : Bnd c R
  len : R.lasts.length = n
theorem Play.app {w : World} {l : List Obj} {i s q : Nat} {vw : Value} {O : Nat → Prop} {M : Dk} {mb : Nat} {vl vr : Value} {R : Rk} {n c : Nat} (h : Play w l i s q vw O M mb vl vr R n c) (g : List Obj) : Play w (l ++ g) i s q vw (Omore O l (l ++ g)) M mb vl vr R n c :=
  ⟨Omore_lt h.lt (by simp), h.dk.push fun p hp _ => List.getElem?_append_left hp, .inl h.own, app_some h.blk, h.ref.mono fun p hp hlt => ⟨⟨.inl hp.1, hp.2⟩, List.getElem?_append_left hlt⟩, h.rel, h.bnd, h.len⟩
theorem Play.next {w : World} {l : List Obj} {i s q : Nat} {vw : Value} {O : Nat → Prop} {M : Dk} {mb : Nat} {vl vr : Value} {R : Rk} {n c : Nat} (h : Play w l i s q vw O M mb vl vr R n c) : Play w l i s q vw O M mb vl vr R n (c + 1) := ⟨h.lt, h.dk, h.own, h.blk, h.ref, h.rel, h.bnd.next, h.len⟩
/-- Where the document's rows may lie behind a call. -/
def Aft (O : Nat → Prop) (l : List Obj) (mb : Nat) : Nat → Prop := fun p => (O p ∨ l.length ≤ p) ∧ p ≠ mb
/-- Between the program's call and the document's. -/
structure Half (w : World) (l : List Obj) (i s q : Nat) (vw : Value) (O : Nat → Prop) (M : Dk) (mb : Nat) (vl vr : Value) (R : Rk) : Prop where
  lt : ∀ p, O p → p < l.length
  dk : DAt w l i s q vw O M
  own : O mb
  blk : l[mb]? = some (.cells (rc vl vr R) 35 (0, 0))
  ref : RAt (Aft O l mb) w l vl vr R
  new : ∀ p, l.length ≤ p → Aft O l mb p
theorem Play.half {w : World} {l l' : List Obj} {i s q : Nat} {vw vw' : Value} {O : Nat → Prop} {M M' : Dk} {mb : Nat} {vl vr : Value} {R : Rk} {n c : Nat} (h : Play w l i s q vw O M mb vl vr R n c) (hd : DAt w l' i s q vw' O M') (hk : Kp O l l') : Half w l' i s q vw' O M' mb vl vr R := by
  have hm := h.lt mb h.own
  refine ⟨fun p hp => Nat.lt_of_lt_of_le (h.lt p hp) hk.1, hd, h.own, by rw [hk.2 mb h.own hm]; exact h.blk, h.ref.mono fun p hp hlt => ⟨⟨.inl hp.1, hp.2⟩, hk.2 p hp.1 hlt⟩, fun p hp => ⟨.inr hp, ?_⟩⟩
  have := hk.1; omega
theorem Half.close {w : World} {l l' : List Obj} {i s q : Nat} {vw : Value} {O : Nat → Prop} {M : Dk} {mb : Nat} {vl vr vl' vr' : Value} {R R' : Rk} {n c : Nat} (h : Half w l i s q vw O M mb vl vr R) (hx : Ext l l') (hr : RAt (Aft O l mb) w l' vl' vr' R') (hrel : Rel M R') (hb : Bnd c R') (hn : R'.lasts.length = n) :
    Play w (l'.set mb (.cells (rc vl' vr' R') 35 (0, 0))) i s q vw (Omore O l l') M mb vl' vr' R' n c := by
  have hm := h.lt mb h.own
  refine ⟨fun p hp => by rw [List.length_set]; exact Omore_lt h.lt hx.1 p hp, h.dk.keep fun p hp hlt => ⟨fun hO => hO.elim hp (fun h => by omega), ?_⟩, .inl h.own, set_some ((hx.2 mb hm).trans h.blk), hr.mono fun p hp hlt => ⟨⟨?_, hp.2⟩, List.getElem?_set_ne hp.2.symm⟩, hrel, hb, hn⟩
  · have hne : mb ≠ p := fun e => hp (e ▸ h.own)
    rw [List.getElem?_set_ne hne, hx.2 p hlt]
  · exact hp.1.elim .inl fun hp => .inr ⟨hp, hlt⟩
/-- The document's call changed nothing. -/
theorem Half.same {w : World} {l l' : List Obj} {i s q : Nat} {vw : Value} {O : Nat → Prop} {M : Dk} {mb : Nat} {vl vr : Value} {R : Rk} {n c : Nat} (h : Half w l i s q vw O M mb vl vr R) (hx : Ext l l') (hrel : Rel M R) (hb : Bnd c R) (hn : R.lasts.length = n) :
    Play w l' i s q vw (Omore O l l') M mb vl vr R n c := by
  have hm := h.lt mb h.own
  exact ⟨Omore_lt h.lt hx.1, h.dk.push fun p hp _ => hx.2 p hp, .inl h.own, (hx.2 mb hm).trans h.blk, h.ref.mono fun p hp hlt => ⟨⟨hp.1.elim .inl fun h => by omega, hp.2⟩, hx.2 p hlt⟩, hrel, hb, hn⟩
section
variable {w : World} {l : List Obj} {i s q : Nat} {vw : Value} {O : Nat → Prop} {M : Dk} {mb : Nat} {vl vr : Value} {R : Rk} {n c : Nat}
theorem Play.down (h : Play w l i s q vw O M mb vl vr R n c) (g : List Obj) (e : Nat) : Calls Try.prog 22 #[.pointer (some ⟨w.heap.size + i, 0, none⟩)] (Wd w (l ++ g) e) fun x w' => x = .returned (.bool R.off) ∧ More w l w' := by
  rw [← h.rel.1.off]
  exact (down2_any w (l ++ g) e i s q vw O M (h.dk.app g)).mono fun _ _ ⟨h1, h2⟩ => ⟨h1, g, e, h2⟩
theorem Play.size (h : Play w l i s q vw O M mb vl vr R n c) (g : List Obj) (e : Nat) : Calls Try.prog 23 #[.pointer (some ⟨w.heap.size + i, 0, none⟩)] (Wd w (l ++ g) e) fun x w' => x = .returned (.int .i64 (n : Int)) ∧ More w l w' := by
  rw [← h.len, ← h.rel.1.n]
  exact (size2_any w (l ++ g) e i s q vw O M (h.dk.app g)).mono fun _ _ ⟨h1, h2⟩ => ⟨h1, g, e, h2⟩
theorem Play.image (h : Play w l i s q vw O M mb vl vr R n c) (g : List Obj) (e : Nat) : Calls Try.prog 24 #[.pointer (some ⟨w.heap.size + i, 0, none⟩)] (Wd w (l ++ g) e) fun x w' => x = .returned (.string (mkS R.lasts.flatten)) ∧ More w l w' := by
  rw [← h.rel.1.last]
  exact (image_any w (l ++ g) e i s q vw O M (h.dk.app g)).mono fun _ _ ⟨h1, g', d', h2⟩ => ⟨h1, g ++ g', d', by rw [h2, List.append_assoc]⟩
theorem Play.imageR (h : Play w l i s q vw O M mb vl vr R n c) (hn : n ≤ 4096) (g : List Obj) (e : Nat) : Calls Try.prog 25 #[.agg (rc vl vr R)] (Wd w (l ++ g) e) fun x w' => x = .returned (.string (mkS R.lasts.flatten)) ∧ More w l w' :=
  (imageR_any w (l ++ g) e _ vl vr R (h.ref.ext (Ext.app l g)) (by rw [h.len]; exact hn)).mono fun _ _ ⟨h1, l', d', h2, hx⟩ => by
    obtain ⟨g', rfl⟩ := hx.form
    exact ⟨h1, g ++ g', d', by rw [h2, List.append_assoc]⟩
end
theorem putB_any (w : World) (l : List Obj) (d : Nat) (A : Nat → Prop) (vl vw : Value) (R : Rk) (h : RAt A w l vl vw R) (hA : ∀ p, l.length ≤ p → A p) (hn : R.lasts.length ≤ 4096) (hw : R.wait.length < 1000) (hc : R.count ≤ 1099511627776) (x : Int) (y : ByteArray) :
    Calls Try.prog 12 #[.agg (rc vl vw R), .int .i64 x, .string y] (Wd w l d) (RetR A w l (R.put x (bys y)).1 fun v => .tuple #[v, .int .i64 (((R.put x (bys y)).2 : Nat) : Int)]) := by
  have h := putR_any w l d A vl vw R h hA hn hw hc x (bys y) (B8.bys y)
  rwa [mkS_bys] at h
theorem tearR_length (k : Nat) (t last : Int) : ∀ (ws : List (Nat × List Nat)) (i : Nat) (x : List (List Nat)), (tearR k t last i x ws).length = x.length
  | [], _, _ => rfl
  | _ :: ws, i, _ => (tearR_length k t last ws (i + 1) _).trans (List.length_set ..)
theorem fail_len (R : Rk) (k : Nat) (t : Int) : (R.fail k t).lasts.length = R.lasts.length := tearR_length _ _ _ _ _ _
theorem counted_len (R : Rk) : R.counted.1.lasts.length = R.lasts.length := by
  unfold Rk.counted
  split
  · exact fail_len { R with count := R.count + 1 } _ _
  · rfl
theorem put_len (R : Rk) (x : Int) (s : List Nat) : (R.put x s).1.lasts.length = R.lasts.length := by
  unfold Rk.put
  split
  · split
    · rfl
    · exact counted_len { R with wait := R.wait ++ [(x.toNat, filL s)] }
  · rfl
theorem flush_len (R : Rk) : R.flush.1.lasts.length = R.lasts.length := by
  unfold Rk.flush
  split
  · rfl
  · split
    · exact counted_len R
    · exact (applyR_length _ _).trans (counted_len R)
theorem crash_len (R : Rk) (k : Nat) (t : Int) : (R.crash k t).lasts.length = R.lasts.length := by
  unfold Rk.crash
  split
  · rfl
  · exact fail_len R k t
end Go.Proofs.Ytafbphgfdnmilaa

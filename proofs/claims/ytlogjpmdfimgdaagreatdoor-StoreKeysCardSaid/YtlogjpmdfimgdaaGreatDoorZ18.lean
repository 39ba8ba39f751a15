/- The sectors of a text, from the last one to the first, as the iterator hands them out: its contract. No condition but the size. | What a range over the sectors keeps; the steps that it makes. No condition. | A range over the sectors of a text; a write's step as a value that lasts. No condition but the size. -/
import Derived.Test.YtlogjpmdfimgdaaGreatDoorZ17
import Derived.Test.YtlogjpmdfimgdaaGreatDoorZ13
import Derived.Test.YtlogjpmdfimgdaaGreatDoorZ15
namespace Go.Proofs.YtlogjpmdfimgdaaGreatDoor.Jf
open Go Go.RowKit Go.Own.Jf Go.Shelf
/-- A sector's place and what lies on it. -/
abbrev Ck := { x : Nat × ByteArray // x.1 ≤ 100000 ∧ x.2.size ≤ 64 }
/-- The sector of number n - 1 - k. -/
def ckB (y : ByteArray) (n k : Nat) : Ck := ⟨(min (n - 1 - k) 100000, y.extract ((n - 1 - k) * 64) (min ((n - 1 - k) * 64 + 64) y.size)), by omega, by rw [ByteArray.size_extract]; omega⟩
def cksB (y : ByteArray) (n k : Nat) : List Ck := (List.range k).map (ckB y n)
theorem cksB_succ (y : ByteArray) (n k : Nat) : cksB y n (k + 1) = cksB y n k ++ [ckB y n k] := by simp [cksB, List.range_succ]
theorem cksB_length (y : ByteArray) (n k : Nat) : (cksB y n k).length = k := by simp [cksB]
def encC (x : Ck) : Array Value := #[.int .i64 ((x.1.1 : Nat) : Int), .string x.1.2]
attribute [-go_sem] Sm.execOp_bs run_string_add_if
attribute [local go_sem] Oper.semAt_some
attribute [local go_sem] isaj9 agj9
set_option maxRecDepth 100000 in
set_option maxHeartbeats 1000000 in
theorem chunks_stops (y : ByteArray) (hy : y.size ≤ 1000000) (h1 : 1 ≤ y.size) (b n : Nat) (w : World) (hb : blk w b = some (.cells #[.string y] 9 (0, 0))) :
    SeqStopsK Fence.wide n Tryz.prog 120 #[.pointer (some ⟨b, 0, none⟩)] encC (KeepsB b) (fun xs => xs = cksB y ((y.size + 63) / 64) ((y.size + 63) / 64)) (fun _ => True) ((y.size + 63) / 64) w := by
  intro l J Jx W hW hJ hJx hY h0
  have hbW : blk W b = some (.cells #[.string y] 9 (0, 0)) := by
    have hbl : b < w.heap.size := by
      unfold blk at hb
      rcases Nat.lt_or_ge b w.heap.size with h' | h'
      · exact h'
      · simp [Array.getElem?_eq_none h'] at hb
    unfold blk at hb ⊢
    rw [hW.block b hbl]; exact hb
  have HBW := Lib.hid hbW
  obtain ⟨N, hN⟩ : ∃ N, (y.size + 63) / 64 = N := ⟨_, rfl⟩
  rw [hN] at hY ⊢
  have HY := Lib.hid hY
  have H0 := Lib.hid h0
  have HN : Hid (64 * N < y.size + 64 ∧ y.size ≤ 64 * N) := Lib.hid (by omega)
  have hN0 : ((y.size : Int) - 1) / 64 = (N : Int) - 1 := by omega
  have hNb : N ≤ 20000 := by omega
  have hN1 : 1 ≤ N := by omega
  have hyb : (1 : Int) ≤ (y.size : Int) := by omega
  have HN0 := Lib.hid hN0
  clear hY h0 hbW hb hW hJ hJx hN hN0
  refine callsIn_of_wp Tryz.func120 rfl trivial ?_ rfl
  simp only [Tryz.ntmps120, List.size_toArray, List.length_cons, List.length_nil, Nat.reduceAdd, Nat.reduceSub, Array.replicate_succ, Array.replicate_zero, List.push_toArray, List.append_toArray, List.nil_append, List.cons_append]
  have hb0 := HBW.out
  gi_wp2
  gi_loopw [3, 4] (fun e i wr => ∃ k : Nat, k ≤ N ∧ e = .int .i64 ((min ((N - k) * 64) y.size : Nat) : Int) ∧ i = .int .i64 ((N : Int) - 1 - (k : Int)) ∧ Hid (blk wr b = some (.cells #[.string y] 9 (0, 0))) ∧ Hid (J (cksB y N k) wr)) (fun _ i _ => (intOf i + 1).toNat)
  case atStart => exact ⟨0, by omega, by have := HN.out; congr 1; omega, by have := HN0.out; congr 1; omega, HBW, H0⟩
  case round =>
    obtain ⟨k, hk, rfl, rfl, hB, hJ⟩ := hrel
    have hb' := hB.out
    clear hb0
    by_cases hlt : k < N
    · obtain ⟨c, hc⟩ : ∃ c, N - 1 - k = c := ⟨_, rfl⟩
      have hci : (N : Int) - 1 - (k : Int) = (c : Int) := by omega
      obtain ⟨p, hp⟩ : ∃ p, c * 64 = p := ⟨_, rfl⟩
      have hpi : (c : Int) * 64 = (p : Int) := by omega
      obtain ⟨e, he⟩ : ∃ e, min ((N - k) * 64) y.size = e := ⟨_, rfl⟩
      rw [he, hci]
      have hpe : p ≤ e := by have := HN.out; omega
      have hpei : (p : Int) ≤ (e : Int) := by omega
      have hey : e ≤ y.size := by omega
      have heyi : (e : Int) ≤ (y.size : Int) := by omega
      have hcb : c ≤ 20000 := by omega
      have hpb : p ≤ 2000000 := by omega
      have heb : e ≤ 1000000 := by omega
      have hc0 : (0 : Int) ≤ (c : Int) := by omega
      obtain ⟨fn, tmps, assign, body, hy, hR⟩ := HY.out (cksB y N k) (ckB y N k) wr hJ.out (by rw [cksB_length]; exact hlt)
      have e1 : (ckB y N k).1.1 = c := by show min (N - 1 - k) 100000 = c; omega
      have e2 : (ckB y N k).1.2 = y.extract p e := by
        show y.extract ((N - 1 - k) * 64) (min ((N - 1 - k) * 64 + 64) y.size) = _
        congr 1
        · rw [hc]; exact hp
        · omega
      have HE := Lib.hid he
      have HC := Lib.hid hc
      have HP := Lib.hid hp
      unfold encC at hy
      rw [e1, e2] at hy
      clear e1 e2 he hc hp hJ
      gi_wp2
      refine ⟨fun h0 => (by cases h0), hR.mono ?_⟩
      rintro e' W' (⟨rfl, hJ', hk'⟩ | ⟨rfl, hJx'⟩)
      · rw [← cksB_succ] at hJ'
        have HJ' := Lib.hid hJ'
        have HB' := Lib.hid (hk' _ hb')
        clear hJ' hk'
        gi_wp2
        go_roundw
        case rel => exact ⟨k + 1, hlt, by have := HC.out; have := HP.out; congr 1; omega, by have := HC.out; congr 1; omega, HB', HJ'⟩
        case measure => simp [intOf]
      · gi_wp2
        refine bodyPost_ret (results_none rfl _ _ _) rfl ?_
        exact ⟨⟨_, rfl⟩, .inr ⟨_, trivial, hJx'⟩⟩
    · obtain rfl : k = N := by omega
      have hneg : (k : Int) - 1 - (k : Int) = -1 := by omega
      rw [hneg]
      gi_wp2
      go_end0
      exact ⟨⟨_, rfl⟩, .inl ⟨_, rfl, hJ.out⟩⟩
end Go.Proofs.YtlogjpmdfimgdaaGreatDoor.Jf
namespace Go.Own.Jf
open Go Go.RowKit
theorem RowV.monoC {A B : Nat → Prop} {w : World} {l l' : List Obj} {sz n : Nat} {v : Value} {C : List Value} (h : RowV A w l sz n v C) (hl : ∀ p c t f, A p → l[p]? = some (.cells c t f) → B p ∧ l'[p]? = some (.cells c t f)) : RowV B w l' sz n v C := by
  rcases h with h | ⟨i, c, X, t, hA, hv, hi, h⟩
  · exact .inl h
  · have := hl i _ _ _ hA hi
    exact .inr ⟨i, c, X, t, this.1, hv, this.2, h⟩
theorem RowV.cellsAt {A : Nat → Prop} {w : World} {l : List Obj} {sz n : Nat} {v : Value} {C : List Value} (h : RowV A w l sz n v C) {p : Nat} {o : Obj} (hp : l[p]? = some o) (ho : o.isCells = false) : NotAt w v p := by
  rcases h with ⟨rfl, _⟩ | ⟨i, c, X, t, _, rfl, hi, _⟩
  · intro n c e; simp at e
  · intro n' c' e
    simp at e
    have : i = p := by omega
    subst this
    rw [hp] at hi
    obtain rfl := Option.some.inj hi
    cases ho
end Go.Own.Jf
namespace Go.Proofs.YtlogjpmdfimgdaaGreatDoor.Jf
open Go Go.RowKit Go.Own.Jf
theorem StpAt.monoC {w : World} {L L' : List Obj} {A B : Nat → Prop} {i : Nat} {v : Value} {s : Stp} (h : StpAt w L A i v s) (hl : ∀ p c t f, A p → L[p]? = some (.cells c t f) → B p ∧ L'[p]? = some (.cells c t f)) : StpAt w L' B i v s := by
  cases s with
  | f => exact h
  | w a s =>
    obtain ⟨b1, b2, b3, fi, n, g, u, vt, at', y, h1, h2, h3, hv, e1, e2, e3, h4⟩ := h
    have k1 := hl b1 _ _ _ h1 e1
    have k2 := hl b2 _ _ _ h2 e2
    have k3 := hl b3 _ _ _ h3 e3
    exact ⟨b1, b2, b3, fi, n, g, u, vt, at', y, k1.1, k2.1, k3.1, hv, k1.2, k2.2, k3.2, h4⟩
theorem Steps.monoC {w : World} {L L' : List Obj} {A B : Nat → Prop} {i : Nat} {vs : List Value} {ss : List Stp} (h : Steps w L A i vs ss) (hl : ∀ p c t f, A p → L[p]? = some (.cells c t f) → B p ∧ L'[p]? = some (.cells c t f)) : Steps w L' B i vs ss :=
  ⟨h.1, fun k v s h1 h2 => (h.2 k v s h1 h2).monoC hl⟩
/-- The steps of one sector. -/
def stO (fi u : Nat) (x : Ck) : List Stp := (if x.1.1 = 0 then [.f] else []) ++ [.w (fi + (u + x.1.1)) (bys x.1.2)]
def stL (fi u : Nat) (xs : List Ck) : List Stp := xs.flatMap (stO fi u)
theorem stL_snoc (fi u : Nat) (xs : List Ck) (x : Ck) : stL fi u (xs ++ [x]) = stL fi u xs ++ stO fi u x := by simp [stL]
theorem ck_chunk (y : ByteArray) (n k : Nat) : bys (ckB y n k).1.2 = chunk (bys y) (n - 1 - k) := by
  show bys (y.extract _ _) = _
  rw [bys_extract]
  unfold chunk
  have hl := bys_length y
  rcases Nat.le_total ((n - 1 - k) * 64 + 64) y.size with h | h
  · rw [Nat.min_eq_left h, Nat.add_sub_cancel_left]
  · rw [Nat.min_eq_right h, List.take_of_length_le (by rw [List.length_drop]; omega), List.take_of_length_le (by rw [List.length_drop]; omega)]
theorem down_stL (h : Hf) (y : ByteArray) (n : Nat) (hb : n ≤ 100000) : ∀ c, c < n → h.down (bys y) c = ((List.range' (n - 1 - c) (c + 1)).map (ckB y n)).flatMap (stO h.first h.used)
  | 0, hc => by
    have e1 : (ckB y n (n - 1)).1.1 = 0 := by show min _ _ = 0; omega
    have e2 := ck_chunk y n (n - 1)
    rw [show n - 1 - (n - 1) = 0 by omega] at e2
    simp [List.range'_succ, stO, e1, e2, Hf.down]
  | c + 1, hc => by
    have ih := down_stL h y n hb c (by omega)
    have e1 : (ckB y n (n - 1 - (c + 1))).1.1 = c + 1 := by show min _ _ = _; omega
    have e2 := ck_chunk y n (n - 1 - (c + 1))
    rw [show n - 1 - (n - 1 - (c + 1)) = c + 1 by omega] at e2
    rw [List.range'_succ, List.map_cons, List.flatMap_cons, show n - 1 - (c + 1) + 1 = n - 1 - c by omega, ← ih]
    show _ :: _ = _
    simp [stO, e1, e2]
/-- The steps of all sectors. -/
theorem stL_down (h : Hf) (y : ByteArray) (n : Nat) (hb : n ≤ 100000) (h0 : 1 ≤ n) : stL h.first h.used (cksB y n n) = h.down (bys y) (n - 1) := by
  rw [down_stL h y n hb (n - 1) (by omega), show n - 1 - (n - 1) = 0 by omega, show n - 1 + 1 = n by omega, ← List.range_eq_range']
  rfl
attribute [-go_sem] Sm.execOp_bs run_string_add_if
set_option maxRecDepth 100000 in
theorem fromLast_any (w : World) (l : List Obj) (d : Nat) (y : ByteArray) :
    Calls Tryz.prog 84 #[.string y] (Wd w l d) fun e w' => e = .returned (.func (.func 120) #[] #[.pointer (some ⟨w.heap.size + l.length, 0, none⟩)]) ∧ w' = Wd w (l ++ [.cells #[.string y] 9 (0, 0)]) d := by
  go_enter Tryz.func84, Tryz.ntmps84
  go_wp2
  go_ret
  exact ⟨rfl, rfl⟩
/-- Between two rounds: the row of steps that are made, and what of the call's own stays. -/
def LayI (w : World) (M : List Obj) (i b2 b6 : Nat) (half : Obj) (fi u : Nat) (pre : List Ck) (W : World) : Prop :=
  ∃ L d v vs, W = Wd w L d ∧ M.length ≤ L.length ∧ (∀ p, p < M.length → p ≠ b6 → L[p]? = M[p]?) ∧ L[b6]? = some (.cells #[v] 129 (0, 0)) ∧ L[b2]? = some half ∧
    RowV (fun p => M.length ≤ p) w L 1 vs.length v vs ∧ Steps w L (fun p => M.length ≤ p) i vs (stL fi u pre)
theorem LayI.own {w : World} {M : List Obj} {i b2 b6 fi u B : Nat} {dv vt : Value} {a n g u' : Nat} (hB : B = w.heap.size + M.length) : OwnFrom B (LayI w M i b2 b6 (.cells (hcl dv a n g vt u') 107 (0, 0)) fi u) := by
  subst hB
  rintro pre W W' row ⟨L, d, v, vs, rfl, hlen, hsame, h6, h2, hrow, hst⟩ hg hr
  obtain ⟨L', d', rfl, hlen', hk⟩ := grown_wd hg (fun r e => by have := (hr r e).1; omega)
  have hc : ∀ (p : Nat) c t f, L[p]? = some (Obj.cells c t f) → L'[p]? = some (Obj.cells c t f) := fun p c t f hp => by
    rw [hk p (List.getElem?_eq_some_iff.1 hp).1 (fun e => ?_)]; · exact hp
    obtain ⟨_, o, ho, hoc⟩ := hr _ e
    rw [Wd_at, hp] at ho
    obtain rfl := Option.some.inj ho
    cases hoc
  refine ⟨L', d', v, vs, rfl, by omega, fun p hp hne => ?_, hc _ _ _ _ h6, hc _ _ _ _ h2, hrow.monoC fun p c t f hA hp => ⟨hA, hc _ _ _ _ hp⟩, hst.monoC fun p c t f hA hp => ⟨hA, hc _ _ _ _ hp⟩⟩
  rw [hk p (by omega) (fun e => by have := (hr _ e).1; omega)]
  exact hsame p hp hne
end Go.Proofs.YtlogjpmdfimgdaaGreatDoor.Jf
namespace Go.Proofs.YtlogjpmdfimgdaaGreatDoor.Jf
open Go Go.RowKit Go.Own.Jf
/-- A loop over the sectors of a text, from the last one to the first. -/
theorem wp_sectors {tp tq : Nat} {g : Operand} {assign body : Code} {Q : Exit → Act → World → Prop} {a : Act} {w : World} (t : ByteArray) (ht : t.size ≤ 1000000) (h1 : 1 ≤ t.size) (b : Nat) (hb : blk w b = some (.cells #[.string t] 9 (0, 0)))
    (hg : a.eval g = .func (.func 120) #[] #[.pointer (some ⟨b, 0, none⟩)]) (I : List Ck → World → Prop) (hI : OwnFrom w.heap.size I) (h0 : I [] w) (a₁ : Ck → Act)
    (hassign : ∀ (l : Nat) (x : Ck) (W : World) (K : Act → World → Prop), K (a₁ x) W → assign.wpIn (rnd l) 1 Tryz.prog (Exit.then K (fun _ _ _ => False)) { tmps := (a.tmps.setIfInBounds tp (.int .i64 ((x.1.1 : Nat) : Int))).setIfInBounds tq (.string x.1.2), defers := [] } W)
    (hbody : ∀ (l : Nat) (pre : List Ck) (x : Ck) (W : World), I pre W → pre.length < (t.size + 63) / 64 → body.wpIn (rnd l) 1 Tryz.prog (ownPostK (KeepsB b) I (fun _ _ _ => False) (pre ++ [x]) W) (a₁ x) W)
    (hdone : ∀ (D : Nat) (W : World), w.heap.size ≤ D → I (cksB t ((t.size + 63) / 64) ((t.size + 63) / 64)) W → W.heap[D]? = some (.deferred (some [])) → Q .normal { a with defers := { target := .collected D, args := #[] } :: a.defers } W) :
    (Code.rangeFunc g #[tp, tq] assign body).wp Tryz.prog Q a w := by
  have hbl : b < w.heap.size := by
    unfold blk at hb
    rcases Nat.lt_or_ge b w.heap.size with h' | h'
    · exact h'
    · simp [Array.getElem?_eq_none h'] at hb
  refine (wpIn_wide (n := 3)).1 ?_
  refine wpIn_rangeFunc_ownF (F := Fence.wide) rfl (by decide) (gf := 120) hg trivial (enters_of Tryz.func120 (by kernel_rfl) rfl) (chunks_stops t ht h1 b (3 - 1) w hb) (fun h k o ho => k o (h o ho)) (fun W l o o' hl _ _ _ o2 ho2 => ?_)
    (Below.refl _ _) (fun _ => rfl) I (fun _ _ _ => False) hI (fun _ _ _ _ _ hs _ _ => hs) h0 a₁ (fun l x W K hK => ?_) (fun l pre x W hW hlen => hbody l pre x W hW hlen) ?_ ?_
  · unfold blk at ho2 ⊢
    rw [World.putObj_heap_other (by omega)]; exact ho2
  · have e : (#[tp, tq].zip (encC x)).foldl (fun t (p, v) => t.setIfInBounds p v) a.tmps = (a.tmps.setIfInBounds tp (.int .i64 ((x.1.1 : Nat) : Int))).setIfInBounds tq (.string x.1.2) := by simp [encC]
    rw [e]
    exact hassign l x W K hK
  · rintro D xs W hD rfl hW hK
    exact hdone D W hD hW hK
  · rintro D c pre W _ _ h _
    exact h.elim
/-- A step, in whatever has grown. -/
def stB (w : World) (B i : Nat) (s : Stp) (v : Value) (W : World) : Prop := ∃ L d, W = Wd w L d ∧ StpAt w L (fun p => B ≤ p) i v s
theorem stB_last (w : World) (B i : Nat) (s : Stp) : Lasts (stB w B i s) := by
  rintro v W W' ⟨L, d, rfl, h⟩ hB
  obtain ⟨g, d', rfl⟩ := below_grows hB
  exact ⟨L ++ g, d', rfl, h.mono fun p hp hlt => ⟨hp, List.getElem?_append_left hlt⟩⟩
/-- A row of just one step, in whatever has grown. -/
def slB (w : World) (B i : Nat) (s : Stp) (v : Value) (W : World) : Prop := ∃ x b L d, W = Wd w L d ∧ B ≤ b ∧ v = .slice (some ⟨w.heap.size + b, 0, none⟩) 1 1 ∧ L[b]? = some (.cells #[x] 131 (0, 0)) ∧ StpAt w L (fun p => B ≤ p) i x s
theorem slB_last (w : World) (B i : Nat) (s : Stp) : Lasts (slB w B i s) := by
  rintro v W W' ⟨x, b, L, d, rfl, hb, hv, hx, h⟩ hB
  obtain ⟨g, d', rfl⟩ := below_grows hB
  exact ⟨x, b, L ++ g, d', rfl, hb, hv, app_some hx, h.mono fun p hp hlt => ⟨hp, List.getElem?_append_left hlt⟩⟩
set_option maxRecDepth 100000 in
theorem lays_slB {dst : Option Tmp} {ty : TypeId} {pos : String} {after : Array Edge} {guard : Option (Nat × Bool)} {x : Operand} {W : World} {j : Nat} {ps : List (Value → World → Prop)} {a : Act} {w : World} {B i : Nat} {s : Stp} (hBW : ∀ L d, W = Wd w L d → B ≤ L.length)
    (h1 : stB w B i s (a.eval x) W) (hT : ∀ u W, slB w B i s u W → TL ps j u W) : Lays Tryz.prog (TL ps) j { dst, op := .buildSlice 129 1 #[(0, x)], type := ty, pos, after, guard } a W := by
  obtain ⟨L, d, rfl, h⟩ := h1
  have hb := bsj78 h.one w L d
  unfold bsN at hb
  have he : (execOp a.eval { dst, op := .buildSlice 129 1 #[(0, x)], type := ty, pos, after, guard }).run Tryz.prog (Wd w L d) = .ok (.value (.slice (some ⟨w.heap.size + L.length, 0, none⟩) 1 1)) (Wd w (L ++ [.cells #[a.eval x] 131 (0, 0)]) d) := by
    unfold execOp
    simp only [List.map_toArray, List.map_cons, List.map_nil, Sem.run_bind, hb, Result.andThen_ok]
    rfl
  have hB2 : Below (Wd w L d).heap.size (Wd w L d) (Wd w (L ++ [.cells #[a.eval x] 131 (0, 0)]) d) := by
    have := below_alloc (Wd w L d) (.cells #[a.eval x] 131 (0, 0)) d
    rwa [Wd_wd] at this
  refine lays_value he hB2 (hT _ _ ⟨a.eval x, L.length, _, d, rfl, hBW L d rfl, rfl, by simp, h.mono fun p hp hlt => ⟨hp, List.getElem?_append_left hlt⟩⟩)
theorem stO_length (fi u : Nat) (x : Ck) : (stO fi u x).length ≤ 2 := by unfold stO; split <;> simp
theorem stL_length (fi u : Nat) : ∀ xs : List Ck, (stL fi u xs).length ≤ 2 * xs.length
  | [] => Nat.le_refl _
  | x :: xs => by
    have h1 := stL_length fi u xs
    have h2 := stO_length fi u x
    show ((x :: xs).flatMap (stO fi u)).length ≤ _
    rw [List.flatMap_cons, List.length_append, List.length_cons]
    unfold stL at h1
    omega
/-- A row lies only where it may. -/
theorem rowV_off {A : Nat → Prop} {w : World} {l : List Obj} {sz n : Nat} {v : Value} {C : List Value} (h : RowV A w l sz n v C) {p : Nat} (hp : ¬ A p) : NotAt w v p := by
  rcases h with ⟨rfl, _⟩ | ⟨i, c, X, t, hA, rfl, _, _⟩
  · intro n c e; simp at e
  · intro n' c' e
    simp at e
    have : i = p := by omega
    subst this
    exact hp hA
theorem Wd_inj {w : World} {L L' : List Obj} {d d' : Nat} (h : Wd w L d = Wd w L' d') : L = L' := by
  have h1 := congrArg World.heap h
  unfold Wd at h1
  simp only at h1
  have h2 := congrArg Array.toList h1
  simpa using h2
/-- The first value of a row, in its block. -/
theorem rowV_first {A : Nat → Prop} {w : World} {L : List Obj} {n : Nat} {v : Value} {C : List Value} (h : RowV A w L 1 n v C) {p n' c' : Nat} (hv : v = .slice (some ⟨w.heap.size + p, 0, none⟩) n' c') {c : Array Value} {t : TypeId} {f : Nat × Nat} (hp : L[p]? = some (.cells c t f)) {y : Value} (hy : C[0]? = some y) : c[0]? = some y := by
  rcases h with ⟨rfl, _⟩ | ⟨i, c2, X, t2, _, rfl, hi, hX, hn, rfl⟩
  · simp at hv
  · simp at hv
    have : i = p := by omega
    subst this
    rw [hp] at hi
    simp only [Option.some.injEq, Obj.cells.injEq] at hi
    rw [hi.1, List.getElem?_toArray]
    rw [List.getElem?_take] at hy
    split at hy
    · exact hy
    · cases hy
theorem StpAt.fun {w : World} {L : List Obj} {A : Nat → Prop} {i : Nat} {v : Value} {s : Stp} (h : StpAt w L A i v s) : ∃ g a b, v = .func g a b := by
  cases s with
  | f => exact ⟨_, _, _, h⟩
  | w a s => obtain ⟨b1, b2, b3, fi, n, g, u, vt, at', y, _, _, _, hv, _⟩ := h; exact ⟨_, _, _, hv⟩
theorem StpAt.sharp {w : World} {L : List Obj} {A C : Nat → Prop} {i : Nat} {v : Value} {s : Stp} (h : StpAt w L A i v s) (hn : ∀ (p : Nat) c t f y, L[p]? = some (.cells c t f) → c[0]? = some y → (∀ g a b, y ≠ .func g a b) → C p) : StpAt w L (fun p => A p ∧ C p) i v s := by
  cases s with
  | f => exact h
  | w a s =>
    obtain ⟨b1, b2, b3, fi, n, g, u, vt, at', y, h1, h2, h3, hv, e1, e2, e3, h4⟩ := h
    exact ⟨b1, b2, b3, fi, n, g, u, vt, at', y, ⟨h1, hn _ _ _ _ _ e1 rfl (by intro _ _ _ e; cases e)⟩, ⟨h2, hn _ _ _ _ _ e2 rfl (by intro _ _ _ e; cases e)⟩, ⟨h3, hn _ _ _ _ _ e3 rfl (by intro _ _ _ e; cases e)⟩, hv, e1, e2, e3, h4⟩
/-- The blocks of a row's steps are not the row's own block. -/
theorem Steps.keep {w : World} {L : List Obj} {A : Nat → Prop} {i : Nat} {v : Value} {vs : List Value} {ss : List Stp} (h : Steps w L A i vs ss) (hr : RowV A w L 1 vs.length v vs) : Steps w L (fun p => A p ∧ NotAt w v p) i vs ss := by
  refine ⟨h.1, fun k x s hx hs => (h.2 k x s hx hs).sharp fun p c t f y hp hy hne n' c' e => ?_⟩
  have hk := (List.getElem?_eq_some_iff.1 hx).1
  have h0 : vs[0]? = some vs[0] := List.getElem?_eq_getElem (by omega)
  have hs0 : ss[0]? = some (ss[0]'(by rw [← h.1]; omega)) := List.getElem?_eq_getElem _
  obtain ⟨g, a, b, hf⟩ := (h.2 0 _ _ h0 hs0).fun
  have := rowV_first hr e hp h0
  rw [hy] at this
  exact hne g a b ((Option.some.inj this).trans hf)
theorem stO_eq (fi u : Nat) (x : Ck) : stO fi u x = (if x.1.1 = 0 then [Stp.f] else []) ++ [.w (fi + (u + x.1.1)) (bys x.1.2)] := rfl
end Go.Proofs.YtlogjpmdfimgdaaGreatDoor.Jf

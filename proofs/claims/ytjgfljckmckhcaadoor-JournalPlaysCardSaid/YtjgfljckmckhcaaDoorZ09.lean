/- Bytes that come to a tally: by contract. | The digest of a tally: by contract. -/
import Derived.Test.YtjgfljckmckhcaaDoorZ08
namespace Go.Proofs.YtjgfljckmckhcaaDoor.Sm
open Go.RowKit Go.Own

/-- The words behind so many blocks of x. -/
def chain (x : List Nat) : Nat → List Nat
  | 0 => startL
  | k + 1 => pressF (chain x k) ((x.drop (64 * k)).take 64)
theorem chain_length (x : List Nat) : ∀ k, (chain x k).length = 8
  | 0 => rfl
  | _ + 1 => pressF_length _ _
theorem chain_append (x y : List Nat) : ∀ k, 64 * k ≤ x.length → chain (x ++ y) k = chain x k
  | 0, _ => rfl
  | k + 1, h => by
    rw [chain, chain, chain_append x y k (by omega), List.drop_append_of_le_length (by omega), List.take_append_of_le_length (by simp; omega)]
/-- A tally of the bytes x: its words, its block. -/
structure Tal (x st bl : List Nat) : Prop where
  st8 : st.length = 8
  bl64 : bl.length = 64
  b8 : B8 bl
  words : st = chain x (x.length / 64)
  rest : bl.take (x.length % 64) = x.drop (64 * (x.length / 64))
theorem Tal.start : Tal [] startL (rep 64) := ⟨rfl, rfl, B8.rep _, rfl, rfl⟩
theorem take_spl {s x : List Nat} {o : Nat} (h : o + x.length ≤ s.length) : (spl s o x).take (o + x.length) = s.take o ++ x := by
  unfold spl
  rw [List.take_append_of_le_length (by simp; omega), List.take_of_length_le (by simp; omega)]
theorem Tal.less {x st bl s : List Nat} (h : Tal x st bl) (h8 : B8 s) (hl : x.length % 64 + s.length < 64) : Tal (x ++ s) st (spl bl (x.length % 64) s) := by
  have e1 : (x ++ s).length / 64 = x.length / 64 := by rw [List.length_append]; omega
  have e2 : (x ++ s).length % 64 = x.length % 64 + s.length := by rw [List.length_append]; omega
  refine ⟨h.st8, by rw [spl_length _ _ _ (by rw [h.bl64]; omega), h.bl64], h.b8.spl h8 _, ?_, ?_⟩
  · rw [e1, chain_append _ _ _ (by omega)]; exact h.words
  · rw [e1, e2, take_spl (by rw [h.bl64]; omega), h.rest, List.drop_append_of_le_length (by omega)]
theorem Tal.full {x st bl s : List Nat} (h : Tal x st bl) (h8 : B8 s) (hl : x.length % 64 + s.length = 64) : Tal (x ++ s) (pressF st (spl bl (x.length % 64) s)) (spl bl (x.length % 64) s) := by
  have e1 : (x ++ s).length / 64 = x.length / 64 + 1 := by rw [List.length_append]; omega
  have e2 : (x ++ s).length % 64 = 0 := by rw [List.length_append]; omega
  have e3 : spl bl (x.length % 64) s = (x ++ s).drop (64 * (x.length / 64)) := by
    have := take_spl (s := bl) (x := s) (o := x.length % 64) (by rw [h.bl64]; omega)
    rw [hl, List.take_of_length_le (by rw [spl_length _ _ _ (by rw [h.bl64]; omega), h.bl64]; exact Nat.le_refl _), h.rest] at this
    rw [this, List.drop_append_of_le_length (by omega)]
  refine ⟨pressF_length _ _, by rw [spl_length _ _ _ (by rw [h.bl64]; omega), h.bl64], h.b8.spl h8 _, ?_, ?_⟩
  · rw [e1, chain, chain_append _ _ _ (by omega), ← h.words, e3, List.take_of_length_le]
    rw [List.length_drop, List.length_append]; omega
  · rw [e1, e2, List.take_zero, List.drop_of_length_le]
    rw [List.length_append]; omega
/-- Of the blocks l the i-th was turned to X, and more came. -/
def Turned (l : List Obj) (i : Nat) (X : Obj) (L : List Obj) : Prop := i < l.length ∧ ∃ g, L = l.set i X ++ g
theorem Turned.get {l L : List Obj} {i : Nat} {X : Obj} (h : Turned l i X L) : L[i]? = some X := by
  obtain ⟨hi, g, rfl⟩ := h
  rw [List.getElem?_append_left (by simpa using hi)]
  simp [hi]
theorem Turned.lt {l L : List Obj} {i : Nat} {X : Obj} (h : Turned l i X L) : i < L.length := by
  obtain ⟨hi, g, rfl⟩ := h
  simp; omega
theorem Turned.set {l L : List Obj} {i : Nat} {X : Obj} (h : Turned l i X L) (Y : Obj) : Turned l i Y (L.set i Y) := by
  obtain ⟨hi, g, rfl⟩ := h
  exact ⟨hi, g, by rw [List.set_append_left _ _ (by simpa using hi), List.set_set]⟩
theorem Turned.more {l L : List Obj} {i : Nat} {X : Obj} (h : Turned l i X L) (g : List Obj) : Turned l i X (L ++ g) := by
  obtain ⟨hi, g', rfl⟩ := h
  exact ⟨hi, g' ++ g, by rw [List.append_assoc]⟩
theorem Turned.self {l : List Obj} {i : Nat} {X : Obj} (h : l[i]? = some X) : Turned l i X l := by
  obtain ⟨hi, hx⟩ := List.getElem?_eq_some_iff.1 h
  exact ⟨hi, [], by rw [List.append_nil, ← hx, List.set_getElem_self]⟩
theorem bys_take_add (s : ByteArray) (n : Nat) : (bys s).take n ++ bys (s.extract n s.size) = bys s := by
  rw [bys_extract, List.take_of_length_le (l := (bys s).drop n) (by rw [List.length_drop, bys_length]; exact Nat.le_refl _), List.take_append_drop]
attribute [local go_sem] ag126 ag128 ag137 ag124 ag5 ag3 cs126 cs128 cs137 cs124 cs5 cs3 sz126 sz128 sz137 sz124 sz5 sz3 isa124 isa5 isa3 z126 z137 ag130 cs130 sz130 z130 ldX_st ldX_bl ldX_n ldX_tc stX_st stX_n stX_tc cpX_tc
/-- What s comes to behind x, in any tally's block. -/
def Added (w : World) (l : List Obj) (i : Nat) (x : List Nat) (w' : World) : Prop :=
  ∃ st bl L d, Tal x st bl ∧ Turned l i (.cells (tc st bl x.length) 130 (0, 0)) L ∧ w' = Wd w L d
set_option maxRecDepth 100000 in
set_option maxHeartbeats 2000000 in
theorem add_any (w : World) (hR : Roots w) (l : List Obj) (d i : Nat) (x st bl : List Nat) (s : ByteArray) (hT : Tal x st bl) (hi : l[i]? = some (.cells (tc st bl x.length) 130 (0, 0))) (hb : x.length + s.size ≤ 1099511627776) :
    Calls Tryd.prog 65 #[.pointer (some ⟨w.heap.size + i, 0, none⟩), .string s] (Wd w l d) fun e w' => e = .returned (.pointer (some ⟨w.heap.size + i, 0, none⟩)) ∧ Added w l i (x ++ bys s) w' := by
  have HR := Lib.hid hR; clear hR
  have HT := Lib.hid hT; clear hT
  have HI := Lib.hid (Turned.self hi); clear hi
  have hbs := Lib.hid (bys_length s)
  go_enter Tryd.func65, Tryd.ntmps65
  go_wp2
  go_loopw [1] (fun v wr => ∃ (y : ByteArray) (p st bl : List Nat) (L : List Obj) (d n : Nat), v = .string y ∧ Hid (p ++ bys y = bys s) ∧ Hid (Tal (x ++ p) st bl) ∧ Hid ((x ++ p).length = n) ∧ Hid (Turned l i (.cells (tc st bl n) 130 (0, 0)) L) ∧ wr = Wd w L d) (fun v _ => match v with | .string y => y.size | _ => 0)
  case atStart => exact ⟨s, [], st, bl, l, d, x.length, rfl, Lib.hid rfl, by rw [List.append_nil]; exact HT, by rw [List.append_nil]; exact Lib.hid rfl, HI, rfl⟩
  case round =>
    clear HT HI
    obtain ⟨y, p, st, bl, L, d, n, rfl, hp, hT, hn, hL, rfl⟩ := hrel
    by_cases hy : y.size = 0
    · have hy0 : (y.size : Int) ≤ 0 := by omega
      have hfin : Hid (Tal (x ++ bys s) st bl) := by
        have hby : bys y = [] := List.length_eq_zero_iff.1 (by rw [bys_length, hy])
        have := hp.out
        rw [hby, List.append_nil] at this
        rw [← this]; exact hT
      have hlen : Hid ((x ++ bys s).length = n) := by
        have hby : bys y = [] := List.length_eq_zero_iff.1 (by rw [bys_length, hy])
        have := hp.out
        rw [hby, List.append_nil] at this
        rw [← this]; exact hn
      clear hy
      go_wp2
      go_ret
      exact ⟨rfl, st, bl, L, d, hfin.out, by rw [hlen.out]; exact hL.out, rfl⟩
    · have hy1 : 0 < (y.size : Int) := by omega
      have hlen : n + y.size ≤ 1099511627776 := by
        have h1 := congrArg List.length hp.out
        have h2 := hn.out
        have h3 := bys_length y
        have h4 := hbs.out
        simp only [List.length_append] at h1 h2
        omega
      have hLi := hL.out.get
      have HLT := Lib.hid hL.out.lt
      have hs8 := hT.out.st8
      have hb64 := hT.out.bl64
      obtain ⟨o, ho⟩ : ∃ o, n % 64 = o := ⟨_, rfl⟩
      have ho1 : (n : Int).tmod 64 = (o : Int) := by rw [Int.tmod_eq_emod_of_nonneg (by omega)]; omega
      have ho2 : (o : Int) ≤ 64 := by omega
      have ho3 : o + (64 - o) ≤ 64 := by omega
      have ho4 : o < 64 := by omega
      obtain ⟨m, hm⟩ : ∃ m, cpn (64 - o) y.size = m := ⟨_, rfl⟩
      have hm1 : m ≤ y.size := by rw [← hm]; exact Nat.min_le_left _ _
      have hm2 : m ≤ 64 - o := by rw [← hm]; exact Nat.min_le_right _ _
      have hm3 : m = y.size ∨ m = 64 - o := by
        rw [← hm]; show min y.size (64 - o) = _ ∨ min y.size (64 - o) = _; omega
      have hm0 : 0 < m := by omega
      obtain ⟨n2, hn2⟩ : ∃ n2 : Nat, n + m = n2 := ⟨_, rfl⟩
      have hnm : (n : Int) + (m : Int) = (n2 : Int) := by omega
      have hmi : (m : Int) ≤ y.size := by omega
      obtain ⟨T, hTk⟩ : ∃ T, (bys y).take (64 - o) = T := ⟨_, rfl⟩
      have hTm : (bys y).take m = T := by
        have hby := bys_length y
        rw [← hTk]
        rcases hm3 with h | h
        · rw [List.take_of_length_le (by omega), List.take_of_length_le (by omega)]
        · rw [h]
      have HTL : Hid (T.length = m) := Lib.hid (by rw [← hTm, List.length_take, bys_length]; omega)
      have HB : Hid (T ++ bys (y.extract m y.size) = bys y) := Lib.hid (by rw [← hTm]; exact bys_take_add y m)
      have HB8 : Hid (B8 T) := Lib.hid (by rw [← hTk]; exact (B8.bys y).take _)
      obtain ⟨bl2, hbl2⟩ : ∃ bl2, spl bl o T = bl2 := ⟨_, rfl⟩
      have hb2 : bl2.length = 64 := by rw [← hbl2, spl_length _ _ _ (by rw [HTL.out]; omega), hb64]
      have hS : ∀ A : Obj, (L.set i A)[i]? = some A := fun A => by simp [HLT.out]
      have HO := Lib.hid ho
      have HN2 := Lib.hid hn2
      have hxn := hn.out
      have HTX : Hid ((x ++ p).length % 64 = o) := Lib.hid (by rw [hn.out]; exact ho)
      have HP : Hid ((p ++ T) ++ bys (y.extract m y.size) = bys s) := Lib.hid (by rw [List.append_assoc, HB.out]; exact hp.out)
      have HNN : Hid ((x ++ (p ++ T)).length = n2) := Lib.hid (by rw [← List.append_assoc, List.length_append, hn.out, HTL.out]; exact hn2)
      have HSZ : Hid ((y.extract m y.size).size < y.size) := Lib.hid (by simp; omega)
      clear ho hn2 hTm hxn
      by_cases hf : o + m = 64
      · have HTF : Hid (Tal (x ++ (p ++ T)) (pressF st bl2) bl2) := Lib.hid (by
          have := hT.out.full HB8.out (by rw [HTX.out, HTL.out]; exact hf)
          rw [HTX.out, hbl2, List.append_assoc] at this
          exact this)
        have hz : (n2 : Int) % 64 = 0 := by
          have := HN2.out; have := HO.out; omega
        have hb82 := Lib.hid HTF.out.b8
        clear hf hm3
        go_wp2
        refine wp_region_tail 10 (by kernel_rfl) (by kernel_rfl) ?_
        simp only [List.take_succ_cons, List.take_zero, List.drop_succ_cons, List.drop_zero]
        repeat still_step
        refine wpStill_nil ?_
        go_wp2
        have hL2 := hL.out.set (.cells (tc st bl2 n2) 130 (0, 0))
        generalize L.set i (.cells (tc st bl2 n2) 130 (0, 0)) = L2 at *
        have HL2 := Lib.hid hL2
        clear hS hLi hL2
        have hA : ∀ g, (L2 ++ g)[i]? = some (.cells (tc st bl2 n2) 130 (0, 0)) := fun g => (HL2.out.more g).get
        have hA0 : L2[i]? = some (.cells (tc st bl2 n2) 130 (0, 0)) := HL2.out.get
        have hpl := pressF_length st bl2
        have hAS : ∀ (g : List Obj) (A : Obj), (L2 ++ g).set i A = L2.set i A ++ g := fun g A => List.set_append_left _ _ HL2.out.lt
        refine wp_region_more 12 (by kernel_rfl) (by kernel_rfl) ?_
        simp only [List.take_succ_cons, List.take_zero, List.drop_succ_cons, List.drop_zero]
        repeat (first | (refine more_step (fun K hK => ?_); go_simp; refine hK _ ?_; clear hK K) | (refine more_step (fun K hK => ?_); go_simp; (with_reducible refine ⟨_, fun g e => more_call (g := g) (e := e) (fun g m => List.append_assoc _ _ _) (press_any st bl2 hs8 hb2 hb82.out _ (HR.out.wd _ _)), hK _ ?_⟩); clear hK K))
        refine wpQuiet_nil ?_
        intro g3 e3
        go_wp2
        have hL3 := Lib.hid ((HL2.out.set (.cells (tc (pressF st bl2) bl2 n2) 130 (0, 0))).more g3)
        go_roundw
        case rel => exact ⟨_, p ++ T, pressF st bl2, bl2, _, _, n2, rfl, HP, HTF, HNN, hL3, rfl⟩
        case measure => exact HSZ.out
      · have HTF : Hid (Tal (x ++ (p ++ T)) st bl2) := Lib.hid (by
          have := hT.out.less HB8.out (by rw [HTX.out, HTL.out]; omega)
          rw [HTX.out, hbl2, List.append_assoc] at this
          exact this)
        have hz : ((n2 : Int) % 64 == 0) = false := by
          have := HN2.out; have := HO.out
          rw [beq_eq_false_iff_ne]; omega
        clear hf hm3
        go_wp2
        refine wp_region_tail 10 (by kernel_rfl) (by kernel_rfl) ?_
        simp only [List.take_succ_cons, List.take_zero, List.drop_succ_cons, List.drop_zero]
        repeat still_step
        refine wpStill_nil ?_
        go_wp2
        have hL2 := Lib.hid (hL.out.set (.cells (tc st bl2 n2) 130 (0, 0)))
        go_roundw
        case rel => exact ⟨_, p ++ T, st, bl2, _, _, n2, rfl, HP, HTF, HNN, hL2, rfl⟩
        case measure => exact HSZ.out
end Go.Proofs.YtjgfljckmckhcaaDoor.Sm
namespace Go.Proofs.YtjgfljckmckhcaaDoor.Sm
open Go.RowKit Go.Own

theorem alX_mix {P : Program} {T : TypeId} {w : World} {l : List Obj} {d : Nat} {st bl : List Nat} {n : Nat} (h : zeroOf P T = .agg (tc st bl n)) :
    alX P T (.agg (tc st bl n)) w l d = .ok (.pointer (some ⟨w.heap.size + l.length, 0, none⟩)) (Wd w (l ++ [.cells (tc st bl n) T (0, 0)]) d) := by
  simp [alX, alN, Instr.alloc, run_zeroOf h, newVar, newRow, Value.cells, Wd_size, Wd_alloc]
attribute [local go_sem] ag126 ag128 ag137 ag124 ag5 ag3 cs126 cs128 cs137 cs124 cs5 cs3 sz126 sz128 sz137 sz124 sz5 sz3 isa124 isa5 isa3 z126 z137 ag130 cs130 sz130 z130 ldX_st ldX_bl ldX_n ldX_tc stX_st stX_n stX_tc alX_mix
/-- The digest. -/
def digL (x : List Nat) : List Nat := textL (chain (x ++ endL x.length) ((x ++ endL x.length).length / 64))
theorem digL_length (x : List Nat) : (digL x).length = 32 := textL_length _
theorem endL_B8 (n : Nat) : B8 (endL n) := by
  refine B8.append (fun y hy => ?_) (B8.map (fun _ => Nat.mod_lt _ (by decide)) _)
  rcases List.mem_cons.1 hy with rfl | h
  · decide
  · exact B8.rep _ y h
set_option maxRecDepth 100000 in
set_option maxHeartbeats 1000000 in
theorem sum_any (w : World) (hR : Roots w) (l : List Obj) (d i : Nat) (x st bl : List Nat) (hT : Tal x st bl) (hi : l[i]? = some (.cells (tc st bl x.length) 130 (0, 0))) (hb : x.length ≤ 1099511600000) :
    Calls Tryd.prog 66 #[.pointer (some ⟨w.heap.size + i, 0, none⟩)] (Wd w l d) fun e w' => e = .returned (.string (mkS (digL x))) ∧ ∃ g d', w' = Wd w (l ++ g) d' := by
  have HR := Lib.hid hR; clear hR
  have HT := Lib.hid hT; clear hT
  have HI := Lib.hid hi
  have hs8 := HT.out.st8
  have hb64 := HT.out.bl64
  obtain ⟨n, hn⟩ : ∃ n, x.length = n := ⟨_, rfl⟩
  have HN := Lib.hid hn
  rw [hn] at hi hb HI
  clear hn
  have hA : ∀ g, (l ++ g)[i]? = some (.cells (tc st bl n) 130 (0, 0)) := fun g => by
    rw [List.getElem?_append_left (List.getElem?_eq_some_iff.1 HI.out).1]; exact HI.out
  go_enter Tryd.func66, Tryd.ntmps66
  go_wp2_with fail
  refine (ending_any n (by omega) _).mono ?_
  rintro e w' ⟨rfl, g, d', rfl⟩
  rw [Wd_wd]
  go_wp2_with fail
  refine (add_any w HR.out _ _ l.length x st bl _ HT.out ?hc ?hl).mono ?_
  case hc => rw [HN.out]; simp
  case hl => rw [HN.out, mkS_size, endL_length]; unfold zerosN; omega
  rintro e w' ⟨rfl, st2, bl2, L, d2, hT2, hL, rfl⟩
  rw [bys_mkS _ (endL_B8 n)] at hT2 hL
  have HD : Hid (digL x = textL st2) := Lib.hid (by unfold digL; rw [HN.out, ← hT2.words])
  have hs2 := hT2.st8
  have hb2 := hT2.bl64
  have hLi := hL.get
  have HLG : Hid (∃ g, L = l ++ g) := by
    obtain ⟨_, g2, rfl⟩ := hL
    exact ⟨_, by rw [List.set_append_right _ _ (Nat.le_refl _), List.append_assoc]⟩
  clear hT2 hL hs8 hb64 hi hA
  generalize (x ++ endL n).length = n2 at *
  go_wp2_with fail
  refine (text_any st2 hs2 _).mono ?_
  rintro e w' ⟨rfl, g3, d3, rfl⟩
  rw [Wd_wd]
  go_wp2
  go_ret
  refine ⟨by rw [HD.out]; rfl, ?_⟩
  obtain ⟨g4, hg4⟩ := HLG.out
  exact ⟨g4 ++ g3, _, by rw [hg4, List.append_assoc]⟩
/-- What differs among the first k bytes. -/
def accF (a b : List Nat) : Nat → Nat
  | 0 => 0
  | k + 1 => or8 (accF a b k) (xor8 (gi a k) (gi b k))
theorem or8_zero {x y : Nat} (hx : x < 256) (hy : y < 256) : or8 x y = 0 ↔ x = 0 ∧ y = 0 := by
  have h : x ||| y < 256 := Nat.or_lt_two_pow (n := 8) hx hy
  unfold or8
  rw [Nat.mod_eq_of_lt h]
  exact Nat.or_eq_zero_iff
theorem xor8_zero {x y : Nat} (hx : x < 256) (hy : y < 256) : xor8 x y = 0 ↔ x = y := by
  have h : x ^^^ y < 256 := Nat.xor_lt_two_pow (n := 8) hx hy
  unfold xor8
  rw [Nat.mod_eq_of_lt h]
  constructor
  · intro e
    have := congrArg (· ^^^ y) e
    simpa [Nat.xor_assoc] using this
  · rintro rfl; exact Nat.xor_self _
theorem accF_lt (a b : List Nat) : ∀ k, accF a b k < 256
  | 0 => by show 0 < 256; decide
  | _ + 1 => Nat.mod_lt _ (by decide)
theorem accF_zero (a b : List Nat) (ha : B8 a) (hb : B8 b) : ∀ k, accF a b k = 0 ↔ ∀ j, j < k → gi a j = gi b j
  | 0 => by simp [accF]
  | k + 1 => by
    rw [accF, or8_zero (accF_lt _ _ _) (show xor8 _ _ < 256 from Nat.mod_lt _ (by decide)), accF_zero a b ha hb k, xor8_zero (ha.gi _) (hb.gi _)]
    constructor
    · rintro ⟨h1, h2⟩ j hj
      by_cases e : j = k
      · rw [e]; exact h2
      · exact h1 j (by omega)
    · intro h
      exact ⟨fun j hj => h j (by omega), h k (by omega)⟩
theorem gi_ext {s t : List Nat} (hl : s.length = t.length) (h : ∀ i, i < s.length → gi s i = gi t i) : s = t := by
  apply List.ext_getElem hl
  intro i h1 h2
  have := h i h1
  simpa [gi, List.getD, h1, h2] using this
theorem gi_at {t : ByteArray} {i : Nat} (h : i < t.size) : gi (bys t) i = t[i].toNat := by
  have h3 : i < t.data.size := h
  simp only [gi, bys, List.getD_eq_getElem?_getD, List.getElem?_map]
  rw [List.getElem?_eq_getElem (by simpa using h3)]
  rfl
/-- Are they the same bytes? By name. -/
def sameB (a b : ByteArray) : Bool := decide (a = b)
theorem sameB_iff (a b : ByteArray) (hl : a.size = b.size) : (((accF (bys a) (bys b) a.size : Nat) : Int) == 0) = sameB a b := by
  unfold sameB
  rw [Bool.eq_iff_iff, beq_iff_eq, decide_eq_true_iff]
  have h0 : ((accF (bys a) (bys b) a.size : Nat) : Int) = 0 ↔ accF (bys a) (bys b) a.size = 0 := by omega
  rw [h0, accF_zero _ _ (B8.bys a) (B8.bys b)]
  constructor
  · intro h
    exact bys_inj (gi_ext (by rw [bys_length, bys_length, hl]) (by rw [bys_length]; exact h))
  · rintro rfl j _; rfl
set_option maxRecDepth 100000 in
theorem equal_ne (a b : ByteArray) (hl : a.size ≠ b.size) (w : World) :
    Calls Tryd.prog 57 #[.string a, .string b] w fun e w' => e = .returned (.bool (sameB a b)) ∧ Grows w w' := by
  have hz : sameB a b = false := by
    unfold sameB
    exact decide_eq_false (fun h => hl (by rw [h]))
  have hb : ((a.size : Int) != b.size) = true := by simp; omega
  have HZ := Lib.hid hz
  clear hl hz
  go_enter Tryd.func57, Tryd.ntmps57
  go_wp2
  go_ret
  exact ⟨by rw [HZ.out]; rfl, Grows.refl _⟩
theorem ixS (t : ByteArray) (k : IntKind) (i : Nat) (W : World) (h1 : i < t.size) :
    (ixN 9 (.string t) (.int k (i : Int))).run Tryd.prog W = .ok (.int .u8 ((gi (bys t) i : Nat) : Int)) W := by
  rw [gi_at h1]
  unfold ixN
  rw [run_index_string W 9 t k i Tryd.underlying9, dif_pos ⟨by omega, by omega⟩]
  simp
attribute [local go_sem] ixS
set_option maxRecDepth 100000 in
set_option maxHeartbeats 1000000 in
theorem equal_eq (a b : ByteArray) (hl : a.size = b.size) (hm : a.size ≤ 1099511627776) (w : World) :
    Calls Tryd.prog 57 #[.string a, .string b] w fun e w' => e = .returned (.bool (sameB a b)) ∧ Grows w w' := by
  have hb : ((a.size : Int) != b.size) = false := by simp; omega
  have HZ := Lib.hid (sameB_iff a b hl)
  have HL := Lib.hid hl
  clear hl
  refine calls_wd ?_
  go_enter Tryd.func57, Tryd.ntmps57
  go_wp2
  go_loopw [5, 14] (fun u i wr => ∃ k d : Nat, k ≤ a.size ∧ i = .int .i64 k ∧ u = .int .u8 (accF (bys a) (bys b) k : Nat) ∧ wr = Wd w [] d) (fun _ i _ => a.size - (intOf i).toNat)
  case atStart => exact ⟨0, _, by omega, rfl, rfl, rfl⟩
  case round =>
    obtain ⟨k, d, hk, rfl, rfl, rfl⟩ := hrel
    by_cases hlt : k < a.size
    · have hn : Hid (accF (bys a) (bys b) (k + 1) = or8 (accF (bys a) (bys b) k) (xor8 (gi (bys a) k) (gi (bys b) k))) := rfl
      have hlt2 : k < b.size := by rw [← HL.out]; exact hlt
      go_wp2
      refine wp_region_read (by kernel_rfl) (by kernel_rfl) ?_
      repeat still_step
      refine wpStill_nil ?_
      go_wp2
      go_roundw
      case rel => exact ⟨k + 1, _, by omega, by go_num, by rw [hn.out], rfl⟩
      case measure => simp [intOf]; omega
    · obtain rfl : k = a.size := by omega
      have hz := HZ.out
      go_wp2
      go_ret
      exact ⟨rfl, Grows.of _ _ _⟩
theorem equal_any (a b : ByteArray) (hm : a.size ≤ 1099511627776) (w : World) :
    Calls Tryd.prog 57 #[.string a, .string b] w fun e w' => e = .returned (.bool (sameB a b)) ∧ Grows w w' := by
  by_cases hl : a.size = b.size
  · exact equal_eq a b hl hm w
  · exact equal_ne a b hl w
end Go.Proofs.YtjgfljckmckhcaaDoor.Sm

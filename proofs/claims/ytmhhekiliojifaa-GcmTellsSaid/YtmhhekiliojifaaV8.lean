/- A text turned, piece by piece, by what is pressed of the counter: by contract. No condition but sizes. -/
import Derived.Test.YtmhhekiliojifaaV7
namespace Go.Own
open Go.RowKit
theorem alX_slc {P : Program} {T : TypeId} {w : World} {l : List Obj} {d : Nat} {q : Option Addr} {n c : Nat} (h : zeroOf P T = .slice q n c) :
    alX P T (.slice q n c) w l d = .ok (.pointer (some ⟨w.heap.size + l.length, 0, none⟩)) (Wd w (l ++ [.cells #[.slice q n c] T (0, 0)]) d) := by
  have hz : ∀ W, (zeroValue T).run P W = .ok (.slice q n c) W := fun W => by
    unfold zeroOf at h
    cases hi : P.info? T with
    | none => simp [hi] at h
    | some i =>
      cases hz : i.zero with
      | none => simp [hi, hz] at h
      | some v => simp [hi, hz] at h; subst h; simp [zeroValue, typeInfo, hi, hz]
  simp [alX, alN, Instr.alloc, hz, newVar, newRow, Value.cells, Wd_size, Wd_alloc]
theorem mkX_cv0 {P : Program} {T : TypeId} {w : World} {l : List Obj} {d c : Nat} {k : IntKind} (hu : P.underlying T = some (.slice (P.elem T)))
    (h1 : (P.info? (P.elem T)).map (fun i => (i.zero, i.size, i.bytes)) = some (some (.int k 0), 1, 1)) (hc : c ≤ 140737488355328) :
    mkX P T (.int k 0) w l d 0 (c : Int) = .ok (.slice (some ⟨w.heap.size + l.length, 0, none⟩) 0 c) (Wd w (l ++ [.cells (cv k (rep c)) (P.elem T) (0, 0)]) d) := mkX_cv (n := 0) hu h1 (Nat.zero_le _) hc
end Go.Own
namespace Go.Proofs.Ytmhhekiliojifaa
open Go.RowKit Go.Own
theorem z30 : zeroOf Try.prog 30 = .slice none 0 0 := by kernel_rfl
theorem cs30 : Try.prog.cellsOf 30 = 1 := by kernel_rfl
theorem sz30 (w : World) : (sizeOf 30).run Try.prog w = .ok 1 w := by kernel_rfl
theorem isa30x (w : World) : (isAgg 30).run Try.prog w = .ok false w := by kernel_rfl
theorem ag30x : aggSize Try.prog 30 = none := by kernel_rfl
theorem isa37 (w : World) : (isAgg 37).run Try.prog w = .ok false w := by kernel_rfl
theorem ag37 : aggSize Try.prog 37 = none := by kernel_rfl
theorem br30x : ByteRow Try.prog 30 5 := by
  have h : (Try.prog.info? 5).map (fun i => (i.zero, i.size, i.bytes)) = some (some (.int .u8 0), 1, 1) := by kernel_rfl
  refine ⟨Try.underlying30, ?_⟩
  cases hi : Try.prog.info? 5 with
  | none => rw [hi] at h; cases h
  | some i =>
    rw [hi] at h
    simp at h
    exact ⟨i, rfl, h.1, h.2.1, h.2.2⟩
attribute [local go_sem] z5 ag5 cs5 sz5 isa5 ag40 cs40 sz40 z40 isa9 ag9 set_same List.getElem?_set_ne z30 cs30 sz30 isa30x ag30x isa37 ag37 alX_slc stX_slc mkX_cv0
/-- One piece turned, the counter at j. -/
def tstep (cs nonce : List Nat) (o : List Nat × Nat) (x : Pc) : List Nat × Nat := (o.1 ++ ((List.range 16).map (xorF (fillL (bys x.1)) (pressL cs (nonce ++ hfL (o.2 + 1) 4)))).take x.1.size, o.2 + 1)
def tfold (cs nonce : List Nat) (j0 : Nat) (pre : List Pc) : List Nat × Nat := pre.foldl (tstep cs nonce) ([], j0)
theorem tfold_snoc (cs nonce : List Nat) (j0 : Nat) (x : Pc) (pre : List Pc) : tfold cs nonce j0 (pre ++ [x]) = tstep cs nonce (tfold cs nonce j0 pre) x := by simp only [tfold, List.foldl_append, List.foldl_cons, List.foldl_nil]
theorem tfold_count' (cs nonce : List Nat) (pre : List Pc) : ∀ o : List Nat × Nat, (pre.foldl (tstep cs nonce) o).2 = o.2 + pre.length := by
  induction pre with
  | nil => intro o; rfl
  | cons x pre ih => intro o; rw [List.foldl_cons, ih, List.length_cons]; show o.2 + 1 + _ = _; omega
theorem tfold_count (cs nonce : List Nat) (j0 : Nat) (pre : List Pc) : (tfold cs nonce j0 pre).2 = j0 + pre.length := tfold_count' cs nonce pre _
theorem tfold_length' (cs nonce : List Nat) (pre : List Pc) : ∀ o : List Nat × Nat, (pre.foldl (tstep cs nonce) o).1.length ≤ o.1.length + 16 * pre.length := by
  induction pre with
  | nil => intro o; exact Nat.le_refl _
  | cons x pre ih =>
    intro o
    rw [List.foldl_cons]
    refine Nat.le_trans (ih _) ?_
    show (_ ++ _ : List Nat).length + _ ≤ _
    rw [List.length_append, List.length_take, List.length_cons]
    have := x.2.2
    omega
theorem tfold_length (cs nonce : List Nat) (j0 : Nat) (pre : List Pc) : (tfold cs nonce j0 pre).1.length ≤ 16 * pre.length := by
  have := tfold_length' cs nonce pre ([], j0)
  rw [List.length_nil, Nat.zero_add] at this
  exact this
/-- Between two pieces: M is what lay at the loop's start; iN the counter's place, m + 1 the first row's, m + 2 the slice's. -/
structure TurnI (w3 : World) (M : List Obj) (iN m j : Nat) (L : List Obj) (v : Value) (s : List Nat) : Prop where
  len : M.length ≤ L.length
  old : ∀ p, p < M.length → p ≠ iN → p ≠ m + 1 → p ≠ m + 2 → L[p]? = M[p]?
  num : L[iN]? = some (.cells #[.int .u64 (j : Int)] 56 (0, 0))
  box : L[m + 2]? = some (.cells #[v] 30 (0, 0))
  has : Has w3 L v s
  out : ∀ p, p < M.length → p ≠ m + 1 → ∀ n c, v ≠ .slice (some ⟨w3.heap.size + p, 0, none⟩) n c
def TurnW (w : World) (M : List Obj) (iN m : Nat) (cs nonce : List Nat) (j0 : Nat) (pre : List Pc) (W : World) : Prop :=
  ∃ w3 L v, Same w w3 ∧ W = Wd w3 L 0 ∧ TurnI w3 M iN m (j0 + pre.length) L v (tfold cs nonce j0 pre).1
theorem TurnW.own {w : World} {M : List Obj} {iN m : Nat} {cs nonce : List Nat} {j0 : Nat} {B : Nat} (hB : B = w.heap.size + M.length) : OwnFrom B (TurnW w M iN m cs nonce j0) := by
  rintro pre W W' row ⟨w3, L, v, hs, rfl, hI⟩ hg hr
  have hsz := hs.size
  obtain ⟨w4, L', hs4, rfl, hlen, hsame⟩ := grown_wd hg (fun r e => by have := (hr r e).1; omega)
  have k1 : ∀ p, p < M.length → L'[p]? = L[p]? := fun p hp => hsame p (by have := hI.len; omega) (fun e => by have := (hr _ e).1; omega)
  have k2 : ∀ (p : Nat) (o : Obj), L[p]? = some o → o.isCells = true → L'[p]? = some o := fun p o hp ho => by
    rw [hsame p (List.getElem?_eq_some_iff.1 hp).1 (fun e => ?_), hp]
    obtain ⟨_, o', ho', hc⟩ := hr _ e
    rw [Wd_at, hp] at ho'
    obtain rfl := Option.some.inj ho'
    rw [ho] at hc; cases hc
  refine ⟨w4, L', v, hs.trans hs4, rfl, ⟨Nat.le_trans hI.len hlen, fun p hp a b c => by rw [k1 p hp, hI.old p hp a b c], k2 _ _ hI.num rfl, k2 _ _ hI.box rfl, ?_, fun p hp a n c => by rw [hs4.size]; exact hI.out p hp a n c⟩⟩
  obtain ⟨i, S, t, f, h1, h2, h3⟩ := hI.has
  exact ⟨i, S, t, f, by rw [hs4.size]; exact h1, k2 _ _ h2 rfl, h3⟩
theorem prs_keep {w w3 : World} {l0 l : List Obj} {d e iN vb cb : Nat} {cs : List Nat} {q : Int} {T : TypeId} (h : Prs (Wd w l0 d) vb cb cs) (hs : Same w w3) (hN : l0[iN]? = some (.cells #[.int .u64 q] T (0, 0)))
    (hk : ∀ p, p < l0.length → p ≠ iN → l[p]? = l0[p]?) : Prs (Wd w3 l e) vb cb cs := by
  have key : ∀ b o, b ≠ w.heap.size + iN → blk (Wd w l0 d) b = some o → blk (Wd w3 l e) b = some o := fun b o hb ho => by
    rw [blk_same hs l e 0]
    unfold blk Wd at ho ⊢
    simp only [Array.getElem?_append, List.getElem?_toArray] at ho ⊢
    by_cases h1 : b < w.heap.size
    · rw [if_pos h1] at ho ⊢; exact ho
    · rw [if_neg h1] at ho ⊢
      have h2 := (List.getElem?_eq_some_iff.1 ho).1
      rw [hk _ h2 (by omega)]; exact ho
  have e0 : blk (Wd w l0 d) (w.heap.size + iN) = some (.cells #[.int .u64 q] T (0, 0)) := by rw [blk_at]; exact hN
  refine ⟨key _ _ (fun e2 => ?_) h.var, key _ _ (fun e2 => ?_) h.cip, h.len⟩
  · have := h.var; rw [e2, e0] at this; simp at this
  · have := h.cip
    rw [e2, e0] at this
    have h3 := congrArg (fun o => match o with | some (Obj.cells c _ _) => c.size | _ => 0) this
    simp [h.len] at h3
/-- While a piece is turned, in whatever order. -/
structure TI4 (w3 : World) (L : List Obj) (iN j : Nat) (NX : Value) (xs : ByteArray) (F K Z : List Nat) (b : Nat → Bool) (x14 x15 x16 x17 x18 x7 : Value) (i7 : Nat) (l : List Obj) : Prop where
  len : L.length ≤ l.length
  old : ∀ p, p < L.length → p ≠ iN → l[p]? = L[p]?
  num : l[iN]? = some (.cells #[.int .u64 (((if b 3 then j + 1 else j) : Nat) : Int)] 56 (0, 0))
  h0 : b 0 = true → x14 = .string xs
  h1 : b 1 = true → x15 = .agg (cv .u8 F)
  h2 : b 2 = true → x16 = NX
  h3 : b 3 = true → x17 = .agg (cv .u8 K)
  h4 : b 4 = true → x18 = .agg (cv .u8 Z)
  h5 : b 5 = true → x7 = .pointer (some ⟨w3.heap.size + i7, 0, none⟩) ∧ L.length ≤ i7 ∧ l[i7]? = some (.cells (cv .u8 (if b 6 then Z else rep 16)) 40 (0, 0))
  c6 : b 6 = true → b 5 = true
theorem TI4.app {w3 : World} {L : List Obj} {iN j : Nat} {NX : Value} {xs : ByteArray} {F K Z : List Nat} {b : Nat → Bool} {x14 x15 x16 x17 x18 x7 : Value} {i7 : Nat} {l : List Obj} (h : TI4 w3 L iN j NX xs F K Z b x14 x15 x16 x17 x18 x7 i7 l) (g : List Obj) :
    TI4 w3 L iN j NX xs F K Z b x14 x15 x16 x17 x18 x7 i7 (l ++ g) := by
  have e : ∀ {i : Nat} {o : Obj}, l[i]? = some o → (l ++ g)[i]? = some o := fun {i o} hi => by rw [List.getElem?_append_left (List.getElem?_eq_some_iff.1 hi).1]; exact hi
  refine ⟨by rw [List.length_append]; have := h.len; omega, fun p hp hne => ?_, e h.num, h.h0, h.h1, h.h2, h.h3, h.h4, fun k => ⟨(h.h5 k).1, (h.h5 k).2.1, e (h.h5 k).2.2⟩, h.c6⟩
  rw [List.getElem?_append_left (by have := h.len; omega)]
  exact h.old p hp hne
set_option maxRecDepth 100000 in
set_option maxHeartbeats 4000000 in
theorem gturn_any (w : World) (l : List Obj) (d iN iP iS vb cb : Nat) (cs : List Nat) (nonce text : ByteArray) (j0 : Nat) (hN : l[iN]? = some (.cells #[.int .u64 (j0 : Int)] 56 (0, 0)))
    (hP : l[iP]? = some (.cells #[.func (.func 26) #[] #[.pointer (some ⟨vb, 0, none⟩)]] 35 (0, 0))) (hS : l[iS]? = some (.cells #[.string nonce] 9 (0, 0))) (H : Prs (Wd w l d) vb cb cs) (hn : nonce.size = 12) (ht : text.size ≤ 1000000) (hj : j0 ≤ 10) :
    Calls Try.prog 16 #[.string text, .func (.func 28) #[] #[.pointer (some ⟨w.heap.size + iN, 0, none⟩), .pointer (some ⟨w.heap.size + iP, 0, none⟩), .pointer (some ⟨w.heap.size + iS, 0, none⟩)]] (Wd w l d) fun e w' =>
      e = .returned (.string (mkS (tfold cs (bys nonce) j0 (pcsB text ((text.size + 15) / 16))).1)) ∧ Below w.heap.size w w' ∧ ∀ b o, b ≠ w.heap.size + iN → blk (Wd w l d) b = some o → blk w' b = some o := by
  have hmk := hmk5
  have hcap : text.size ≤ 140737488355328 := by omega
  refine (callsIn_wide (n := 3)).1 (callsIn_of_wp_marks Try.func16 rfl trivial ?_ rfl)
  refine wpIn_wide.2 ?_
  simp only [Try.ntmps16, List.size_toArray, List.length_cons, List.length_nil, Nat.reduceAdd, Nat.reduceSub, Array.replicate_succ, Array.replicate_zero, List.push_toArray, List.append_toArray, List.nil_append, List.cons_append]
  go_wp2_with fail
  refine (pieces_any text w _ d).mono ?_
  rintro e w' ⟨rfl, rfl⟩
  go_wp2
  obtain ⟨m, hm⟩ : ∃ m, l.length = m := ⟨_, rfl⟩
  rw [hm]
  obtain ⟨NX, hNX⟩ : ∃ NX, Value.func (.func 28) #[] #[.pointer (some ⟨w.heap.size + iN, 0, none⟩), .pointer (some ⟨w.heap.size + iP, 0, none⟩), .pointer (some ⟨w.heap.size + iS, 0, none⟩)] = NX := ⟨_, rfl⟩
  rw [hNX]
  obtain ⟨M, hM⟩ : ∃ M, l ++ [Obj.cells #[NX] 37 (0, 0), .cells (cv .u8 (rep text.size)) 5 (0, 0), .cells #[.slice (some ⟨w.heap.size + (m + 1), 0, none⟩) 0 text.size] 30 (0, 0), .cells #[.string text] 9 (0, 0)] = M := ⟨_, rfl⟩
  rw [hM]
  have hMl : M.length = m + 4 := by rw [← hM, List.length_append, hm]; rfl
  have hMo : ∀ p, p < m → M[p]? = l[p]? := fun p hp => by rw [← hM, List.getElem?_append_left (by omega)]
  have hMn : ∀ k, M[m + k]? = [Obj.cells #[NX] 37 (0, 0), .cells (cv .u8 (rep text.size)) 5 (0, 0), .cells #[.slice (some ⟨w.heap.size + (m + 1), 0, none⟩) 0 text.size] 30 (0, 0), .cells #[.string text] 9 (0, 0)][k]? := fun k => by
    rw [← hM, List.getElem?_append_right (by omega), hm, Nat.add_sub_cancel_left]
  have b1 : iN < m := hm ▸ (List.getElem?_eq_some_iff.1 hN).1
  have b2 : iP < m := hm ▸ (List.getElem?_eq_some_iff.1 hP).1
  have b3 : iS < m := hm ▸ (List.getElem?_eq_some_iff.1 hS).1
  have n1 : iN ≠ iP := fun e => by rw [e, hP] at hN; simp at hN
  have n2 : iN ≠ iS := fun e => by rw [e, hS] at hN; simp at hN
  have hstart : TurnW w M iN m cs (bys nonce) j0 [] (Wd w M d) := by
    refine ⟨{ w with drawn := w.drawn + d }, M, .slice (some ⟨w.heap.size + (m + 1), 0, none⟩) 0 text.size, ⟨rfl, rfl, rfl, rfl⟩, rfl, ⟨Nat.le_refl _, fun _ _ _ _ _ => rfl, by rw [hMo iN b1, hN]; rfl, hMn 2, ?_, ?_⟩⟩
    · exact ⟨m + 1, rep text.size, 5, (0, 0), by rw [rep_length]; rfl, hMn 1, okf_none _, rfl, Nat.zero_le _⟩
    · intro p hp hne n c e
      simp only [Value.slice.injEq, Option.some.injEq, Addr.mk.injEq] at e
      omega
  refine wp_pieces text ht (w.heap.size + (m + 3)) (by rw [blk_at]; exact hMn 3) rfl (TurnW w M iN m cs (bys nonce) j0) (TurnW.own (by rw [Wd_size])) hstart
    (fun x => { tmps := #[.string text, NX, undef, .pointer (some ⟨w.heap.size + m, 0, none⟩), .string ByteArray.empty, .pointer (some ⟨w.heap.size + (m + 2), 0, none⟩), .string x.1, undef, .string text, .int .i64 text.size, .slice (some ⟨w.heap.size + (m + 1), 0, none⟩) 0 text.size, .string text, .func (.func 51) #[] #[.pointer (some ⟨w.heap.size + (m + 3), 0, none⟩)], .string x.1, undef, undef, undef, undef, undef, undef, undef, undef, undef, undef, undef, undef], defers := [] }) ?assign ?body ?done
  case assign =>
    intro lo x W K0 hK0
    refine region_rnd_lit (by kernel_rfl) (by rintro ⟨_, _, h⟩; exact h) ?_
    go_wp2
    exact hK0
  case body =>
    intro lo pre x W hW hlen
    obtain ⟨w3, L, v, hs3, hWe, hI⟩ := hW
    obtain ⟨j, hjj⟩ : ∃ j, j0 + pre.length = j := ⟨_, rfl⟩
    have hjb : j + 1 < 4294967296 := by omega
    have hcount := tfold_count cs (bys nonce) j0 pre
    have hlen1 := tfold_length cs (bys nonce) j0 pre
    have hsn := tfold_snoc cs (bys nonce) j0 x pre
    rw [hjj] at hI hcount
    obtain ⟨o, ho⟩ : ∃ o, (tfold cs (bys nonce) j0 pre).1 = o := ⟨_, rfl⟩
    rw [ho] at hI hlen1
    obtain ⟨F, hF⟩ : ∃ F, fillL (bys x.1) = F := ⟨_, rfl⟩
    obtain ⟨Kk, hKk⟩ : ∃ Kk, pressL cs (bys nonce ++ hfL (j + 1) 4) = Kk := ⟨_, rfl⟩
    obtain ⟨Z, hZ⟩ : ∃ Z, (List.range 16).map (xorF F Kk) = Z := ⟨_, rfl⟩
    have hFl : F.length = 16 := by rw [← hF]; exact fillL_length _
    have hKl : Kk.length = 16 := by rw [← hKk]; unfold pressL rndLast; exact addL_length _ _ _
    have hZl : Z.length = 16 := by rw [← hZ]; simp
    have hO : (tfold cs (bys nonce) j0 (pre ++ [x])).1 = o ++ Z.take x.1.size := by
      rw [hsn]
      show (tfold cs (bys nonce) j0 pre).1 ++ ((List.range 16).map (xorF (fillL (bys x.1)) (pressL cs (bys nonce ++ hfL ((tfold cs (bys nonce) j0 pre).2 + 1) 4)))).take x.1.size = _
      rw [ho, hcount, hF, hKk, hZ]
    have hjn : j0 + (pre ++ [x]).length = j + 1 := by rw [List.length_append, ← hjj]; rfl
    have fin : ∀ (a' : Act) (L3 : List Obj) (v3 : Value) (e : Nat), (∀ p, p < L.length → p ≠ iN → p ≠ m + 2 → (∀ n c, v ≠ .slice (some ⟨w3.heap.size + p, 0, none⟩) n c) → L3[p]? = L[p]?) → L.length ≤ L3.length → L3[iN]? = some (.cells #[.int .u64 ((j + 1 : Nat) : Int)] 56 (0, 0)) → L3[m + 2]? = some (.cells #[v3] 30 (0, 0)) → Has w3 L3 v3 (o ++ Z.take x.1.size) →
        (∀ p, p < L.length → (∀ n c, v ≠ .slice (some ⟨w3.heap.size + p, 0, none⟩) n c) → ∀ n c, v3 ≠ .slice (some ⟨w3.heap.size + p, 0, none⟩) n c) →
        ownPostK (KeepsB (w.heap.size + (m + 3))) (TurnW w M iN m cs (bys nonce) j0) (fun _ _ _ => False) (pre ++ [x]) W .normal a' (Wd w3 L3 e) := fun a' L3 v3 e h1 h2 h3 h4 h5 h6 => by
      have hLm : M.length ≤ L.length := hI.len
      have hcell : ∀ p, (∃ n c, v = .slice (some ⟨w3.heap.size + p, 0, none⟩) n c) → ∃ S t f, L[p]? = some (.cells (cv .u8 S) t f) := by
        rintro p ⟨n, c, rfl⟩
        obtain ⟨i, S, t, f, e1, e2, _⟩ := hI.has
        simp only [Value.slice.injEq, Option.some.injEq, Addr.mk.injEq] at e1
        have : p = i := by omega
        subst this
        exact ⟨S, t, f, e2⟩
      have hnv : ∀ p o, L[p]? = some o → (∀ S t f, o ≠ .cells (cv .u8 S) t f) → ∀ n c, v ≠ .slice (some ⟨w3.heap.size + p, 0, none⟩) n c := fun p o hp hne n c e2 => by
        obtain ⟨S, t, f, e3⟩ := hcell p ⟨n, c, e2⟩
        rw [hp] at e3
        exact hne _ _ _ (Option.some.inj e3)
      have ht3 : L[m + 3]? = some (.cells #[.string text] 9 (0, 0)) := by rw [hI.old (m + 3) (by omega) (by omega) (by omega) (by omega), hMn 3]; rfl
      have hstr : ∀ S t f, Obj.cells #[Value.string text] 9 (0, 0) ≠ .cells (cv .u8 S) t f := fun S t f e2 => by
        injection e2 with e3
        cases S <;> simp [cv] at e3
      refine ⟨⟨by rw [hWe]; simp [Wd]; omega, fun k ob hk hc => ?_⟩, fun ob hob => ?_, ?_⟩
      · rw [hWe] at hk
        simp only [Wd, Array.getElem?_append, List.getElem?_toArray] at hk ⊢
        by_cases h1' : k < w3.heap.size
        · rw [if_pos h1'] at hk ⊢; exact hk
        · rw [if_neg h1'] at hk ⊢
          have hkl := (List.getElem?_eq_some_iff.1 hk).1
          have q1 : k - w3.heap.size ≠ iN := fun e2 => by rw [e2, hI.num] at hk; obtain rfl := Option.some.inj hk; cases hc
          have q2 : k - w3.heap.size ≠ m + 2 := fun e2 => by rw [e2, hI.box] at hk; obtain rfl := Option.some.inj hk; cases hc
          rw [h1 _ hkl q1 q2 (hnv _ _ hk (fun S t f e2 => by subst e2; cases hc)), hk]
      · rw [hWe, ← hs3.size, blk_at, ht3] at hob
        rw [← hs3.size, blk_at, h1 (m + 3) (by omega) (by omega) (by omega) (hnv _ _ ht3 hstr), ht3]
        exact hob
      · refine ⟨{ w3 with drawn := w3.drawn + e }, L3, v3, hs3.trans ⟨rfl, rfl, rfl, rfl⟩, rfl, ?_⟩
        rw [hjn, hO]
        refine ⟨by omega, fun p hp a b c => ?_, h3, h4, h5, fun p hp a n c => h6 p (by omega) (fun n c => hI.out p hp a n c) n c⟩
        rw [h1 p (by omega) a c (fun n c => hI.out p hp b n c), hI.old p hp a b c]
    have hLO : ¬ LetsOut (ownPostK (KeepsB (w.heap.size + (m + 3))) (TurnW w M iN m cs (bys nonce) j0) (fun _ _ _ => False) (pre ++ [x]) W) := by rintro ⟨_, _, h⟩; exact h
    generalize ownPostK (KeepsB (w.heap.size + (m + 3))) (TurnW w M iN m cs (bys nonce) j0) (fun _ _ _ => False) (pre ++ [x]) W = Q0 at fin hLO ⊢
    have hNX3 : NX = .func (.func 28) #[] #[.pointer (some ⟨w3.heap.size + iN, 0, none⟩), .pointer (some ⟨w3.heap.size + iP, 0, none⟩), .pointer (some ⟨w3.heap.size + iS, 0, none⟩)] := by rw [← hNX, hs3.size]
    have HNX3 := Lib.hid hNX3
    have hbx : L[m]? = some (.cells #[NX] 37 (0, 0)) := by rw [hI.old m (by omega) (by omega) (by omega) (by omega)]; exact hMn 0
    have hLP : L[iP]? = some (.cells #[.func (.func 26) #[] #[.pointer (some ⟨vb, 0, none⟩)]] 35 (0, 0)) := by rw [hI.old iP (by omega) (fun e => n1 e.symm) (by omega) (by omega), hMo iP b2, hP]
    have hLS : L[iS]? = some (.cells #[.string nonce] 9 (0, 0)) := by rw [hI.old iS (by omega) (fun e => n2 e.symm) (by omega) (by omega), hMo iS b3, hS]
    have hPrs : ∀ l' e, (∀ p, p < L.length → p ≠ iN → l'[p]? = L[p]?) → Prs (Wd w3 l' e) vb cb cs := fun l' e hk => prs_keep H hs3 hN (fun p hp hne => by
      rw [hk p (by have := hI.len; omega) hne, hI.old p (by omega) hne (by omega) (by omega), hMo p (by omega)])
    have hz : w.heap.size = w3.heap.size := hs3.size.symm
    have HX1 : Hid (∀ W, Calls Try.prog 22 #[.string x.1] W fun e w' => e = .returned (.agg (cv .u8 F)) ∧ Grows W w') := Lib.hid fun W => hF ▸ filled_any x.1 W
    have HX4 : Hid (∀ W, Calls Try.prog 31 #[.agg (cv .u8 F), .agg (cv .u8 Kk)] W fun e w' => e = .returned (.agg (cv .u8 Z)) ∧ Grows W w') := Lib.hid fun W => hZ ▸ bplus_any F Kk hFl hKl W
    have HX3 : Hid (∀ l' e, l'[iN]? = some (.cells #[.int .u64 (j : Int)] 56 (0, 0)) → (∀ p, p < L.length → p ≠ iN → l'[p]? = L[p]?) → Calls Try.prog 28 #[.pointer (some ⟨w3.heap.size + iN, 0, none⟩), .pointer (some ⟨w3.heap.size + iP, 0, none⟩), .pointer (some ⟨w3.heap.size + iS, 0, none⟩)] (Wd w3 l' e) fun r w' =>
        r = .returned (.agg (cv .u8 Kk)) ∧ ∃ g d', w' = Wd w3 (l'.set iN (.cells #[.int .u64 ((j + 1 : Nat) : Int)] 56 (0, 0)) ++ g) d') := Lib.hid fun l' e h1 h2 => by
      have := next_any w3 l' e iN iP iS vb cb cs nonce j h1 (by rw [h2 iP (by have := hI.len; omega) (fun e => n1 e.symm), hLP]) (by rw [h2 iS (by have := hI.len; omega) (fun e => n2 e.symm), hLS]) (hPrs l' e h2) hn hjb
      rwa [hKk] at this
    have HI := Lib.hid hI
    have FIN := Lib.hid fin
    have hx1 := x.2.1
    have hx2 := x.2.2
    have hob : o.length + x.1.size ≤ 1099511627776 := by omega
    have hmL : m + 4 ≤ L.length := by have := hI.len; omega
    have hbox := hI.box
    have hnum := hI.num
    clear hNX3 hI fin hsn hO hcount hlen1 ho hjn hjj hF hKk hZ hlen hPrs
    subst hWe
    rw [hz]
    refine wpIn_block ?_
    refine wpIn_seq_k fun K hK => ?_
    have hpost : ∀ (x14 x15 x16 x17 x18 : Value) (i7 : Nat) (l' : List Obj) (d : Nat), L.length ≤ l'.length → (∀ p, p < L.length → p ≠ iN → l'[p]? = L[p]?) → l'[iN]? = some (.cells #[.int .u64 ((j + 1 : Nat) : Int)] 56 (0, 0)) → L.length ≤ i7 → l'[i7]? = some (.cells (cv .u8 Z) 40 (0, 0)) →
        K { tmps := List.toArray (.string text :: NX :: undef :: .pointer (some ⟨w3.heap.size + m, 0, none⟩) :: .string ByteArray.empty :: .pointer (some ⟨w3.heap.size + (m + 2), 0, none⟩) :: .string x.1 :: .pointer (some ⟨w3.heap.size + i7, 0, none⟩) :: .string text :: .int .i64 text.size :: .slice (some ⟨w3.heap.size + (m + 1), 0, none⟩) 0 text.size :: .string text :: .func (.func 51) #[] #[.pointer (some ⟨w3.heap.size + (m + 3), 0, none⟩)] :: .string x.1 :: x14 :: x15 :: x16 :: x17 :: x18 :: undef :: undef :: undef :: undef :: undef :: undef :: undef :: []), defers := [] } (Wd w3 l' d) := by
      intro x14 x15 x16 x17 x18 i7 l' d h1 h2 h3 h4 h5
      refine hK _ _ ?_
      clear hK
      have k2 : l'[m + 2]? = some (.cells #[v] 30 (0, 0)) := by rw [h2 (m + 2) (by omega) (by omega), hbox]
      have hH : Has w3 l' v o := by
        obtain ⟨i, S, t, f, e1, e2, e3⟩ := HI.out.has
        refine ⟨i, S, t, f, e1, ?_, e3⟩
        rw [h2 i (List.getElem?_eq_some_iff.1 e2).1 (fun e4 => ?_), e2]
        rw [e4, hnum] at e2
        have e5 := Option.some.inj e2
        injection e5 with e6
        cases S <;> simp [cv] at e6
      have hvn : ∀ p ob, l'[p]? = some ob → (∀ S t f, ob ≠ .cells (cv .u8 S) t f) → ∀ n c, v ≠ .slice (some ⟨w3.heap.size + p, 0, none⟩) n c := fun p ob hp hne n c e2 => by
        obtain ⟨i, S, t, f, e1, e3, _⟩ := hH
        rw [e1] at e2
        simp only [Value.slice.injEq, Option.some.injEq, Addr.mk.injEq] at e2
        have : p = i := by omega
        subst this
        rw [hp] at e3
        exact hne _ _ _ (Option.some.inj e3)
      have hv1 := hvn _ _ h3 (fun S t f e2 => by injection e2 with e3; cases S <;> simp [cv] at e3)
      have hv2 := hvn _ _ k2 (fun S t f e2 => by
        injection e2 with e3
        obtain ⟨i, S', t', f', e1, _⟩ := hH
        rw [e1] at e3
        cases S <;> simp [cv] at e3)
      have HA := Lib.hid hH
      have H1 := Lib.hid h1
      have H2 := Lib.hid h2
      have H3 := Lib.hid h3
      have H4 := Lib.hid h4
      have H5 := Lib.hid h5
      have HV1 := Lib.hid hv1
      have HV2 := Lib.hid hv2
      have HK2 := Lib.hid k2
      have hxi : (x.1.size : Int) ≤ 16 := by omega
      clear hH hvn hv1 hv2 h1 h2 h3 h4 hbox hnum hbx hLP hLS
      refine rnd_region_drew 4 (by kernel_rfl) (by kernel_rfl) (by rintro ⟨a, w, h⟩; exact hLO ⟨a, w, h⟩) (by kernel_rfl) ?_
      simp only [List.take_succ_cons, List.take_zero, List.drop_succ_cons, List.drop_zero]
      repeat (go_big_quiet_step (fail))
      refine wpQuiet_nil ?_
      intro eR
      refine wpList_app rfl (.tmp 19) (.tmp 22) 30 5 rfl br30x v o rfl (Or.inr HA.out) i7 0 x.1.size 16 rfl Z 40 (0, 0) h5 (by omega) hx1 hob (fun v' l'' d' hH2 hK2 => ?_)
      obtain ⟨i', S', t', f', hv', q1, q2⟩ := hH2.out
      obtain ⟨nn, hnn⟩ : ∃ nn, (o ++ (Z.drop 0).take x.1.size).length = nn := ⟨_, rfl⟩
      rw [hnn] at hv'
      subst hv'
      have k5 : l''[m + 2]? = some (.cells #[v] 30 (0, 0)) := by rw [(hK2.out.2 (m + 2) (by have := H1.out; omega) HV2.out).1, HK2.out]
      have hne2 : ¬ m + 2 = i' := fun e2 => by
        rw [← e2, k5] at q1
        obtain ⟨i, S, t, f, e1, _⟩ := HA.out
        have e5 := Option.some.inj q1
        injection e5 with e6
        rw [e1] at e6
        cases S' <;> simp [cv] at e6
      have hHas : Hid (Has w3 (l''.set (m + 2) (.cells #[.slice (some ⟨w3.heap.size + i', 0, none⟩) nn S'.length] 30 (0, 0))) (.slice (some ⟨w3.heap.size + i', 0, none⟩) nn S'.length) (o ++ (Z.drop 0).take x.1.size)) :=
        Lib.hid ⟨i', S', t', f', by rw [hnn], by rw [List.getElem?_set_ne hne2, q1], q2⟩
      clear q1 q2 h5 hnn
      go_wp2
      refine FIN.out _ _ _ _ (fun p hp a b c => ?_) ?_ ?_ (set_same (by rw [k5]; rfl)) hHas.out (fun p hp c => (hK2.out.2 p (by have := H1.out; omega) c).2)
      · rw [List.getElem?_set_ne (fun e => b e.symm), (hK2.out.2 p (by have := H1.out; omega) c).1, H2.out p hp a]
      · rw [List.length_set]; exact Nat.le_trans H1.out hK2.out.1
      · rw [List.getElem?_set_ne (by omega), (hK2.out.2 iN (by have := H1.out; omega) HV1.out).1, H3.out]
    refine region_rnd (by kernel_rfl) (by kernel_rfl) (by rintro ⟨a, w, h⟩; exact hLO ⟨a, w, h⟩) ?_
    clear hK
    refine wpAny_of_inv (fun done a wr => ∃ (x14 x15 x16 x17 x18 x7 : Value) (i7 : Nat) (l' : List Obj) (d : Nat), a = { tmps := List.toArray (.string text :: NX :: undef :: .pointer (some ⟨w3.heap.size + m, 0, none⟩) :: .string ByteArray.empty :: .pointer (some ⟨w3.heap.size + (m + 2), 0, none⟩) :: .string x.1 :: x7 :: .string text :: .int .i64 text.size :: .slice (some ⟨w3.heap.size + (m + 1), 0, none⟩) 0 text.size :: .string text :: .func (.func 51) #[] #[.pointer (some ⟨w3.heap.size + (m + 3), 0, none⟩)] :: .string x.1 :: x14 :: x15 :: x16 :: x17 :: x18 :: undef :: undef :: undef :: undef :: undef :: undef :: undef :: []), defers := [] } ∧ wr = Wd w3 l' d ∧ TI4 w3 L iN j NX x.1 F Kk Z (fun j => done.getD j false) x14 x15 x16 x17 x18 x7 i7 l') (by kernel_rfl) ?step ?fin _ _ _ _ (by simp) (by decide +kernel) ?start
    case start =>
      have hz : ∀ n j, (Array.replicate n false).getD j false ≠ true := fun n j h => by rw [getD_replicate_false] at h; cases h
      have hz0 : ∀ n j, (Array.replicate n false).getD j false = false := fun n j => getD_replicate_false _ _
      exact ⟨undef, undef, undef, undef, undef, undef, 0, L, _, rfl, rfl, ⟨Nat.le_refl _, fun _ _ _ => rfl, by simp only [hz0, Bool.false_eq_true, if_false]; exact hnum, fun h => absurd h (hz _ _), fun h => absurd h (hz _ _), fun h => absurd h (hz _ _), fun h => absurd h (hz _ _), fun h => absurd h (hz _ _), fun h => absurd h (hz _ _), fun h => absurd h (hz _ _)⟩⟩
    case fin =>
      rintro done a wr ⟨x14, x15, x16, x17, x18, x7, i7, l', d, rfl, rfl, hI⟩ hall
      have e3 : done.getD 3 false = true := hall 3 (by decide)
      have e6 : done.getD 6 false = true := hall 6 (by decide)
      obtain ⟨rfl, q1, q2⟩ := hI.h5 (hall 5 (by decide))
      have q3 := hI.num
      simp only [e3, e6, if_true] at q2 q3
      exact hpost _ _ _ _ _ i7 l' d hI.len hI.old q3 q1 q2
    case step =>
      rintro done a wr i ⟨x14, x15, x16, x17, x18, x7, i7, l', d, rfl, rfl, hI⟩ hnd hdep hlt
      have hU := Lib.hid (upd_of hnd)
      have hi7 : i = 0 ∨ i = 1 ∨ i = 2 ∨ i = 3 ∨ i = 4 ∨ i = 5 ∨ i = 6 := by
        have : i < 7 := hlt
        omega
      have HI4 := Lib.hid hI
      have HD := Lib.hid hdep
      clear hpost hdep hI
      rcases hi7 with rfl | rfl | rfl | rfl | rfl | rfl | rfl
      · refine wpOp_lit (by decide) fun o ho => ?_
        simp only [List.getElem?_cons_zero, Option.some.injEq] at ho
        subst ho
        refine ⟨rfl, fun K' hK' => ?_⟩
        go_simp
        refine hK' _ _ ⟨_, x15, x16, x17, x18, x7, i7, l', d, rfl, rfl, ?_⟩
        have hI := HI4.out
        rw [hU.out]
        generalize (fun j => done.getD j false) = b at hI
        exact ⟨hI.len, hI.old, hI.num, fun _ => rfl, hI.h1, hI.h2, hI.h3, hI.h4, hI.h5, hI.c6⟩
      · refine wpOp_lit (by decide) fun o ho => ?_
        simp only [List.getElem?_cons_zero, List.getElem?_cons_succ, Option.some.injEq] at ho
        subst ho
        refine ⟨rfl, fun K' hK' => ?_⟩
        have e0 := HI4.out.h0 (HD.out _ rfl ⟨0, .data⟩ (by simp) rfl)
        subst e0
        go_simp
        refine (HX1.out _).mono ?_
        rintro e w' ⟨rfl, g, dd, rfl⟩
        rw [Wd_wd]
        go_simp
        refine hK' _ _ ⟨_, _, x16, x17, x18, x7, i7, l' ++ g, _, rfl, rfl, ?_⟩
        have hI := HI4.out.app g
        rw [hU.out]
        generalize (fun j => done.getD j false) = b at hI
        exact ⟨hI.len, hI.old, hI.num, hI.h0, fun _ => rfl, hI.h2, hI.h3, hI.h4, hI.h5, hI.c6⟩
      · refine wpOp_lit (by decide) fun o ho => ?_
        simp only [List.getElem?_cons_zero, List.getElem?_cons_succ, Option.some.injEq] at ho
        subst ho
        refine ⟨rfl, fun K' hK' => ?_⟩
        have k0 : l'[m]? = some (.cells #[NX] 37 (0, 0)) := by rw [HI4.out.old m (by omega) (by omega), hbx]
        go_simp
        refine hK' _ _ ⟨x14, x15, _, x17, x18, x7, i7, l', d, rfl, rfl, ?_⟩
        have hI := HI4.out
        rw [hU.out]
        generalize (fun j => done.getD j false) = b at hI
        exact ⟨hI.len, hI.old, hI.num, hI.h0, hI.h1, fun _ => rfl, hI.h3, hI.h4, hI.h5, hI.c6⟩
      · refine wpOp_lit (by decide) fun o ho => ?_
        simp only [List.getElem?_cons_zero, List.getElem?_cons_succ, Option.some.injEq] at ho
        subst ho
        refine ⟨rfl, fun K' hK' => ?_⟩
        have e0 := HI4.out.h2 (HD.out _ rfl ⟨2, .data⟩ (by simp) rfl)
        have hz3 : done.getD 3 false = false := by
          cases hz : done.getD 3 false with
          | false => rfl
          | true => rw [getD_both hnd] at hz; cases hz
        have hnum4 : l'[iN]? = some (.cells #[.int .u64 (j : Int)] 56 (0, 0)) := by
          have := HI4.out.num
          simp only [hz3, Bool.false_eq_true, if_false] at this
          exact this
        have hcall := HX3.out l' d hnum4 (fun p hp hne => HI4.out.old p hp hne)
        have HC := Lib.hid hcall
        rw [HNX3.out] at e0
        subst e0
        clear hcall
        go_simp
        refine HC.out.mono ?_
        rintro e w' ⟨rfl, g, dd, rfl⟩
        go_simp
        refine hK' _ _ ⟨x14, x15, _, _, x18, x7, i7, _, _, rfl, rfl, ?_⟩
        have hI := HI4.out
        rw [hU.out]
        generalize (fun j => done.getD j false) = b at hI
        have hse : ∀ (X : Obj) (p : Nat), p ≠ iN → (l'.set iN X ++ g)[p]? = (l' ++ g)[p]? := fun X p hp => by
          rw [← List.set_append_left _ _ (List.getElem?_eq_some_iff.1 hnum4).1, List.getElem?_set_ne (fun e => hp e.symm)]
        have hA := hI.app g
        have hl7 : ∀ k : b 5 = true, i7 ≠ iN := fun k e7 => by
          have := (hI.h5 k).2.1
          have hL3 := (List.getElem?_eq_some_iff.1 hnum).1
          omega
        exact ⟨by have := hA.len; rw [List.length_append] at this ⊢; rw [List.length_set]; exact this, fun p hp hne => by rw [hse _ p hne]; exact hA.old p hp hne, by rw [List.getElem?_append_left (by rw [List.length_set]; exact (List.getElem?_eq_some_iff.1 hnum4).1), set_same (by rw [hnum4]; rfl)]; rfl, hA.h0, hA.h1, fun _ => HNX3.out.symm, fun _ => rfl, hA.h4, fun k => ⟨(hA.h5 k).1, (hA.h5 k).2.1, by rw [hse _ i7 (hl7 k)]; exact (hA.h5 k).2.2⟩, hA.c6⟩
      · refine wpOp_lit (by decide) fun o ho => ?_
        simp only [List.getElem?_cons_zero, List.getElem?_cons_succ, Option.some.injEq] at ho
        subst ho
        refine ⟨rfl, fun K' hK' => ?_⟩
        have e1 := HI4.out.h1 (HD.out _ rfl ⟨1, .data⟩ (by simp) rfl)
        have e3 := HI4.out.h3 (HD.out _ rfl ⟨3, .data⟩ (by simp) rfl)
        subst e1 e3
        go_simp
        refine (HX4.out _).mono ?_
        rintro e w' ⟨rfl, g, dd, rfl⟩
        rw [Wd_wd]
        go_simp
        refine hK' _ _ ⟨x14, _, x16, _, _, x7, i7, l' ++ g, _, rfl, rfl, ?_⟩
        have hI := HI4.out.app g
        rw [hU.out]
        generalize (fun j => done.getD j false) = b at hI
        exact ⟨hI.len, hI.old, hI.num, hI.h0, hI.h1, hI.h2, hI.h3, fun _ => rfl, hI.h5, hI.c6⟩
      · refine wpOp_lit (by decide) fun o ho => ?_
        simp only [List.getElem?_cons_zero, List.getElem?_cons_succ, Option.some.injEq] at ho
        subst ho
        refine ⟨rfl, fun K' hK' => ?_⟩
        go_simp
        refine hK' _ _ ⟨x14, x15, x16, x17, x18, _, l'.length, _, _, rfl, rfl, ?_⟩
        have hI0 := HI4.out
        have hI := HI4.out.app [.cells (cv .u8 (rep 16)) 40 (0, 0)]
        rw [hU.out]
        have hz : (fun j => done.getD j false) 5 = false := by
          cases hz : done.getD 5 false with
          | false => exact hz
          | true => rw [getD_both hnd] at hz; cases hz
        generalize (fun j => done.getD j false) = b at hI hI0 hz
        have hz2 : b 6 = false := by
          cases hz2 : b 6 with
          | false => rfl
          | true => rw [hI.c6 hz2] at hz; cases hz
        exact ⟨hI.len, hI.old, hI.num, hI.h0, hI.h1, hI.h2, hI.h3, hI.h4, fun _ => ⟨rfl, hI0.len, by rw [show upd b 5 6 = false from hz2, if_neg (by decide), List.getElem?_append_right (Nat.le_refl _), Nat.sub_self]; rfl⟩, fun k => absurd (hz2.symm.trans k) (by decide)⟩
      · refine wpOp_lit (by decide) fun o ho => ?_
        simp only [List.getElem?_cons_zero, List.getElem?_cons_succ, Option.some.injEq] at ho
        subst ho
        refine ⟨rfl, fun K' hK' => ?_⟩
        have d5 := HD.out _ rfl ⟨5, .data⟩ (by simp) rfl
        have e4 := HI4.out.h4 (HD.out _ rfl ⟨4, .data⟩ (by simp) rfl)
        obtain ⟨rfl, q1, q2⟩ := HI4.out.h5 d5
        subst e4
        have e6 : done.getD 6 false = false := by
          cases hz : done.getD 6 false with
          | false => rfl
          | true => rw [getD_both hnd] at hz; cases hz
        simp only [e6, Bool.false_eq_true, if_false] at q2
        go_simp
        refine hK' _ _ ⟨x14, x15, x16, x17, _, _, i7, _, _, rfl, rfl, ?_⟩
        have hI := HI4.out
        have hL3 := (List.getElem?_eq_some_iff.1 hnum).1
        rw [hU.out]
        have hd : (fun j => done.getD j false) 5 = true := d5
        generalize (fun j => done.getD j false) = b at hI hd
        exact ⟨by rw [List.length_set]; exact hI.len, fun p hp hne => by rw [List.getElem?_set_ne (by omega)]; exact hI.old p hp hne, by rw [List.getElem?_set_ne (by omega)]; exact hI.num, hI.h0, hI.h1, hI.h2, hI.h3, hI.h4, fun _ => ⟨rfl, q1, set_same (by rw [q2]; rfl)⟩, fun _ => hd⟩
  case done =>
    intro D W hD hW hK0
    obtain ⟨w3, L, v, hs3, rfl, hI⟩ := hW
    have hold := hI.old
    have hbox := hI.box
    have hLl := hI.len
    obtain ⟨i, S, t, f, hv, hi, _, hst, hle⟩ := hI.has
    obtain ⟨o, ho⟩ : ∃ o, (tfold cs (bys nonce) j0 (pcsB text ((text.size + 15) / 16))).1 = o := ⟨_, rfl⟩
    rw [ho] at hv hst hle
    have HO := Lib.hid ho
    obtain ⟨n, hn'⟩ : ∃ n, o.length = n := ⟨_, rfl⟩
    rw [hn'] at hv hst hle
    subst hv
    rw [Wd_size, hMl] at hD
    obtain ⟨jd, hjd⟩ : ∃ jd, D = w.heap.size + jd := ⟨D - w.heap.size, by omega⟩
    subst hjd
    have hzz : w.heap.size = w3.heap.size := hs3.size.symm
    rw [hzz, Wd_at] at hK0
    have hmk : ({ target := .collected (w.heap.size + jd), args := #[] } : Deferred) :: [] = marks w3 [jd] := by
      unfold marks; rw [hzz]; rfl
    have hres : mkS (S.take n) = mkS o := by rw [hst]
    have HRES := Lib.hid hres
    have hnS : n ≤ S.length := hle
    have HJ := Lib.hid hK0
    have hbelow : Hid (∀ (w4 : World) (L' : List Obj) (e : Nat), Same w3 w4 → (∀ p, p ≠ jd → L'[p]? = L[p]?) → Below w.heap.size w (Wd w4 L' e) ∧ ∀ b ob, b ≠ w.heap.size + iN → blk (Wd w l d) b = some ob → blk (Wd w4 L' e) b = some ob) := Lib.hid fun w4 L' e hs4 hL' => by
      refine ⟨(hs3.trans hs4).below L' e, fun b ob hb hob => ?_⟩
      rw [blk_same (hs3.trans hs4) L' e 0]
      unfold blk Wd at hob ⊢
      simp only [Array.getElem?_append, List.getElem?_toArray] at hob ⊢
      by_cases h1 : b < w.heap.size
      · rw [if_pos h1] at hob ⊢; exact hob
      · rw [if_neg h1] at hob ⊢
        have h2 := (List.getElem?_eq_some_iff.1 hob).1
        rw [hL' _ (by omega), hold _ (by omega) (by omega) (by omega) (by omega), hMo _ (by omega), hob]
    clear hI hold hst hle ho hn' hK0 hres hM hMo hMn
    show Exit.inBlock 0 _ .normal { tmps := _, defers := ({ target := .collected (w.heap.size + jd), args := #[] } : Deferred) :: [] } _
    rw [hmk, hzz]
    go_wp2
    show LeavesInM _ _ _ _ _ _ _ _ _
    refine leaves_marks w3 0 [jd] _ (fun j hj => by obtain rfl := List.mem_singleton.1 hj; exact HJ.out) (by simp) (fun L' hL' => ?_)
    have hb := hbelow.out w3 L' 0 (Same.refl w3) (fun p hp => hL' p (fun e => hp (List.mem_singleton.1 e)))
    exact ⟨_, results_tmp rfl _ _ _, by rw [HO.out, ← HRES.out]; rfl, hb⟩
end Go.Proofs.Ytmhhekiliojifaa

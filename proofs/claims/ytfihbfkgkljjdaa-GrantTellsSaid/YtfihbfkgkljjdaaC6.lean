/- The pairs read of a text's pieces; Parse: by contract. No condition but the text's size. -/
import Derived.Test.YtfihbfkgkljjdaaC3
import Derived.Test.YtfihbfkgkljjdaaC5
namespace Go.Own
open Go
/-- A counted piece at a string's head (cut short, if it is), and what is behind it. -/
def cutAt (s : ByteArray) : Nat := min (1 + gi (bys s) 0) s.size
def pieceE (s : ByteArray) : ByteArray := if s.size = 0 then { data := #[] } else s.extract 1 (cutAt s)
def restE (s : ByteArray) : ByteArray := if s.size = 0 then s else s.extract (cutAt s) s.size
/-- So many pairs of pieces at most. -/
def rd : Nat → ByteArray → List P2
  | 0, _ => []
  | f + 1, s => if s.size = 0 then [] else (pieceE s, pieceE (restE s)) :: rd f (restE (restE s))
theorem restE_size (s : ByteArray) : (restE s).size ≤ s.size := by
  unfold restE; split
  · exact Nat.le_refl _
  · simp
theorem pieceE_size (s : ByteArray) : (pieceE s).size ≤ s.size := by
  unfold pieceE; split
  · exact Nat.zero_le _
  · simp; omega
theorem rd_sizes : ∀ (f : Nat) (s : ByteArray), ∀ x ∈ rd f s, x.1.size ≤ s.size ∧ x.2.size ≤ s.size
  | 0, s, x, h => by simp [rd] at h
  | f + 1, s, x, h => by
    have h1 := restE_size s
    have h2 := restE_size (restE s)
    unfold rd at h
    split at h
    · simp at h
    · rcases List.mem_cons.1 h with rfl | h
      · exact ⟨pieceE_size s, Nat.le_trans (pieceE_size _) h1⟩
      · have := rd_sizes f _ x h
        omega
theorem rd_length : ∀ (f : Nat) (s : ByteArray), (rd f s).length ≤ f
  | 0, s => by simp [rd]
  | f + 1, s => by
    unfold rd
    split
    · simp
    · have := rd_length f (restE (restE s))
      simp; omega
theorem rd_end (f : Nat) {s : ByteArray} (h : s.size = 0) : rd f s = [] := by
  cases f with
  | zero => rfl
  | succ f => simp [rd, h]
theorem rd_more (f : Nat) {s : ByteArray} (h : s.size ≠ 0) : rd (f + 1) s = (pieceE s, pieceE (restE s)) :: rd f (restE (restE s)) := by simp [rd, h]
end Go.Own
namespace Go.Own
/-- Is a string a context's text, as it is read? -/
def OkS (s : ByteArray) : Prop := rightP (rd 8 s) = true ∧ mkS (textP (rd 8 s)) = s
end Go.Own
namespace Go.Proofs.Ytfihbfkgkljjdaa
open Go.RowKit Go.Own Go.Maps Go.WideMaps
theorem grown_more {w w1 w2 : World} {B : Nat} {row : Option Nat} (h : w.grownBy w1 (some B)) (k : w1.grownBy w2 row) (hr : ∀ g, row = some g → w.heap.size ≤ g ∨ g = B) : w.grownBy w2 (some B) :=
  ⟨k.os.trans h.os, k.tape.trans h.tape, k.output.trans h.output, Nat.le_trans h.size k.size, fun i hi hne => by
    rw [k.block i (Nat.lt_of_lt_of_le hi h.size) (fun e => ?_)]
    · exact h.block i hi hne
    · rcases hr i e.symm with h1 | h1
      · omega
      · exact hne (by rw [h1])⟩
theorem take_any (B : Nat) (s : ByteArray) (hs : s.size ≤ 1000000) (w : World) (hB : Box w B s) :
    Calls Try.prog 53 #[.pointer (some ⟨B, 0, none⟩)] w fun e w' => e = .returned (.tuple #[.string (pieceE s), .bool (decide (0 < s.size))]) ∧ Box w' B (restE s) ∧ w.grownBy w' (some B) := by
  by_cases h : s.size = 0
  · refine (take_end B s h w hB).mono ?_
    rintro e w' ⟨rfl, rfl⟩
    refine ⟨by simp [pieceE, h], by simpa [restE, h] using hB, ⟨rfl, rfl, rfl, Nat.le_refl _, fun _ _ _ => rfl⟩⟩
  · refine (take_piece B s (by omega) hs _ _ rfl rfl w hB).mono ?_
    rintro e w' ⟨rfl, h1, h2⟩
    refine ⟨by simp [pieceE, h, cutAt]; omega, by simpa [restE, h, cutAt] using h1, h2⟩
theorem info42 : (Try.prog.info? 42).map (fun i => (i.zero, i.size, i.bytes)) = some (some (.agg #[.string { data := #[] }, .string { data := #[] }]), 2, 32) := by kernel_rfl
theorem pair_new (w : World) (a b : Value) (t : TypeId) : ∀ (j : Nat) u, [a, b][j]? = some u → (w.alloc (.cells #[a, b] t)).cell? ((⟨w.heap.size, 0, none⟩ : Addr).add j) = some u := fun j u h => by
  have hadd : (⟨w.heap.size, 0, none⟩ : Addr).add j = ⟨w.heap.size, j, none⟩ := by unfold Addr.add; split <;> simp_all
  rw [hadd, cell_new]
  simpa using h
theorem two_one (a b : ByteArray) : ∀ u ∈ [Value.string a, Value.string b], u.oneCell' = true := fun u h => by
  simp at h; rcases h with rfl | rfl <;> rfl
/-- The slice v holds the pairs M, in a row of the call's own. -/
def OwnP (w : World) (B : Nat) (v : Value) (M : List P2) : Prop := w.ownsRow B 42 2 v M.length (cellsP M)
theorem OwnP.nil (w : World) (B : Nat) : OwnP w B (.slice none 0 0) [] := World.ownsRow_nil w B 42 2
theorem OwnP.shape {w : World} {B : Nat} {v : Value} {M : List P2} (h : OwnP w B v M) : ∃ p c, v = .slice p M.length c := by
  rcases h.2 with ⟨rfl, h2⟩ | ⟨g, cap, cur, rfl, _⟩
  · rw [h2]; exact ⟨_, _, rfl⟩
  · exact ⟨_, _, rfl⟩
theorem OwnP.ps {w : World} {B : Nat} {v : Value} {M : List P2} (h : OwnP w B v M) : PsC w v M := by
  rcases h.2 with ⟨rfl, h2⟩ | ⟨g, cap, cur, rfl, _, _, hnc, _⟩
  · have : M = [] := List.eq_nil_of_length_eq_zero h2
    subst this
    exact ⟨none, 0, rfl, Nat.le_refl _, fun j u hu => by simp [cellsP] at hu⟩
  · refine ⟨_, _, rfl, hnc, fun j u hu => ⟨g, 0, rfl, ?_⟩⟩
    have := h.cells (g := g) rfl j u hu
    have hadd : (⟨g, 0, none⟩ : Addr).add j = ⟨g, 0 + j, none⟩ := by unfold Addr.add; split <;> simp_all
    rwa [hadd] at this
theorem OwnP.block {w : World} {B0 : Nat} {v : Value} {M : List P2} (h : OwnP w B0 v M) : ∀ g, v.ownBlock = some g → B0 ≤ g := fun g hg => (h.lt g hg).1
theorem OwnP.past {w w' : World} {B B0 : Nat} {v : Value} {M : List P2} (h : OwnP w B0 v M) (hg : w.grownBy w' (some B)) (hB : B < B0) : OwnP w' B0 v M :=
  h.kept hg (Or.inr fun e => by have := h.block B e; omega)
theorem Box.past {w w' : World} {B : Nat} {s : ByteArray} {row : Option Nat} (h : Box w B s) (hg : w.grownBy w' row) (hne : row ≠ some B) : Box w' B s :=
  (hg.block B (Array.getElem?_eq_some_iff.1 h).1 (fun e => hne e.symm)).trans h
set_option maxRecDepth 100000 in
set_option maxHeartbeats 2000000 in
theorem read_any (B : Nat) (s0 : ByteArray) (hs0 : s0.size ≤ 1000000) (w : World) (hB : Box w B s0) :
    Calls Try.prog 47 #[.func (.func 53) #[] #[.pointer (some ⟨B, 0, none⟩)]] w fun e w' => ∃ v, e = .returned v ∧ OwnP w' w.heap.size v (rd 8 s0) ∧ w.grownBy w' (some B) := by
  obtain ⟨i0, hi, hz0, hz1, hz2⟩ := info_parts info42
  have hBl : B < w.heap.size := (Array.getElem?_eq_some_iff.1 hB).1
  have HB0 := Lib.hid hB
  clear hB
  go_enter Try.func47, Try.ntmps47
  go_wp2
  go_loopw [3, 8] (fun v i wr => ∃ (j : Nat) (M : List P2) (s : ByteArray), j ≤ 8 ∧ i = .int .i64 (j : Int) ∧ Hid (OwnP wr w.heap.size v M) ∧ Hid (M.length = j) ∧ Hid (Box wr B s) ∧ Hid (w.grownBy wr (some B)) ∧ Hid (rd 8 s0 = M ++ rd (8 - j) s) ∧ s.size ≤ 1000000) (fun _ i _ => 8 - (intOf i).toNat)
  case atStart => exact ⟨0, [], s0, by omega, rfl, Lib.hid (OwnP.nil w _), Lib.hid rfl, HB0, Lib.hid ⟨rfl, rfl, rfl, Nat.le_refl _, fun _ _ _ => rfl⟩, Lib.hid (by simp), hs0⟩
  case round =>
    obtain ⟨j, M, s, hj, rfl, HO, HM, HB, HG, HR, hs⟩ := hrel
    by_cases hlt : j < 8
    · have hji : (j : Int) < 8 := by omega
      by_cases hz : s.size = 0
      · have hd : decide (0 < s.size) = false := decide_eq_false (by omega)
        have HT := take_any B s hs wr HB.out
        rw [hd] at HT
        have HTT := Lib.hid HT
        have HE : Hid (rd 8 s0 = M) := Lib.hid (by rw [HR.out, rd_end _ hz, List.append_nil])
        clear hd hz HT
        go_wp2_with (go_at_call 53; fail)
        refine HTT.out.mono ?_
        rintro e w1 ⟨rfl, hb1, hg1⟩
        have HO1 := Lib.hid (HO.out.past hg1 hBl)
        have HG1 := Lib.hid (grown_more HG.out hg1 (fun g e => Or.inr (by simpa using e.symm)))
        clear hb1 hg1
        go_wp2
        go_ret
        exact ⟨_, rfl, by rw [HE.out]; exact HO1.out, HG1.out⟩
      · have hd : decide (0 < s.size) = true := decide_eq_true (by omega)
        have HT := take_any B s hs wr HB.out
        rw [hd] at HT
        have HTT := Lib.hid HT
        obtain ⟨f, hf⟩ : ∃ f, 8 - j = f + 1 := ⟨8 - j - 1, by omega⟩
        have HE : Hid (rd 8 s0 = M ++ [(pieceE s, pieceE (restE s))] ++ rd (8 - (j + 1)) (restE (restE s))) := Lib.hid (by
          rw [HR.out, hf, rd_more f hz, show 8 - (j + 1) = f by omega]; simp)
        have hr1 : (restE s).size ≤ 1000000 := Nat.le_trans (restE_size s) hs
        have hr2 : (restE (restE s)).size ≤ 1000000 := Nat.le_trans (restE_size _) hr1
        have HR1 := Lib.hid hr1
        have HR2 := Lib.hid hr2
        clear hd hz HT hf hr1 hr2
        go_wp2_with (go_at_call 53; fail)
        refine HTT.out.mono ?_
        rintro e w1 ⟨rfl, hb1, hg1⟩
        have HO1 := Lib.hid (HO.out.past hg1 hBl)
        have HG1 := Lib.hid (grown_more HG.out hg1 (fun g e => Or.inr (by simpa using e.symm)))
        have HT2 := Lib.hid (take_any B (restE s) HR1.out w1 hb1)
        clear hb1 hg1
        obtain ⟨bb, hbb⟩ : ∃ bb, decide (0 < (restE s).size) = bb := ⟨_, rfl⟩
        rw [hbb] at HT2
        clear hbb
        go_wp2_with (go_at_call 53; fail)
        refine HT2.out.mono ?_
        rintro e w2 ⟨rfl, hb2, hg2⟩
        have hown := HO1.out.past hg2 hBl
        have HG2 := Lib.hid (grown_more HG1.out hg2 (fun g e => Or.inr (by simpa using e.symm)))
        have HB2 := Lib.hid hb2
        clear hb2 hg2
        unfold OwnP at hown
        rw [HM.out] at hown
        have hsz2 : w.heap.size ≤ w2.heap.size := HG2.out.size
        go_wp2_with (at_builtin; refine wpList_append_own _ rfl (.tmp 22) (.tmp 26) 23 rfl w.heap.size 42 i0 _ 2 32 Try.underlying23 hi hz0 hz1 hz2 rfl (by decide) _ _ _ rfl (hown.alloc _) ⟨w2.heap.size, 0, none⟩ 1 1 [.string (pieceE s), .string (pieceE (restE s))] rfl rfl (pair_new _ _ _ _) (two_one _ _) (by unfold maxLen; omega) (by omega) (by simp; omega) ?_)
        intro v3 w3 hown3 hgrow3 _
        have HO3 : Hid (OwnP w3 w.heap.size v3 (M ++ [(pieceE s, pieceE (restE s))])) := Lib.hid (by
          unfold OwnP
          rw [cellsP_append, List.length_append, HM.out]
          exact hown3)
        have hrow : ∀ g, u3.ownBlock = some g → w.heap.size ≤ g := fun g e => (hown.lt g e).1
        have hgr := (World.grownBy_alloc w2 (.cells #[.string (pieceE s), .string (pieceE (restE s))] 42) u3.ownBlock).trans hgrow3
        have HB3 := Lib.hid (HB2.out.past hgr (fun e => by have := hrow B e; omega))
        have HG3 := Lib.hid (grown_more HG2.out hgr (fun g e => Or.inl (hrow g e)))
        have HM3 : Hid ((M ++ [(pieceE s, pieceE (restE s))]).length = j + 1) := Lib.hid (by rw [List.length_append, HM.out]; rfl)
        clear hown3 hgrow3 hown hrow hgr hsz2
        go_wp2
        go_roundw
        case rel => exact ⟨j + 1, _, _, by omega, by go_num, HO3, HM3, HB3, HG3, HE, HR2.out⟩
        case measure => simp [intOf]; omega
    · obtain rfl : j = 8 := by omega
      have HE : Hid (rd 8 s0 = M) := Lib.hid (by rw [HR.out]; exact List.append_nil M)
      go_wp2
      go_ret
      exact ⟨_, rfl, by rw [HE.out]; exact HO.out, HG.out⟩
theorem box_new (w : World) (s : ByteArray) : Box (w.alloc (.cells #[.string s] 9)) w.heap.size s := heap_alloc_new w _
theorem str_ff {a b : ByteArray} (h : a ≠ b) : (a.toList == b.toList) = false := by
  rw [ByteArray.toList_eq, ByteArray.toList_eq]
  exact beq_eq_false_iff_ne.2 fun e => h (ByteArray.ext (Array.toList_inj.1 e))
set_option maxRecDepth 100000 in
theorem taker_any (s : ByteArray) (w : World) : Calls Try.prog 48 #[.string s] w fun e w' => e = .returned (.func (.func 53) #[] #[.pointer (some ⟨w.heap.size, 0, none⟩)]) ∧ w.alloc (.cells #[.string s] 9) = w' := by
  go_enter Try.func48, Try.ntmps48
  go_wp2
  go_ret
  exact ⟨rfl, rfl⟩
theorem below_but {w w1 : World} {o : Obj} (h : (w.alloc o).grownBy w1 (some w.heap.size)) : Below w.heap.size w w1 := by
  have hs := h.size
  simp at hs
  refine ⟨h.os, h.tape, h.output, by omega, fun k hk => ?_⟩
  rw [h.block k (by simp; omega) (fun e => by have := Option.some.inj e; omega)]
  exact ((Below.refl w.heap.size w).alloc (Nat.le_refl _) o).block k hk
set_option maxRecDepth 100000 in
set_option maxHeartbeats 1000000 in
theorem parse_ok (s : ByteArray) (hs : s.size ≤ 1000000) (hok : OkS s) (w : World) :
    Calls Try.prog 40 #[.string s] w fun e w' => ∃ v, e = .returned (.tuple #[v, .int .i64 0]) ∧ PsC w' v (rd 8 s) ∧ Below w.heap.size w w' := by
  have hR := rd_sizes 8 s
  have hl := rd_length 8 s
  obtain ⟨h1, h2⟩ := hok
  have HE : Hid (textR (rd 8 s) = .tuple #[.string s, .int .i64 0]) := Lib.hid (by simp [textR, h1, h2])
  have HRD := Lib.hid (read_any w.heap.size s hs _ (box_new w s))
  generalize rd 8 s = R at *
  clear h1 h2
  have HL := Lib.hid hl
  have HSZ : Hid (∀ x ∈ R, x.1.size ≤ 1000000 ∧ x.2.size ≤ 1000000) := Lib.hid fun x hx => by have := hR x hx; omega
  clear hR hl
  go_enter Try.func40, Try.ntmps40
  go_wp2_with fail
  refine (taker_any s w).mono ?_
  rintro e w' ⟨rfl, rfl⟩
  go_wp2_with fail
  refine HRD.out.mono ?_
  rintro e w1 ⟨v, rfl, hO, hg⟩
  obtain ⟨p, c, rfl⟩ := hO.shape
  have HP := Lib.hid hO.ps
  have HB := Lib.hid (below_but hg)
  clear hO hg
  have HT := Lib.hid (text_any R p c (by have := HL.out; omega) HSZ.out w1 HP.out)
  rw [HE.out] at HT
  obtain ⟨n, hn⟩ : ∃ n, R.length = n := ⟨_, rfl⟩
  rw [hn] at HP HT ⊢
  clear hn
  go_wp2_with fail
  refine HT.out.mono ?_
  rintro e w2 ⟨rfl, hb⟩
  have HP2 := Lib.hid (HP.out.below hb)
  have HB2 := Lib.hid (HB.out.trans (hb.mono HB.out.size))
  clear hb
  go_wp2
  go_ret2
  exact ⟨_, rfl, HP2.out, HB2.out⟩
set_option maxRecDepth 100000 in
set_option maxHeartbeats 1000000 in
theorem parse_bad (s : ByteArray) (hs : s.size ≤ 1000000) (hok : ¬ OkS s) (w : World) :
    Calls Try.prog 40 #[.string s] w fun e w' => e = .returned (.tuple #[.slice none 0 0, .int .i64 2]) ∧ Below w.heap.size w w' := by
  have hR := rd_sizes 8 s
  have hl := rd_length 8 s
  have HE : Hid (textR (rd 8 s) = .tuple #[.string { data := #[] }, .int .i64 2] ∨ ∃ t : ByteArray, textR (rd 8 s) = .tuple #[.string t, .int .i64 0] ∧ t ≠ s) := Lib.hid (by
    by_cases h : rightP (rd 8 s) = true
    · exact Or.inr ⟨mkS (textP (rd 8 s)), by simp [textR, h], fun e => hok ⟨h, e⟩⟩
    · exact Or.inl (by simp [textR, h]))
  have HRD := Lib.hid (read_any w.heap.size s hs _ (box_new w s))
  clear hok
  generalize rd 8 s = R at *
  have HL := Lib.hid hl
  have HSZ : Hid (∀ x ∈ R, x.1.size ≤ 1000000 ∧ x.2.size ≤ 1000000) := Lib.hid fun x hx => by have := hR x hx; omega
  clear hR hl
  go_enter Try.func40, Try.ntmps40
  go_wp2_with fail
  refine (taker_any s w).mono ?_
  rintro e w' ⟨rfl, rfl⟩
  go_wp2_with fail
  refine HRD.out.mono ?_
  rintro e w1 ⟨v, rfl, hO, hg⟩
  obtain ⟨p, c, rfl⟩ := hO.shape
  have HP := Lib.hid hO.ps
  have HB := Lib.hid (below_but hg)
  clear hO hg
  have HT := Lib.hid (text_any R p c (by have := HL.out; omega) HSZ.out w1 HP.out)
  obtain ⟨n, hn⟩ : ∃ n, R.length = n := ⟨_, rfl⟩
  rw [hn] at HP HT ⊢
  clear hn
  rcases HE.out with h | ⟨t, h, hne⟩
  · rw [h] at HT
    clear h
    go_wp2_with fail
    refine HT.out.mono ?_
    rintro e w2 ⟨rfl, hb⟩
    have HB2 := Lib.hid (HB.out.trans (hb.mono HB.out.size))
    clear hb
    go_wp2
    go_ret2
    exact ⟨rfl, HB2.out⟩
  · rw [h] at HT
    have hq := str_ff hne
    clear h hne
    go_wp2_with fail
    refine HT.out.mono ?_
    rintro e w2 ⟨rfl, hb⟩
    have HB2 := Lib.hid (HB.out.trans (hb.mono HB.out.size))
    clear hb
    go_wp2
    go_ret2
    exact ⟨rfl, HB2.out⟩
end Go.Proofs.Ytfihbfkgkljjdaa

/- awake's example (f5), given what a journal answers in it; what a commit, a compaction come to. No condition. | A document's value that came in, opened. No condition. -/
import Derived.Test.YtlogjpmdfimgdaaGreatDoorX16
import Derived.Test.YtlogjpmdfimgdaaGreatDoorX13
import Derived.Test.YtlogjpmdfimgdaaGreatDoorX01
import Derived.ProofKit
import Derived.OpenShut
import Derived.Deep.Slices
import Derived.Deep.Fields
import Derived.ChangeSame
import Derived.ChangeArms
namespace Go.Proofs.YtlogjpmdfimgdaaGreatDoor
open Go Go.RowKit Go.Own Go.Own.Fr Go.Maps Go.WideMaps
def kA : ByteArray := { data := #[97] }
def kB : ByteArray := { data := #[98] }
def kC : ByteArray := { data := #[99] }
def vX : A := .list [.str { data := #[120] }]
def cs1 : List Ch := [(kA, some (.num 1)), (kB, some vX)]
def cs2 : List Ch := [(kA, none)]
def cs3 : List Ch := [(kC, some .odd)]
def gB : ByteArray → Option A := fun k => if k = kB then some vX else none
section
variable {Sg : Type} {base : Nat} {JS : (Nat → Prop) → World → Addr → Sg → Prop} {good : Sg → Prop} {tx : Sg → List (List Nat)} {apE : Sg → List Nat → Int} {apS : Sg → List Nat → Sg} {anE : Sg → List (List Nat) → Int} {anS : Sg → List (List Nat) → Sg}
/-- What a journal answers in the example. -/
structure Exam (base : Nat) (JS : (Nat → Prop) → World → Addr → Sg → Prop) (good : Sg → Prop) (tx : Sg → List (List Nat)) (apE : Sg → List Nat → Int) (apS : Sg → List Nat → Sg) (anE : Sg → List (List Nat) → Int) (anS : Sg → List (List Nat) → Sg) (dk : Sg → Addr) (reS : Sg → Sg) (s0 s1 s2 s3 : Sg) : Prop where
  hg : good s0
  ht : tx s0 = []
  e1 : apE s0 (bys (prt (trA cs1))) = 0
  h1 : apS s0 (bys (prt (trA cs1))) = s1
  e2 : apE s1 (bys (prt (trA cs2))) = 0
  h2 : apS s1 (bys (prt (trA cs2))) = s2
  e3 : anE s2 ((txsB gB [kB]).map bys) = 0
  h3 : anS s2 ((txsB gB [kB]).map bys) = s3
  hd : dk s3 = dk s0
  re : ∀ O W jp, JS O W jp s3 → Calls Tryz.prog 24 #[.pointer (some (dk s3))] W (JOpenQ JS O (reS s3) W)
  rg : good (reS s3)
  op : openF (fun _ => Option.none) (tx (reS s3)) = some gB
theorem Live.commit (HJ : Jour base JS good tx apE apS anE anS) (HG : Goes good apE apS anE anS) {sb M : Nat} {jp : Addr} {w0 w : World} {s : Sg} {g : ByteArray → Option A} (H : Live base JS good sb jp M w0 w s g) (hbw : base ≤ w.heap.size) (hM : M ≤ 900000) (v : Value) (cs : List Ch) (hcs : ChRow w v cs) (hl : cs.length ≤ 30)
    (hsz : ∀ c ∈ cs, ∀ a, c.2 = some a → sz a 2 ≤ 1000000000000) (hok : ∀ c ∈ cs, ∀ a, c.2 = some a → okA a) (hk : ∀ c ∈ cs, c.1.size ≤ 65535) (he : er (trA cs) 0 = 0) (h0 : apE s (bys (prt (trA cs))) = 0) :
    Calls Tryz.prog 16 #[.pointer (some ⟨sb, 0, none⟩), v] w fun e w' => e = .returned (.int .i64 0) ∧ Live base JS good sb jp (M + 30) w0 w' (apS s (bys (prt (trA cs)))) (cs.foldl chF g) := by
  obtain ⟨O, S, b, n, hst, hn⟩ := H.ex
  have hsm : Small (cs.foldl chF g) := Small.fold _ g H.small fun c hc => ⟨((er_trA he).2 c hc).1, hsz c hc⟩
  refine (commit_any HJ O S sb b n jp s g w hst H.good hbw v cs hcs (by omega) (by omega) (sz_tr30 _ hsz hl) (fun he => trOf_prt he hok) (fun c hc => by have := hk c hc; unfold maxLen; omega)
    (fun _ h6 => ⟨(HG.ap s _ H.good (bys_lt _)).2, hsm⟩)).mono fun e w' h => ?_
  obtain ⟨O', S', b', n', c, s', g', rfl, h2, h3, h4, h5, h6⟩ := h
  have hc : c = 0 ∧ s' = apS s (bys (prt (trA cs))) ∧ g' = cs.foldl chF g := by
    rcases h3 with h | ⟨_, h | h | h⟩
    · exact absurd he h.1
    · exact h.2
    · rw [h0] at h; exact absurd h.1 (by decide)
    · exact absurd h0 h.1
  obtain ⟨rfl, rfl, rfl⟩ := hc
  exact ⟨rfl, ⟨O', S', b', n', h2, by omega⟩, (HG.ap s _ H.good (bys_lt _)).2, hsm, Fine.fold _ g H.fine fun c hc => ((er_trA he).2 c hc).2, below_chg H.below hbw (hst.from HJ) h5⟩
theorem Live.commit_no (HJ : Jour base JS good tx apE apS anE anS) {sb M : Nat} {jp : Addr} {w0 w : World} {s : Sg} {g : ByteArray → Option A} (H : Live base JS good sb jp M w0 w s g) (hbw : base ≤ w.heap.size) (hM : M ≤ 900000) (v : Value) (cs : List Ch) (hcs : ChRow w v cs) (hl : cs.length ≤ 30)
    (hsz : ∀ c ∈ cs, ∀ a, c.2 = some a → sz a 2 ≤ 1000000000000) (hk : ∀ c ∈ cs, c.1.size ≤ 65535) (he : er (trA cs) 0 ≠ 0) :
    Calls Tryz.prog 16 #[.pointer (some ⟨sb, 0, none⟩), v] w fun e w' => e = .returned (.int .i64 (er (trA cs) 0)) ∧ Live base JS good sb jp (M + 30) w0 w' s g := by
  obtain ⟨O, S, b, n, hst, hn⟩ := H.ex
  refine (commit_any HJ O S sb b n jp s g w hst H.good hbw v cs hcs (by omega) (by omega) (sz_tr30 _ hsz hl) (fun h => absurd h he) (fun c hc => by have := hk c hc; unfold maxLen; omega)
    (fun h => absurd h he)).mono fun e w' h => ?_
  obtain ⟨O', S', b', n', c, s', g', rfl, h2, h3, h4, h5, h6⟩ := h
  have hc : c = er (trA cs) 0 ∧ s' = s ∧ g' = g := by
    rcases h3 with h | ⟨h, _⟩
    · exact h.2
    · exact absurd h he
  obtain ⟨rfl, rfl, rfl⟩ := hc
  exact ⟨rfl, ⟨O', S', b', n', h2, by omega⟩, H.good, H.small, H.fine, below_chg H.below hbw (hst.from HJ) h5⟩
theorem Live.compact (HJ : Jour base JS good tx apE apS anE anS) (HG : Goes good apE apS anE anS) {sb M : Nat} {jp : Addr} {w0 w : World} {s : Sg} {g : ByteArray → Option A} (H : Live base JS good sb jp M w0 w s g) (hbw : base ≤ w.heap.size) (hM : M ≤ 1000000) (ks : List ByteArray) (hks : RisesA g (fun _ => true) ks) (h0 : anE s ((txsB g ks).map bys) = 0) :
    Calls Tryz.prog 21 #[.pointer (some ⟨sb, 0, none⟩)] w fun e w' => e = .returned (.int .i64 0) ∧ ∃ O S b n, StoreAt base JS O S w' sb jp b n (anS s ((txsB g ks).map bys)) g ∧ Live base JS good sb jp M w0 w' (anS s ((txsB g ks).map bys)) g := by
  obtain ⟨O, S, b, n, hst, hn⟩ := H.ex
  refine (compact_any HJ O S sb b n jp s g w hst H.good (by omega) hbw H.small).mono fun e w' h => ?_
  obtain ⟨ks', O', S', b', n', hr, rfl, h2, h3, h4, h5⟩ := h
  obtain rfl := hr.unique hks
  rw [h0] at h2 ⊢
  exact ⟨rfl, O', S', b', n', h2, ⟨O', S', b', n', h2, by omega⟩, (HG.an s _ H.good (txs256 g ks')).2, H.small, H.fine, below_chg H.below hbw (hst.from HJ) h4⟩
theorem alloc_sz (w : World) (o : Obj) : (w.alloc o).heap.size = w.heap.size + 1 := by
  unfold World.alloc
  exact Array.size_push _
theorem chRow1 (w : World) : ChRow ((w.alloc (Obj.cells #[Value.iface 9 (Value.string { data := #[120] })] 20)).alloc (Obj.cells #[Value.string { data := #[97] }, Value.iface 3 (Value.int IntKind.i64 1), Value.bool false, Value.string { data := #[98] }, Value.iface 67 (Value.slice (some { block := w.heap.size, off := 0 }) 1 1), Value.bool false] 66))
    (Value.slice (some { block := w.heap.size + 1, off := 0 }) 2 2) cs1 := by
  generalize hw1 : w.alloc (Obj.cells #[Value.iface 9 (Value.string { data := #[120] })] 20) = w1
  have hz1 : w1.heap.size = w.heap.size + 1 := by rw [← hw1]; exact alloc_sz w _
  have hx1 : w1.heap[w.heap.size]? = some (Obj.cells #[Value.iface 9 (Value.string { data := #[120] })] 20 (0, 0)) := hw1 ▸ heap_alloc_new w _
  generalize hw2 : w1.alloc _ = w2
  have hz2 : w2.heap.size = w1.heap.size + 1 := by rw [← hw2]; exact alloc_sz w1 _
  have hB : Below w1.heap.size w1 w2 := hw2 ▸ (Below.refl _ w1).alloc (Nat.le_refl _) _
  have hx2 := hw2 ▸ heap_alloc_new w1 (Obj.cells #[Value.string { data := #[97] }, Value.iface 3 (Value.int IntKind.i64 1), Value.bool false, Value.string { data := #[98] }, Value.iface 67 (Value.slice (some { block := w.heap.size, off := 0 }) 1 1), Value.bool false] 66)
  have hx3 := keep_at hB hx1
  rw [hz1] at hx2
  refine ⟨_, 2, rfl, Nat.le_refl _, fun j c hj => ?_⟩
  match j, hj with
  | 0, hj =>
    obtain rfl : (kA, some (A.num 1)) = c := by simpa [cs1] using hj
    refine ⟨by decide, w.heap.size + 1, 0, _, _, rfl, by omega, Or.inl ⟨_, _, rfl⟩, cell_at hx2 0, cell_at hx2 1, cell_at hx2 2, Or.inr ⟨_, rfl, rfl, .num 1 (by unfold In64 two63; omega)⟩⟩
  | 1, hj =>
    obtain rfl : (kB, some vX) = c := by simpa [cs1] using hj
    refine ⟨by decide, w.heap.size + 1, 0, _, _, rfl, by omega, Or.inl ⟨_, _, rfl⟩, cell_at hx2 3, cell_at hx2 4, cell_at hx2 5, Or.inr ⟨_, rfl, rfl, ?_⟩⟩
    refine AAt.list w.heap.size 0 1 1 [.str { data := #[120] }] (fun _ => .iface 9 (.string { data := #[120] })) rfl trivial (by omega) (Nat.le_refl _) (by omega) (fun i x hi => ?_) (fun i x hi => ?_)
    · match i, hi with
      | 0, _ => exact cell_at hx3 0
      | i + 1, hi => simp at hi
    · match i, hi with
      | 0, hi =>
        obtain rfl : A.str { data := #[120] } = x := by simpa using hi
        exact .str _ (by decide)
      | i + 1, hi => simp at hi
  | j + 2, hj => simp [cs1] at hj
theorem chRow2 (w : World) : ChRow (w.alloc (Obj.cells #[Value.string { data := #[97] }, Value.nilIface, Value.bool true] 66)) (Value.slice (some { block := w.heap.size, off := 0 }) 1 1) cs2 := by
  have hx := heap_alloc_new w (Obj.cells #[Value.string { data := #[97] }, Value.nilIface, Value.bool true] 66)
  refine ⟨_, 1, rfl, Nat.le_refl _, fun j c hj => ?_⟩
  match j, hj with
  | 0, hj =>
    obtain rfl : (kA, none) = c := by simpa [cs2] using hj
    exact ⟨by decide, w.heap.size, 0, _, _, rfl, by rw [alloc_sz]; omega, Or.inr rfl, cell_at hx 0, cell_at hx 1, cell_at hx 2, Or.inl ⟨rfl, rfl⟩⟩
  | j + 1, hj => simp [cs2] at hj
theorem chRow3 (w : World) (u : Value) : ChRow (w.alloc (Obj.cells #[Value.string { data := #[99] }, Value.iface 68 u, Value.bool false] 66)) (Value.slice (some { block := w.heap.size, off := 0 }) 1 1) cs3 := by
  have hx := heap_alloc_new w (Obj.cells #[Value.string { data := #[99] }, Value.iface 68 u, Value.bool false] 66)
  refine ⟨_, 1, rfl, Nat.le_refl _, fun j c hj => ?_⟩
  match j, hj with
  | 0, hj =>
    obtain rfl : (kC, some A.odd) = c := by simpa [cs3] using hj
    exact ⟨by decide, w.heap.size, 0, _, _, rfl, by rw [alloc_sz]; omega, Or.inl ⟨_, _, rfl⟩, cell_at hx 0, cell_at hx 1, cell_at hx 2, Or.inr ⟨_, rfl, rfl, .odd _⟩⟩
  | j + 1, hj => simp [cs3] at hj
theorem gB_of : cs2.foldl chF (cs1.foldl chF fun _ => none) = gB := by
  funext k
  unfold cs1 cs2 gB
  simp only [List.foldl_cons, List.foldl_nil, chF]
  by_cases h1 : k = kA
  · subst h1
    rw [if_pos rfl, if_neg (by decide)]
  · rw [if_neg h1]
    by_cases h2 : k = kB
    · rw [if_pos h2, if_pos h2]
    · rw [if_neg h2, if_neg h2, if_neg h1]
theorem gB_rises : RisesA gB (fun _ => true) [kB] := by
  refine ⟨List.pairwise_singleton _ _, fun k => ?_⟩
  unfold gB
  by_cases h : k = kB
  · subst h; simp
  · simp [h]
theorem hsz1 : ∀ c ∈ cs1, ∀ a, c.2 = some a → sz a 2 ≤ 1000000000000 := by
  intro c hc a ha
  simp only [cs1, List.mem_cons, List.not_mem_nil, or_false] at hc
  rcases hc with rfl | rfl
  · obtain rfl := Option.some.inj ha; decide +kernel
  · obtain rfl := Option.some.inj ha; decide +kernel
theorem hok1 : ∀ c ∈ cs1, ∀ a, c.2 = some a → okA a := by
  intro c hc a ha
  simp only [cs1, List.mem_cons, List.not_mem_nil, or_false] at hc
  rcases hc with rfl | rfl
  · obtain rfl := Option.some.inj ha; simp only [okA]; unfold In64 two63; omega
  · obtain rfl := Option.some.inj ha; simp [vX, okA, okAs]
theorem hk1 : ∀ c ∈ cs1, c.1.size ≤ 65535 := by
  intro c hc
  simp only [cs1, List.mem_cons, List.not_mem_nil, or_false] at hc
  rcases hc with rfl | rfl <;> decide
theorem vX_at {w : World} {b : Nat} (hx : w.heap[b]? = some (Obj.cells #[Value.iface 9 (Value.string { data := #[120] })] 20 (0, 0))) (hz : w.heap.size = b + 1) : Has w (.iface 67 (.slice (some { block := b, off := 0 }) 1 1)) vX := by
  refine AAt.list b 0 1 1 [.str { data := #[120] }] (fun _ => .iface 9 (.string { data := #[120] })) rfl trivial (by omega) (Nat.le_refl _) (by omega) (fun i x hi => ?_) (fun i x hi => ?_)
  · match i, hi with
    | 0, _ => exact cell_at hx 0
    | i + 1, hi => simp at hi
  · match i, hi with
    | 0, hi =>
      obtain rfl : A.str { data := #[120] } = x := by simpa using hi
      exact .str _ (by decide)
    | i + 1, hi => simp at hi
set_option maxRecDepth 100000 in
set_option maxHeartbeats 2000000 in
theorem wake_of (HJ : Jour base JS good tx apE apS anE anS) (HG : Goes good apE apS anE anS) (dk : Sg → Addr) (reS : Sg → Sg) (w : World) (hbase : base = w.heap.size)
    (HNEW : ∀ W, Below base w W → ∃ s0 s1 s2 s3, Calls Tryz.prog 23 #[.int .i64 32] W (DNewQ JS (fun _ dp => dp = dk s0) s0 W) ∧ Exam base JS good tx apE apS anE anS dk reS s0 s1 s2 s3) :
    Calls Tryz.prog 5 #[] w fun e w' => e = .returned (.bool true) ∧ Below w.heap.size w w' := by
  subst hbase
  go_enter Tryz.func5, Tryz.ntmps5
  obtain ⟨s0, s1, s2, s3, hnew, HE⟩ := HNEW w (Below.refl _ _)
  have HMD := Lib.hid (made_any HJ _ 32 s0 w hnew HE.hg HE.ht (Nat.le_refl _))
  clear HNEW hnew
  go_wp2_with fail
  refine HMD.out.mono ?_
  rintro e w4 ⟨O, S, sb, b, nn, jp, dp, rfl, hn4, hst, hb4, hds, hft⟩
  subst hds
  have HV4 : Hid (Live w.heap.size JS good sb jp 765000 w w4 s0 (fun _ => none)) := Lib.hid ⟨⟨O, S, b, nn, hst, hn4⟩, HE.hg, small_none, fine_none, hb4⟩
  clear hst hb4 hn4 hft HMD
  go_wp2_with fail
  have hB5 := ((Below.refl w4.heap.size w4).alloc (Nat.le_refl _) (Obj.cells #[Value.iface 9 (Value.string { data := #[120] })] 20)).alloc (by rw [alloc_sz]; omega) (Obj.cells #[Value.string { data := #[97] }, Value.iface 3 (Value.int IntKind.i64 1), Value.bool false, Value.string { data := #[98] }, Value.iface 67 (Value.slice (some { block := w4.heap.size, off := 0 }) 1 1), Value.bool false] 66)
  have hV5 := HV4.out.more HJ HV4.out.below.size hB5
  refine (hV5.commit HJ HG hV5.below.size (by omega) _ cs1 (chRow1 w4) (by decide) (fun c hc a ha => ?_) (fun c hc a ha => ?_) (fun c hc => ?_) (by decide +kernel) HE.e1).mono ?_
  · exact hsz1 c hc a ha
  · exact hok1 c hc a ha
  · exact hk1 c hc
  rintro e w5 ⟨rfl, hV⟩
  rw [HE.h1] at hV
  have HV5 := Lib.hid hV
  clear hV hV5 hB5 HV4
  go_wp2_with fail
  have hV5b := HV5.out.more HJ HV5.out.below.size ((Below.refl w5.heap.size w5).alloc (Nat.le_refl _) (Obj.cells #[Value.string { data := #[97] }, Value.nilIface, Value.bool true] 66))
  refine (hV5b.commit HJ HG hV5b.below.size (by omega) _ cs2 (chRow2 w5) (by decide) (fun c hc a ha => ?_) (fun c hc a ha => ?_) (fun c hc => ?_) (by decide +kernel) HE.e2).mono ?_
  · obtain rfl := List.mem_singleton.1 hc; cases ha
  · obtain rfl := List.mem_singleton.1 hc; cases ha
  · obtain rfl := List.mem_singleton.1 hc; decide
  rintro e w6 ⟨rfl, hV⟩
  rw [HE.h2, gB_of] at hV
  have HV6 := Lib.hid hV
  clear hV hV5b HV5
  go_wp2_with fail
  have hV6b := HV6.out.more HJ HV6.out.below.size ((Below.refl w6.heap.size w6).alloc (Nat.le_refl _) (Obj.cells #[Value.string { data := #[99] }, Value.iface 68 (Value.float .f64 4609434218613702656), Value.bool false] 66))
  refine (hV6b.commit_no HJ hV6b.below.size (by omega) _ cs3 (chRow3 w6 _) (by decide) (fun c hc a ha => ?_) (fun c hc => ?_) (by decide +kernel)).mono ?_
  · obtain rfl := List.mem_singleton.1 hc
    obtain rfl := Option.some.inj ha; decide +kernel
  · obtain rfl := List.mem_singleton.1 hc; decide
  rintro e w7 ⟨rfl, hV⟩
  rw [show er (trA cs3) 0 = 9 by decide +kernel]
  have HV7 := Lib.hid hV
  clear hV hV6b HV6
  go_wp2_with fail
  refine (HV7.out.compact HJ HG HV7.out.below.size (by omega) [kB] gB_rises HE.e3).mono ?_
  rintro e w8 ⟨rfl, O8, S8, b8, n8, hst8, hV⟩
  rw [HE.h3] at hV hst8
  have HV8 := Lib.hid hV
  have HAG := Lib.hid (again_any HJ O8 (dk s3) (reS s3) gB w8 (HE.re O8 w8 jp hst8.jour) HE.rg HE.op HV8.out.below.size)
  rw [HE.hd] at HAG
  clear hV hst8 HV7
  go_wp2_with fail
  refine HAG.out.mono ?_
  rintro e w9 ⟨O9, S9, sb9, b9, n9, jp9, rfl, hn9, hst9, hb9, hft9⟩
  have HV9 : Hid (Live w.heap.size JS good sb9 jp9 765000 w w9 (reS s3) gB) := Lib.hid ⟨⟨O9, S9, b9, n9, hst9, hn9⟩, HE.rg, HV8.out.small, HV8.out.fine, HV8.out.below.trans (hb9.mono HV8.out.below.size)⟩
  have HFN := Lib.hid HV8.out.fine
  have HGB := Lib.hid (get_any kB (by decide) sb9 b9 n9 (some jp9) S9 gB w9 hst9.at_ hst9.map (fun a ha => sm_of_er a 2 (HV8.out.fine kB a ha)))
  rw [show gB kB = some vX from if_pos rfl] at HGB
  clear hst9 hb9 hft9 hn9 HAG HV8
  go_wp2_with fail
  refine HGB.out.mono ?_
  rintro e w10 ⟨zv, rfl, hz, hb10⟩
  have HZ := Lib.hid (hz _ rfl)
  have HV10 := Lib.hid (HV9.out.more HJ HV9.out.below.size hb10)
  obtain ⟨O10, S10, b10, n10, hst10, hn10⟩ := HV10.out.ex
  have HGA := Lib.hid (get_any kA (by decide) sb9 b10 n10 (some jp9) S10 gB w10 hst10.at_ hst10.map (fun a ha => sm_of_er a 2 (HFN.out kA a ha)))
  rw [show gB kA = none from if_neg (by decide)] at HGA
  clear hst10 hn10 hb10 hz HGB HV9
  go_wp2_with fail
  refine HGA.out.mono ?_
  rintro e w11 ⟨yv, rfl, _, hb11⟩
  have HZ11 := Lib.hid (HZ.out.below hb11)
  have HV11 := Lib.hid (HV10.out.more HJ HV10.out.below.size hb11)
  clear hb11 HGA HV10 HZ
  go_wp2_with fail
  obtain ⟨W12, hW12⟩ : ∃ W, w11.alloc (Obj.cells #[Value.iface 9 (Value.string { data := #[120] })] 20) = W := ⟨_, rfl⟩
  have hb12 : Below w11.heap.size w11 W12 := hW12 ▸ (Below.refl _ w11).alloc (Nat.le_refl _) _
  have hx12 : W12.heap[w11.heap.size]? = some (Obj.cells #[Value.iface 9 (Value.string { data := #[120] })] 20 (0, 0)) := hW12 ▸ heap_alloc_new w11 _
  have hz12 : W12.heap.size = w11.heap.size + 1 := by rw [← hW12]; exact alloc_sz w11 _
  rw [hW12]
  have HSM := Lib.hid (same_any vX vX zv (.iface 67 (.slice (some { block := w11.heap.size, off := 0 }) 1 1)) W12 (HZ11.out.below hb12) (vX_at hx12 hz12) (by decide +kernel) (by decide +kernel))
  rw [show sameB vX vX = true by decide +kernel] at HSM
  have HV12 := Lib.hid (HV11.out.more HJ HV11.out.below.size hb12)
  clear hb12 hx12 hz12 hW12 HV11 HZ11
  refine HSM.out.mono ?_
  rintro e w13 ⟨rfl, hb13⟩
  have HV13 := Lib.hid (HV12.out.more HJ HV12.out.below.size hb13)
  obtain ⟨O13, S13, b13, n13, hst13, hn13⟩ := HV13.out.ex
  have HKY := Lib.hid (keysL_any { data := #[] } sb9 b13 n13 (some jp9) S13 gB (by omega) w13 hst13.at_ hst13.map)
  clear hst13 hn13 hb13 HSM HV12
  go_wp2_with fail
  refine HKY.out.mono ?_
  rintro e w14 ⟨kv, ks, rfl, hko, hks, _, hb14⟩
  have hr : RisesA gB (fun _ => true) ks := ⟨hks.1, fun s => by rw [hks.2 s]; simp only [begB_none]⟩
  obtain rfl := hr.unique gB_rises
  have HB14 := Lib.hid (HV13.out.below.trans (hb14.mono HV13.out.below.size))
  obtain ⟨kp, kc, rfl, hkc, _⟩ := hko.strs
  clear hr hko hks hb14 HKY
  go_wp2
  go_ret
  exact ⟨rfl, HB14.out⟩
end
end Go.Proofs.YtlogjpmdfimgdaaGreatDoor
namespace Go.Proofs.YtlogjpmdfimgdaaGreatDoor
open Go.RowKit Go.Own Go.ChangeShapes Go.WideShapes Go.Deep
instance vInhabited : Inhabited V := ⟨.mk 0 0 { data := #[] } false []⟩
theorem laidOut : laidOutB Tryz.prog = true := by kernel_rfl
theorem cells59 : Tryz.prog.cellsOf 59 = 5 := by kernel_rfl
theorem fieldsV : ∃ f0 f1 f2 f3 f4, Tryz.prog.underlying 59 = some (.struct #[f0, f1, f2, f3, f4]) ∧ oneCellFields Tryz.prog #[f0, f1, f2, f3, f4] = true ∧ f0.type = 3 ∧ f1.type = 3 ∧ f2.type = 9 ∧ f3.type = 4 ∧ f4.type = 57 :=
  ⟨_, _, _, _, _, Tryz.underlying59, by kernel_rfl, rfl, rfl, rfl, rfl, rfl⟩
theorem in64_of {n : Int} (h : (Lit.int .i64 n).wf = true) : In64 n := by
  unfold In64 two63
  have h2 : (decide (-9223372036854775808 ≤ n) && decide (n ≤ 9223372036854775807)) = true := h
  rw [Bool.and_eq_true, decide_eq_true_eq, decide_eq_true_eq] at h2
  omega
set_option maxRecDepth 100000 in
theorem open_val {H : Type} {enc : TypeId × Value → H} {W : World} {base : Nat} {spare : Nat → Bool} {held : Bool} : ∀ (fuel : Nat) (cs : List Value) (x : DataW H × List MemPlace),
    DataW.trod enc Tryz.prog W base spare held fuel 59 cs = some x → ∃ v : V, Holds W (.agg cs.toArray) v := by
  intro fuel
  induction fuel using Nat.strongRecOn with
  | _ fuel ih =>
    intro cs x h
    obtain ⟨f0, f1, f2, f3, f4, hu, hone, t0, t1, t2, t3, t4⟩ := fieldsV
    obtain ⟨xs, n, hfn, hx, hlen, hxl, hg⟩ := DataW.trod_struct hu h
    rw [cells59] at hlen
    match cs, hlen with
    | [c0, c1, c2, c3, c4], _ =>
      obtain ⟨o0, k0⟩ := hone_of hone 0 f0 rfl
      obtain ⟨o1, k1⟩ := hone_of hone 1 f1 rfl
      obtain ⟨o2, k2⟩ := hone_of hone 2 f2 rfl
      obtain ⟨o3, k3⟩ := hone_of hone 3 f3 rfl
      obtain ⟨o4, k4⟩ := hone_of hone 4 f4 rfl
      match xs, hxl with
      | [y0, y1, y2, y3, y4], _ =>
        have g0 : DataW.trod enc Tryz.prog W base spare held n f0.type [c0] = some y0 := by simpa [o0, k0] using hg 0 f0 rfl
        have g1 : DataW.trod enc Tryz.prog W base spare held n f1.type [c1] = some y1 := by simpa [o1, k1] using hg 1 f1 rfl
        have g2 : DataW.trod enc Tryz.prog W base spare held n f2.type [c2] = some y2 := by simpa [o2, k2] using hg 2 f2 rfl
        have g3 : DataW.trod enc Tryz.prog W base spare held n f3.type [c3] = some y3 := by simpa [o3, k3] using hg 3 f3 rfl
        have g4 : DataW.trod enc Tryz.prog W base spare held n f4.type [c4] = some y4 := by simpa [o4, k4] using hg 4 f4 rfl
        rw [t0] at g0
        rw [t1] at g1
        rw [t2] at g2
        rw [t3] at g3
        rw [t4] at g4
        obtain ⟨k, e0, _, w0⟩ := DataW.trod_int Tryz.underlying3 g0
        obtain ⟨m, e1, _, w1⟩ := DataW.trod_int Tryz.underlying3 g1
        obtain ⟨s, e2, _, ls⟩ := DataW.trod_string Tryz.underlying9 g2
        obtain ⟨b, e3, _⟩ := DataW.trod_bool Tryz.underlying4 g3
        simp only [List.cons.injEq, and_true] at e0 e1 e2 e3
        subst e0 e1 e2 e3
        unfold maxLen at ls
        rcases DataW.trod_slice Tryz.underlying57 g4 with ⟨e4, _⟩ | ⟨a, len, cap, elems, rest, n', hn', e4, _, hb, hl, hm, hel, hi, _, _⟩
        · simp only [List.cons.injEq, and_true] at e4
          subst e4
          exact ⟨.mk k m s b [], .nil k m s b (in64_of w0) (in64_of w1) ls⟩
        · simp only [List.cons.injEq, and_true] at e4
          subst e4
          unfold maxLen at hm
          have each : ∀ i, i < len → ∃ q : List Value × V, q.1.length = 5 ∧ Holds W (.agg q.1.toArray) q.2 ∧ (∀ j, j < 5 → W.cell? (a.add (i * 5 + j)) = q.1[j]?) := fun i hil => by
            have h1 := hi i hil
            rw [List.getElem?_eq_getElem (by omega), cells59] at h1
            obtain ⟨cs', hc, ht⟩ := Option.bind_eq_some_iff.1 h1
            obtain ⟨_, hcl, hat⟩ := World.cells?_some hc
            obtain ⟨v, hv⟩ := ih n' (by omega) cs' _ ht
            exact ⟨(cs', v), hcl, hv, fun j hj => by rw [← Go.Deep.add_add]; exact hat j hj⟩
          obtain ⟨q, hq⟩ := choose_lt each
          by_cases hz : len = 0
          · subst hz
            exact ⟨.mk k m s b [], .empty k m s b (in64_of w0) (in64_of w1) ls a cap hm⟩
          · have hcell : ∀ i j, i < len → j < 5 → ∃ u, (q i).1[j]? = some u ∧ W.cell? (a.add (i * 5 + j)) = some u := fun i j hi2 hj => by
              obtain ⟨h1, _, h3⟩ := hq i hi2
              have h4 := h3 j hj
              rw [List.getElem?_eq_getElem (by omega)] at h4
              exact ⟨_, List.getElem?_eq_getElem (by omega), h4⟩
            obtain ⟨u0, _, hu0⟩ := hcell 0 0 (by omega) (by omega)
            obtain ⟨g, o, spot⟩ := a
            have hsp : spot = none := by simpa [Addr.add] using World.cell?_spot hu0
            subst hsp
            have hgl : g < W.heap.size := by
              rw [hadd] at hu0
              exact World.block_lt_of_cell? W _ hu0
            refine ⟨.mk k m s b ((List.range len).map fun i => (q i).2), .list k m s b (in64_of w0) (in64_of w1) ls g o len cap _ (fun i => (q i).1.toArray) (by simp) trivial hgl hl hm (fun j y hy i u hui => ?_) (fun j y hy => ?_)⟩
            · have hj : j < len := by simpa using (List.getElem?_eq_some_iff.1 hy).1
              obtain ⟨h1, _, _⟩ := hq j hj
              have hi5 : i < 5 := by
                have := (Array.getElem?_eq_some_iff.1 hui).1
                simp at this; omega
              obtain ⟨u', h2, h3⟩ := hcell j i hj hi5
              rw [hadd] at h3
              rw [Nat.add_assoc, h3, ← h2]
              simpa using hui
            · have hj : j < len := by simpa using (List.getElem?_eq_some_iff.1 hy).1
              obtain ⟨_, h2, _⟩ := hq j hj
              have e : y = (q j).2 := by simp [hj] at hy; exact hy.symm
              rw [e]
              exact h2
end Go.Proofs.YtlogjpmdfimgdaaGreatDoor

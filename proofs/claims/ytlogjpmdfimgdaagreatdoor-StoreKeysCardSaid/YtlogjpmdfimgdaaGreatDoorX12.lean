/- Compact, given what a journal's functions answer: by contract. No condition but the sizes. | Commit, given what a journal's functions answer: by contract. No condition but the sizes. | What was printed of changes is read as these changes; small values stay small. Plain. No condition. | The law's changes as the store has them: what is wanted of a region's operations. No condition but the sizes. -/
import Derived.Test.YtlogjpmdfimgdaaGreatDoorX11
namespace Go.Proofs.YtlogjpmdfimgdaaGreatDoor
open Go Go.RowKit Go.Own Go.Own.Fr Go.Maps Go.WideMaps
section
variable {Sg : Type} {base : Nat} {JS : (Nat → Prop) → World → Addr → Sg → Prop} {good : Sg → Prop} {tx : Sg → List (List Nat)} {apE : Sg → List Nat → Int} {apS : Sg → List Nat → Sg} {anE : Sg → List (List Nat) → Int} {anS : Sg → List (List Nat) → Sg}
/-- A store's keys are short, its values small. -/
structure Small (g : ByteArray → Option A) : Prop where
  key : ∀ k, (g k).isSome = true → k.size ≤ 65535
  val : ∀ k a, g k = some a → sz a 2 ≤ 1000000000000
theorem szs_bound (d M : Nat) : ∀ l : List A, (∀ x ∈ l, sz x d ≤ M) → szs l d ≤ l.length * M
  | [], _ => by simp [szs]
  | x :: r, h => by
    have h1 := h x List.mem_cons_self
    have h2 := szs_bound d M r (fun y hy => h y (List.mem_cons_of_mem _ hy))
    rw [szs, List.length_cons, Nat.succ_mul]
    omega
theorem sz_list (l : List A) (d : Nat) : sz (.list l) d ≤ 2 + szs l (d + 1) := by
  rw [sz]
  split
  · exact Nat.zero_le _
  · exact Nat.le_refl _
theorem sz_str (s : ByteArray) (d : Nat) : sz (.str s) d ≤ 65538 := by
  rw [sz]
  split <;> omega
theorem sz_chA (c : Ch) (h : ∀ a, c.2 = some a → sz a 2 ≤ 1000000000000) : sz (chA c) 1 ≤ 1000000100000 := by
  unfold chA
  split
  · have h1 : _ ≤ 2 + szs _ 2 := sz_list [.str c.1] 1
    have h2 := sz_str c.1 2
    simp only [szs] at h1
    omega
  · rename_i a ha
    have h1 : _ ≤ 2 + szs _ 2 := sz_list [.str c.1, a] 1
    have h2 := sz_str c.1 2
    have h3 := h a ha
    simp only [szs] at h1
    omega
theorem sz_trA (cs : List Ch) (h : ∀ c ∈ cs, ∀ a, c.2 = some a → sz a 2 ≤ 1000000000000) (hl : cs.length ≤ 16) : sz (trA cs) 0 ≤ 140737488355328 := by
  unfold trA
  have h1 : _ ≤ 2 + szs _ 1 := sz_list (cs.map chA) 0
  have h2 := szs_bound 1 1000000100000 (cs.map chA) (fun x hx => by
    obtain ⟨c, hc, rfl⟩ := List.mem_map.1 hx
    exact sz_chA c (h c hc))
  rw [List.length_map] at h2
  have h3 : cs.length * 1000000100000 ≤ 16 * 1000000100000 := Nat.mul_le_mul_right _ hl
  omega
theorem Small.size {g : ByteArray → Option A} (h : Small g) (l : List ByteArray) (_ : ∀ k ∈ l, (g k).isSome = true) (hl : l.length ≤ 16) : sz (trA (l.map fun k => (k, g k))) 0 ≤ 140737488355328 :=
  sz_trA _ (fun c hc a ha => by
    obtain ⟨k, _, rfl⟩ := List.mem_map.1 hc
    exact h.val k a ha) (by rw [List.length_map]; exact hl)
set_option maxRecDepth 100000 in
set_option maxHeartbeats 1000000 in
theorem compact_any (HJ : Jour base JS good tx apE apS anE anS) (O S : Nat → Prop) (sb b n : Nat) (jp : Addr) (s : Sg) (g : ByteArray → Option A) (w : World) (H : StoreAt base JS O S w sb jp b n s g) (hgood : good s) (hn : n ≤ 1000000) (hbw : base ≤ w.heap.size) (hg : Small g) :
    Calls Tryz.prog 21 #[.pointer (some ⟨sb, 0, none⟩)] w (AnewQ base JS anE anS s sb jp (Ft O S sb b) n g g w) := by
  have HA := Lib.hid (anew_any HJ O S sb b n b n jp s g g w H hgood H.map hn H.ob H.ne H.bb hbw (fun k hk => by have := hg.key k hk; unfold maxLen; omega) hg.size)
  obtain ⟨c0, c1⟩ := cells2 H.at_.2
  have hF : (fun k => Ft O S sb b k ∨ k = b) = Ft O S sb b := by
    funext k
    exact propext ⟨fun h => h.elim id (fun h => Or.inr (Or.inr (Or.inl h))), Or.inl⟩
  rw [hF, Nat.max_self] at HA
  clear H hg hF
  go_enter Tryz.func21, Tryz.ntmps21
  go_wp2_with fail
  refine HA.out.mono ?_
  rintro e w' ⟨ks, O', S', b', n', q1, rfl, q2⟩
  have HQ : Hid (AnewQ base JS anE anS s sb jp (Ft O S sb b) n g g w (.returned (.int .i64 (anewR (anE s ((txsB g ks).map bys)) g g).1)) w') := Lib.hid ⟨ks, O', S', b', n', q1, rfl, q2⟩
  clear q1 q2
  go_wp2
  go_ret
  exact HQ.out
end
end Go.Proofs.YtlogjpmdfimgdaaGreatDoor
namespace Go.Proofs.YtlogjpmdfimgdaaGreatDoor
open Go Go.RowKit Go.Own Go.Own.Fr Go.Maps Go.WideMaps
section
variable {Sg : Type} {base : Nat} {JS : (Nat → Prop) → World → Addr → Sg → Prop} {good : Sg → Prop} {tx : Sg → List (List Nat)} {apE : Sg → List Nat → Int} {apS : Sg → List Nat → Sg} {anE : Sg → List (List Nat) → Int} {anS : Sg → List (List Nat) → Sg}
/-- What a commit of these changes answers, and what it leaves. -/
def Commits (apE : Sg → List Nat → Int) (apS : Sg → List Nat → Sg) (anE : Sg → List (List Nat) → Int) (anS : Sg → List (List Nat) → Sg) (s : Sg) (g : ByteArray → Option A) (cs : List Ch) (c : Int) (s' : Sg) (g' : ByteArray → Option A) : Prop :=
  (er (trA cs) 0 ≠ 0 ∧ c = er (trA cs) 0 ∧ s' = s ∧ g' = g) ∨
  (er (trA cs) 0 = 0 ∧ ((apE s (bys (prt (trA cs))) = 0 ∧ c = 0 ∧ s' = apS s (bys (prt (trA cs))) ∧ g' = cs.foldl chF g) ∨
    (apE s (bys (prt (trA cs))) = 6 ∧ ∃ ks, RisesA (cs.foldl chF g) (fun _ => true) ks ∧ c = (anewR (anE (apS s (bys (prt (trA cs)))) ((txsB (cs.foldl chF g) ks).map bys)) g (cs.foldl chF g)).1 ∧ s' = anS (apS s (bys (prt (trA cs)))) ((txsB (cs.foldl chF g) ks).map bys) ∧ g' = (anewR (anE (apS s (bys (prt (trA cs)))) ((txsB (cs.foldl chF g) ks).map bys)) g (cs.foldl chF g)).2) ∨
    (apE s (bys (prt (trA cs))) ≠ 0 ∧ apE s (bys (prt (trA cs))) ≠ 6 ∧ c = 7 ∧ s' = apS s (bys (prt (trA cs))) ∧ g' = fun _ => none)))
def CommitQ (base : Nat) (JS : (Nat → Prop) → World → Addr → Sg → Prop) (apE : Sg → List Nat → Int) (apS : Sg → List Nat → Sg) (anE : Sg → List (List Nat) → Int) (anS : Sg → List (List Nat) → Sg) (s : Sg) (sb : Nat) (jp : Addr) (F : Nat → Prop) (M : Nat) (g : ByteArray → Option A) (cs : List Ch) (w : World) (e : Ending) (w' : World) : Prop :=
  ∃ O' S' b' n' c s' g', e = .returned (.int .i64 c) ∧ StoreAt base JS O' S' w' sb jp b' n' s' g' ∧ Commits apE apS anE anS s g cs c s' g' ∧ n' ≤ M ∧ Chg F w w' ∧ ∀ k, Ft O' S' sb b' k → F k ∨ w.heap.size ≤ k
/-- Nothing but new memory: a store stays. -/
theorem StoreAt.below (HJ : Jour base JS good tx apE apS anE anS) {O S : Nat → Prop} {sb b n : Nat} {jp : Addr} {s : Sg} {g : ByteArray → Option A} {w w' : World} (H : StoreAt base JS O S w sb jp b n s g) (hbw : base ≤ w.heap.size) (hB : Below w.heap.size w w') : StoreAt base JS O (fun k => S k ∧ k < w.heap.size) w' sb jp b n s g :=
  { at_ := ⟨Nat.lt_of_lt_of_le H.at_.1 hB.size, (hB.block _ H.at_.1).trans H.at_.2⟩
    map := H.map.keep (fun h => H.map.1 h.1) (fun k h1 h2 => ⟨h1, h2⟩) hB.size (fun k _ h2 => hB.block k h2) (fun f hf => hf.below hB)
    jour := HJ.keep O w w' jp s H.jour (ext_below hB) (fun k hk => hB.block k (HJ.lt O w jp s H.jour k hk).2) (fun k hk => hB.block k (by omega))
    osb := H.osb
    ob := H.ob
    os := fun k hk => H.os k hk.1
    ne := H.ne
    ssb := fun h => H.ssb h.1
    bb := H.bb
    bsb := H.bsb
    bs := fun k hk => H.bs k hk.1 }
set_option maxRecDepth 100000 in
set_option maxHeartbeats 4000000 in
theorem commit_any (HJ : Jour base JS good tx apE apS anE anS) (O S : Nat → Prop) (sb b n : Nat) (jp : Addr) (s : Sg) (g : ByteArray → Option A) (w : World) (H : StoreAt base JS O S w sb jp b n s g) (hgood : good s) (hbw : base ≤ w.heap.size)
    (v : Value) (cs : List Ch) (hcs : ChRow w v cs) (hl : cs.length ≤ 1000) (hn : n ≤ 900000) (hs : sz (trA cs) 0 ≤ 140737488355328) (htr : er (trA cs) 0 = 0 → trOf (bys (prt (trA cs))) = some cs) (hck : ∀ c ∈ cs, c.1.size ≤ maxLen)
    (hg6 : er (trA cs) 0 = 0 → apE s (bys (prt (trA cs))) = 6 → good (apS s (bys (prt (trA cs)))) ∧ Small (cs.foldl chF g)) :
    Calls Tryz.prog 16 #[.pointer (some ⟨sb, 0, none⟩), v] w (CommitQ base JS apE apS anE anS s sb jp (Ft O S sb b) (n + cs.length) g cs w) := by
  have HP := Lib.hid (printed_tr cs v w hcs (by omega) hs)
  unfold PrintQ at HP
  obtain ⟨p0, cap0, rfl, _, _⟩ := hcs
  obtain ⟨x0, hx0⟩ : ∃ x, er (trA cs) 0 = x := ⟨_, rfl⟩
  obtain ⟨s0, hs0⟩ : ∃ x, prt (trA cs) = x := ⟨_, rfl⟩
  rw [hx0, hs0] at HP
  have HH := Lib.hid H
  have HE := Lib.hid (And.intro hx0 hs0)
  have HTR := Lib.hid htr
  have HG6 := Lib.hid hg6
  have HCK := Lib.hid hck
  clear H hs htr hg6 hck hx0 hs0
  go_enter Tryz.func16, Tryz.ntmps16
  go_wp2_with fail
  refine HP.out.mono ?_
  rintro e w1 ⟨rfl, hB1⟩
  have HB1 := Lib.hid hB1
  clear HP hB1
  by_cases h0 : x0 = 0
  · subst h0
    have h8 : ∀ c ∈ bys s0, c < 256 := bys_lt s0
    have HRT := Lib.hid (readT_any (bys s0) h8 w1)
    rw [mkS_bys] at HRT
    have htr : trOf (bys s0) = some cs := by have := HTR.out HE.out.1; rwa [HE.out.2] at this
    rw [htr] at HRT
    clear htr
    go_wp2_with fail
    refine HRT.out.mono ?_
    rintro e w2 ⟨hB2, ⟨h, _⟩ | ⟨cs', cv, hcs', rfl, hA⟩⟩
    · cases h
    obtain rfl : cs = cs' := Option.some.inj hcs'
    obtain ⟨ab, rfl⟩ : ∃ ab, cv = .func (.func 55) #[] #[.pointer (some ⟨ab, 0, none⟩)] := by obtain ⟨ab, _, _, h, _⟩ := hA; exact ⟨ab, h⟩
    have hz1 := HB1.out.size
    have hz2 := hB2.size
    have hB12 := HB1.out.trans (hB2.mono hz1)
    have hJ2 := HJ.keep O w w2 jp s HH.out.jour (ext_below hB12) (fun k hk => hB12.block k (HJ.lt O w jp s HH.out.jour k hk).2) (fun k hk => hB12.block k (by omega))
    have HAP := Lib.hid (HJ.append O w2 jp s (bys s0) hJ2 hgood h8)
    rw [mkS_bys] at HAP
    obtain ⟨x, hx⟩ : ∃ x, apE s (bys s0) = x := ⟨_, rfl⟩
    obtain ⟨s1, hs1⟩ : ∃ x, apS s (bys s0) = x := ⟨_, rfl⟩
    rw [hx, hs1] at HAP
    have HX := Lib.hid (And.intro hx hs1)
    have HF : Hid (∀ (O' : Nat → Prop) (w3 : World), JS O' w3 jp s1 → Chg O w2 w3 → (∀ k, O' k → O k ∨ w2.heap.size ≤ k) →
        StoreAt base JS O' (fun k => (S k ∧ k < w.heap.size) ∨ (w1.heap.size ≤ k ∧ k < w2.heap.size)) w3 sb jp b n s1 g ∧ AllAt w3 (fun k => w1.heap.size ≤ k ∧ k < w2.heap.size) (.func (.func 55) #[] #[.pointer (some ⟨ab, 0, none⟩)]) cs ∧ Chg O w w3 ∧ w.heap.size ≤ w3.heap.size ∧ w2.heap.size ≤ w3.heap.size) := Lib.hid fun O' w3 k1 k2 k3 => by
      obtain ⟨Hat, Hmap, Hj, hosb, hob, hos, hne, hssb, hbb, hbsb, hbs⟩ := HH.out
      have hsl := Hat.1
      have hbl := Hmap.lt
      have hOl : ∀ k, O k → k < w.heap.size := fun k hk => (HJ.lt O w jp s Hj k hk).2
      have hz3 := k2.1.size
      have hsame : ∀ k, k < w.heap.size → ¬ O k → w3.heap[k]? = w.heap[k]? := fun k hk ho => (k2.2 k (by omega) ho).trans (hB12.block k hk)
      have hO' : ∀ k, k < w2.heap.size → ¬ O k → ¬ O' k := fun k hk ho h => by
        rcases k3 k h with h | h
        · exact ho h
        · omega
      refine ⟨?_, hA.keep (fun k h1 h2 => ⟨h1, h2⟩) hz3 (fun k h1 h2 => k2.2 k h2 (fun h => by have := hOl k h; omega)), ⟨(ext_below hB12).trans k2.1, hsame⟩, by omega, hz3⟩
      exact
      { at_ := ⟨by omega, (hsame sb hsl hosb).trans Hat.2⟩
        map := Hmap.keep (fun h => by rcases h with h | h; exact Hmap.1 h.1; omega) (fun k h1 h2 => Or.inl ⟨h1, h2⟩) (by omega) (fun k h1 h2 => hsame k h2 (hos k h1)) (fun f hf => hf.same (hsame _ hbl hob))
        jour := k1
        osb := hO' sb (by omega) hosb
        ob := hO' b (by omega) hob
        os := fun k hk => by
          rcases hk with hk | hk
          · exact hO' k (by omega) (hos k hk.1)
          · exact hO' k hk.2 (fun h => by have := hOl k h; omega)
        ne := hne
        ssb := fun h => by rcases h with h | h; exact hssb h.1; omega
        bb := hbb
        bsb := hbsb
        bs := fun k hk => by rcases hk with hk | hk; exact hbs k hk.1; omega }
    have HOl : Hid (∀ k, O k → k < w.heap.size) := Lib.hid fun k hk => (HJ.lt O w jp s HH.out.jour k hk).2
    obtain ⟨d0, _⟩ := cells2 ((hB12.block sb HH.out.at_.1).trans HH.out.at_.2)
    clear hA hB2 hB12 hJ2 hx hs1
    go_wp2_with fail
    refine HAP.out.mono ?_
    rintro e w3 ⟨O', rfl, hJ3, hC3, hO3⟩
    obtain ⟨h3, hA3, hC, hz3, hz23⟩ := HF.out O' w3 hJ3 hC3 hO3
    have hHH := HH.out
    have HO3 := Lib.hid hO3
    have HC := Lib.hid hC
    have H3 := Lib.hid h3
    have HA3 := Lib.hid hA3
    clear hJ3 hC3 hO3 HF HAP HRT
    obtain ⟨c0, c1⟩ := cells2 h3.at_.2
    have hS0 : ∀ k, ((S k ∧ k < w.heap.size) ∨ (w1.heap.size ≤ k ∧ k < w2.heap.size)) → k < w3.heap.size := fun k hk => by rcases hk with hk | hk <;> omega
    have hFt : Hid (∀ k, O' k ∨ (S k ∧ k < w.heap.size) ∨ (w1.heap.size ≤ k ∧ k < w2.heap.size) ∨ k = b ∨ k = sb → Ft O S sb b k ∨ w.heap.size ≤ k) := Lib.hid fun k hk => by
      rcases hk with h | h | h | h | h
      · rcases HO3.out k h with h | h
        · exact Or.inl (Or.inl h)
        · exact Or.inr (by omega)
      · exact Or.inl (Or.inr (Or.inl h.1))
      · exact Or.inr (by omega)
      · exact Or.inl (Or.inr (Or.inr (Or.inl h)))
      · exact Or.inl (Or.inr (Or.inr (Or.inr h)))
    by_cases hx0 : x = 0
    · subst hx0
      have HD := Lib.hid (doAll_any ab cs hl HCK.out (fun k => (S k ∧ k < w.heap.size) ∨ (w1.heap.size ≤ k ∧ k < w2.heap.size)) (fun k => w1.heap.size ≤ k ∧ k < w2.heap.size) (fun k hk => Or.inr hk) b n (by omega) g w3 h3.map hA3)
      have hfin : Hid (∀ w5, MapA w5 (fun k => (S k ∧ k < w.heap.size) ∨ (w1.heap.size ≤ k ∧ k < w2.heap.size)) b (n + cs.length) (cs.foldl chF g) → w3.grownBy w5 (some b) → CommitQ base JS apE apS anE anS s sb jp (Ft O S sb b) (n + cs.length) g cs w (.returned (.int .i64 0)) w5) := Lib.hid fun w5 j2 j3 => by
        have hz5 := j3.size
        have hsl := h3.at_.1
        have hn5 : ∀ k, k < w3.heap.size → k ≠ b → w5.heap[k]? = w3.heap[k]? := fun k hk hne => j3.block k hk (fun e => hne (by cases e; rfl))
        have hlt := HJ.lt O' w3 jp s1 h3.jour
        refine ⟨O', (fun k => (S k ∧ k < w.heap.size) ∨ (w1.heap.size ≤ k ∧ k < w2.heap.size)), b, n + cs.length, 0, s1, cs.foldl chF g, rfl, ?_, Or.inr ⟨HE.out.1, Or.inl ?_⟩, Nat.le_refl _, ⟨hC.1.trans (ext_grown j3), fun k hk hF => ?_⟩, fun k hk => ?_⟩
        · exact
          { at_ := ⟨by omega, (hn5 sb hsl h3.ne).trans h3.at_.2⟩
            map := j2
            jour := HJ.keep O' w3 _ jp _ h3.jour (ext_grown j3) (fun k hk => hn5 k (hlt k hk).2 (fun e => h3.ob (e ▸ hk))) (fun k hk => hn5 k (by omega) (by have := h3.bb; omega))
            osb := h3.osb
            ob := h3.ob
            os := h3.os
            ne := h3.ne
            ssb := h3.ssb
            bb := h3.bb
            bsb := h3.bsb
            bs := h3.bs }
        · rw [HE.out.2, HX.out.1, HX.out.2]; exact ⟨rfl, rfl, rfl, rfl⟩
        · rw [hn5 k (by omega) (fun e => hF (Or.inr (Or.inr (Or.inl e))))]
          exact hC.2 k hk (fun h => hF (Or.inl h))
        · refine hFt.out k ?_
          rcases hk with h | h | h | h
          · exact Or.inl h
          · rcases h with h | h
            · exact Or.inr (Or.inl h)
            · exact Or.inr (Or.inr (Or.inl h))
          · exact Or.inr (Or.inr (Or.inr (Or.inl h)))
          · exact Or.inr (Or.inr (Or.inr (Or.inr h)))
      clear HH HE HTR HG6 HCK HB1 h3 hA3 hC hHH H3 HA3 hS0 hFt
      go_wp2_with fail
      refine HD.out.mono ?_
      rintro e w5 ⟨rfl, j2, j3⟩
      have HQ := Lib.hid (hfin.out w5 j2 j3)
      clear j2 j3
      go_wp2
      go_ret
      exact HQ.out
    · by_cases hx6 : x = 6
      · subst hx6
        have HD := Lib.hid (mapClone_any _ b n g w3 h3.map (fun h => by have := hS0 _ h; omega))
        obtain ⟨hgo, hsm⟩ := HG6.out HE.out.1 (by rw [HE.out.2]; exact HX.out.1)
        rw [HE.out.2, HX.out.2] at hgo
        have hfin : Hid (∀ w4 w5, Below w3.heap.size w3 w4 → MapA w5 (fun k => (S k ∧ k < w.heap.size) ∨ (w1.heap.size ≤ k ∧ k < w2.heap.size)) w3.heap.size (n + cs.length) (cs.foldl chF g) → w4.grownBy w5 (some w3.heap.size) →
            Calls Tryz.prog 36 #[.pointer (some ⟨sb, 0, none⟩), .map (some w3.heap.size)] w5 fun e w6 => ∃ c, e = .returned (.int .i64 c) ∧ CommitQ base JS apE apS anE anS s sb jp (Ft O S sb b) (n + cs.length) g cs w (.returned (.int .i64 c)) w6) := Lib.hid fun w4 w5 j1 j2 j3 => by
          have hz4 := j1.size
          have hz5 := j3.size
          have hB5 : Below w3.heap.size w3 w5 := j1.grown j3 hz4 (fun k hk => by cases hk; exact Nat.le_refl _)
          have hlt := HJ.lt O' w3 jp s1 h3.jour
          have hsl := h3.at_.1
          have H5 := h3.below HJ (by omega) hB5
          have hm5 := j2.keep (T := fun k => ((S k ∧ k < w.heap.size) ∨ (w1.heap.size ≤ k ∧ k < w2.heap.size)) ∧ k < w3.heap.size) (fun h => by have := h.2; omega) (fun k h _ => ⟨h, hS0 k h⟩) (Nat.le_refl _) (fun _ _ _ => rfl) (fun _ h => h)
          refine (anew_any HJ O' _ sb b n w3.heap.size (n + cs.length) jp s1 g (cs.foldl chF g) w5 H5 hgo hm5 (by omega) (fun h => by have := (hlt _ h).2; omega) (by omega) (by omega) (by omega) (fun k hk => by have := hsm.key k hk; unfold maxLen; omega) hsm.size).mono ?_
          rintro e w6 ⟨ks, O6, S6, b6, n6, q1, q2, q3, q4, q5, q6⟩
          have hF6 : ∀ k, (Ft O' (fun k => ((S k ∧ k < w.heap.size) ∨ (w1.heap.size ≤ k ∧ k < w2.heap.size)) ∧ k < w3.heap.size) sb b k ∨ k = w3.heap.size) → Ft O S sb b k ∨ w.heap.size ≤ k := fun k hk => by
            rcases hk with (h | h | h | h) | h
            · exact hFt.out k (Or.inl h)
            · rcases h.1 with h | h
              · exact hFt.out k (Or.inr (Or.inl h))
              · exact hFt.out k (Or.inr (Or.inr (Or.inl h)))
            · exact hFt.out k (Or.inr (Or.inr (Or.inr (Or.inl h))))
            · exact hFt.out k (Or.inr (Or.inr (Or.inr (Or.inr h))))
            · exact Or.inr (by omega)
          refine ⟨_, q2, O6, S6, b6, n6, _, _, _, rfl, q3, Or.inr ⟨HE.out.1, Or.inr (Or.inl ?_)⟩, by omega, ⟨(hC.1.trans (ext_below hB5)).trans q5.1, fun k hk hF => ?_⟩, fun k hk => ?_⟩
          · rw [HE.out.2, HX.out.1, HX.out.2]; exact ⟨rfl, ks, q1, rfl, rfl, rfl⟩
          · rw [q5.2 k (by omega) (fun h => by rcases hF6 k h with h | h; exact hF h; omega), hB5.block k (by omega)]
            exact hC.2 k hk (fun h => hF (Or.inl h))
          · rcases q6 k hk with h | h
            · exact hF6 k h
            · exact Or.inr (by omega)
        have hdo : Hid (∀ w4, MapA w4 (fun k => (S k ∧ k < w.heap.size) ∨ (w1.heap.size ≤ k ∧ k < w2.heap.size)) w3.heap.size n g → Below w3.heap.size w3 w4 → Calls Tryz.prog 55 #[.map (some w3.heap.size), .pointer (some ⟨ab, 0, none⟩)] w4 (DoneQ (fun k => (S k ∧ k < w.heap.size) ∨ (w1.heap.size ≤ k ∧ k < w2.heap.size)) w3.heap.size (n + cs.length) (cs.foldl chF g) w4)) := Lib.hid fun w4 j1 j2 =>
          doAll_any ab cs hl HCK.out _ (fun k => w1.heap.size ≤ k ∧ k < w2.heap.size) (fun k hk => Or.inr hk) w3.heap.size n (by omega) g w4 j1 (hA3.keep (fun _ h _ => h) j2.size (fun k _ hk => j2.block k hk))
        clear HH HE HTR HG6 HCK HB1 h3 hA3 hC hHH H3 HA3 hS0 hFt
        go_wp2_with fail
        refine HD.out.mono ?_
        rintro e w4 ⟨rfl, j1, _, j3⟩
        have HD4 := Lib.hid (hdo.out w4 j1 j3)
        have HB4 := Lib.hid j3
        clear j1 j3 HD hdo
        go_wp2_with fail
        refine HD4.out.mono ?_
        rintro e w5 ⟨rfl, j2, j3⟩
        have HD5 := Lib.hid (hfin.out w4 w5 HB4.out j2 j3)
        clear j2 j3 HD4 hfin
        go_wp2_with fail
        refine HD5.out.mono ?_
        rintro e w6 ⟨c, rfl, hQ⟩
        have HQ := Lib.hid hQ
        clear hQ HD5
        go_wp2
        go_ret
        exact HQ.out
      · have HD := Lib.hid (down_any sb b (some jp) w3 h3.at_)
        have hfin : Hid (∀ w5, SAt w5 sb (some jp) w3.heap.size → MapA w5 (fun _ => False) w3.heap.size 0 (fun _ => none) → w3.grownBy w5 (some sb) → CommitQ base JS apE apS anE anS s sb jp (Ft O S sb b) (n + cs.length) g cs w (.returned (.int .i64 7)) w5) := Lib.hid fun w5 j1 j2 j3 => by
          have hz5 := j3.size
          have hsl := hHH.at_.1
          have hn5 : ∀ k, k < w3.heap.size → k ≠ sb → w5.heap[k]? = w3.heap[k]? := fun k hk hne => j3.block k hk (fun e => hne (by cases e; rfl))
          have hlt := HJ.lt O' w3 jp s1 h3.jour
          refine ⟨O', fun _ => False, w3.heap.size, 0, 7, s1, fun _ => none, rfl, ?_, Or.inr ⟨HE.out.1, Or.inr (Or.inr ?_)⟩, Nat.zero_le _, ⟨hC.1.trans (ext_grown j3), fun k hk hF => ?_⟩, fun k hk => ?_⟩
          · exact
            { at_ := j1
              map := j2
              jour := HJ.keep O' w3 _ jp _ h3.jour (ext_grown j3) (fun k hk => hn5 k (hlt k hk).2 (fun e => h3.osb (e ▸ hk))) (fun k hk => hn5 k (by omega) (by have := h3.bsb; omega))
              osb := h3.osb
              ob := fun h => by have := (hlt _ h).2; omega
              os := fun k hk => hk.elim
              ne := by omega
              ssb := fun h => h
              bb := by omega
              bsb := h3.bsb
              bs := fun k hk => hk.elim }
          · rw [HE.out.2, HX.out.1, HX.out.2]; exact ⟨hx0, hx6, rfl, rfl, rfl⟩
          · rw [hn5 k (by omega) (fun e => hF (Or.inr (Or.inr (Or.inr e))))]
            exact hC.2 k hk (fun h => hF (Or.inl h))
          · rcases hk with h | h | h | h
            · rcases HO3.out k h with h | h
              · exact Or.inl (Or.inl h)
              · exact Or.inr (by omega)
            · exact h.elim
            · exact Or.inr (by omega)
            · exact Or.inl (Or.inr (Or.inr (Or.inr h)))
        clear HH HE HTR HG6 HCK HB1 h3 hA3 hC hHH H3 HA3
        go_wp2_with fail
        refine HD.out.mono ?_
        rintro e w5 ⟨rfl, j1, j2, j3⟩
        have HQ := Lib.hid (hfin.out w5 j1 j2 j3)
        clear j1 j2 j3
        go_wp2
        go_ret
        exact HQ.out
  · have HQ : Hid (CommitQ base JS apE apS anE anS s sb jp (Ft O S sb b) (n + cs.length) g cs w (.returned (.int .i64 x0)) w1) := Lib.hid
      ⟨O, _, b, n, x0, s, g, rfl, HH.out.below HJ hbw HB1.out, Or.inl ⟨by rw [HE.out.1]; exact h0, HE.out.1.symm, rfl, rfl⟩, by omega, ⟨ext_below HB1.out, fun k hk _ => HB1.out.block k hk⟩, fun k hk => Or.inl (by
        rcases hk with h | h | h
        · exact Or.inl h
        · exact Or.inr (Or.inl h.1)
        · exact Or.inr (Or.inr h))⟩
    have hb0 : (x0 == 0) = false := by simpa using h0
    clear HH HE HTR HG6 HCK HB1
    go_wp2
    go_ret
    exact HQ.out
end
end Go.Proofs.YtlogjpmdfimgdaaGreatDoor
namespace Go.Proofs.YtlogjpmdfimgdaaGreatDoor
open Go Go.RowKit Go.Own Go.Maps Go.WideMaps
theorem chOf_chA (c : Ch) : chOf (chA c) = some c := by
  obtain ⟨k, o⟩ := c
  cases o <;> rfl
theorem chsOf_chA : ∀ cs : List Ch, chsOf (cs.map chA) = some cs
  | [] => rfl
  | c :: cs => by
    show (match chOf (chA c), chsOf (cs.map chA) with | some c, some cs => some (c :: cs) | _, _ => none) = _
    rw [chOf_chA, chsOf_chA cs]
theorem okA_trA {cs : List Ch} (h : ∀ c ∈ cs, ∀ a, c.2 = some a → okA a) : okA (trA cs) := by
  unfold trA
  rw [okA, okAs_all]
  intro x hx
  obtain ⟨c, hc, rfl⟩ := List.mem_map.1 hx
  have := h c hc
  obtain ⟨k, o⟩ := c
  cases o with
  | none => simp [chA, okA, okAs]
  | some a => simp [chA, okA, okAs, this a rfl]
theorem trOf_prt {cs : List Ch} (he : er (trA cs) 0 = 0) (h : ∀ c ∈ cs, ∀ a, c.2 = some a → okA a) : trOf (bys (prt (trA cs))) = some cs := by
  unfold prt
  rw [if_pos he, bys_mkS _ (pr_lt _), trOf, pa_pr he (okA_trA h)]
  exact chsOf_chA cs
/-- Keys of changes that can be printed. -/
theorem er_trA {cs : List Ch} (he : er (trA cs) 0 = 0) : cs.length ≤ 255 ∧ ∀ c ∈ cs, c.1.size ≤ 65535 ∧ ∀ a, c.2 = some a → er a 2 = 0 := by
  obtain ⟨h1, h2⟩ := er_list he
  obtain ⟨_, h4⟩ := chsOf_keys (cs.map chA) cs (chsOf_chA cs) h2
  rw [List.length_map] at h1
  exact ⟨h1, h4⟩
theorem szs_mem (d : Nat) : ∀ (l : List A) (x : A), x ∈ l → sz x d ≤ szs l d
  | [], _, h => (List.not_mem_nil h).elim
  | y :: r, x, h => by
    rw [szs]
    rcases List.mem_cons.1 h with rfl | h
    · omega
    · have := szs_mem d r x h; omega
theorem sz_in {l : List A} {d : Nat} (h : er (.list l) d = 0) (x : A) (hx : x ∈ l) : sz x (d + 1) ≤ sz (.list l) d := by
  rw [sz]
  split
  · rename_i hh
    unfold er at h
    rw [if_pos hh] at h
    cases h
  · have := szs_mem (d + 1) l x hx; omega
theorem sz_ch {cs : List Ch} (he : er (trA cs) 0 = 0) : ∀ c ∈ cs, ∀ a, c.2 = some a → sz a 2 ≤ sz (trA cs) 0 := by
  intro c hc a ha
  have h1 := sz_in he (chA c) (List.mem_map.2 ⟨c, hc, rfl⟩)
  have h2 := (er_list he).2 (chA c) (List.mem_map.2 ⟨c, hc, rfl⟩)
  obtain ⟨k, o⟩ := c
  simp only at ha
  subst ha
  have h3 : sz a 2 ≤ sz (chA (k, some a)) 1 := sz_in (d := 1) h2 a (by simp)
  exact Nat.le_trans h3 h1
theorem Small.chF {g : ByteArray → Option A} (h : Small g) {c : Ch} (h1 : c.1.size ≤ 65535) (h2 : ∀ a, c.2 = some a → sz a 2 ≤ 1000000000000) : Small (Go.Own.chF g c) := by
  refine ⟨fun k hk => ?_, fun k a ha => ?_⟩
  · unfold Go.Own.chF at hk
    split at hk
    · rename_i e; rw [e]; exact h1
    · exact h.key k hk
  · unfold Go.Own.chF at ha
    split at ha
    · exact h2 a ha
    · exact h.val k a ha
theorem Small.fold : ∀ (cs : List Ch) (g : ByteArray → Option A), Small g → (∀ c ∈ cs, c.1.size ≤ 65535 ∧ ∀ a, c.2 = some a → sz a 2 ≤ 1000000000000) → Small (cs.foldl Go.Own.chF g)
  | [], _, h, _ => h
  | c :: cs, _, h, hc => Small.fold cs _ (h.chF (hc c List.mem_cons_self).1 (hc c List.mem_cons_self).2) fun c' h' => hc c' (List.mem_cons_of_mem _ h')
theorem small_none : Small (fun _ => (none : Option A)) where
  key := fun _ h => by cases h
  val := fun _ _ h => by cases h
theorem Small.commit {g : ByteArray → Option A} (h : Small g) {cs : List Ch} (he : er (trA cs) 0 = 0) (hs : sz (trA cs) 0 ≤ 1000000000000) : Small (cs.foldl Go.Own.chF g) :=
  Small.fold cs g h fun c hc => ⟨((er_trA he).2 c hc).1, fun a ha => Nat.le_trans (sz_ch he c hc a ha) hs⟩
end Go.Proofs.YtlogjpmdfimgdaaGreatDoor
namespace Go.Proofs.YtlogjpmdfimgdaaGreatDoor
open Go Go.RowKit Go.Own Go.Own.Fr Go.Maps Go.WideMaps
/-- The slice v holds these changes, as they came in. -/
def InCh (w : World) (v : Value) (l : List (ByteArray × V × Bool)) : Prop :=
  ∃ p cap, v = .slice p l.length cap ∧ l.length ≤ cap ∧ ∀ (j : Nat) (x : ByteArray × V × Bool), l[j]? = some x → ∃ b o c0 c1 c2 c3 c4, p = some ⟨b, o, none⟩ ∧ b < w.heap.size ∧ w.cell? ⟨b, o + j * 7, none⟩ = some (.string x.1) ∧
    w.cell? ⟨b, o + j * 7 + 1, none⟩ = some c0 ∧ w.cell? ⟨b, o + j * 7 + 2, none⟩ = some c1 ∧ w.cell? ⟨b, o + j * 7 + 3, none⟩ = some c2 ∧ w.cell? ⟨b, o + j * 7 + 4, none⟩ = some c3 ∧ w.cell? ⟨b, o + j * 7 + 5, none⟩ = some c4 ∧ w.cell? ⟨b, o + j * 7 + 6, none⟩ = some (.bool x.2.2) ∧
    Holds w (.agg #[c0, c1, c2, c3, c4]) x.2.1
/-- One change of new memory: as a value, as a row. -/
def AgP (B : Nat) (k : ByteArray) (a : A) (gone : Bool) (v : Value) (W : World) : Prop := ∃ u, v = .agg #[.string k, u, .bool gone] ∧ AAt W (fun b => B ≤ b) u a
def Sl3 (B : Nat) (k : ByteArray) (a : A) (gone : Bool) (v : Value) (W : World) : Prop := ∃ b u, v = .slice (some ⟨b, 0, none⟩) 1 1 ∧ B ≤ b ∧ b < W.heap.size ∧ W.heap[b]? = some (.cells #[.string k, u, .bool gone] 66 (0, 0)) ∧ AAt W (fun b => B ≤ b) u a
def AaP (B : Nat) (a : A) (v : Value) (W : World) : Prop := AAt W (fun b => B ≤ b) v a
theorem AaP_last (B : Nat) (a : A) : Lasts (AaP B a) := fun _ _ W' h hB => AAt.keep (w' := W') h (fun _ h _ => h) hB.size (fun b _ hlt => hB.block b hlt)
theorem AgP_last (B : Nat) (k : ByteArray) (a : A) (gone : Bool) : Lasts (AgP B k a gone) := by
  rintro v W W' ⟨u, h1, h2⟩ hB
  exact ⟨u, h1, AaP_last B a u W W' h2 hB⟩
theorem Sl3_last (B : Nat) (k : ByteArray) (a : A) (gone : Bool) : Lasts (Sl3 B k a gone) := by
  rintro v W W' ⟨b, u, h1, h2, h3, h4, h5⟩ hB
  exact ⟨b, u, h1, h2, Nat.lt_of_lt_of_le h3 hB.size, (hB.block b h3).trans h4, AaP_last B a u W W' h5 hB⟩
section
variable {ρ : Operand → Value} {W : World} {dst : Option Tmp} {ty : TypeId} {pos : String} {after : Array Edge} {guard : Option (Nat × Bool)} {v r : Value} {x y z : Operand}
theorem exec_ix38 {b o n c k : Nat} (h1 : ρ x = .slice (some ⟨b, o, none⟩) n c) (h2 : ρ y = .int .i64 (k : Int)) (hk : k < n) : (execOp ρ { dst, op := .indexAddr 38 x y, type := ty, pos, after, guard }).run Tryz.prog W = .ok (.value (.pointer (some ⟨b, o + k * 7, none⟩))) W := by
  have hki : (k : Int) < (n : Int) := by omega
  have hk0 : (0 : Int) ≤ (k : Int) := by omega
  simp [execOp, h1, h2, go_sem, hki, hk0]
theorem fa61 (b o : Nat) (W : World) : (Instr.fieldAt 61 (.pointer (some ⟨b, o, none⟩)) 0).run Tryz.prog W = .ok (.pointer (some ⟨b, o, none⟩)) W ∧ (Instr.fieldAt 61 (.pointer (some ⟨b, o, none⟩)) 1).run Tryz.prog W = .ok (.pointer (some ⟨b, o + 1, none⟩)) W ∧ (Instr.fieldAt 61 (.pointer (some ⟨b, o, none⟩)) 2).run Tryz.prog W = .ok (.pointer (some ⟨b, o + 6, none⟩)) W := by
  refine ⟨?_, ?_, ?_⟩ <;> simp [go_sem]
theorem ld9o {b o : Nat} {s : ByteArray} (h : W.cell? ⟨b, o, none⟩ = some (.string s)) : (Instr.loadAt 9 (.pointer (some ⟨b, o, none⟩))).run Tryz.prog W = .ok (.string s) W := by
  simp [Instr.loadAt, go_sem, h]
theorem ld4o {b o : Nat} {s : Bool} (h : W.cell? ⟨b, o, none⟩ = some (.bool s)) : (Instr.loadAt 4 (.pointer (some ⟨b, o, none⟩))).run Tryz.prog W = .ok (.bool s) W := by
  simp [Instr.loadAt, go_sem, h]
theorem ld59o {b o : Nat} {c0 c1 c2 c3 c4 : Value} (h0 : W.cell? ⟨b, o, none⟩ = some c0) (h1 : W.cell? ⟨b, o + 1, none⟩ = some c1) (h2 : W.cell? ⟨b, o + 2, none⟩ = some c2) (h3 : W.cell? ⟨b, o + 3, none⟩ = some c3) (h4 : W.cell? ⟨b, o + 4, none⟩ = some c4) : (Instr.loadAt 59 (.pointer (some ⟨b, o, none⟩))).run Tryz.prog W = .ok (.agg #[c0, c1, c2, c3, c4]) W := by
  simp [Instr.loadAt, go_sem, h0, h1, h2, h3, h4]
theorem exec_bd66 {k : ByteArray} {u : Value} {g : Bool} (h1 : ρ x = .string k) (h2 : ρ y = u) (h3 : ρ z = .bool g) (hu : (∃ t x, u = .iface t x) ∨ u = .nilIface) : (execOp ρ { dst, op := .build 66 #[(0, x), (1, y), (2, z)], type := ty, pos, after, guard }).run Tryz.prog W = .ok (.value (.agg #[.string k, u, .bool g])) W := by
  rcases hu with ⟨t, x, rfl⟩ | rfl <;> simp [execOp, h1, h2, h3, go_sem]
theorem exec_bs53 {k : ByteArray} {u : Value} {g : Bool} (h1 : ρ x = .agg #[.string k, u, .bool g]) (hu : (∃ t x, u = .iface t x) ∨ u = .nilIface) : (execOp ρ { dst, op := .buildSlice 53 1 #[(0, x)], type := ty, pos, after, guard }).run Tryz.prog W = .ok (.value (.slice (some ⟨W.heap.size, 0, none⟩) 1 1)) (W.alloc (.cells #[.string k, u, .bool g] 66)) := by
  have hb : (Instr.buildSlice 53 1 #[(0, .agg #[.string k, u, .bool g])]).run Tryz.prog W = .ok (.slice (some ⟨W.heap.size, 0, none⟩) 1 1) (W.alloc (.cells #[.string k, u, .bool g] 66)) := by
    rcases hu with ⟨t, x, rfl⟩ | rfl <;> kernel_rfl
  unfold execOp
  simp only [List.map_toArray, List.map_cons, List.map_nil, h1, Sem.run_bind, hb, Result.andThen_ok]
  rfl
end
end Go.Proofs.YtlogjpmdfimgdaaGreatDoor

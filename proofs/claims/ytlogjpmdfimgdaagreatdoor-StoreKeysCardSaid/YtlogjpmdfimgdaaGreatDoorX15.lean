/- What acts leave, given a journal that goes on: sizes, and an act: by contract. No condition but the law's own guards. | What a row of acts leaves, plainly; a commit of the law's changes: by contract. No condition but the law's own guards. | StoreKeys' own walk, given what a journal's functions answer. -/
import Derived.Test.YtlogjpmdfimgdaaGreatDoorX14
import Derived.Test.YtlogjpmdfimgdaaGreatDoorX06
import Derived.RegionTactic
import Derived.ChangeAlike
namespace Go.Own
theorem sz_anti (a : A) : ∀ d, sz a (d + 1) ≤ sz a d := by
  induction a using A.ind with
  | h1 n => intro d; simp [sz]
  | h2 s => intro d; simp [sz]
  | h3 b => intro d; simp [sz]
  | h4 l ih =>
    intro d
    rw [sz, sz]
    by_cases h : 255 < l.length ∨ 8 ≤ d + 1
    · rw [if_pos h]; exact Nat.zero_le _
    · rw [if_neg h, if_neg (by omega)]
      have : ∀ (r : List A), (∀ x ∈ r, x ∈ l) → szs r (d + 1 + 1) ≤ szs r (d + 1) := by
        intro r
        induction r with
        | nil => intro _; simp [szs]
        | cons x r ihr =>
          intro hr
          rw [szs, szs]
          have h1 := ih x (hr x (by simp)) (d + 1)
          have h2 := ihr fun y hy => hr y (List.mem_cons_of_mem _ hy)
          omega
      have := this l fun x hx => hx
      omega
  | h5 => intro d; simp [sz]
  | h6 => intro d; simp [sz]
theorem bnd_seven : bnd 7 1 ≤ 1000000000000 := by decide +kernel
theorem sz_two (v : V) (h : fewV v 1 = true) : sz (ofV v) 2 ≤ 1000000000000 := Nat.le_trans (sz_anti _ 1) (Nat.le_trans (sz_bnd v 7 1 (by omega) h) bnd_seven)
end Go.Own
namespace Go.Proofs.YtlogjpmdfimgdaaGreatDoor
open Go Go.RowKit Go.Own Go.Own.Fr Go.Maps Go.WideMaps
theorem ok_of_holds {w : World} {S : Nat → Prop} {v : Value} {x : V} (h : VAt w S v x) : okA (ofV x) := by
  induction h with
  | nil k n s b hk hn hs =>
    rcases kinds k with rfl | rfl | rfl | rfl | hk3 <;> simp [ofV, okA, ofVs, okAs, *]
  | empty k n s b hk hn hs a cap hcap =>
    rcases kinds k with rfl | rfl | rfl | rfl | hk3 <;> simp [ofV, okA, ofVs, okAs, *]
  | list k n s b hk hn hs g o m cap l U hm hS hb hle hcap hc ha ih =>
    rcases kinds k with rfl | rfl | rfl | rfl | hk3
    · simp [ofV, okA, hn]
    · simp [ofV, okA]
    · simp [ofV, okA]
    · rw [show ofV (.mk 4 n s b l) = .list (l.map ofV) by simp [ofV, ofVs_map]]
      rw [okA, okAs_all]
      intro x hx
      obtain ⟨y, hy, rfl⟩ := List.mem_map.1 hx
      obtain ⟨j, hj⟩ := List.getElem?_of_mem hy
      exact ih j y hj
    · simp [ofV, okA, hk3]
theorem chV_val {x : ByteArray × V × Bool} {a : A} (h : (chV x).2 = some a) : a = ofV x.2.1 := by
  unfold chV at h
  simp only at h
  split at h
  · cases h
  · exact (Option.some.inj h).symm
/-- What holds of a row's changes. -/
theorem inCh_ok {w : World} {v : Value} {l : List (ByteArray × V × Bool)} (h : InCh w v l) : ∀ c ∈ l.map chV, ∀ a, c.2 = some a → okA a := by
  intro c hc a ha
  obtain ⟨x, hx, rfl⟩ := List.mem_map.1 hc
  obtain ⟨j, hj⟩ := List.getElem?_of_mem hx
  obtain ⟨p, cap, _, _, hrow⟩ := h
  obtain ⟨b, o, c0, c1, c2, c3, c4, _, _, _, _, _, _, _, _, _, hH⟩ := hrow j x hj
  rw [chV_val ha]
  exact ok_of_holds hH
theorem szs_acts (l : List (ByteArray × V × Bool)) (h : ∀ x ∈ l, OkC x) : ∀ c ∈ l.map chV, ∀ a, c.2 = some a → sz a 2 ≤ 1000000000000 := by
  intro c hc a ha
  obtain ⟨x, hx, rfl⟩ := List.mem_map.1 hc
  rw [chV_val ha]
  exact sz_two _ (h x hx).2.1
theorem sz_tr30 (cs : List Ch) (h : ∀ c ∈ cs, ∀ a, c.2 = some a → sz a 2 ≤ 1000000000000) (hl : cs.length ≤ 30) : sz (trA cs) 0 ≤ 140737488355328 := by
  unfold trA
  have h1 : _ ≤ 2 + szs _ 1 := sz_list (cs.map chA) 0
  have h2 := szs_bound 1 1000000100000 (cs.map chA) (fun x hx => by
    obtain ⟨c, hc, rfl⟩ := List.mem_map.1 hx
    exact sz_chA c (h c hc))
  rw [List.length_map] at h2
  have h3 : cs.length * 1000000100000 ≤ 30 * 1000000100000 := Nat.mul_le_mul_right _ hl
  omega
section
variable {Sg : Type} {base : Nat} {JS : (Nat → Prop) → World → Addr → Sg → Prop} {good : Sg → Prop} {tx : Sg → List (List Nat)} {apE : Sg → List Nat → Int} {apS : Sg → List Nat → Sg} {anE : Sg → List (List Nat) → Int} {anS : Sg → List (List Nat) → Sg}
/-- A journal on a disk that is on goes on. -/
structure Goes (good : Sg → Prop) (apE : Sg → List Nat → Int) (apS : Sg → List Nat → Sg) (anE : Sg → List (List Nat) → Int) (anS : Sg → List (List Nat) → Sg) : Prop where
  ap : ∀ s t, good s → (∀ c ∈ t, c < 256) → (apE s t = 0 ∨ apE s t = 6) ∧ good (apS s t)
  an : ∀ s ts, good s → (∀ t ∈ ts, ∀ c ∈ t, c < 256) → (anE s ts = 0 ∨ anE s ts = 1 ∨ anE s ts = 6) ∧ good (anS s ts)
/-- What an act comes to. -/
def StepR (apE : Sg → List Nat → Int) (apS : Sg → List Nat → Sg) (anE : Sg → List (List Nat) → Int) (anS : Sg → List (List Nat) → Sg) (s : Sg) (g : ByteArray → Option A) (a : Ac) (c : Int) (s' : Sg) (g' : ByteArray → Option A) : Prop :=
  (a.cp = true ∧ ∃ ks, RisesA g (fun _ => true) ks ∧ c = (anewR (anE s ((txsB g ks).map bys)) g g).1 ∧ s' = anS s ((txsB g ks).map bys) ∧ g' = (anewR (anE s ((txsB g ks).map bys)) g g).2) ∨ (a.cp = false ∧ Commits apE apS anE anS s g (a.l.map chV) c s' g')
def DoesQ (base : Nat) (JS : (Nat → Prop) → World → Addr → Sg → Prop) (good : Sg → Prop) (sb : Nat) (jp : Addr) (F : Nat → Prop) (M : Nat) (R : Int → Sg → (ByteArray → Option A) → Prop) (w : World) (e : Ending) (w' : World) : Prop :=
  ∃ O' S' b' n' c s' g', e = .returned (.int .i64 c) ∧ StoreAt base JS O' S' w' sb jp b' n' s' g' ∧ good s' ∧ Small g' ∧ R c s' g' ∧ n' ≤ M ∧ Chg F w w' ∧ ∀ k, Ft O' S' sb b' k → F k ∨ w.heap.size ≤ k
theorem bys256 (s : ByteArray) : ∀ c ∈ bys s, c < 256 := bys_lt s
theorem txs256 (g : ByteArray → Option A) (ks : List ByteArray) : ∀ t ∈ (txsB g ks).map bys, ∀ c ∈ t, c < 256 := fun t ht => by
  obtain ⟨y, _, rfl⟩ := List.mem_map.1 ht
  exact bys_lt y
theorem anewR_small {x : Int} {g0 g : ByteArray → Option A} (h0 : Small g0) (h : Small g) : Small (anewR x g0 g).2 := by
  unfold anewR
  split
  · exact h
  · split
    · exact small_none
    · exact h0
theorem commits_small (HG : Goes good apE apS anE anS) {s s' : Sg} {g g' : ByteArray → Option A} {l : List (ByteArray × V × Bool)} {c : Int} (hgood : good s) (hg : Small g) (hf : ∀ x ∈ l, OkC x) (h : Commits apE apS anE anS s g (l.map chV) c s' g') : good s' ∧ Small g' := by
  have hsm : er (trA (l.map chV)) 0 = 0 → Small ((l.map chV).foldl chF g) := fun he => Small.fold _ g hg fun c hc => ⟨((er_trA he).2 c hc).1, szs_acts l hf c hc⟩
  rcases h with ⟨_, _, rfl, rfl⟩ | ⟨he, ⟨_, _, rfl, rfl⟩ | ⟨_, ks, _, _, rfl, rfl⟩ | ⟨_, _, _, rfl, rfl⟩⟩
  · exact ⟨hgood, hg⟩
  · exact ⟨(HG.ap s _ hgood (bys_lt _)).2, hsm he⟩
  · exact ⟨(HG.an _ _ (HG.ap s _ hgood (bys_lt _)).2 (txs256 _ _)).2, anewR_small hg (hsm he)⟩
  · exact ⟨(HG.ap s _ hgood (bys_lt _)).2, small_none⟩
theorem does_ok (HJ : Jour base JS good tx apE apS anE anS) (HG : Goes good apE apS anE anS) (O S : Nat → Prop) (sb b n : Nat) (jp : Addr) (s : Sg) (g : ByteArray → Option A) (w : World) (H : StoreAt base JS O S w sb jp b n s g) (hgood : good s) (hbw : base ≤ w.heap.size) (hn : n ≤ 900000) (hg : Small g)
    (a : Ac) (lv : Value) (hl : InCh w lv a.l) (ha : OkA a) :
    Calls Tryz.prog 10 #[.pointer (some ⟨sb, 0, none⟩), .agg #[lv, .bool a.cp, .int .i64 a.k1, .int .u64 a.k2, .int .i64 a.k3]] w (DoesQ base JS good sb jp (Ft O S sb b) (n + 30) (StepR apE apS anE anS s g a) w) := by
  have hsz := szs_acts a.l ha.2
  refine (does_any HJ O S sb b n jp s g w H hgood hbw hn hg a.l lv a.cp a.k1 a.k3 a.k2 hl (by have := ha.1; omega) (fun x hx => ⟨(ha.2 x hx).2.1, by have := (ha.2 x hx).1; omega⟩) (sz_tr30 _ hsz (by rw [List.length_map]; exact ha.1)) (fun he => trOf_prt he (inCh_ok hl))
    (fun he h6 => ⟨(HG.ap s _ hgood (bys_lt _)).2, Small.fold _ g hg fun c hc => ⟨((er_trA he).2 c hc).1, hsz c hc⟩⟩)).mono fun e w' h => ?_
  rcases h with ⟨hc, ks, O', S', b', n', h1, rfl, h3, h4, h5, h6⟩ | ⟨hc, O', S', b', n', c, s', g', rfl, h2, h3, h4, h5, h6⟩
  · exact ⟨O', S', b', n', _, _, _, rfl, h3, (HG.an _ _ hgood (txs256 _ _)).2, anewR_small hg hg, Or.inl ⟨hc, ks, h1, rfl, rfl, rfl⟩, by omega, h5, h6⟩
  · obtain ⟨h7, h8⟩ := commits_small HG hgood hg ha.2 h3
    exact ⟨O', S', b', n', c, s', g', rfl, h2, h7, h8, Or.inr ⟨hc, h3⟩, by have := ha.1; omega, h5, h6⟩
end
end Go.Proofs.YtlogjpmdfimgdaaGreatDoor
namespace Go.Own
theorem er_down (a : A) : ∀ d, er a (d + 1) = 0 → er a d = 0 := by
  induction a using A.ind with
  | h1 n => intro d _; simp [er]
  | h2 s => intro d h; simpa [er] using h
  | h3 b => intro d _; simp [er]
  | h4 l ih =>
    intro d h
    obtain ⟨h1, h2⟩ := Go.Proofs.YtlogjpmdfimgdaaGreatDoor.er_list h
    have h8 : ¬ 8 ≤ d + 1 := fun e => by
      unfold er at h
      rw [if_pos (Or.inr e)] at h
      cases h
    rw [er, if_neg (by omega), ers_zero]
    exact fun x hx => ih x hx (d + 1) (h2 x hx)
  | h5 => intro d h; simp [er] at h
  | h6 => intro d h; simp [er] at h
theorem er_two (a : A) (h : er a 2 = 0) : er a 0 = 0 := er_down a 0 (er_down a 1 h)
theorem sz_zero (a : A) (h : er a 2 = 0) : sz a 0 = sz a 2 := by rw [← pr_sz a 0 (er_two a h), pr_sz a 2 h]
/-- All values can be printed. -/
def Fine (g : ByteArray → Option A) : Prop := ∀ k a, g k = some a → er a 2 = 0
theorem fine_none : Fine (fun _ => none) := fun _ _ h => by cases h
theorem Fine.fold : ∀ (cs : List Ch) (g : ByteArray → Option A), Fine g → (∀ c ∈ cs, ∀ a, c.2 = some a → er a 2 = 0) → Fine (cs.foldl chF g)
  | [], _, h, _ => h
  | c :: cs, g, h, hc => Fine.fold cs _ (fun k a ha => by
      unfold chF at ha
      split at ha
      · exact hc c (by simp) a ha
      · exact h k a ha) fun c' h' => hc c' (List.mem_cons_of_mem _ h')
/-- Those that begin so are some of all. -/
theorem RisesA.filter {g : ByteArray → Option A} {p : ByteArray → Bool} {ks : List ByteArray} (h : RisesA g (fun _ => true) ks) : RisesA g p (ks.filter p) := by
  refine ⟨h.1.filter _, fun s => ?_⟩
  rw [List.mem_filter, h.2 s]
  simp
end Go.Own
namespace Go.Proofs.YtlogjpmdfimgdaaGreatDoor
open Go Go.RowKit Go.Own Go.Own.Fr Go.Maps Go.WideMaps
theorem begB_none (s : ByteArray) : begB s { data := #[] } = true := by
  unfold begB
  refine decide_eq_true ⟨Nat.zero_le _, ?_⟩
  apply bys_inj
  rw [bys_extract]
  rfl
section
variable {Sg : Type} {base : Nat} {JS : (Nat → Prop) → World → Addr → Sg → Prop} {good : Sg → Prop} {tx : Sg → List (List Nat)} {apE : Sg → List Nat → Int} {apS : Sg → List Nat → Sg} {anE : Sg → List (List Nat) → Int} {anS : Sg → List (List Nat) → Sg}
theorem anewR_fine {x : Int} {g0 g : ByteArray → Option A} (h0 : Fine g0) (h : Fine g) : Fine (anewR x g0 g).2 := by
  unfold anewR
  split
  · exact h
  · split
    · exact fine_none
    · exact h0
theorem commits_fine {s s' : Sg} {g g' : ByteArray → Option A} {cs : List Ch} {c : Int} (hg : Fine g) (h : Commits apE apS anE anS s g cs c s' g') : Fine g' := by
  have hsm : er (trA cs) 0 = 0 → Fine (cs.foldl chF g) := fun he => Fine.fold _ g hg fun c hc => ((er_trA he).2 c hc).2
  rcases h with ⟨_, _, rfl, rfl⟩ | ⟨he, ⟨_, _, rfl, rfl⟩ | ⟨_, ks, _, _, rfl, rfl⟩ | ⟨_, _, _, rfl, rfl⟩⟩
  · exact hg
  · exact hsm he
  · exact anewR_fine hg (hsm he)
  · exact fine_none
theorem step_fine {s s' : Sg} {g g' : ByteArray → Option A} {a : Ac} {c : Int} (hg : Fine g) (h : StepR apE apS anE anS s g a c s' g') : Fine g' := by
  rcases h with ⟨_, ks, _, _, rfl, rfl⟩ | ⟨_, h⟩
  · exact anewR_fine hg hg
  · exact commits_fine hg h
/-- A commit that is answered with none: the changes are there. -/
theorem commits_zero {s s' : Sg} {g g' : ByteArray → Option A} {cs : List Ch} (h : Commits apE apS anE anS s g cs 0 s' g') : er (trA cs) 0 = 0 ∧ g' = cs.foldl chF g := by
  rcases h with ⟨h1, h2, _, _⟩ | ⟨he, ⟨_, _, _, rfl⟩ | ⟨_, ks, _, h3, _, rfl⟩ | ⟨_, _, h3, _, _⟩⟩
  · exact absurd h2.symm h1
  · exact ⟨he, rfl⟩
  · refine ⟨he, ?_⟩
    revert h3
    unfold anewR
    split
    · intro _; rfl
    · split
      · intro h; cases h
      · intro h; cases h
  · cases h3
/-- A commit that is refused changes nothing. -/
theorem commits_no (HG : Goes good apE apS anE anS) {s s' : Sg} {g g' : ByteArray → Option A} {cs : List Ch} {c : Int} (hgood : good s) (hc : c ≠ 0) (h : Commits apE apS anE anS s g cs c s' g') : g' = g := by
  rcases h with ⟨_, _, _, rfl⟩ | ⟨he, ⟨_, h2, _, _⟩ | ⟨_, ks, _, h3, _, rfl⟩ | ⟨h1, h2, _, _, _⟩⟩
  · rfl
  · exact absurd h2 hc
  · have h4 := (HG.an _ ((txsB (cs.foldl chF g) ks).map bys) (HG.ap s (bys (prt (trA cs))) hgood (bys_lt _)).2 (txs256 _ _)).1
    subst h3
    revert hc
    rcases h4 with h4 | h4 | h4
    · rw [h4]; intro hc; exact absurd rfl hc
    · rw [h4]; intro _; rfl
    · rw [h4]; intro _; rfl
  · rcases (HG.ap s (bys (prt (trA cs))) hgood (bys_lt _)).1 with h | h
    · exact absurd h h1
    · exact absurd h h2
theorem commit_ok (HJ : Jour base JS good tx apE apS anE anS) (HG : Goes good apE apS anE anS) (O S : Nat → Prop) (sb b n : Nat) (jp : Addr) (s : Sg) (g : ByteArray → Option A) (w : World) (H : StoreAt base JS O S w sb jp b n s g) (hgood : good s) (hbw : base ≤ w.heap.size) (hn : n ≤ 900000) (hg : Small g)
    (l : List (ByteArray × V × Bool)) (v : Value) (hl : ChRow w v (l.map chV)) (hok : ∀ c ∈ l.map chV, ∀ a, c.2 = some a → okA a) (ha : l.length ≤ 30 ∧ ∀ x ∈ l, OkC x) :
    Calls Tryz.prog 16 #[.pointer (some ⟨sb, 0, none⟩), v] w (DoesQ base JS good sb jp (Ft O S sb b) (n + 30) (Commits apE apS anE anS s g (l.map chV)) w) := by
  have hsz := szs_acts l ha.2
  refine (commit_any HJ O S sb b n jp s g w H hgood hbw v (l.map chV) hl (by rw [List.length_map]; omega) hn (sz_tr30 _ hsz (by rw [List.length_map]; exact ha.1)) (fun he => trOf_prt he hok) (fun c hc => ?_)
    (fun he h6 => ⟨(HG.ap s _ hgood (bys_lt _)).2, Small.fold _ g hg fun c hc => ⟨((er_trA he).2 c hc).1, hsz c hc⟩⟩)).mono fun e w' h => ?_
  · obtain ⟨x, hx, rfl⟩ := List.mem_map.1 hc
    have := (ha.2 x hx).1
    show x.1.size ≤ maxLen
    unfold maxLen
    omega
  · obtain ⟨O', S', b', n', c, s', g', rfl, h2, h3, h4, h5, h6⟩ := h
    obtain ⟨h7, h8⟩ := commits_small HG hgood hg ha.2 h3
    exact ⟨O', S', b', n', c, s', g', rfl, h2, h7, h8, h3, by rw [List.length_map] at h4; have := ha.1; omega, h5, h6⟩
/-- What a store is, for a walk: keys short, values printable and small, what was there before untouched. -/
structure Live (base : Nat) (JS : (Nat → Prop) → World → Addr → Sg → Prop) (good : Sg → Prop) (sb : Nat) (jp : Addr) (M : Nat) (w0 w : World) (s : Sg) (g : ByteArray → Option A) : Prop where
  ex : ∃ O S b n, StoreAt base JS O S w sb jp b n s g ∧ n ≤ M
  good : good s
  small : Small g
  fine : Fine g
  below : Below base w0 w
theorem StoreAt.from (HJ : Jour base JS good tx apE apS anE anS) {O S : Nat → Prop} {w : World} {sb b n : Nat} {jp : Addr} {s : Sg} {g : ByteArray → Option A} (H : StoreAt base JS O S w sb jp b n s g) : ∀ k, Ft O S sb b k → base ≤ k := fun k hk => by
  rcases hk with h | h | h | h
  · exact (HJ.lt O w jp s H.jour k h).1
  · exact H.bs k h
  · rw [h]; exact H.bb
  · rw [h]; exact H.bsb
theorem below_chg {F : Nat → Prop} {w0 w w' : World} (h : Below base w0 w) (hbw : base ≤ w.heap.size) (hF : ∀ k, F k → base ≤ k) (hc : Chg F w w') : Below base w0 w' :=
  ⟨hc.1.os.trans h.os, hc.1.tape.trans h.tape, hc.1.output.trans h.output, Nat.le_trans h.size hc.1.size, fun k hk => (hc.2 k (by omega) (fun hf => by have := hF k hf; omega)).trans (h.block k hk)⟩
/-- Behind a call that leaves the store alone. -/
theorem Live.more (HJ : Jour base JS good tx apE apS anE anS) {sb M : Nat} {jp : Addr} {w0 w w' : World} {s : Sg} {g : ByteArray → Option A} (h : Live base JS good sb jp M w0 w s g) (hbw : base ≤ w.heap.size) (hB : Below w.heap.size w w') : Live base JS good sb jp M w0 w' s g where
  ex := by
    obtain ⟨O, S, b, n, h1, h2⟩ := h.ex
    exact ⟨O, _, b, n, h1.below HJ hbw hB, h2⟩
  good := h.good
  small := h.small
  fine := h.fine
  below := h.below.trans (hB.mono hbw)
end
end Go.Proofs.YtlogjpmdfimgdaaGreatDoor
namespace Go.Proofs.YtlogjpmdfimgdaaGreatDoor
open Go Go.RowKit Go.Own Go.Own.Fr Go.Maps Go.WideMaps
/-- What Keys answers, and how many. -/
def KeysL (g : ByteArray → Option A) (p : ByteArray → Bool) (w : World) (e : Ending) (w' : World) : Prop :=
  ∃ v ks, e = .returned v ∧ OwnS w' w.heap.size v ks ∧ RisesA g p ks ∧ ks.length ≤ 1000000 ∧ Below w.heap.size w w'
set_option maxRecDepth 100000 in
theorem keysL_any (p : ByteArray) (sb b n : Nat) (jp : Option Addr) (S : Nat → Prop) (g : ByteArray → Option A) (hn : n ≤ 1000000) (w : World) (hs : SAt w sb jp b) (h : MapA w S b n g) :
    Calls Tryz.prog 13 #[.pointer (some ⟨sb, 0, none⟩), .string p] w (KeysL g (begB · p) w) := by
  obtain ⟨_, f, hm, hf⟩ := h
  obtain ⟨W, hW⟩ : ∃ W, w.alloc (.cells #[.string p] 9) = W := ⟨_, rfl⟩
  have hB : Below w.heap.size w W := hW ▸ (Below.refl _ w).alloc (Nat.le_refl _) _
  have hp : W.heap[w.heap.size]? = some (.cells #[.string p] 9 (0, 0)) := hW ▸ heap_alloc_new w _
  have hsW := (hB.block sb hs.1).trans hs.2
  obtain ⟨c0, c1⟩ := cells2 hsW
  have HR := Lib.hid (risingP b n f (begB · p) w.heap.size W (hm.below hB) hn (fun s V hV => want30 s p w.heap.size V ((hV.block _ (Array.getElem?_eq_some_iff.1 hp).1).trans hp)))
  have HA : Hid (∀ ks, Rises f (begB · p) ks → RisesA g (begB · p) ks) := Lib.hid fun ks h => rises_A hf h
  have HB := Lib.hid hB
  clear hm hf hs hsW hp hB
  go_enter Tryz.func13, Tryz.ntmps13
  go_wp2_with fail
  refine HR.out.mono ?_
  rintro e w' ⟨v, ks, rfl, hO, ⟨hR, hlen⟩, hB2⟩
  have hQ : Hid (KeysL g (begB · p) w (.returned v) w') := Lib.hid ⟨v, ks, rfl, ownsRow_less hO HB.out.size, HA.out ks hR, hlen, HB.out.trans (hB2.mono HB.out.size)⟩
  clear hO hR hB2 hlen
  go_wp2
  go_ret
  exact hQ.out
section
variable {Sg : Type} {base : Nat} {JS : (Nat → Prop) → World → Addr → Sg → Prop} {good : Sg → Prop} {tx : Sg → List (List Nat)} {apE : Sg → List Nat → Int} {apS : Sg → List Nat → Sg} {anE : Sg → List (List Nat) → Int} {anS : Sg → List (List Nat) → Sg}
theorem cell_lt {w : World} {b k : Nat} {y : Value} (h : w.cell? ⟨b, k, none⟩ = some y) : b < w.heap.size := by
  rcases Nat.lt_or_ge b w.heap.size with h1 | h1
  · exact h1
  · simp [World.cell?, Array.getElem?_eq_none h1] at h
theorem CellR.below {w w' : World} {v : Value} {n : Nat} {cs : List Value} (h : CellR w v n cs) (hB : Below w.heap.size w w') : CellR w' v n cs := by
  obtain ⟨p, cap, h1, h2, h3, h4, h5⟩ := h
  refine ⟨p, cap, h1, h2, h3, h4, fun j u hu => ?_⟩
  obtain ⟨b, o, e, h6⟩ := h5 j u hu
  exact ⟨b, o, e, (hB.cell (p := ⟨b, o + j, none⟩) (cell_lt h6)).trans h6⟩
/-- The law's script with its last act: a row, and whether it is few. -/
theorem both_few (L : List Ac) (l : List (ByteArray × V × Bool)) (p : Option Addr) (cap : Nat) (lv : Value) (w : World) (hL : InAct w (.slice p L.length cap) L) (hl : InCh w lv l) (hLn : L.length ≤ 2513169434900) (hsz : ∀ a ∈ L, a.l.length ≤ 140737488355328 ∧ ∀ x ∈ a.l, x.1.size ≤ 140737488355328) (hlz : l.length ≤ 140737488355328 ∧ ∀ x ∈ l, x.1.size ≤ 140737488355328) :
    ∃ v1 W1 v2 W2, (Builtin.append_ #[22, 22] 22 #[.slice (some ⟨w.heap.size, 0, none⟩) 0 0, .slice p L.length cap]).run Tryz.prog (w.alloc (.cells #[] 43)) = .ok v1 W1 ∧
      (Builtin.append_ #[22, 22] 22 #[v1, .slice (some ⟨W1.heap.size, 0, none⟩) 1 1]).run Tryz.prog (W1.alloc (.cells #[lv, .bool false, .int .i64 0, .int .u64 0, .int .i64 0] 43)) = .ok v2 W2 ∧ Below w.heap.size w W2 ∧
      Calls Tryz.prog 6 #[v2] W2 (FewsQ (L ++ [⟨l, false, 0, 0, 0⟩]) W2) := by
  have hb0 : Below w.heap.size w (w.alloc (.cells #[] 43)) := (Below.refl _ w).alloc (Nat.le_refl _) _
  obtain ⟨cs, hcs0, hrow⟩ := hL.cells
  have hcs := hcs0.below hb0
  have hlen : cs.length = L.length * 5 := by obtain ⟨_, _, _, _, h, _⟩ := hcs; exact h
  obtain ⟨v1, W1, hr1, hO1, hB1⟩ := appC_fresh (W := w.alloc (.cells #[] 43)) (B := w.heap.size) (g := w.heap.size) (Nat.le_refl _) (heap_alloc_new w _) hcs (by omega) (by simp) 22
  have hbW1 : Below w.heap.size w W1 := hb0.trans (hB1.mono (by simp))
  have hbA : Below W1.heap.size W1 (W1.alloc (.cells #[lv, .bool false, .int .i64 0, .int .u64 0, .int .i64 0] 43)) := (Below.refl _ W1).alloc (Nat.le_refl _) _
  have hO1' : OwnR5 (W1.alloc (.cells #[lv, .bool false, .int .i64 0, .int .u64 0, .int .i64 0] 43)) w.heap.size v1 L.length cs := hO1.alloc _
  obtain ⟨v2, W2, hr2, hO2, hG2⟩ := appC_own hO1' (a := ⟨W1.heap.size, 0, none⟩) (ds := [lv, .bool false, .int .i64 0, .int .u64 0, .int .i64 0]) rfl (fun j u hu => by
      have hadd : (⟨W1.heap.size, 0, none⟩ : Addr).add j = ⟨W1.heap.size, 0 + j, none⟩ := by unfold Addr.add; split <;> simp_all
      rw [hadd, Nat.zero_add, cell_at (heap_alloc_new W1 _)]
      simpa using hu) (fun u hu => by
      simp at hu
      rcases hu with rfl | rfl | rfl | rfl | rfl
      · exact inCh_one hl
      all_goals rfl) (by omega) (by have := hbW1.size; simp; omega) 22
  have hbW2 : Below w.heap.size w W2 := (hbW1.trans (hbA.mono hbW1.size)).grown hG2 (by have := hbW1.size; simp; omega) (fun k hk => (hO1.lt k hk).1)
  refine ⟨v1, W1, v2, W2, hr1, hr2, hbW2, ?_⟩
  have hact : InAct W2 v2 (L ++ [⟨l, false, 0, 0, 0⟩]) := OwnR5.acts (w := w) hO2 rfl hlen hrow hl (fun u y h => h.below hbW2)
  exact fews_any _ v2 W2 hact (by simp; omega) (fun a ha => by
    rcases List.mem_append.1 ha with ha | ha
    · have := hsz a ha
      exact ⟨by omega, this.2⟩
    · obtain rfl := List.mem_singleton.1 ha
      exact ⟨by have := hlz.1; show l.length ≤ _; omega, hlz.2⟩)
end
end Go.Proofs.YtlogjpmdfimgdaaGreatDoor

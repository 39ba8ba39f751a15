/- Parse, Build and Open of blob, given what Seal and Open of the layer below answer: by contract. No condition but the sizes. -/
import Derived.Test.YtfamoakicgmfgaaZ3
namespace Go.Proofs.Ytfamoakicgmfgaa.Lb
open Go.RowKit Go.Own.Lb
theorem res2 {fn : Func} {p u : Tmp} {ty : TypeId} (h : fn.results = #[.cell p ty, .tmp u]) (tmps : Array Value) (P : Program) (w : World) (r : Nat) (x y : Value) (hp : tmps[p]? = some (.pointer (some ⟨r, 0, none⟩))) (hu : tmps[u]? = some y) (hx : (loadVar ty ⟨r, 0, none⟩).run P w = .ok x w) :
    (results fn tmps).run P w = .ok (.tuple #[x, y]) w := by
  simp [results, h, asAddr, hp, hu, hx]
def parseV (o : Option (Hd × ByteArray)) : Value := match o with
  | some (h, _) => .tuple #[hdV h, .int .i64 0]
  | none => .tuple #[hdV noHd, .int .i64 2]
set_option maxRecDepth 100000 in
set_option maxHeartbeats 2000000 in
theorem parse_any (b : ByteArray) (hs : b.size ≤ 1099511627776) (w : World) :
    Calls Try.prog 8 #[.string b] w fun e w' => e = .returned (parseV (partS b)) ∧ Below w.heap.size w w' := by
  obtain ⟨W0, hW0⟩ : ∃ W0, w.alloc (.cells #[.string { data := #[] }, .int .i64 0, .string { data := #[] }] 23) = W0 := ⟨_, rfl⟩
  have hb0 : Below w.heap.size w W0 := hW0 ▸ (Below.refl _ w).alloc (Nat.le_refl _) _
  have hR0 : W0.heap[w.heap.size]? = some (.cells #[.string { data := #[] }, .int .i64 0, .string { data := #[] }] 23 (0, 0)) := hW0 ▸ heap_alloc_new w _
  have HP := Lib.hid (parted_any b hs W0)
  obtain ⟨o, ho⟩ : ∃ o, partS b = o := ⟨_, rfl⟩
  rw [ho] at HP ⊢
  have HR0 := Lib.hid hR0
  have HB0 := Lib.hid hb0
  have HW0 := Lib.hid hW0
  have hlt : w.heap.size < W0.heap.size := by rw [← hW0]; simp
  have HLT := Lib.hid hlt
  clear hs ho hR0 hb0 hW0 hlt
  rcases o with _ | ⟨⟨i, v, n⟩, r⟩
  · unfold partV parseV hdV noHd at *
    simp only at HP ⊢
    go_enter Try.func8, Try.ntmps8
    go_wp2_with fail
    rw [HW0.out]
    go_wp2_with fail
    refine HP.out.mono ?_
    rintro e w1 ⟨rfl, hb1⟩
    have HR1 := Lib.hid (keep_b hb1 HR0.out)
    have HB1 := Lib.hid (HB0.out.trans (hb1.mono HB0.out.size))
    clear hb1
    have c0 := fun o => cell_of (keep_b ((Below.refl _ w1).alloc (Nat.le_refl _) o) HR1.out) 0
    have c1 := fun o => cell_of (keep_b ((Below.refl _ w1).alloc (Nat.le_refl _) o) HR1.out) 1
    have c2 := fun o => cell_of (keep_b ((Below.refl _ w1).alloc (Nat.le_refl _) o) HR1.out) 2
    have f0 := fun o => free_of (keep_b ((Below.refl _ w1).alloc (Nat.le_refl _) o) HR1.out) 0
    have f1 := fun o => free_of (keep_b ((Below.refl _ w1).alloc (Nat.le_refl _) o) HR1.out) 1
    have f2 := fun o => free_of (keep_b ((Below.refl _ w1).alloc (Nat.le_refl _) o) HR1.out) 2
    go_wp2
    exact bodyPost_ret (v := .tuple #[.agg #[.string { data := #[] }, .int .i64 0, .string { data := #[] }], .int .i64 2]) (res2 Try.results8 _ _ _ w.heap.size _ _ rfl rfl (load3 (set3_at (keep_b ((Below.refl _ w1).alloc (Nat.le_refl _) _) HR1.out) _ _ _) (by kernel_rfl) (by kernel_rfl))) rfl ⟨rfl, set3_below _ _ _ (Nat.le_refl _) (HB1.out.trans ((Below.refl _ w1).alloc HB1.out.size _))⟩
  · unfold partV parseV hdV at *
    simp only at HP ⊢
    go_enter Try.func8, Try.ntmps8
    go_wp2_with fail
    rw [HW0.out]
    go_wp2_with fail
    refine HP.out.mono ?_
    rintro e w1 ⟨rfl, hb1⟩
    have HR1 := Lib.hid (keep_b hb1 HR0.out)
    have HB1 := Lib.hid (HB0.out.trans (hb1.mono HB0.out.size))
    clear hb1
    have c0 := fun o => cell_of (keep_b ((Below.refl _ w1).alloc (Nat.le_refl _) o) HR1.out) 0
    have c1 := fun o => cell_of (keep_b ((Below.refl _ w1).alloc (Nat.le_refl _) o) HR1.out) 1
    have c2 := fun o => cell_of (keep_b ((Below.refl _ w1).alloc (Nat.le_refl _) o) HR1.out) 2
    have f0 := fun o => free_of (keep_b ((Below.refl _ w1).alloc (Nat.le_refl _) o) HR1.out) 0
    have f1 := fun o => free_of (keep_b ((Below.refl _ w1).alloc (Nat.le_refl _) o) HR1.out) 1
    have f2 := fun o => free_of (keep_b ((Below.refl _ w1).alloc (Nat.le_refl _) o) HR1.out) 2
    go_wp2
    exact bodyPost_ret (v := .tuple #[.agg #[.string i, .int .i64 v, .string n], .int .i64 0]) (res2 Try.results8 _ _ _ w.heap.size _ _ rfl rfl (load3 (set3_at (keep_b ((Below.refl _ w1).alloc (Nat.le_refl _) _) HR1.out) _ _ _) (by kernel_rfl) (by kernel_rfl))) rfl ⟨rfl, set3_below _ _ _ (Nat.le_refl _) (HB1.out.trans ((Below.refl _ w1).alloc HB1.out.size _))⟩
/-- A name has two bytes a rune at most. -/
theorem nm_bytes : ∀ (l : List Nat) (f : Bool) (n : Nat), nm f l = some n → l.length ≤ 2 * n
  | [], _, _, _ => Nat.zero_le _
  | [c], f, n, h => by
    unfold nm at h
    split at h
    · have := Option.some.inj h; simp; omega
    · cases h
  | c :: d :: r, f, n, h => by
    unfold nm at h
    split at h
    · obtain ⟨m, hm, rfl⟩ := Option.map_eq_some_iff.1 h
      have := nm_bytes (d :: r) false m hm
      simp at this ⊢; omega
    · split at h
      · obtain ⟨m, hm, rfl⟩ := Option.map_eq_some_iff.1 h
        have := nm_bytes r false m hm
        simp; omega
      · cases h
theorem runes_bytes {s : ByteArray} (h : 0 < runesN s) : s.size ≤ 64 := by
  unfold runesN at h
  cases hn : nm true (bys s) with
  | none => rw [hn] at h; simp [runesOf] at h
  | some n =>
    rw [hn] at h
    have h1 := nm_bytes _ _ _ hn
    rw [bys_length] at h1
    unfold runesOf at h
    simp only at h
    split at h <;> omega
theorem text_len {L : List P2} (h : rightP L = true) : (mkS (textP L)).size ≤ 784 := by
  obtain ⟨h8, hf, _⟩ := (rightP_iff L).1 h
  rw [mkS_size]
  have h1 := encs_le (sortP L) (fun x hx => hf x ((sortP_perm L).mem_iff.1 hx))
  rw [sortP_length] at h1
  show (encs (sortP L)).length ≤ _
  omega
/-- A right head's parts. -/
theorem right_parts {h : Hd} (hr : rightH h = true) : h.id.size ≤ 64 ∧ 1 ≤ h.ver ∧ h.ver ≤ 8 ∧ h.nonce.size = 12 := by
  unfold rightH at hr
  simp only [Bool.and_eq_true, decide_eq_true_eq] at hr
  exact ⟨runes_bytes hr.1.1.1, hr.1.1.2, hr.1.2, hr.2⟩
/-- What the layer below answers, the program's. -/
structure Under (sA : ByteArray → ByteArray → ByteArray → ByteArray → ByteArray) (oA : ByteArray → ByteArray → ByteArray → ByteArray → ByteArray × Int) : Prop where
  size : ∀ k n b t, (sA k n b t).size = t.size + 16
  osize : ∀ k n b t, (oA k n b t).1.size ≤ t.size
  seal_ : ∀ (k n b t : ByteArray) w, k.size = 32 → n.size = 12 → b.size ≤ 65536 → t.size ≤ 1024 → Calls Try.prog 13 #[.string k, .string n, .string b, .string t] w fun e w' => e = .returned (.tuple #[.string (sA k n b t), .int .i64 0]) ∧ Below w.heap.size w w'
  opn : ∀ (k n b t : ByteArray) w, k.size = 32 → n.size = 12 → b.size ≤ 65536 → 16 ≤ t.size → t.size ≤ 1040 → Calls Try.prog 15 #[.string k, .string n, .string b, .string t] w fun e w' => e = .returned (.tuple #[.string (oA k n b t).1, .int .i64 (oA k n b t).2]) ∧ Below w.heap.size w w'
variable {sA : ByteArray → ByteArray → ByteArray → ByteArray → ByteArray} {oA : ByteArray → ByteArray → ByteArray → ByteArray → ByteArray × Int}
open Classical in
/-- What Build answers. -/
noncomputable def buildA (sA : ByteArray → ByteArray → ByteArray → ByteArray → ByteArray) (k : ByteArray) (h : Hd) (L : List P2) (t : ByteArray) : ByteArray × Int :=
  if rightP L = true ∧ rightH h = true ∧ k.size = 32 then (if t.size ≤ 1024 then (laidH h ++ sA k h.nonce (laidH h ++ mkS (textP L)) t, 0) else ({ data := #[] }, 3)) else ({ data := #[] }, 2)
open Classical in
/-- What Open answers. -/
noncomputable def openA (oA : ByteArray → ByteArray → ByteArray → ByteArray → ByteArray × Int) (k b : ByteArray) (L : List P2) : ByteArray × Int :=
  match partS b with
  | some (h, r) => if rightP L = true ∧ k.size = 32 then oA k h.nonce (laidH h ++ mkS (textP L)) r else ({ data := #[] }, 2)
  | none => ({ data := #[] }, 2)
end Go.Proofs.Ytfamoakicgmfgaa.Lb

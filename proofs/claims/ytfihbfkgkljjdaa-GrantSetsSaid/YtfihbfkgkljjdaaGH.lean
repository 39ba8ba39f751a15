/- Who may: the program's Any (through the library's slices.ContainsFunc) and the document's, by contract. No condition but the sizes. -/
import Derived.Test.YtfihbfkgkljjdaaGC
namespace Go.Proofs.Ytfihbfkgkljjdaa
open Go.RowKit Go.Own Go.Maps Go.WideMaps
/-- A row of grants in memory. -/
def RowG (w : World) (v : Value) (l : List Gr) : Prop := ∃ p cap, v = .slice p l.length cap ∧ l.length ≤ cap ∧
  ∀ (j : Nat) g, l[j]? = some g → ∃ b o q c, p = some ⟨b, o, none⟩ ∧ w.cell? ⟨b, o + j * 6, none⟩ = some (.int .i64 g.id) ∧ w.cell? ⟨b, o + j * 6 + 1, none⟩ = some (.string g.who) ∧ w.cell? ⟨b, o + j * 6 + 2, none⟩ = some (.string g.ret) ∧ w.cell? ⟨b, o + j * 6 + 3, none⟩ = some (.int .i64 g.ops) ∧ w.cell? ⟨b, o + j * 6 + 4, none⟩ = some (.slice q g.need.length c) ∧ w.cell? ⟨b, o + j * 6 + 5, none⟩ = some (.bool g.eq) ∧ PsC w (.slice q g.need.length c) g.need
theorem RowG.below {w w' : World} {v : Value} {l : List Gr} (h : RowG w v l) (hb : Below w.heap.size w w') : RowG w' v l := by
  obtain ⟨p, cap, e, hle, hc⟩ := h
  refine ⟨p, cap, e, hle, fun j g hg => ?_⟩
  obtain ⟨b, o, q, c, h1, k0, k1, k2, k3, k4, k5, hP⟩ := hc j g hg
  exact ⟨b, o, q, c, h1, cellOld hb k0, cellOld hb k1, cellOld hb k2, cellOld hb k3, cellOld hb k4, cellOld hb k5, hP.below hb⟩
theorem RowG.nil (w : World) : RowG w (.slice none 0 0) [] := ⟨none, 0, rfl, Nat.le_refl _, fun j g h => by simp at h⟩
theorem RowG.at {w : World} {p : Option Addr} {n cap : Nat} {l : List Gr} (h : RowG w (.slice p n cap) l) {j : Nat} {g : Gr} (hg : l[j]? = some g) :
    n = l.length ∧ ∃ b o q c, p = some ⟨b, o, none⟩ ∧ w.cell? ⟨b, o + j * 6, none⟩ = some (.int .i64 g.id) ∧ w.cell? ⟨b, o + j * 6 + 1, none⟩ = some (.string g.who) ∧ w.cell? ⟨b, o + j * 6 + 2, none⟩ = some (.string g.ret) ∧ w.cell? ⟨b, o + j * 6 + 3, none⟩ = some (.int .i64 g.ops) ∧ w.cell? ⟨b, o + j * 6 + 4, none⟩ = some (.slice q g.need.length c) ∧ w.cell? ⟨b, o + j * 6 + 5, none⟩ = some (.bool g.eq) ∧ PsC w (.slice q g.need.length c) g.need := by
  obtain ⟨p', cap', e, hle, hc⟩ := h
  obtain ⟨rfl, rfl, rfl⟩ : p = p' ∧ n = l.length ∧ cap = cap' := by simpa using e
  exact ⟨rfl, hc j g hg⟩
noncomputable def anyB (l : List Gr) (owner who : ByteArray) (op : Int) (c : List P2) : Bool := (decide (who = owner) && decide (who.size ≠ 0) && opB op && rightP c) || l.any fun g => allowB g who op c
set_option maxRecDepth 100000 in
theorem closure_any (g : Gr) (hs : g.small) (v : Value) (who : ByteArray) (op : Int) (c : List P2) (hc : fitsL c) (q : Option Addr) (qcap bw bo bc : Nat) (w : World) (hg : GrAt w v g) (hq : PsC w (.slice q c.length qcap) c)
    (h1 : w.cell? ⟨bw, 0, none⟩ = some (.string who)) (h2 : w.cell? ⟨bo, 0, none⟩ = some (.int .i64 op)) (h3 : w.cell? ⟨bc, 0, none⟩ = some (.slice q c.length qcap)) :
    Calls Try.prog 28 #[v, .pointer (some ⟨bw, 0, none⟩), .pointer (some ⟨bo, 0, none⟩), .pointer (some ⟨bc, 0, none⟩)] w fun e w' => e = .returned (.bool (allowB g who op c)) ∧ Below w.heap.size w w' := by
  have HA := Lib.hid (fun W hW hQ => allows_any g hs v who op c hc q qcap W hW hQ)
  have HG := Lib.hid hg
  have HQ := Lib.hid hq
  obtain ⟨p, cap, rfl, hP⟩ := hg
  obtain ⟨id, gw, ret, ops, need, eq⟩ := g
  obtain ⟨b, hb3⟩ : ∃ b, allowB ⟨id, gw, ret, ops, need, eq⟩ who op c = b := ⟨_, rfl⟩
  rw [hb3] at HA ⊢
  simp only [grV] at HA HG ⊢
  obtain ⟨n, hn⟩ : ∃ n, need.length = n := ⟨_, rfl⟩
  obtain ⟨m, hm⟩ : ∃ n, c.length = n := ⟨_, rfl⟩
  rw [hn] at HA HG ⊢
  rw [hm] at HA HQ h3
  clear hP hq hb3 hn hm hs hc
  have hb : Hid (∀ o : Obj, Below w.heap.size w (w.alloc o)) := Lib.hid (fun o => (Below.refl w.heap.size w).alloc (Nat.le_refl _) o)
  have k1 := cellOld (hb.out (.cells #[.int .i64 id, .string gw, .string ret, .int .i64 ops, .slice p n cap, .bool eq] 29)) h1
  have k2 := cellOld (hb.out (.cells #[.int .i64 id, .string gw, .string ret, .int .i64 ops, .slice p n cap, .bool eq] 29)) h2
  have k3 := cellOld (hb.out (.cells #[.int .i64 id, .string gw, .string ret, .int .i64 ops, .slice p n cap, .bool eq] 29)) h3
  go_enter Try.func28, Try.ntmps28
  go_wp2_with fail
  refine (HA.out _ (HG.out.below (hb.out _)) (HQ.out.below (hb.out _))).mono ?_
  rintro e w1 ⟨rfl, hw⟩
  replace hw := Lib.hid (box_below hw)
  go_wp2
  go_ret
  exact ⟨rfl, hw.out⟩
/-- The first grant of a row that allows it: its place, or -1. -/
noncomputable def firstG (l : List Gr) (who : ByteArray) (op : Int) (c : List P2) : Int := match l.findIdx? (fun g => allowB g who op c) with | some i => (i : Int) | none => -1
theorem first_at {l : List Gr} {who : ByteArray} {op : Int} {c : List P2} {i : Nat} {g : Gr} (hg : l[i]? = some g) (ha : allowB g who op c = true) (hb : ∀ x ∈ l.take i, allowB x who op c = false) : firstG l who op c = (i : Int) := by
  have h : l.findIdx? (fun g => allowB g who op c) = some i := by
    rw [List.findIdx?_eq_some_iff_getElem]
    obtain ⟨hi, he⟩ := List.getElem?_eq_some_iff.1 hg
    refine ⟨hi, by rw [he]; exact ha, fun j hj => ?_⟩
    have := hb l[j] (List.mem_iff_getElem.2 ⟨j, by simp; omega, by simp⟩)
    simp [this]
  simp only [firstG, h]
theorem first_none {l : List Gr} {who : ByteArray} {op : Int} {c : List P2} (hb : ∀ x ∈ l, allowB x who op c = false) : firstG l who op c = -1 := by
  have h : l.findIdx? (fun g => allowB g who op c) = none := by
    rw [List.findIdx?_eq_none_iff]
    exact hb
  simp only [firstG, h]
theorem first_any (l : List Gr) (who : ByteArray) (op : Int) (c : List P2) : decide (0 ≤ firstG l who op c) = l.any fun g => allowB g who op c := by
  unfold firstG
  cases h : l.findIdx? (fun g => allowB g who op c) with
  | none =>
    rw [List.findIdx?_eq_none_iff] at h
    have : (l.any fun g => allowB g who op c) = false := by
      rw [List.any_eq_false]; intro x hx; simp [h x hx]
    rw [this]; rfl
  | some i =>
    rw [List.findIdx?_eq_some_iff_getElem] at h
    obtain ⟨hi, ha, _⟩ := h
    have : (l.any fun g => allowB g who op c) = true := List.any_eq_true.2 ⟨l[i], List.getElem_mem hi, ha⟩
    rw [this]; simp
set_option maxRecDepth 100000 in
set_option maxHeartbeats 2000000 in
theorem index_any (l : List Gr) (hl : l.length ≤ 1000000) (hs : ∀ g ∈ l, g.small) (p : Option Addr) (cap : Nat) (who : ByteArray) (op : Int) (c : List P2) (hc : fitsL c) (q : Option Addr) (qcap bw bo bc : Nat) (w : World) (hr : RowG w (.slice p l.length cap) l) (hq : PsC w (.slice q c.length qcap) c)
    (h1 : w.cell? ⟨bw, 0, none⟩ = some (.string who)) (h2 : w.cell? ⟨bo, 0, none⟩ = some (.int .i64 op)) (h3 : w.cell? ⟨bc, 0, none⟩ = some (.slice q c.length qcap)) :
    Calls Try.prog 35 #[.slice p l.length cap, .func (.func 28) #[] #[.pointer (some ⟨bw, 0, none⟩), .pointer (some ⟨bo, 0, none⟩), .pointer (some ⟨bc, 0, none⟩)]] w fun e w' => e = .returned (.int .i64 (firstG l who op c)) ∧ Below w.heap.size w w' := by
  have HC := Lib.hid (fun g (hg : g ∈ l) v W a1 a2 a3 a4 a5 => closure_any g (hs g hg) v who op c hc q qcap bw bo bc W a1 a2 a3 a4 a5)
  have HR := Lib.hid hr
  have HQ := Lib.hid hq
  have H1 := Lib.hid h1
  have H2 := Lib.hid h2
  have H3 := Lib.hid h3
  obtain ⟨ans, hans⟩ : ∃ a, firstG l who op c = a := ⟨_, rfl⟩
  have HA : Hid (∀ (i : Nat) (g : Gr), l[i]? = some g → allowB g who op c = true → (∀ x ∈ l.take i, allowB x who op c = false) → ans = (i : Int)) := Lib.hid (fun i g a1 a2 a3 => by rw [← hans]; exact first_at a1 a2 a3)
  have HN : Hid ((∀ x ∈ l, allowB x who op c = false) → ans = -1) := Lib.hid (fun a => by rw [← hans]; exact first_none a)
  rw [hans]
  obtain ⟨n, hn⟩ : ∃ n, l.length = n := ⟨_, rfl⟩
  have HL := Lib.hid hn
  rw [hn] at HR hl ⊢
  clear hr hq h1 h2 h3 hans hn hs hc
  go_enter Try.func35, Try.ntmps35
  go_wp2
  go_loopw [5, 8] (fun _ i wr => ∃ k : Nat, k ≤ n ∧ i = .int .i64 (k : Int) ∧ Hid (∀ x ∈ l.take k, allowB x who op c = false) ∧ Hid (Below w.heap.size w wr)) (fun _ i _ => n - (intOf i).toNat)
  case atStart => exact ⟨0, Nat.zero_le _, rfl, Lib.hid (fun x hx => by simp at hx), Lib.hid (Below.refl _ _)⟩
  case round =>
    obtain ⟨k, hk, rfl, HI, HB⟩ := hrel
    by_cases hlt : k < n
    · obtain ⟨g, hg⟩ : ∃ g, l[k]? = some g := ⟨_, List.getElem?_eq_getElem (by rw [HL.out]; exact hlt)⟩
      obtain ⟨hcl, b, o, q2, c2, rfl, k0, k1, k2, k3, k4, k5, hP⟩ := (HR.out.below HB.out).at hg
      clear hcl
      have hki : (k : Int) < n := by omega
      have HCg := Lib.hid (HC.out g (List.mem_of_getElem? hg) (grV g q2 c2) wr ⟨q2, c2, rfl, hP⟩ (HQ.out.below HB.out) (cellOld HB.out H1.out) (cellOld HB.out H2.out) (cellOld HB.out H3.out))
      have HG := Lib.hid hg
      have HAk := Lib.hid (fun h => HA.out k g hg h HI.out)
      have HIk : Hid (allowB g who op c = false → ∀ x ∈ l.take (k + 1), allowB x who op c = false) := Lib.hid (fun h x hx => by
        have hkl := (List.getElem?_eq_some_iff.1 hg).1
        rw [List.take_add_one, hg] at hx
        rcases List.mem_append.1 hx with h4 | h4
        · exact HI.out x h4
        · simp at h4; rw [h4]; exact h)
      obtain ⟨id, gw, ret, ops, need, eq⟩ := g
      simp only [grV] at HCg k0 k1 k2 k3 k4 k5
      obtain ⟨r, hr⟩ : ∃ r, allowB ⟨id, gw, ret, ops, need, eq⟩ who op c = r := ⟨_, rfl⟩
      obtain ⟨nn, hnn⟩ : ∃ m, need.length = m := ⟨_, rfl⟩
      simp only [hr] at HCg HAk HIk
      simp only [hnn] at HCg k4
      clear hg hP hr hnn
      cases r
      · go_wp2_with fail
        refine HCg.out.mono ?_
        rintro e w1 ⟨rfl, hw⟩
        have HB2 := Lib.hid (HB.out.trans (hw.mono HB.out.size))
        clear hw k0 k1 k2 k3 k4 k5
        go_wp2
        go_roundw
        case rel => exact ⟨k + 1, by omega, by simp, Lib.hid (HIk.out trivial), HB2⟩
        case measure => simp [intOf]; omega
      · have he := HAk.out rfl
        subst he
        go_wp2_with fail
        refine HCg.out.mono ?_
        rintro e w1 ⟨rfl, hw⟩
        have HB2 := Lib.hid (HB.out.trans (hw.mono HB.out.size))
        clear hw k0 k1 k2 k3 k4 k5
        go_wp2
        go_ret
        exact ⟨rfl, HB2.out⟩
    · have hkn : k = n := by omega
      subst hkn
      have he : ans = -1 := HN.out (fun x hx => HI.out x (by rw [List.take_of_length_le (by rw [HL.out]; exact Nat.le_refl _)]; exact hx))
      subst he
      go_wp2
      go_ret
      exact ⟨rfl, HB.out⟩
set_option maxRecDepth 100000 in
theorem contains_any (l : List Gr) (hl : l.length ≤ 1000000) (hs : ∀ g ∈ l, g.small) (p : Option Addr) (cap : Nat) (who : ByteArray) (op : Int) (c : List P2) (hc : fitsL c) (q : Option Addr) (qcap bw bo bc : Nat) (w : World) (hr : RowG w (.slice p l.length cap) l) (hq : PsC w (.slice q c.length qcap) c)
    (h1 : w.cell? ⟨bw, 0, none⟩ = some (.string who)) (h2 : w.cell? ⟨bo, 0, none⟩ = some (.int .i64 op)) (h3 : w.cell? ⟨bc, 0, none⟩ = some (.slice q c.length qcap)) :
    Calls Try.prog 27 #[.slice p l.length cap, .func (.func 28) #[] #[.pointer (some ⟨bw, 0, none⟩), .pointer (some ⟨bo, 0, none⟩), .pointer (some ⟨bc, 0, none⟩)]] w fun e w' => e = .returned (.bool (l.any fun g => allowB g who op c)) ∧ Below w.heap.size w w' := by
  have HI := Lib.hid (index_any l hl hs p cap who op c hc q qcap bw bo bc w hr hq h1 h2 h3)
  have hf := first_any l who op c
  obtain ⟨x, hx⟩ : ∃ x, firstG l who op c = x := ⟨_, rfl⟩
  obtain ⟨r, hr2⟩ : ∃ r, (l.any fun g => allowB g who op c) = r := ⟨_, rfl⟩
  rw [hx] at HI hf
  rw [hr2] at hf ⊢
  obtain ⟨n, hn⟩ : ∃ n, l.length = n := ⟨_, rfl⟩
  rw [hn] at HI ⊢
  clear hr hq h1 h2 h3 hx hr2 hs hc hn hl
  go_enter Try.func27, Try.ntmps27
  go_wp2_with fail
  refine HI.out.mono ?_
  rintro e w1 ⟨rfl, hw⟩
  replace hw := Lib.hid hw
  go_wp2
  go_ret
  exact ⟨rfl, hw.out⟩
set_option maxRecDepth 100000 in
set_option maxHeartbeats 4000000 in
theorem any_any (l : List Gr) (hl : l.length ≤ 1000000) (hs : ∀ g ∈ l, g.small) (p : Option Addr) (cap : Nat) (owner who : ByteArray) (op : Int) (c : List P2) (hc : fitsL c) (q : Option Addr) (qcap : Nat) (w : World) (hr : RowG w (.slice p l.length cap) l) (hq : PsC w (.slice q c.length qcap) c) :
    Calls Try.prog 15 #[.slice p l.length cap, .string owner, .string who, .int .i64 op, .slice q c.length qcap] w fun e w' => e = .returned (.bool (anyB l owner who op c)) ∧ Below w.heap.size w w' := by
  have HCO := Lib.hid (fun bw bo bc W a1 a2 a3 a4 a5 => contains_any l hl hs p cap who op c hc q qcap bw bo bc W a1 a2 a3 a4 a5)
  have HCX := Lib.hid (fun W a1 => isContext_any c q qcap hc W a1)
  have HO := Lib.hid (isOp_any op)
  have HR := Lib.hid hr
  have HQ := Lib.hid hq
  have HWE := Lib.hid (ret_empty who)
  obtain ⟨r, hr2⟩ : ∃ r, (l.any fun g => allowB g who op c) = r := ⟨_, rfl⟩
  obtain ⟨b3, hb3⟩ : ∃ b, opB op = b := ⟨_, rfl⟩
  obtain ⟨b4, hb4⟩ : ∃ b, rightP c = b := ⟨_, rfl⟩
  obtain ⟨b2, hb2⟩ : ∃ b, decide (who.size = 0) = b := ⟨_, rfl⟩
  obtain ⟨ans, hans⟩ : ∃ b, anyB l owner who op c = b := ⟨_, rfl⟩
  have HZ : Hid (ans = (decide (who = owner) && !b2 && b3 && b4 || r)) := Lib.hid (by rw [← hans, ← hr2, ← hb3, ← hb4, ← hb2]; simp only [anyB]; congr 4; by_cases h : who.size = 0 <;> simp [h])
  rw [hr2] at HCO
  rw [hb3] at HO
  rw [hb4] at HCX
  rw [hb2] at HWE
  rw [hans]
  obtain ⟨n, hn⟩ : ∃ n, l.length = n := ⟨_, rfl⟩
  obtain ⟨m, hm⟩ : ∃ n, c.length = n := ⟨_, rfl⟩
  rw [hn] at HR HCO ⊢
  rw [hm] at HQ HCO HCX ⊢
  clear hr hq hl hs hc hr2 hb3 hb4 hb2 hans hn hm
  have hb : Hid (Below w.heap.size w (((w.alloc (.cells #[.string who] 9)).alloc (.cells #[.int .i64 op] 3)).alloc (.cells #[.slice q m qcap] 23))) := Lib.hid ((((Below.refl w.heap.size w).alloc (Nat.le_refl _) _).alloc (by simp) _).alloc (by simp; omega) _)
  obtain ⟨w0, hw0⟩ : ∃ w0, ((w.alloc (.cells #[.string who] 9)).alloc (.cells #[.int .i64 op] 3)).alloc (.cells #[.slice q m qcap] 23) = w0 := ⟨_, rfl⟩
  have C1 : Hid (w0.cell? ⟨w.heap.size, 0, none⟩ = some (.string who)) := Lib.hid (by
    rw [← hw0]
    refine cellOld ((Below.refl _ _).alloc (Nat.le_refl _) _) (cellOld ((Below.refl _ _).alloc (Nat.le_refl _) _) ?_)
    exact cell_new w #[.string who] 9 0)
  have C2 : Hid (w0.cell? ⟨w.heap.size + 1, 0, none⟩ = some (.int .i64 op)) := Lib.hid (by
    rw [← hw0]
    refine cellOld ((Below.refl _ _).alloc (Nat.le_refl _) _) ?_
    have := cell_new (w.alloc (.cells #[.string who] 9)) #[.int .i64 op] 3 0
    rwa [World.size_alloc] at this)
  have C3 : Hid (w0.cell? ⟨w.heap.size + 1 + 1, 0, none⟩ = some (.slice q m qcap)) := Lib.hid (by
    rw [← hw0]
    have := cell_new ((w.alloc (.cells #[.string who] 9)).alloc (.cells #[.int .i64 op] 3)) #[.slice q m qcap] 23 0
    rwa [World.size_alloc, World.size_alloc] at this)
  rw [hw0] at hb
  have HW0 := Lib.hid hw0
  clear hw0
  have HE : Hid ((who = owner) ∨ (who.toList == owner.toList) = false ∧ decide (who = owner) = false) := Lib.hid (by
    by_cases h : who = owner
    · exact .inl h
    · exact .inr ⟨str_ne h, by simp [h]⟩)
  rcases HE.out with rfl | ⟨he, hd⟩
  ·
    have hE := HWE.out
    cases b2
    ·
      cases b3
      ·
        go_enter Try.func15, Try.ntmps15
        go_wp2_with fail
        rw [HW0.out]
        refine (HO.out _).mono ?_
        rintro e w1 ⟨rfl, hw⟩
        cases hw
        go_wp2_with fail
        refine (HCO.out _ _ _ w0 (HR.out.below hb.out) (HQ.out.below hb.out) C1.out C2.out C3.out).mono ?_
        rintro e w2 ⟨rfl, hw2⟩
        replace hw2 := Lib.hid (Below.trans hb.out (hw2.mono (Below.size hb.out)))
        go_wp2
        go_ret
        exact ⟨by rw [HZ.out]; simp, hw2.out⟩
      ·
        go_enter Try.func15, Try.ntmps15
        go_wp2_with fail
        rw [HW0.out]
        refine (HO.out _).mono ?_
        rintro e w1 ⟨rfl, hw⟩
        cases hw
        have k2 := C2.out
        have k3 := C3.out
        go_wp2_with fail
        refine (HCX.out _ (HQ.out.below hb.out)).mono ?_
        rintro e w1 ⟨rfl, hw⟩
        have K1 := Lib.hid (cellOld hw C1.out)
        have K2 := Lib.hid (cellOld hw C2.out)
        have K3 := Lib.hid (cellOld hw C3.out)
        clear k2 k3
        have hb1 := Lib.hid (hb.out.trans (hw.mono hb.out.size))
        clear hw
        cases b4
        ·
          go_wp2_with fail
          refine (HCO.out _ _ _ w1 (HR.out.below hb1.out) (HQ.out.below hb1.out) K1.out K2.out K3.out).mono ?_
          rintro e w2 ⟨rfl, hw2⟩
          replace hw2 := Lib.hid (Below.trans hb1.out (hw2.mono (Below.size hb1.out)))
          go_wp2
          go_ret
          exact ⟨by rw [HZ.out]; simp, hw2.out⟩
        ·
          go_wp2
          go_ret
          exact ⟨by rw [HZ.out]; simp, hb1.out⟩
    ·
      go_enter Try.func15, Try.ntmps15
      go_wp2_with fail
      rw [HW0.out]
      refine (HCO.out _ _ _ w0 (HR.out.below hb.out) (HQ.out.below hb.out) C1.out C2.out C3.out).mono ?_
      rintro e w2 ⟨rfl, hw2⟩
      replace hw2 := Lib.hid (Below.trans hb.out (hw2.mono (Below.size hb.out)))
      go_wp2
      go_ret
      exact ⟨by rw [HZ.out]; simp, hw2.out⟩
  ·
    go_enter Try.func15, Try.ntmps15
    go_wp2_with fail
    rw [HW0.out]
    refine (HCO.out _ _ _ w0 (HR.out.below hb.out) (HQ.out.below hb.out) C1.out C2.out C3.out).mono ?_
    rintro e w2 ⟨rfl, hw2⟩
    replace hw2 := Lib.hid (Below.trans hb.out (hw2.mono (Below.size hb.out)))
    go_wp2
    go_ret
    exact ⟨by rw [HZ.out]; simp [hd], hw2.out⟩
set_option maxRecDepth 100000 in
set_option maxHeartbeats 8000000 in
theorem any_doc (l : List Gr) (hl : l.length ≤ 1000000) (hs : ∀ g ∈ l, g.small) (p : Option Addr) (cap : Nat) (owner who : ByteArray) (op : Int) (ho : -9223372036854775808 ≤ op ∧ op < 9223372036854775808) (c : List P2) (hc : fitsL c) (q : Option Addr) (qcap : Nat) (w : World) (hr : RowG w (.slice p l.length cap) l) (hq : PsC w (.slice q c.length qcap) c) :
    Calls Try.prog 16 #[.slice p l.length cap, .string owner, .string who, .int .i64 op, .slice q c.length qcap] w fun e w' => e = .returned (.bool (anyB l owner who op c)) ∧ Below w.heap.size w w' := by
  have HAL := Lib.hid (fun g (hg : g ∈ l) v W a1 a2 => allows_doc g (hs g hg) v who op ho c hc q qcap W a1 a2)
  have HCX := Lib.hid (fun W a1 => refRight_any c q qcap hc.1 hc.2 W a1)
  have HR := Lib.hid hr
  have HQ := Lib.hid hq
  have HWE := Lib.hid (ret_empty who)
  obtain ⟨r, hr2⟩ : ∃ r, (l.any fun g => allowB g who op c) = r := ⟨_, rfl⟩
  obtain ⟨b3, hb3⟩ : ∃ b, opB op = b := ⟨_, rfl⟩
  obtain ⟨b4, hb4⟩ : ∃ b, rightP c = b := ⟨_, rfl⟩
  obtain ⟨b2, hb2⟩ : ∃ b, decide (who.size = 0) = b := ⟨_, rfl⟩
  obtain ⟨ans, hans⟩ : ∃ b, anyB l owner who op c = b := ⟨_, rfl⟩
  have HZ : Hid (ans = (decide (who = owner) && !b2 && b3 && b4 || r)) := Lib.hid (by rw [← hans, ← hr2, ← hb3, ← hb4, ← hb2]; simp only [anyB]; congr 4; by_cases h : who.size = 0 <;> simp [h])
  have HOP : Hid ((op < 0 ∧ b3 = false) ∨ (0 ≤ op ∧ 7 < op ∧ b3 = false) ∨ (0 ≤ op ∧ op ≤ 7 ∧ b3 = true)) := Lib.hid (by
    rw [← hb3]
    rcases (by omega : op < 0 ∨ (0 ≤ op ∧ 7 < op) ∨ (0 ≤ op ∧ op ≤ 7)) with h | h | h
    · exact .inl ⟨h, by simp [opB]; omega⟩
    · exact .inr (.inl ⟨h.1, h.2, by simp [opB]; omega⟩)
    · exact .inr (.inr ⟨h.1, h.2, by simp [opB]; omega⟩))
  have HRE := Lib.hid hr2
  rw [hb4] at HCX
  rw [hb2] at HWE
  rw [hans]
  obtain ⟨n, hn⟩ : ∃ n, l.length = n := ⟨_, rfl⟩
  obtain ⟨m, hm⟩ : ∃ n, c.length = n := ⟨_, rfl⟩
  have HL := Lib.hid hn
  rw [hn] at HR hl ⊢
  rw [hm] at HQ HAL HCX ⊢
  clear hr hq hs hc hr2 hb3 hb4 hb2 hans hn hm ho
  have HE : Hid ((who = owner) ∨ (who.toList == owner.toList) = false ∧ decide (who = owner) = false) := Lib.hid (by
    by_cases h : who = owner
    · exact .inl h
    · exact .inr ⟨str_ne h, by simp [h]⟩)
  rcases HE.out with rfl | ⟨he, hd⟩
  ·
    have hE := HWE.out
    cases b2
    ·
      rcases HOP.out with ⟨h1, rfl⟩ | ⟨h1, h2, rfl⟩ | ⟨h1, h2, rfl⟩
      ·
        have d1 : decide ((0 : Int) ≤ op) = false := by simp; omega
        go_enter Try.func16, Try.ntmps16
        go_wp2
        go_loopw [11] (fun i wr => ∃ k : Nat, k ≤ n ∧ i = .int .i64 (k : Int) ∧ Hid (∀ x ∈ l.take k, allowB x who op c = false) ∧ Hid (Below w.heap.size w wr)) (fun i _ => n - (intOf i).toNat)
        case atStart => exact ⟨0, Nat.zero_le _, rfl, Lib.hid (fun x hx => by simp at hx), Lib.hid (Below.refl _ _)⟩
        case round =>
          obtain ⟨k, hk, rfl, HI, HB⟩ := hrel
          by_cases hlt : k < n
          · obtain ⟨g, hg⟩ : ∃ g, l[k]? = some g := ⟨_, List.getElem?_eq_getElem (by rw [HL.out]; exact hlt)⟩
            obtain ⟨hcl, b, o, q2, c2, rfl, k0, k1, k2, k3, k4, k5, hP⟩ := (HR.out.below HB.out).at hg
            clear hcl
            have hki : (k : Int) < n := by omega
            have HCg := Lib.hid (HAL.out g (List.mem_of_getElem? hg) (grV g q2 c2) wr ⟨q2, c2, rfl, hP⟩ (HQ.out.below HB.out))
            have HAk : Hid (allowB g who op c = true → r = true) := Lib.hid (fun h => by rw [← HRE.out]; exact List.any_eq_true.2 ⟨g, List.mem_of_getElem? hg, h⟩)
            have HIk : Hid (allowB g who op c = false → ∀ x ∈ l.take (k + 1), allowB x who op c = false) := Lib.hid (fun h x hx => by
              rw [List.take_add_one, hg] at hx
              rcases List.mem_append.1 hx with h4 | h4
              · exact HI.out x h4
              · simp at h4; rw [h4]; exact h)
            obtain ⟨id, gw, ret, ops, need, eq⟩ := g
            simp only [grV] at HCg k0 k1 k2 k3 k4 k5
            obtain ⟨r1, hr1⟩ : ∃ r, allowB ⟨id, gw, ret, ops, need, eq⟩ who op c = r := ⟨_, rfl⟩
            obtain ⟨nn, hnn⟩ : ∃ m, need.length = m := ⟨_, rfl⟩
            simp only [hr1] at HCg HAk HIk
            simp only [hnn] at HCg k4
            clear hg hP hr1 hnn
            cases r1
            · go_wp2_with fail
              refine HCg.out.mono ?_
              rintro e w1 ⟨rfl, hw⟩
              have HB2 := Lib.hid (HB.out.trans (hw.mono HB.out.size))
              clear hw k0 k1 k2 k3 k4 k5
              go_wp2
              go_roundw
              case rel => exact ⟨k + 1, by omega, by simp, Lib.hid (HIk.out trivial), HB2⟩
              case measure => simp [intOf]; omega
            · have he := HAk.out rfl
              subst he
              go_wp2_with fail
              refine HCg.out.mono ?_
              rintro e w1 ⟨rfl, hw⟩
              have HB2 := Lib.hid (HB.out.trans (hw.mono HB.out.size))
              clear hw k0 k1 k2 k3 k4 k5
              go_wp2
              go_ret
              exact ⟨by rw [HZ.out]; simp, HB2.out⟩
          · have hkn : k = n := by omega
            subst hkn
            obtain rfl : r = false := by
              rw [← HRE.out, List.any_eq_false]
              intro x hx
              rw [HI.out x (by rw [List.take_of_length_le (by rw [HL.out]; exact Nat.le_refl _)]; exact hx)]
              simp
            go_wp2
            go_ret
            exact ⟨by rw [HZ.out]; simp, HB.out⟩
      ·
        have d1 : decide ((0 : Int) ≤ op) = true := by simp; omega
        have d2 : decide (op ≤ (7 : Int)) = false := by simp; omega
        go_enter Try.func16, Try.ntmps16
        go_wp2
        go_loopw [11] (fun i wr => ∃ k : Nat, k ≤ n ∧ i = .int .i64 (k : Int) ∧ Hid (∀ x ∈ l.take k, allowB x who op c = false) ∧ Hid (Below w.heap.size w wr)) (fun i _ => n - (intOf i).toNat)
        case atStart => exact ⟨0, Nat.zero_le _, rfl, Lib.hid (fun x hx => by simp at hx), Lib.hid (Below.refl _ _)⟩
        case round =>
          obtain ⟨k, hk, rfl, HI, HB⟩ := hrel
          by_cases hlt : k < n
          · obtain ⟨g, hg⟩ : ∃ g, l[k]? = some g := ⟨_, List.getElem?_eq_getElem (by rw [HL.out]; exact hlt)⟩
            obtain ⟨hcl, b, o, q2, c2, rfl, k0, k1, k2, k3, k4, k5, hP⟩ := (HR.out.below HB.out).at hg
            clear hcl
            have hki : (k : Int) < n := by omega
            have HCg := Lib.hid (HAL.out g (List.mem_of_getElem? hg) (grV g q2 c2) wr ⟨q2, c2, rfl, hP⟩ (HQ.out.below HB.out))
            have HAk : Hid (allowB g who op c = true → r = true) := Lib.hid (fun h => by rw [← HRE.out]; exact List.any_eq_true.2 ⟨g, List.mem_of_getElem? hg, h⟩)
            have HIk : Hid (allowB g who op c = false → ∀ x ∈ l.take (k + 1), allowB x who op c = false) := Lib.hid (fun h x hx => by
              rw [List.take_add_one, hg] at hx
              rcases List.mem_append.1 hx with h4 | h4
              · exact HI.out x h4
              · simp at h4; rw [h4]; exact h)
            obtain ⟨id, gw, ret, ops, need, eq⟩ := g
            simp only [grV] at HCg k0 k1 k2 k3 k4 k5
            obtain ⟨r1, hr1⟩ : ∃ r, allowB ⟨id, gw, ret, ops, need, eq⟩ who op c = r := ⟨_, rfl⟩
            obtain ⟨nn, hnn⟩ : ∃ m, need.length = m := ⟨_, rfl⟩
            simp only [hr1] at HCg HAk HIk
            simp only [hnn] at HCg k4
            clear hg hP hr1 hnn
            cases r1
            · go_wp2_with fail
              refine HCg.out.mono ?_
              rintro e w1 ⟨rfl, hw⟩
              have HB2 := Lib.hid (HB.out.trans (hw.mono HB.out.size))
              clear hw k0 k1 k2 k3 k4 k5
              go_wp2
              go_roundw
              case rel => exact ⟨k + 1, by omega, by simp, Lib.hid (HIk.out trivial), HB2⟩
              case measure => simp [intOf]; omega
            · have he := HAk.out rfl
              subst he
              go_wp2_with fail
              refine HCg.out.mono ?_
              rintro e w1 ⟨rfl, hw⟩
              have HB2 := Lib.hid (HB.out.trans (hw.mono HB.out.size))
              clear hw k0 k1 k2 k3 k4 k5
              go_wp2
              go_ret
              exact ⟨by rw [HZ.out]; simp, HB2.out⟩
          · have hkn : k = n := by omega
            subst hkn
            obtain rfl : r = false := by
              rw [← HRE.out, List.any_eq_false]
              intro x hx
              rw [HI.out x (by rw [List.take_of_length_le (by rw [HL.out]; exact Nat.le_refl _)]; exact hx)]
              simp
            go_wp2
            go_ret
            exact ⟨by rw [HZ.out]; simp, HB.out⟩
      ·
        have d1 : decide ((0 : Int) ≤ op) = true := by simp; omega
        have d2 : decide (op ≤ (7 : Int)) = true := by simp; omega
        go_enter Try.func16, Try.ntmps16
        go_wp2_with fail
        refine (HCX.out _ HQ.out).mono ?_
        rintro e w0 ⟨rfl, hw⟩
        replace hw := Lib.hid hw
        cases b4
        ·
          go_wp2
          go_loopw [11] (fun i wr => ∃ k : Nat, k ≤ n ∧ i = .int .i64 (k : Int) ∧ Hid (∀ x ∈ l.take k, allowB x who op c = false) ∧ Hid (Below w.heap.size w wr)) (fun i _ => n - (intOf i).toNat)
          case atStart => exact ⟨0, Nat.zero_le _, rfl, Lib.hid (fun x hx => by simp at hx), hw⟩
          case round =>
            obtain ⟨k, hk, rfl, HI, HB⟩ := hrel
            by_cases hlt : k < n
            · obtain ⟨g, hg⟩ : ∃ g, l[k]? = some g := ⟨_, List.getElem?_eq_getElem (by rw [HL.out]; exact hlt)⟩
              obtain ⟨hcl, b, o, q2, c2, rfl, k0, k1, k2, k3, k4, k5, hP⟩ := (HR.out.below HB.out).at hg
              clear hcl
              have hki : (k : Int) < n := by omega
              have HCg := Lib.hid (HAL.out g (List.mem_of_getElem? hg) (grV g q2 c2) wr ⟨q2, c2, rfl, hP⟩ (HQ.out.below HB.out))
              have HAk : Hid (allowB g who op c = true → r = true) := Lib.hid (fun h => by rw [← HRE.out]; exact List.any_eq_true.2 ⟨g, List.mem_of_getElem? hg, h⟩)
              have HIk : Hid (allowB g who op c = false → ∀ x ∈ l.take (k + 1), allowB x who op c = false) := Lib.hid (fun h x hx => by
                rw [List.take_add_one, hg] at hx
                rcases List.mem_append.1 hx with h4 | h4
                · exact HI.out x h4
                · simp at h4; rw [h4]; exact h)
              obtain ⟨id, gw, ret, ops, need, eq⟩ := g
              simp only [grV] at HCg k0 k1 k2 k3 k4 k5
              obtain ⟨r1, hr1⟩ : ∃ r, allowB ⟨id, gw, ret, ops, need, eq⟩ who op c = r := ⟨_, rfl⟩
              obtain ⟨nn, hnn⟩ : ∃ m, need.length = m := ⟨_, rfl⟩
              simp only [hr1] at HCg HAk HIk
              simp only [hnn] at HCg k4
              clear hg hP hr1 hnn
              cases r1
              · go_wp2_with fail
                refine HCg.out.mono ?_
                rintro e w1 ⟨rfl, hw⟩
                have HB2 := Lib.hid (HB.out.trans (hw.mono HB.out.size))
                clear hw k0 k1 k2 k3 k4 k5
                go_wp2
                go_roundw
                case rel => exact ⟨k + 1, by omega, by simp, Lib.hid (HIk.out trivial), HB2⟩
                case measure => simp [intOf]; omega
              · have he := HAk.out rfl
                subst he
                go_wp2_with fail
                refine HCg.out.mono ?_
                rintro e w1 ⟨rfl, hw⟩
                have HB2 := Lib.hid (HB.out.trans (hw.mono HB.out.size))
                clear hw k0 k1 k2 k3 k4 k5
                go_wp2
                go_ret
                exact ⟨by rw [HZ.out]; simp, HB2.out⟩
            · have hkn : k = n := by omega
              subst hkn
              obtain rfl : r = false := by
                rw [← HRE.out, List.any_eq_false]
                intro x hx
                rw [HI.out x (by rw [List.take_of_length_le (by rw [HL.out]; exact Nat.le_refl _)]; exact hx)]
                simp
              go_wp2
              go_ret
              exact ⟨by rw [HZ.out]; simp, HB.out⟩
        ·
          go_wp2
          go_ret
          exact ⟨by rw [HZ.out]; simp, hw.out⟩
    ·
      go_enter Try.func16, Try.ntmps16
      go_wp2
      go_loopw [11] (fun i wr => ∃ k : Nat, k ≤ n ∧ i = .int .i64 (k : Int) ∧ Hid (∀ x ∈ l.take k, allowB x who op c = false) ∧ Hid (Below w.heap.size w wr)) (fun i _ => n - (intOf i).toNat)
      case atStart => exact ⟨0, Nat.zero_le _, rfl, Lib.hid (fun x hx => by simp at hx), Lib.hid (Below.refl _ _)⟩
      case round =>
        obtain ⟨k, hk, rfl, HI, HB⟩ := hrel
        by_cases hlt : k < n
        · obtain ⟨g, hg⟩ : ∃ g, l[k]? = some g := ⟨_, List.getElem?_eq_getElem (by rw [HL.out]; exact hlt)⟩
          obtain ⟨hcl, b, o, q2, c2, rfl, k0, k1, k2, k3, k4, k5, hP⟩ := (HR.out.below HB.out).at hg
          clear hcl
          have hki : (k : Int) < n := by omega
          have HCg := Lib.hid (HAL.out g (List.mem_of_getElem? hg) (grV g q2 c2) wr ⟨q2, c2, rfl, hP⟩ (HQ.out.below HB.out))
          have HAk : Hid (allowB g who op c = true → r = true) := Lib.hid (fun h => by rw [← HRE.out]; exact List.any_eq_true.2 ⟨g, List.mem_of_getElem? hg, h⟩)
          have HIk : Hid (allowB g who op c = false → ∀ x ∈ l.take (k + 1), allowB x who op c = false) := Lib.hid (fun h x hx => by
            rw [List.take_add_one, hg] at hx
            rcases List.mem_append.1 hx with h4 | h4
            · exact HI.out x h4
            · simp at h4; rw [h4]; exact h)
          obtain ⟨id, gw, ret, ops, need, eq⟩ := g
          simp only [grV] at HCg k0 k1 k2 k3 k4 k5
          obtain ⟨r1, hr1⟩ : ∃ r, allowB ⟨id, gw, ret, ops, need, eq⟩ who op c = r := ⟨_, rfl⟩
          obtain ⟨nn, hnn⟩ : ∃ m, need.length = m := ⟨_, rfl⟩
          simp only [hr1] at HCg HAk HIk
          simp only [hnn] at HCg k4
          clear hg hP hr1 hnn
          cases r1
          · go_wp2_with fail
            refine HCg.out.mono ?_
            rintro e w1 ⟨rfl, hw⟩
            have HB2 := Lib.hid (HB.out.trans (hw.mono HB.out.size))
            clear hw k0 k1 k2 k3 k4 k5
            go_wp2
            go_roundw
            case rel => exact ⟨k + 1, by omega, by simp, Lib.hid (HIk.out trivial), HB2⟩
            case measure => simp [intOf]; omega
          · have he := HAk.out rfl
            subst he
            go_wp2_with fail
            refine HCg.out.mono ?_
            rintro e w1 ⟨rfl, hw⟩
            have HB2 := Lib.hid (HB.out.trans (hw.mono HB.out.size))
            clear hw k0 k1 k2 k3 k4 k5
            go_wp2
            go_ret
            exact ⟨by rw [HZ.out]; simp, HB2.out⟩
        · have hkn : k = n := by omega
          subst hkn
          obtain rfl : r = false := by
            rw [← HRE.out, List.any_eq_false]
            intro x hx
            rw [HI.out x (by rw [List.take_of_length_le (by rw [HL.out]; exact Nat.le_refl _)]; exact hx)]
            simp
          go_wp2
          go_ret
          exact ⟨by rw [HZ.out]; simp, HB.out⟩
  · have HD := Lib.hid hd
    clear hd
    go_enter Try.func16, Try.ntmps16
    go_wp2
    go_loopw [11] (fun i wr => ∃ k : Nat, k ≤ n ∧ i = .int .i64 (k : Int) ∧ Hid (∀ x ∈ l.take k, allowB x who op c = false) ∧ Hid (Below w.heap.size w wr)) (fun i _ => n - (intOf i).toNat)
    case atStart => exact ⟨0, Nat.zero_le _, rfl, Lib.hid (fun x hx => by simp at hx), Lib.hid (Below.refl _ _)⟩
    case round =>
      obtain ⟨k, hk, rfl, HI, HB⟩ := hrel
      by_cases hlt : k < n
      · obtain ⟨g, hg⟩ : ∃ g, l[k]? = some g := ⟨_, List.getElem?_eq_getElem (by rw [HL.out]; exact hlt)⟩
        obtain ⟨hcl, b, o, q2, c2, rfl, k0, k1, k2, k3, k4, k5, hP⟩ := (HR.out.below HB.out).at hg
        clear hcl
        have hki : (k : Int) < n := by omega
        have HCg := Lib.hid (HAL.out g (List.mem_of_getElem? hg) (grV g q2 c2) wr ⟨q2, c2, rfl, hP⟩ (HQ.out.below HB.out))
        have HAk : Hid (allowB g who op c = true → r = true) := Lib.hid (fun h => by rw [← HRE.out]; exact List.any_eq_true.2 ⟨g, List.mem_of_getElem? hg, h⟩)
        have HIk : Hid (allowB g who op c = false → ∀ x ∈ l.take (k + 1), allowB x who op c = false) := Lib.hid (fun h x hx => by
          rw [List.take_add_one, hg] at hx
          rcases List.mem_append.1 hx with h4 | h4
          · exact HI.out x h4
          · simp at h4; rw [h4]; exact h)
        obtain ⟨id, gw, ret, ops, need, eq⟩ := g
        simp only [grV] at HCg k0 k1 k2 k3 k4 k5
        obtain ⟨r1, hr1⟩ : ∃ r, allowB ⟨id, gw, ret, ops, need, eq⟩ who op c = r := ⟨_, rfl⟩
        obtain ⟨nn, hnn⟩ : ∃ m, need.length = m := ⟨_, rfl⟩
        simp only [hr1] at HCg HAk HIk
        simp only [hnn] at HCg k4
        clear hg hP hr1 hnn
        cases r1
        · go_wp2_with fail
          refine HCg.out.mono ?_
          rintro e w1 ⟨rfl, hw⟩
          have HB2 := Lib.hid (HB.out.trans (hw.mono HB.out.size))
          clear hw k0 k1 k2 k3 k4 k5
          go_wp2
          go_roundw
          case rel => exact ⟨k + 1, by omega, by simp, Lib.hid (HIk.out trivial), HB2⟩
          case measure => simp [intOf]; omega
        · have he := HAk.out rfl
          subst he
          go_wp2_with fail
          refine HCg.out.mono ?_
          rintro e w1 ⟨rfl, hw⟩
          have HB2 := Lib.hid (HB.out.trans (hw.mono HB.out.size))
          clear hw k0 k1 k2 k3 k4 k5
          go_wp2
          go_ret
          exact ⟨by rw [HZ.out]; simp [HD.out], HB2.out⟩
      · have hkn : k = n := by omega
        subst hkn
        obtain rfl : r = false := by
          rw [← HRE.out, List.any_eq_false]
          intro x hx
          rw [HI.out x (by rw [List.take_of_length_le (by rw [HL.out]; exact Nat.le_refl _)]; exact hx)]
          simp
        go_wp2
        go_ret
        exact ⟨by rw [HZ.out]; simp [HD.out], HB.out⟩
end Go.Proofs.Ytfihbfkgkljjdaa

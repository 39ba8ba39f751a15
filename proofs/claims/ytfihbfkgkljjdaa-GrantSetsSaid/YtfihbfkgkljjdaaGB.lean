/- Does a context meet a grant's need? The program's takes and Allows, the document's equal and Allows, by contract. No condition but the sizes. -/
import Derived.Test.YtfihbfkgkljjdaaGA
import Derived.Test.YtfihbfkgkljjdaaP2
namespace Go.Proofs.Ytfihbfkgkljjdaa
open Go.RowKit Go.Own Go.Maps Go.WideMaps
theorem len_of_subset {α : Type} : ∀ {A B : List α}, A.Nodup → (∀ x ∈ A, x ∈ B) → A.length ≤ B.length
  | [], _, _, _ => Nat.zero_le _
  | x :: A, B, hn, hs => by
    obtain ⟨B1, B2, rfl⟩ := List.append_of_mem (hs x (by simp))
    rw [List.nodup_cons] at hn
    have ih := len_of_subset (A := A) (B := B1 ++ B2) hn.2 (fun y hy => by
      have h1 := hs y (by simp [hy])
      rcases List.mem_append.1 h1 with h2 | h2
      · exact List.mem_append.2 (Or.inl h2)
      · rcases List.mem_cons.1 h2 with h3 | h3
        · exact absurd (h3 ▸ hy) hn.1
        · exact List.mem_append.2 (Or.inr h3))
    simp at ih ⊢; omega
theorem eqB_both (A B : List P2) : eqB A B = (subB A B && subB B A) := by
  rw [Bool.eq_iff_iff, Bool.and_eq_true, eqB_iff, subB_iff, subB_iff]
  refine ⟨fun ⟨h1, h2, h3⟩ => ⟨⟨h1, h2, fun x hx => h3.mem_iff.1 hx⟩, h2, h1, fun x hx => h3.mem_iff.2 hx⟩, fun ⟨⟨h1, h2, h3⟩, _, _, h4⟩ => ⟨h1, h2, ?_⟩⟩
  have n1 := nodup_of_keys ((rightP_iff A).1 h1).2.2
  have n2 := nodup_of_keys ((rightP_iff B).1 h2).2.2
  exact perm_of_subset n1 h3 (Nat.le_antisymm (len_of_subset n1 h3) (len_of_subset n2 h4))
/-- Does a context meet a grant's need? -/
noncomputable def takesB (g : Gr) (c : List P2) : Bool := if g.eq = true then eqB g.need c else subB g.need c
set_option maxRecDepth 100000 in
theorem takes_any (g : Gr) (hs : g.small) (v : Value) (c : List P2) (hc : fitsL c) (q : Option Addr) (qcap : Nat) (w : World) (hg : GrAt w v g) (hq : PsC w (.slice q c.length qcap) c) :
    Calls Try.prog 24 #[v, .slice q c.length qcap] w fun e w' => e = .returned (.bool (takesB g c)) ∧ Below w.heap.size w w' := by
  obtain ⟨p, cap, rfl, hP⟩ := hg
  obtain ⟨id, who, ret, ops, need, eq⟩ := g
  obtain ⟨s1, s2, hf⟩ := hs
  simp only at hf hP
  simp only [grV, takesB]
  have hb : Hid (∀ o : Obj, Below w.heap.size w (w.alloc o)) := Lib.hid (fun o => (Below.refl w.heap.size w).alloc (Nat.le_refl _) o)
  have HP := Lib.hid hP
  have HQ := Lib.hid hq
  have H1 := Lib.hid (fun W h1 h2 => equal_any need p cap hf.1 hf.2 c q qcap hc.1 hc.2 W h1 h2)
  have H2 := Lib.hid (fun W h1 h2 => subset_any need p cap hf.1 hf.2 c q qcap hc.1 hc.2 W h1 h2)
  obtain ⟨b1, hb1⟩ : ∃ b, eqB need c = b := ⟨_, rfl⟩
  obtain ⟨b2, hb2⟩ : ∃ b, subB need c = b := ⟨_, rfl⟩
  rw [hb1] at H1 ⊢
  rw [hb2] at H2 ⊢
  obtain ⟨n, hn⟩ : ∃ n, need.length = n := ⟨_, rfl⟩
  obtain ⟨m, hm⟩ : ∃ n, c.length = n := ⟨_, rfl⟩
  rw [hn] at HP H1 H2 ⊢
  rw [hm] at HQ H1 H2 ⊢
  clear hP hq hf hc hn hm hb1 hb2 s1 s2
  cases eq
  · simp only [Bool.false_eq_true, if_false]
    go_enter Try.func24, Try.ntmps24
    go_wp2_with fail
    refine (H2.out _ (HP.out.below (hb.out _)) (HQ.out.below (hb.out _))).mono ?_
    rintro e w1 ⟨rfl, hc⟩
    replace hc := Lib.hid ((hb.out _).trans (hc.mono (hb.out _).size))
    go_wp2
    go_ret
    exact ⟨rfl, hc.out⟩
  · simp only [if_true]
    go_enter Try.func24, Try.ntmps24
    go_wp2_with fail
    refine (H1.out _ (HP.out.below (hb.out _)) (HQ.out.below (hb.out _))).mono ?_
    rintro e w1 ⟨rfl, hc⟩
    replace hc := Lib.hid ((hb.out _).trans (hc.mono (hb.out _).size))
    go_wp2
    go_ret
    exact ⟨rfl, hc.out⟩
set_option maxRecDepth 100000 in
theorem equal_doc (a : List P2) (ha : fitsL a) (p : Option Addr) (cap : Nat) (c : List P2) (hc : fitsL c) (q : Option Addr) (qcap : Nat) (w : World) (hP : PsC w (.slice p a.length cap) a) (hq : PsC w (.slice q c.length qcap) c) :
    Calls Try.prog 25 #[.slice p a.length cap, .slice q c.length qcap] w fun e w' => e = .returned (.bool (eqB a c)) ∧ Below w.heap.size w w' := by
  rw [eqB_both]
  have HP := Lib.hid hP
  have HQ := Lib.hid hq
  have H1 := Lib.hid (fun W h1 h2 => refSubset_any a p cap ha.1 ha.2 c q qcap hc.1 hc.2 W h1 h2)
  have H2 := Lib.hid (fun W h1 h2 => refSubset_any c q qcap hc.1 hc.2 a p cap ha.1 ha.2 W h1 h2)
  obtain ⟨b1, hb1⟩ : ∃ b, subB a c = b := ⟨_, rfl⟩
  obtain ⟨b2, hb2⟩ : ∃ b, subB c a = b := ⟨_, rfl⟩
  rw [hb1] at H1 ⊢
  rw [hb2] at H2 ⊢
  obtain ⟨n, hn⟩ : ∃ n, a.length = n := ⟨_, rfl⟩
  obtain ⟨m, hm⟩ : ∃ n, c.length = n := ⟨_, rfl⟩
  rw [hn] at HP H1 H2 ⊢
  rw [hm] at HQ H1 H2 ⊢
  clear hP hq ha hc hn hm hb1 hb2
  cases b1
  · go_enter Try.func25, Try.ntmps25
    go_wp2_with fail
    refine (H1.out _ HP.out HQ.out).mono ?_
    rintro e w1 ⟨rfl, hc⟩
    replace hc := Lib.hid hc
    go_wp2
    go_ret
    exact ⟨rfl, hc.out⟩
  · go_enter Try.func25, Try.ntmps25
    go_wp2_with fail
    refine (H1.out _ HP.out HQ.out).mono ?_
    rintro e w1 ⟨rfl, hc⟩
    replace hc := Lib.hid hc
    go_wp2_with fail
    refine (H2.out _ (HQ.out.below hc.out) (HP.out.below hc.out)).mono ?_
    rintro e w2 ⟨rfl, hd⟩
    replace hc := Lib.hid (hc.out.trans (hd.mono hc.out.size))
    clear hd
    go_wp2
    go_ret
    exact ⟨by simp, hc.out⟩
/-- Has a set an operation? -/
def hasB (ops op : Int) : Bool := decide (ops / 2 ^ op.toNat % 2 = 1)
noncomputable def allowB (g : Gr) (who : ByteArray) (op : Int) (c : List P2) : Bool := g.right && decide (who = g.who) && opB op && hasB g.ops op && takesB g c

theorem right_ops {g : Gr} (h : g.right = true) : 0 ≤ g.ops ∧ g.ops < 256 := by
  simp only [Gr.right, opsB, Bool.and_eq_true, decide_eq_true_eq] at h
  exact h.1.1.1.2
theorem div_range (ops op : Int) (h0 : 0 ≤ ops) (h : ops < 256) : 0 ≤ ops / 2 ^ op.toNat ∧ ops / 2 ^ op.toNat < 256 := by
  have hp : (0 : Int) < 2 ^ op.toNat := Int.pow_pos (by decide)
  exact ⟨Int.ediv_nonneg h0 (Int.le_of_lt hp), Int.lt_of_le_of_lt (Int.ediv_le_self _ h0) h⟩
theorem and_all : ∀ k : Fin 256, bits .and .i64 ((k.val : Nat) : Int) 1 = ((k.val : Nat) : Int) % 2 := by decide +kernel
theorem bit_and (ops op : Int) (h0 : 0 ≤ ops) (h : ops < 256) : (bits .and .i64 (ops / 2 ^ op.toNat) 1 = 0 ∧ hasB ops op = false) ∨ (bits .and .i64 (ops / 2 ^ op.toNat) 1 = 1 ∧ hasB ops op = true) := by
  obtain ⟨r0, r1⟩ := div_range ops op h0 h
  unfold hasB
  obtain ⟨x, hx⟩ : ∃ x, ops / 2 ^ op.toNat = x := ⟨_, rfl⟩
  rw [hx] at r0 r1 ⊢
  obtain ⟨k, rfl⟩ : ∃ k : Nat, x = (k : Int) := ⟨x.toNat, by omega⟩
  have := and_all ⟨k, by omega⟩
  simp only at this
  rw [this]
  rcases (by omega : (k : Int) % 2 = 0 ∨ (k : Int) % 2 = 1) with e | e
  · left; rw [e]; exact ⟨rfl, rfl⟩
  · right; rw [e]; exact ⟨rfl, rfl⟩
set_option maxRecDepth 100000 in
set_option maxHeartbeats 2000000 in
theorem allows_any (g : Gr) (hs : g.small) (v : Value) (who : ByteArray) (op : Int) (c : List P2) (hc : fitsL c) (q : Option Addr) (qcap : Nat) (w : World) (hg : GrAt w v g) (hq : PsC w (.slice q c.length qcap) c) :
    Calls Try.prog 11 #[v, .string who, .int .i64 op, .slice q c.length qcap] w fun e w' => e = .returned (.bool (allowB g who op c)) ∧ Below w.heap.size w w' := by
  have HR := Lib.hid (fun W h => right_grant g hs v W h)
  have HT := Lib.hid (fun W h1 h2 => takes_any g hs v c hc q qcap W h1 h2)
  have HO := Lib.hid (isOp_any op)
  have HG := Lib.hid hg
  have HQ := Lib.hid hq
  obtain ⟨p, cap, rfl, hP⟩ := hg
  obtain ⟨b1, hb1⟩ : ∃ b, g.right = b := ⟨_, rfl⟩
  obtain ⟨b3, hb3⟩ : ∃ b, opB op = b := ⟨_, rfl⟩
  obtain ⟨b5, hb5⟩ : ∃ b, takesB g c = b := ⟨_, rfl⟩
  obtain ⟨m, hm⟩ : ∃ n, c.length = n := ⟨_, rfl⟩
  have HOP := Lib.hid hb3
  have HRI := Lib.hid hb1
  unfold allowB
  rw [hb1] at HR ⊢
  rw [hb3] at HO ⊢
  rw [hb5] at HT ⊢
  rw [hm] at HQ HT ⊢
  obtain ⟨id, gw, ret, ops, need, eq⟩ := g
  simp only [grV] at HR HT HG ⊢
  obtain ⟨n, hn⟩ : ∃ n, need.length = n := ⟨_, rfl⟩
  have HB := Lib.hid (Bx.new w ⟨id, gw, ret, ops, need, eq⟩ (.slice p need.length cap) 29)
  rw [hn] at HR HT HB HG ⊢
  clear hq hc hm hb1 hb3 hb5 hs hn hP
  have hb : Hid (∀ o : Obj, Below w.heap.size w (w.alloc o)) := Lib.hid (fun o => (Below.refl w.heap.size w).alloc (Nat.le_refl _) o)
  cases b1
  · go_enter Try.func11, Try.ntmps11
    go_wp2_with fail
    refine (HR.out _ (HG.out.below (hb.out _))).mono ?_
    rintro e w1 ⟨rfl, hc⟩
    replace hc := Lib.hid ((hb.out _).trans (hc.mono (hb.out _).size))
    go_wp2
    go_ret
    exact ⟨by simp, hc.out⟩
  by_cases hwho : who = gw
  · subst hwho
    cases b3
    · go_enter Try.func11, Try.ntmps11
      go_wp2_with fail
      refine (HR.out _ (HG.out.below (hb.out _))).mono ?_
      rintro e w1 ⟨rfl, hc⟩
      replace HB := Lib.hid (HB.out.below hc)
      replace hc := Lib.hid ((hb.out _).trans (hc.mono (hb.out _).size))
      obtain ⟨c0, c1, c2, c3, c4, c5⟩ := HB.out
      dsimp only at c0 c1 c2 c3 c4 c5
      go_wp2_with fail
      refine (HO.out _).mono ?_
      rintro e w2 ⟨rfl, hw⟩
      cases hw
      go_wp2
      go_ret
      exact ⟨by simp, hc.out⟩
    · have hop : 0 ≤ op ∧ op < 8 := by have := HOP.out; simpa [opB] using this
      have hops := right_ops HRI.out
      have HH : Hid ((bits .and .i64 (ops / 2 ^ op.toNat) 1 = 0 ∧ hasB ops op = false) ∨ (bits .and .i64 (ops / 2 ^ op.toNat) 1 = 1 ∧ hasB ops op = true)) := Lib.hid (bit_and ops op hops.1 hops.2)
      clear hops
      go_enter Try.func11, Try.ntmps11
      go_wp2_with fail
      refine (HR.out _ (HG.out.below (hb.out _))).mono ?_
      rintro e w1 ⟨rfl, hc⟩
      replace HB := Lib.hid (HB.out.below hc)
      replace hc := Lib.hid ((hb.out _).trans (hc.mono (hb.out _).size))
      obtain ⟨c0, c1, c2, c3, c4, c5⟩ := HB.out
      dsimp only at c0 c1 c2 c3 c4 c5
      go_wp2_with fail
      refine (HO.out _).mono ?_
      rintro e w2 ⟨rfl, hw⟩
      cases hw
      rcases HH.out with ⟨hx, hz⟩ | ⟨hx, hz⟩
      · go_wp2
        go_ret
        exact ⟨by rw [hz]; simp, hc.out⟩
      · go_wp2_with fail
        refine (HT.out _ (HG.out.below hc.out) ((HQ.out.below hc.out))).mono ?_
        rintro e w3 ⟨rfl, hd⟩
        replace hc := Lib.hid (hc.out.trans (hd.mono hc.out.size))
        clear hd
        go_wp2
        go_ret
        exact ⟨by rw [hz]; simp, hc.out⟩
  · have hne : (who.toList == gw.toList) = false := str_ne hwho
    go_enter Try.func11, Try.ntmps11
    go_wp2_with fail
    refine (HR.out _ (HG.out.below (hb.out _))).mono ?_
    rintro e w1 ⟨rfl, hc⟩
    replace HB := Lib.hid (HB.out.below hc)
    replace hc := Lib.hid ((hb.out _).trans (hc.mono (hb.out _).size))
    obtain ⟨c0, c1, c2, c3, c4, c5⟩ := HB.out
    dsimp only at c0 c1 c2 c3 c4 c5
    go_wp2
    go_ret
    exact ⟨by simp [hwho], hc.out⟩
theorem bit_rem (ops op : Int) (h0 : 0 ≤ ops) (h : ops < 256) : ((ops / 2 ^ op.toNat).tmod 2 = 0 ∧ hasB ops op = false) ∨ ((ops / 2 ^ op.toNat).tmod 2 = 1 ∧ hasB ops op = true) := by
  obtain ⟨r0, r1⟩ := div_range ops op h0 h
  unfold hasB
  obtain ⟨x, hx⟩ : ∃ x, ops / 2 ^ op.toNat = x := ⟨_, rfl⟩
  rw [hx] at r0 r1 ⊢
  have : x.tmod 2 = x % 2 := Int.tmod_eq_emod_of_nonneg r0
  rw [this]
  rcases (by omega : x % 2 = 0 ∨ x % 2 = 1) with e | e
  · left; rw [e]; exact ⟨rfl, rfl⟩
  · right; rw [e]; exact ⟨rfl, rfl⟩

set_option maxRecDepth 100000 in
set_option maxHeartbeats 2000000 in
theorem allows_doc (g : Gr) (hs : g.small) (v : Value) (who : ByteArray) (op : Int) (ho : -9223372036854775808 ≤ op ∧ op < 9223372036854775808) (c : List P2) (hc : fitsL c) (q : Option Addr) (qcap : Nat) (w : World) (hg : GrAt w v g) (hq : PsC w (.slice q c.length qcap) c) :
    Calls Try.prog 12 #[v, .string who, .int .i64 op, .slice q c.length qcap] w fun e w' => e = .returned (.bool (allowB g who op c)) ∧ Below w.heap.size w w' := by
  have HR := Lib.hid (fun W h => right_doc g hs v W h)
  have HG := Lib.hid hg
  have HQ := Lib.hid hq
  obtain ⟨p, cap, rfl, hP⟩ := hg
  have HP := Lib.hid hP
  have H1 := Lib.hid (fun W h1 h2 => equal_doc g.need hs.2.2 p cap c hc q qcap W h1 h2)
  have H2 := Lib.hid (fun W h1 h2 => refSubset_any g.need p cap hs.2.2.1 hs.2.2.2 c q qcap hc.1 hc.2 W h1 h2)
  obtain ⟨b1, hb1⟩ : ∃ b, g.right = b := ⟨_, rfl⟩
  obtain ⟨b3, hb3⟩ : ∃ b, opB op = b := ⟨_, rfl⟩
  obtain ⟨m, hm⟩ : ∃ n, c.length = n := ⟨_, rfl⟩
  have HOP := Lib.hid hb3
  have HRI := Lib.hid hb1
  unfold allowB
  rw [hb1] at HR ⊢
  rw [hb3]
  obtain ⟨id, gw, ret, ops, need, eq⟩ := g
  simp only [takesB]
  obtain ⟨b5, hb5⟩ : ∃ b, eqB need c = b := ⟨_, rfl⟩
  obtain ⟨b6, hb6⟩ : ∃ b, subB need c = b := ⟨_, rfl⟩
  simp only [hb5, hb6] at H1 H2 ⊢
  simp only [hm] at HQ H1 H2 ⊢
  simp only [grV] at HR HG H1 H2 ⊢
  obtain ⟨n, hn⟩ : ∃ n, need.length = n := ⟨_, rfl⟩
  have HB := Lib.hid (Bx.new w ⟨id, gw, ret, ops, need, eq⟩ (.slice p need.length cap) 30)
  simp only [hn] at HP HR H1 H2 HB HG ⊢
  clear hq hc hm hb1 hb3 hb5 hb6 hs hn hP
  have hb : Hid (∀ o : Obj, Below w.heap.size w (w.alloc o)) := Lib.hid (fun o => (Below.refl w.heap.size w).alloc (Nat.le_refl _) o)
  obtain ⟨b7, hb7⟩ : ∃ b, (if eq = true then b5 else b6) = b := ⟨_, rfl⟩
  rw [hb7]
  have HB7 := Lib.hid hb7
  clear hb7
  cases b1
  · go_enter Try.func12, Try.ntmps12
    go_wp2_with fail
    refine (HR.out _ (HG.out.below (hb.out _))).mono ?_
    rintro e w1 ⟨rfl, hc⟩
    replace hc := Lib.hid ((hb.out _).trans (hc.mono (hb.out _).size))
    go_wp2
    go_ret
    exact ⟨by simp, hc.out⟩
  by_cases hwho : who = gw
  · subst hwho
    rcases (by omega : op < 0 ∨ 8 ≤ op ∨ (0 ≤ op ∧ op < 8)) with h | h | h
    ·
      obtain rfl : b3 = false := by rw [← HOP.out]; simp [opB]; omega
      have d1 : decide (op < (0 : Int)) = true := by simp; omega
      go_enter Try.func12, Try.ntmps12
      go_wp2_with fail
      refine (HR.out _ (HG.out.below (hb.out _))).mono ?_
      rintro e w1 ⟨rfl, hc⟩
      replace HB := Lib.hid (HB.out.below hc)
      replace hc := Lib.hid ((hb.out _).trans (hc.mono (hb.out _).size))
      obtain ⟨c0, c1, c2, c3, c4, c5⟩ := HB.out
      dsimp only at c0 c1 c2 c3 c4 c5
      go_wp2
      go_ret
      exact ⟨by simp, hc.out⟩
    ·
      obtain rfl : b3 = false := by rw [← HOP.out]; simp [opB]; omega
      have d1 : decide (op < (0 : Int)) = false := by simp; omega
      have d2 : decide ((7 : Int) < op) = true := by simp; omega
      go_enter Try.func12, Try.ntmps12
      go_wp2_with fail
      refine (HR.out _ (HG.out.below (hb.out _))).mono ?_
      rintro e w1 ⟨rfl, hc⟩
      replace HB := Lib.hid (HB.out.below hc)
      replace hc := Lib.hid ((hb.out _).trans (hc.mono (hb.out _).size))
      obtain ⟨c0, c1, c2, c3, c4, c5⟩ := HB.out
      dsimp only at c0 c1 c2 c3 c4 c5
      go_wp2
      go_ret
      exact ⟨by simp, hc.out⟩
    ·
      obtain rfl : b3 = true := by rw [← HOP.out]; simp [opB]; omega
      have d1 : decide (op < (0 : Int)) = false := by simp; omega
      have d2 : decide ((7 : Int) < op) = false := by simp; omega
      have hops := right_ops HRI.out
      have HH := Lib.hid (bit_rem ops op hops.1 hops.2)
      have hwr : IntKind.u64.wrap op = op := by rw [IntKind.wrap_u64]; omega
      clear hops
      go_enter Try.func12, Try.ntmps12
      go_wp2_with fail
      refine (HR.out _ (HG.out.below (hb.out _))).mono ?_
      rintro e w1 ⟨rfl, hc⟩
      replace HB := Lib.hid (HB.out.below hc)
      replace hc := Lib.hid ((hb.out _).trans (hc.mono (hb.out _).size))
      obtain ⟨c0, c1, c2, c3, c4, c5⟩ := HB.out
      dsimp only at c0 c1 c2 c3 c4 c5
      rcases HH.out with ⟨hx, hz⟩ | ⟨hx, hz⟩
      · go_wp2
        go_ret
        exact ⟨by rw [hz]; simp, hc.out⟩
      · cases eq
        all_goals
          have h7 := HB7.out
          simp only [Bool.false_eq_true, if_true, if_false] at h7
          subst h7
        ·
          go_wp2_with fail
          refine (H2.out _ (HP.out.below hc.out) (HQ.out.below hc.out)).mono ?_
          rintro e w3 ⟨rfl, hd⟩
          replace hc := Lib.hid (hc.out.trans (hd.mono hc.out.size))
          clear hd
          go_wp2
          go_ret
          exact ⟨by rw [hz]; simp, hc.out⟩
        ·
          go_wp2_with fail
          refine (H1.out _ (HP.out.below hc.out) (HQ.out.below hc.out)).mono ?_
          rintro e w3 ⟨rfl, hd⟩
          replace hc := Lib.hid (hc.out.trans (hd.mono hc.out.size))
          clear hd
          go_wp2
          go_ret
          exact ⟨by rw [hz]; simp, hc.out⟩
  · have hne : (gw.toList == who.toList) = false := str_ne (fun e => hwho e.symm)
    have hne2 : (gw.toList != who.toList) = true := by simp [bne, hne]
    go_enter Try.func12, Try.ntmps12
    go_wp2_with fail
    refine (HR.out _ (HG.out.below (hb.out _))).mono ?_
    rintro e w1 ⟨rfl, hc⟩
    replace HB := Lib.hid (HB.out.below hc)
    replace hc := Lib.hid ((hb.out _).trans (hc.mono (hb.out _).size))
    obtain ⟨c0, c1, c2, c3, c4, c5⟩ := HB.out
    dsimp only at c0 c1 c2 c3 c4 c5
    go_wp2
    go_ret
    exact ⟨by simp [hwho], hc.out⟩
end Go.Proofs.Ytfihbfkgkljjdaa

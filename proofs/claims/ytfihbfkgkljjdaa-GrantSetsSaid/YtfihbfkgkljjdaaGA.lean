/- Grants, plainly, and in memory: which are right; the program's isContext and Right, the document's Right, by contract. No condition but the sizes. -/
import Derived.Test.YtfihbfkgkljjdaaC3
import Derived.Test.YtfihbfkgkljjdaaC5
import Derived.Test.YtfihbfkgkljjdaaD2
import Derived.Test.YtfihbfkgkljjdaaN3
namespace Go.Own
open Go
/-- A grant: its numbers and texts, what it needs, and whether just that. -/
structure Gr where
  id : Int
  who : ByteArray
  ret : ByteArray
  ops : Int
  need : List P2
  eq : Bool
def fitsL (L : List P2) : Prop := L.length ≤ 1000000 ∧ ∀ x ∈ L, x.1.size ≤ 1000000 ∧ x.2.size ≤ 1000000
def Gr.small (g : Gr) : Prop := g.who.size ≤ 1000000 ∧ g.ret.size ≤ 1000000 ∧ fitsL g.need
def nameB (s : ByteArray) : Bool := decide (0 < runesN s)
def idB (i : Int) : Bool := decide (1 ≤ i) && decide (i ≤ 2147483647)
def opsB (o : Int) : Bool := decide (0 ≤ o) && decide (o < 256)
def opB (o : Int) : Bool := decide (0 ≤ o) && decide (o < 8)
def Gr.right (g : Gr) : Bool := idB g.id && opsB g.ops && nameB g.who && (decide (g.ret.size = 0) || nameB g.ret) && rightP g.need
end Go.Own
namespace Go.Proofs.Ytfihbfkgkljjdaa
open Go.RowKit Go.Own Go.Maps Go.WideMaps
def grV (g : Gr) (p : Option Addr) (cap : Nat) : Value := .agg #[.int .i64 g.id, .string g.who, .string g.ret, .int .i64 g.ops, .slice p g.need.length cap, .bool g.eq]
def GrAt (w : World) (v : Value) (g : Gr) : Prop := ∃ p cap, v = grV g p cap ∧ PsC w (.slice p g.need.length cap) g.need
theorem GrAt.below {w w' : World} {v : Value} {g : Gr} (h : GrAt w v g) (hb : Below w.heap.size w w') : GrAt w' v g := by
  obtain ⟨p, c, e, k⟩ := h
  exact ⟨p, c, e, k.below hb⟩
set_option maxRecDepth 100000 in
theorem isContext_any (L : List P2) (p : Option Addr) (cap : Nat) (hf : fitsL L) (w : World) (hP : PsC w (.slice p L.length cap) L) :
    Calls Try.prog 20 #[.slice p L.length cap] w fun e w' => e = .returned (.bool (rightP L)) ∧ Below w.heap.size w w' := by
  have HT := Lib.hid (text_any L p cap hf.1 hf.2 w hP)
  obtain ⟨b, hb⟩ : ∃ b, rightP L = b := ⟨_, rfl⟩
  unfold textR at HT
  rw [hb] at HT ⊢
  obtain ⟨n, hn⟩ : ∃ n, L.length = n := ⟨_, rfl⟩
  rw [hn] at HT ⊢
  clear hP hf hn hb
  cases b
  all_goals
    simp only [Bool.false_eq_true, if_true, if_false] at HT
    go_enter Try.func20, Try.ntmps20
    go_wp2_with fail
    refine HT.out.mono ?_
    rintro e w1 ⟨rfl, hb⟩
    replace hb := Lib.hid hb
    go_wp2
    go_ret
    exact ⟨rfl, hb.out⟩

theorem isOp_any (o : Int) (w : World) : Calls Try.prog 23 #[.int .i64 o] w fun e w' => e = .returned (.bool (opB o)) ∧ w = w' := by
  have hc : o < 0 ∨ (0 ≤ o ∧ o < 8) ∨ 8 ≤ o := by omega
  rcases hc with h | h | h
  all_goals
    have HZ : Hid (opB o = _) := Lib.hid rfl
    try have d1 : decide ((0 : Int) ≤ o) = true := by simp; omega
    try have d1 : decide ((0 : Int) ≤ o) = false := by simp; omega
    try have d2 : decide (o < (8 : Int)) = true := by simp; omega
    try have d2 : decide (o < (8 : Int)) = false := by simp; omega
    unfold opB
    clear h HZ
    go_enter Try.func23, Try.ntmps23
    go_wp2
    go_ret
    simp [d1, d2]
theorem ret_empty (s : ByteArray) : (s.toList == []) = decide (s.size = 0) := by
  have hl : s.toList.length = s.size := by rw [ByteArray.toList_eq]; rfl
  rw [← hl]
  cases s.toList with
  | nil => rfl
  | cons a l => rfl
theorem box_below {w w1 : World} {o : Obj} (h : Below (w.alloc o).heap.size (w.alloc o) w1) : Below w.heap.size w w1 :=
  ((Below.refl w.heap.size w).alloc (Nat.le_refl _) o).trans (h.mono ((Below.refl w.heap.size w).alloc (Nat.le_refl _) o).size)
theorem cellOld {w w' : World} {a : Addr} {v : Value} (h : Below w.heap.size w w') (hc : w.cell? a = some v) : w'.cell? a = some v := by
  rw [h.cell (World.block_lt_of_cell? w _ hc)]; exact hc
/-- Six cells of a block. -/
def Bx (w : World) (b : Nat) (g : Gr) (s : Value) : Prop := w.cell? ⟨b, 0, none⟩ = some (.int .i64 g.id) ∧ w.cell? ⟨b, 1, none⟩ = some (.string g.who) ∧ w.cell? ⟨b, 2, none⟩ = some (.string g.ret) ∧ w.cell? ⟨b, 3, none⟩ = some (.int .i64 g.ops) ∧ w.cell? ⟨b, 4, none⟩ = some s ∧ w.cell? ⟨b, 5, none⟩ = some (.bool g.eq)
theorem Bx.new (w : World) (g : Gr) (s : Value) (t : TypeId) : Bx (w.alloc (.cells #[.int .i64 g.id, .string g.who, .string g.ret, .int .i64 g.ops, s, .bool g.eq] t)) w.heap.size g s :=
  ⟨cell_new .., cell_new .., cell_new .., cell_new .., cell_new .., cell_new ..⟩
theorem Bx.below {w w' : World} {b : Nat} {g : Gr} {s : Value} (h : Bx w b g s) (hb : Below w.heap.size w w') : Bx w' b g s := by
  obtain ⟨h0, h1, h2, h3, h4, h5⟩ := h
  exact ⟨cellOld hb h0, cellOld hb h1, cellOld hb h2, cellOld hb h3, cellOld hb h4, cellOld hb h5⟩
set_option maxRecDepth 100000 in
set_option maxHeartbeats 2000000 in
theorem right_grant (g : Gr) (hs : g.small) (v : Value) (w : World) (hg : GrAt w v g) :
    Calls Try.prog 9 #[v] w fun e w' => e = .returned (.bool g.right) ∧ Below w.heap.size w w' := by
  obtain ⟨p, cap, rfl, hP⟩ := hg
  obtain ⟨id, who, ret, ops, need, eq⟩ := g
  obtain ⟨s1, s2, hf⟩ := hs
  simp only at s1 s2 hf hP
  simp only [grV, Gr.right]
  have HW := Lib.hid (right_any who)
  have HR := Lib.hid (right_any ret)
  have HP := Lib.hid hP
  have HC := Lib.hid (fun W hW => isContext_any need p cap hf W hW)
  have HE := Lib.hid (ret_empty ret)
  have HB := Lib.hid (Bx.new w ⟨id, who, ret, ops, need, eq⟩ (.slice p need.length cap) 29)
  obtain ⟨b2, hb2⟩ : ∃ b, decide (0 < runesN who) = b := ⟨_, rfl⟩
  obtain ⟨b4, hb4⟩ : ∃ b, decide (0 < runesN ret) = b := ⟨_, rfl⟩
  obtain ⟨b3, hb3⟩ : ∃ b, decide (ret.size = 0) = b := ⟨_, rfl⟩
  obtain ⟨b5, hb5⟩ : ∃ b, rightP need = b := ⟨_, rfl⟩
  simp only [nameB]
  rw [hb2] at HW ⊢
  rw [hb4] at HR ⊢
  rw [hb3] at HE ⊢
  rw [hb5] at HC ⊢
  obtain ⟨n, hn⟩ : ∃ n, need.length = n := ⟨_, rfl⟩
  rw [hn] at HP HC HB ⊢
  clear hP hf hn hb2 hb3 hb4 hb5 s1 s2
  rcases (by omega : id < 1 ∨ 2147483647 < id ∨ (1 ≤ id ∧ id ≤ 2147483647)) with h | h | h
  ·
    have d1 : decide ((1 : Int) ≤ id) = false := by simp; omega
    simp only [idB, opsB, d1]
    have hE := HE.out
    go_enter Try.func9, Try.ntmps9
    go_wp2
    go_ret
    exact ⟨by simp, ((Below.refl w.heap.size w).alloc (Nat.le_refl _) _)⟩
  ·
    have d1 : decide ((1 : Int) ≤ id) = true := by simp; omega
    have d2 : decide (id ≤ (2147483647 : Int)) = false := by simp; omega
    simp only [idB, opsB, d1, d2]
    have hE := HE.out
    go_enter Try.func9, Try.ntmps9
    go_wp2
    go_ret
    exact ⟨by simp, ((Below.refl w.heap.size w).alloc (Nat.le_refl _) _)⟩
  cases b2
  ·
    have d1 : decide ((1 : Int) ≤ id) = true := by simp; omega
    have d2 : decide (id ≤ (2147483647 : Int)) = true := by simp; omega
    simp only [idB, opsB, d1, d2]
    have hE := HE.out
    go_enter Try.func9, Try.ntmps9
    go_wp2_with fail
    refine (HW.out _).mono ?_
    rintro e w1 ⟨rfl, hb⟩
    replace HB := Lib.hid (HB.out.below hb)
    obtain ⟨c0, c1, c2, c3, c4, c5⟩ := HB.out
    dsimp only at c0 c1 c2 c3 c4 c5
    replace hb := Lib.hid (box_below hb)
    go_wp2
    go_ret
    exact ⟨by simp, hb.out⟩
  cases b3
  · cases b4
    ·
        have d1 : decide ((1 : Int) ≤ id) = true := by simp; omega
        have d2 : decide (id ≤ (2147483647 : Int)) = true := by simp; omega
        simp only [idB, opsB, d1, d2]
        have hE := HE.out
        go_enter Try.func9, Try.ntmps9
        go_wp2_with fail
        refine (HW.out _).mono ?_
        rintro e w1 ⟨rfl, hb⟩
        replace HB := Lib.hid (HB.out.below hb)
        obtain ⟨c0, c1, c2, c3, c4, c5⟩ := HB.out
        dsimp only at c0 c1 c2 c3 c4 c5
        replace hb := Lib.hid (box_below hb)
        go_wp2_with fail
        refine (HR.out _).mono ?_
        rintro e w2 ⟨rfl, hc⟩
        clear c0 c1 c2 c3 c4 c5
        replace HB := Lib.hid (HB.out.below hc)
        obtain ⟨c0, c1, c2, c3, c4, c5⟩ := HB.out
        dsimp only at c0 c1 c2 c3 c4 c5
        replace hb := Lib.hid (hb.out.trans (hc.mono hb.out.size))
        clear hc
        go_wp2
        go_ret
        exact ⟨by simp, hb.out⟩
    ·
      rcases (by omega : ops < 0 ∨ 256 ≤ ops ∨ (0 ≤ ops ∧ ops < 256)) with h2 | h2 | h2
      ·
        have d1 : decide ((1 : Int) ≤ id) = true := by simp; omega
        have d2 : decide (id ≤ (2147483647 : Int)) = true := by simp; omega
        have d3 : decide ((0 : Int) ≤ ops) = false := by simp; omega
        simp only [idB, opsB, d1, d2, d3]
        have hE := HE.out
        go_enter Try.func9, Try.ntmps9
        go_wp2_with fail
        refine (HW.out _).mono ?_
        rintro e w1 ⟨rfl, hb⟩
        replace HB := Lib.hid (HB.out.below hb)
        obtain ⟨c0, c1, c2, c3, c4, c5⟩ := HB.out
        dsimp only at c0 c1 c2 c3 c4 c5
        replace hb := Lib.hid (box_below hb)
        go_wp2_with fail
        refine (HR.out _).mono ?_
        rintro e w2 ⟨rfl, hc⟩
        clear c0 c1 c2 c3 c4 c5
        replace HB := Lib.hid (HB.out.below hc)
        obtain ⟨c0, c1, c2, c3, c4, c5⟩ := HB.out
        dsimp only at c0 c1 c2 c3 c4 c5
        replace hb := Lib.hid (hb.out.trans (hc.mono hb.out.size))
        clear hc
        go_wp2
        go_ret
        exact ⟨by simp, hb.out⟩
      ·
        have d1 : decide ((1 : Int) ≤ id) = true := by simp; omega
        have d2 : decide (id ≤ (2147483647 : Int)) = true := by simp; omega
        have d3 : decide ((0 : Int) ≤ ops) = true := by simp; omega
        have d4 : decide (ops < (256 : Int)) = false := by simp; omega
        simp only [idB, opsB, d1, d2, d3, d4]
        have hE := HE.out
        go_enter Try.func9, Try.ntmps9
        go_wp2_with fail
        refine (HW.out _).mono ?_
        rintro e w1 ⟨rfl, hb⟩
        replace HB := Lib.hid (HB.out.below hb)
        obtain ⟨c0, c1, c2, c3, c4, c5⟩ := HB.out
        dsimp only at c0 c1 c2 c3 c4 c5
        replace hb := Lib.hid (box_below hb)
        go_wp2_with fail
        refine (HR.out _).mono ?_
        rintro e w2 ⟨rfl, hc⟩
        clear c0 c1 c2 c3 c4 c5
        replace HB := Lib.hid (HB.out.below hc)
        obtain ⟨c0, c1, c2, c3, c4, c5⟩ := HB.out
        dsimp only at c0 c1 c2 c3 c4 c5
        replace hb := Lib.hid (hb.out.trans (hc.mono hb.out.size))
        clear hc
        go_wp2
        go_ret
        exact ⟨by simp, hb.out⟩
      ·
        have d1 : decide ((1 : Int) ≤ id) = true := by simp; omega
        have d2 : decide (id ≤ (2147483647 : Int)) = true := by simp; omega
        have d3 : decide ((0 : Int) ≤ ops) = true := by simp; omega
        have d4 : decide (ops < (256 : Int)) = true := by simp; omega
        simp only [idB, opsB, d1, d2, d3, d4]
        have hE := HE.out
        go_enter Try.func9, Try.ntmps9
        go_wp2_with fail
        refine (HW.out _).mono ?_
        rintro e w1 ⟨rfl, hb⟩
        replace HB := Lib.hid (HB.out.below hb)
        obtain ⟨c0, c1, c2, c3, c4, c5⟩ := HB.out
        dsimp only at c0 c1 c2 c3 c4 c5
        replace hb := Lib.hid (box_below hb)
        go_wp2_with fail
        refine (HR.out _).mono ?_
        rintro e w2 ⟨rfl, hc⟩
        clear c0 c1 c2 c3 c4 c5
        replace HB := Lib.hid (HB.out.below hc)
        obtain ⟨c0, c1, c2, c3, c4, c5⟩ := HB.out
        dsimp only at c0 c1 c2 c3 c4 c5
        replace hb := Lib.hid (hb.out.trans (hc.mono hb.out.size))
        clear hc
        go_wp2_with fail
        refine (HC.out _ (HP.out.below hb.out)).mono ?_
        rintro e w3 ⟨rfl, hc⟩
        replace hb := Lib.hid (hb.out.trans (hc.mono hb.out.size))
        clear hc
        go_wp2
        go_ret
        exact ⟨by simp, hb.out⟩
  ·
    rcases (by omega : ops < 0 ∨ 256 ≤ ops ∨ (0 ≤ ops ∧ ops < 256)) with h2 | h2 | h2
    ·
      have d1 : decide ((1 : Int) ≤ id) = true := by simp; omega
      have d2 : decide (id ≤ (2147483647 : Int)) = true := by simp; omega
      have d3 : decide ((0 : Int) ≤ ops) = false := by simp; omega
      simp only [idB, opsB, d1, d2, d3]
      have hE := HE.out
      go_enter Try.func9, Try.ntmps9
      go_wp2_with fail
      refine (HW.out _).mono ?_
      rintro e w1 ⟨rfl, hb⟩
      replace HB := Lib.hid (HB.out.below hb)
      obtain ⟨c0, c1, c2, c3, c4, c5⟩ := HB.out
      dsimp only at c0 c1 c2 c3 c4 c5
      replace hb := Lib.hid (box_below hb)
      go_wp2
      go_ret
      exact ⟨by simp, hb.out⟩
    ·
      have d1 : decide ((1 : Int) ≤ id) = true := by simp; omega
      have d2 : decide (id ≤ (2147483647 : Int)) = true := by simp; omega
      have d3 : decide ((0 : Int) ≤ ops) = true := by simp; omega
      have d4 : decide (ops < (256 : Int)) = false := by simp; omega
      simp only [idB, opsB, d1, d2, d3, d4]
      have hE := HE.out
      go_enter Try.func9, Try.ntmps9
      go_wp2_with fail
      refine (HW.out _).mono ?_
      rintro e w1 ⟨rfl, hb⟩
      replace HB := Lib.hid (HB.out.below hb)
      obtain ⟨c0, c1, c2, c3, c4, c5⟩ := HB.out
      dsimp only at c0 c1 c2 c3 c4 c5
      replace hb := Lib.hid (box_below hb)
      go_wp2
      go_ret
      exact ⟨by simp, hb.out⟩
    ·
      have d1 : decide ((1 : Int) ≤ id) = true := by simp; omega
      have d2 : decide (id ≤ (2147483647 : Int)) = true := by simp; omega
      have d3 : decide ((0 : Int) ≤ ops) = true := by simp; omega
      have d4 : decide (ops < (256 : Int)) = true := by simp; omega
      simp only [idB, opsB, d1, d2, d3, d4]
      have hE := HE.out
      go_enter Try.func9, Try.ntmps9
      go_wp2_with fail
      refine (HW.out _).mono ?_
      rintro e w1 ⟨rfl, hb⟩
      replace HB := Lib.hid (HB.out.below hb)
      obtain ⟨c0, c1, c2, c3, c4, c5⟩ := HB.out
      dsimp only at c0 c1 c2 c3 c4 c5
      replace hb := Lib.hid (box_below hb)
      go_wp2_with fail
      refine (HC.out _ (HP.out.below hb.out)).mono ?_
      rintro e w3 ⟨rfl, hc⟩
      replace hb := Lib.hid (hb.out.trans (hc.mono hb.out.size))
      clear hc
      go_wp2
      go_ret
      exact ⟨by simp, hb.out⟩
set_option maxRecDepth 100000 in
set_option maxHeartbeats 2000000 in
theorem right_doc (g : Gr) (hs : g.small) (v : Value) (w : World) (hg : GrAt w v g) :
    Calls Try.prog 10 #[v] w fun e w' => e = .returned (.bool g.right) ∧ Below w.heap.size w w' := by
  obtain ⟨p, cap, rfl, hP⟩ := hg
  obtain ⟨id, who, ret, ops, need, eq⟩ := g
  obtain ⟨s1, s2, hf⟩ := hs
  simp only at s1 s2 hf hP
  simp only [grV, Gr.right]
  have HW := Lib.hid (refRunes_any who (by omega))
  have HR := Lib.hid (refRunes_any ret (by omega))
  have HP := Lib.hid hP
  have HC := Lib.hid (fun W hW => refRight_any need p cap hf.1 hf.2 W hW)
  have HE := Lib.hid (ret_empty ret)
  obtain ⟨r2, hr2⟩ : ∃ r, runesN who = r := ⟨_, rfl⟩
  obtain ⟨r4, hr4⟩ : ∃ r, runesN ret = r := ⟨_, rfl⟩
  obtain ⟨b3, hb3⟩ : ∃ b, decide (ret.size = 0) = b := ⟨_, rfl⟩
  obtain ⟨b5, hb5⟩ : ∃ b, rightP need = b := ⟨_, rfl⟩
  simp only [nameB]
  rw [hr2] at HW ⊢
  rw [hr4] at HR ⊢
  rw [hb3] at HE ⊢
  rw [hb5] at HC ⊢
  obtain ⟨n, hn⟩ : ∃ n, need.length = n := ⟨_, rfl⟩
  rw [hn] at HP HC ⊢
  clear hP hf hn hr2 hb3 hr4 hb5 s1 s2
  obtain ⟨b2, hb2⟩ : ∃ b, decide (0 < r2) = b := ⟨_, rfl⟩
  obtain ⟨b4, hb4⟩ : ∃ b, decide (0 < r4) = b := ⟨_, rfl⟩
  rw [hb2, hb4]
  have HN2 : Hid ((¬ 0 < r2 ∧ b2 = false) ∨ (0 < r2 ∧ b2 = true)) := Lib.hid (by
    by_cases h : 0 < r2
    · right; exact ⟨h, by rw [← hb2]; simp; omega⟩
    · left; exact ⟨h, by rw [← hb2]; simp; omega⟩)
  have HN4 : Hid ((¬ 0 < r4 ∧ b4 = false) ∨ (0 < r4 ∧ b4 = true)) := Lib.hid (by
    by_cases h : 0 < r4
    · right; exact ⟨h, by rw [← hb4]; simp; omega⟩
    · left; exact ⟨h, by rw [← hb4]; simp; omega⟩)
  clear hb2 hb4
  have hb : Hid (∀ o : Obj, Below w.heap.size w (w.alloc o)) := Lib.hid (fun o => (Below.refl w.heap.size w).alloc (Nat.le_refl _) o)
  rcases (by omega : id < 1 ∨ 2147483647 < id ∨ (1 ≤ id ∧ id ≤ 2147483647)) with h | h | h
  ·
    have e1 : decide (1 ≤ id) = false := by simp; omega
    have d1 : decide (id < (1 : Int)) = true := by simp; omega
    have d2 : decide ((2147483647 : Int) < id) = false := by simp; omega
    simp only [idB, opsB, e1]
    have hE := HE.out
    go_enter Try.func10, Try.ntmps10
    go_wp2
    go_ret
    exact ⟨by simp, (hb.out _)⟩
  ·
    have e2 : decide (id ≤ 2147483647) = false := by simp; omega
    have d1 : decide (id < (1 : Int)) = false := by simp; omega
    have d2 : decide ((2147483647 : Int) < id) = true := by simp; omega
    simp only [idB, opsB, e2]
    have hE := HE.out
    go_enter Try.func10, Try.ntmps10
    go_wp2
    go_ret
    exact ⟨by simp, (hb.out _)⟩
  rcases (by omega : ops < 0 ∨ 256 ≤ ops ∨ (0 ≤ ops ∧ ops < 256)) with h2 | h2 | h2
  ·
    have e1 : decide (1 ≤ id) = true := by simp; omega
    have e2 : decide (id ≤ 2147483647) = true := by simp; omega
    have e3 : decide (0 ≤ ops) = false := by simp; omega
    have d1 : decide (id < (1 : Int)) = false := by simp; omega
    have d2 : decide ((2147483647 : Int) < id) = false := by simp; omega
    have d3 : decide (ops < (0 : Int)) = true := by simp; omega
    have d4 : decide ((255 : Int) < ops) = false := by simp; omega
    simp only [idB, opsB, e1, e2, e3]
    have hE := HE.out
    go_enter Try.func10, Try.ntmps10
    go_wp2
    go_ret
    exact ⟨by simp, (hb.out _)⟩
  ·
    have e1 : decide (1 ≤ id) = true := by simp; omega
    have e2 : decide (id ≤ 2147483647) = true := by simp; omega
    have e4 : decide (ops < 256) = false := by simp; omega
    have d1 : decide (id < (1 : Int)) = false := by simp; omega
    have d2 : decide ((2147483647 : Int) < id) = false := by simp; omega
    have d3 : decide (ops < (0 : Int)) = false := by simp; omega
    have d4 : decide ((255 : Int) < ops) = true := by simp; omega
    simp only [idB, opsB, e1, e2, e4]
    have hE := HE.out
    go_enter Try.func10, Try.ntmps10
    go_wp2
    go_ret
    exact ⟨by simp, (hb.out _)⟩
  rcases HN2.out with ⟨hn1, rfl⟩ | ⟨hn1, rfl⟩
  ·
    have e1 : decide (1 ≤ id) = true := by simp; omega
    have e2 : decide (id ≤ 2147483647) = true := by simp; omega
    have e3 : decide (0 ≤ ops) = true := by simp; omega
    have e4 : decide (ops < 256) = true := by simp; omega
    have d1 : decide (id < (1 : Int)) = false := by simp; omega
    have d2 : decide ((2147483647 : Int) < id) = false := by simp; omega
    have d3 : decide (ops < (0 : Int)) = false := by simp; omega
    have d4 : decide ((255 : Int) < ops) = false := by simp; omega
    simp only [idB, opsB, e1, e2, e3, e4]
    have hE := HE.out
    go_enter Try.func10, Try.ntmps10
    go_wp2_with fail
    refine (HW.out _).mono ?_
    rintro e w1 ⟨rfl, hw1⟩
    cases hw1
    go_wp2
    go_ret
    exact ⟨by simp, (hb.out _)⟩
  cases b3
  · rcases HN4.out with ⟨hn2, rfl⟩ | ⟨hn2, rfl⟩
    ·
        have e1 : decide (1 ≤ id) = true := by simp; omega
        have e2 : decide (id ≤ 2147483647) = true := by simp; omega
        have e3 : decide (0 ≤ ops) = true := by simp; omega
        have e4 : decide (ops < 256) = true := by simp; omega
        have d1 : decide (id < (1 : Int)) = false := by simp; omega
        have d2 : decide ((2147483647 : Int) < id) = false := by simp; omega
        have d3 : decide (ops < (0 : Int)) = false := by simp; omega
        have d4 : decide ((255 : Int) < ops) = false := by simp; omega
        simp only [idB, opsB, e1, e2, e3, e4]
        have hE := HE.out
        go_enter Try.func10, Try.ntmps10
        go_wp2_with fail
        refine (HW.out _).mono ?_
        rintro e w1 ⟨rfl, hw1⟩
        cases hw1
        go_wp2_with fail
        refine (HR.out _).mono ?_
        rintro e w2 ⟨rfl, hw2⟩
        cases hw2
        go_wp2
        go_ret
        exact ⟨by simp, (hb.out _)⟩
    ·
        have e1 : decide (1 ≤ id) = true := by simp; omega
        have e2 : decide (id ≤ 2147483647) = true := by simp; omega
        have e3 : decide (0 ≤ ops) = true := by simp; omega
        have e4 : decide (ops < 256) = true := by simp; omega
        have d1 : decide (id < (1 : Int)) = false := by simp; omega
        have d2 : decide ((2147483647 : Int) < id) = false := by simp; omega
        have d3 : decide (ops < (0 : Int)) = false := by simp; omega
        have d4 : decide ((255 : Int) < ops) = false := by simp; omega
        simp only [idB, opsB, e1, e2, e3, e4]
        have hE := HE.out
        go_enter Try.func10, Try.ntmps10
        go_wp2_with fail
        refine (HW.out _).mono ?_
        rintro e w1 ⟨rfl, hw1⟩
        cases hw1
        go_wp2_with fail
        refine (HR.out _).mono ?_
        rintro e w2 ⟨rfl, hw2⟩
        cases hw2
        go_wp2_with fail
        refine (HC.out _ (HP.out.below (hb.out _))).mono ?_
        rintro e w3 ⟨rfl, hc⟩
        replace hc := Lib.hid ((hb.out _).trans (hc.mono (hb.out _).size))
        go_wp2
        go_ret
        exact ⟨by simp, hc.out⟩
  ·
      have e1 : decide (1 ≤ id) = true := by simp; omega
      have e2 : decide (id ≤ 2147483647) = true := by simp; omega
      have e3 : decide (0 ≤ ops) = true := by simp; omega
      have e4 : decide (ops < 256) = true := by simp; omega
      have d1 : decide (id < (1 : Int)) = false := by simp; omega
      have d2 : decide ((2147483647 : Int) < id) = false := by simp; omega
      have d3 : decide (ops < (0 : Int)) = false := by simp; omega
      have d4 : decide ((255 : Int) < ops) = false := by simp; omega
      simp only [idB, opsB, e1, e2, e3, e4]
      have hE := HE.out
      go_enter Try.func10, Try.ntmps10
      go_wp2_with fail
      refine (HW.out _).mono ?_
      rintro e w1 ⟨rfl, hw1⟩
      cases hw1
      go_wp2_with fail
      refine (HC.out _ (HP.out.below (hb.out _))).mono ?_
      rintro e w3 ⟨rfl, hc⟩
      replace hc := Lib.hid ((hb.out _).trans (hc.mono (hb.out _).size))
      go_wp2
      go_ret
      exact ⟨by simp, hc.out⟩
end Go.Proofs.Ytfihbfkgkljjdaa

/- All that lies in a half: by contract. No condition but that the power is on. | What a half tells, step by step. No condition. -/
import Derived.Test.YtjgfljckmckhcaaDoorZ28
import Derived.Test.YtjgfljckmckhcaaDoorZ25
import Derived.Test.YtjgfljckmckhcaaDoorZ20
namespace Go.Proofs.YtjgfljckmckhcaaDoor
open Go Go.RowKit Go.Own
attribute [-go_sem] Sm.execOp_bs run_string_add_if
attribute [local go_sem] agj61 csj61 szj61 agj25 isaj25 csj25 szj25 agj32 isaj32 csj32 szj32 agj38 isaj38 csj38 szj38 agj54 isaj54 csj54 szj54 agj9 isaj9 csj9 szj9 zj61 zj100 alXA ldH0 ldH1 ldH2 ldH3 ldH4 ldH5 ldHA
theorem DAt.app' {w : World} {l : List Obj} {i s q : Nat} {vw : Value} {O : Nat → Prop} {M : Dk} (h : DAt w l i s q vw O M) (g : List Obj) : DAt w (l ++ g) i s q vw O M := h.app g
/-- What k sectors from a on hold. -/
def rdL (M : Dk) (a k : Nat) : List Nat := (List.range k).flatMap fun i => (M.read ((a + i : Nat) : Int)).1
theorem rdL_succ (M : Dk) (a k : Nat) : rdL M a (k + 1) = rdL M a k ++ (M.read ((a + k : Nat) : Int)).1 := by simp [rdL, List.range_succ]
theorem read_le (M : Dk) (x : Int) : (M.read x).1.length ≤ 64 := by
  unfold Dk.read
  split
  · unfold sec; rw [List.length_take]; omega
  · exact Nat.zero_le _
theorem read_B8 (M : Dk) (hM : M.Ok) (x : Int) : B8 (M.read x).1 := by
  unfold Dk.read
  split
  · exact sec_B8 hM.seenB _
  · exact fun y hy => by simp at hy
theorem rdL_le (M : Dk) (a : Nat) : ∀ k, (rdL M a k).length ≤ k * 64
  | 0 => by simp [rdL]
  | k + 1 => by
    have h1 := rdL_le M a k
    have h2 := read_le M ((a + k : Nat) : Int)
    rw [rdL_succ, List.length_append]; omega
theorem rdL_B8 (M : Dk) (hM : M.Ok) (a k : Nat) : B8 (rdL M a k) := B8.flat fun _ _ => read_B8 M hM _
set_option maxRecDepth 100000 in
set_option maxHeartbeats 2000000 in
theorem rdH_any (w : World) (l : List Obj) (d i s q : Nat) (vw : Value) (O : Nat → Prop) (M : Dk) (h : DAt w l i s q vw O M) (a n g u : Nat) (vt : Value) (hn : n ≤ 4096) (ha : a ≤ 4096) :
    Calls Tryd.prog 43 #[.agg (hcl (.pointer (some ⟨w.heap.size + i, 0, none⟩)) a n g vt u)] (Wd w l d) fun e w' => e = .returned (.string (mkS (rdL M a n))) ∧ ∃ g d', w' = Wd w (l ++ g) d' := by
  obtain ⟨l1, hl1⟩ : ∃ l1, l ++ [Obj.cells (hcl (.pointer (some ⟨w.heap.size + i, 0, none⟩)) a n g vt u) 61 (0, 0)] = l1 := ⟨_, rfl⟩
  have HD : Hid (∀ g', DAt w (l1 ++ g') i s q vw O M) := Lib.hid fun g' => by rw [← hl1, List.append_assoc]; exact h.app _
  have HG : Hid (∀ g', (l1 ++ g')[l.length]? = some (.cells (hcl (.pointer (some ⟨w.heap.size + i, 0, none⟩)) a n g vt u) 61 (0, 0))) := Lib.hid fun g' => by rw [← hl1]; simp
  have HP : Hid (∃ g', l1 = l ++ g') := Lib.hid ⟨_, hl1.symm⟩
  have HOK := Lib.hid h.ok
  obtain ⟨b, hb⟩ : ∃ b, l1.length = b := ⟨_, rfl⟩
  have HN := Lib.hid (bu_new w l1)
  have HW : Hid (∀ W bs (y : ByteArray), Bu w l1 W bs → bs.length + y.size ≤ 1099511627776 → Calls Tryd.prog 54 #[.pointer (some ⟨w.heap.size + b, 0, none⟩), .string y] W fun e w' => e = .returned (.tuple #[.int .i64 y.size, .nilIface]) ∧ Bu w l1 w' (bs ++ bys y)) := Lib.hid fun W bs y h1 h2 => by rw [← hb]; exact bu_write h1 y h2
  have HS : Hid (∀ W bs, Bu w l1 W bs → B8 bs → Calls Tryd.prog 55 #[.pointer (some ⟨w.heap.size + b, 0, none⟩)] W fun e w' => e = .returned (.string (mkS bs)) ∧ ∃ g d, w' = Wd w (l1 ++ g) d) := Lib.hid fun W bs h1 h2 => by rw [← hb]; exact bu_string h1 h2
  have hl := hl1
  clear h
  have hg0 := HG.out
  have HLE := Lib.hid (rdL_le M a)
  have HB8 := Lib.hid (rdL_B8 M HOK.out a)
  have HSU := Lib.hid (rdL_succ M a)
  go_enter Tryd.func43, Tryd.ntmps43
  go_wp2
  go_loopw [4, 5, 6, 9] (fun _ _ _ k wr => ∃ kk : Nat, kk ≤ n ∧ k = .int .i64 kk ∧ Hid (Bu w l1 wr (rdL M a kk))) (fun _ _ _ k _ => n - (intOf k).toNat)
  case atStart => exact ⟨0, by omega, rfl, Lib.hid (HN.out _)⟩
  case round =>
    obtain ⟨kk, hk, rfl, hB⟩ := hrel
    obtain ⟨⟨gk, dk, rfl⟩, hib⟩ := hB.out
    have HBU := hB
    clear hib hB
    by_cases hlt : kk < n
    · have hki : (kk : Int) < n := by omega
      obtain ⟨z, hz⟩ : ∃ z, a + kk = z := ⟨_, rfl⟩
      have hzi : (a : Int) + (kk : Int) = (z : Int) := by omega
      have HZ := Lib.hid hz
      clear hz
      go_wp2_with fail
      refine (read_any w _ _ i s q vw O M (z : Int) (HD.out _)).mono ?_
      rintro e w' ⟨rfl, rfl⟩
      obtain ⟨y, hy⟩ : ∃ y, mkS (M.read (z : Int)).1 = y := ⟨_, rfl⟩
      have hyb : bys y = (M.read (z : Int)).1 := by rw [← hy, bys_mkS _ (read_B8 M HOK.out _)]
      have hyl : y.size ≤ 64 := by rw [← bys_length, hyb]; exact read_le M _
      rw [hy]
      have HYB := Lib.hid hyb
      obtain ⟨ec, hec⟩ : ∃ ec, (M.read (z : Int)).2 = ec := ⟨_, rfl⟩
      rw [hec]
      clear hy hyb hec
      go_wp2_with fail
      refine (HW.out _ _ y HBU.out (by have := HLE.out kk; omega)).mono ?_
      rintro e w' ⟨rfl, hB2⟩
      have HB2 : Hid (Bu w l1 w' (rdL M a (kk + 1))) := Lib.hid (by rw [HSU.out, HZ.out, ← HYB.out]; exact hB2)
      obtain ⟨⟨g2, d2, rfl⟩, hib⟩ := hB2
      clear hib
      go_wp2
      go_roundw
      case rel => exact ⟨kk + 1, by omega, by go_num, HB2⟩
      case measure => simp [intOf]; omega
    · obtain rfl : kk = n := by omega
      go_wp2_with fail
      refine (HS.out _ _ HBU.out (HB8.out kk)).mono ?_
      rintro e w' ⟨rfl, g2, d2, rfl⟩
      go_wp2
      go_ret
      refine ⟨rfl, ?_⟩
      obtain ⟨g', e⟩ := HP.out
      exact ⟨g' ++ g2, d2, by rw [← List.append_assoc, ← e]⟩
end Go.Proofs.YtjgfljckmckhcaaDoor
namespace Go.Proofs.YtjgfljckmckhcaaDoor
open Go.RowKit Go.Own
theorem taken_B8 {x : List Nat} (hx : B8 x) {g n : Nat} {t : List Nat} (h : takenL x = some (g, n, t)) : B8 t := by
  obtain ⟨_, _, _, _, _, _, _, _, _, _, _, ht⟩ := taken_some h
  rw [← ht]
  unfold midL
  exact (((hx.take _).append ((hx.drop _).take _)).drop _).take _
theorem next_none {h : Hf} {x : List Nat} (hn : h.next x = none) : ∀ f, Hf.tell x f h = h
  | 0 => rfl
  | f + 1 => by simp only [Hf.tell, hn]
theorem next_tell {h k : Hf} {x : List Nat} (hn : h.next x = some k) (f : Nat) : Hf.tell x (f + 1) h = Hf.tell x f k := by simp only [Hf.tell, hn]
theorem next_of_none {h : Hf} {x : List Nat} (ht : takenL (x.drop (h.used * 64)) = none) : h.next x = none := by unfold Hf.next; rw [ht]
theorem next_of_some {h : Hf} {x : List Nat} {g n : Nat} {t : List Nat} (ht : takenL (x.drop (h.used * 64)) = some (g, n, t)) :
    h.next x = if n ≠ h.texts.length ∨ h.gen ≠ 0 ∧ g ≠ h.gen then none else some (({ h with gen := g } : Hf).with t) := by unfold Hf.next; rw [ht]
theorem taken_fits {x : List Nat} {u n g m : Nat} {t : List Nat} (hx : x.length = n * 64) (ht : takenL (x.drop (u * 64)) = some (g, m, t)) : u + secs t.length ≤ n := by
  obtain ⟨_, _, _, _, _, _, _, _, _, hl, _, _⟩ := taken_some ht
  have hp := secs_pos t.length
  rw [List.length_drop, hx] at hl
  have : (u + secs t.length) * 64 ≤ n * 64 := by rw [Nat.add_mul]; omega
  omega
end Go.Proofs.YtjgfljckmckhcaaDoor

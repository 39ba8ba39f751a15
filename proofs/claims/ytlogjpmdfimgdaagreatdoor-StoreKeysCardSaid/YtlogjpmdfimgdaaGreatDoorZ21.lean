/- All that lies in a half: by contract. No condition but that the power is on. | What a half tells, step by step. No condition. | A half, with what it tells: by contract. No condition but that the power is on. -/
import Derived.Test.YtlogjpmdfimgdaaGreatDoorZ20
import Derived.Test.YtlogjpmdfimgdaaGreatDoorZ17
import Derived.Test.YtlogjpmdfimgdaaGreatDoorZ13
namespace Go.Proofs.YtlogjpmdfimgdaaGreatDoor.Jf
open Go Go.RowKit Go.Own.Jf
attribute [-go_sem] Sm.execOp_bs run_string_add_if
attribute [local go_sem] agj61 csj61 szj61 agj25 isaj25 csj25 szj25 agj32 isaj32 csj32 szj32 agj38 isaj38 csj38 szj38 agj54 isaj54 csj54 szj54 agj9 isaj9 csj9 szj9 zj61 zj100 alXA ldH0 ldH1 ldH2 ldH3 ldH4 ldH5 ldHA
theorem DAt.app' {w : World} {l : List Obj} {i s q : Nat} {vw : Value} {O : Nat → Prop} {M : Dk} (h : DAt w l i s q vw O M) (g : List Obj) : DAt w (l ++ g) i s q vw O M := h.app g
/-- What k sectors from a on hold. -/
def rdL (M : Dk) (a k : Nat) : List Nat := (List.range k).flatMap fun i => (M.read ((a + i : Nat) : Int)).1
theorem rdL_succ (M : Dk) (a k : Nat) : rdL M a (k + 1) = rdL M a k ++ (M.read ((a + k : Nat) : Int)).1 := by simp [rdL, List.range_succ]
theorem read_le (M : Dk) (x : Int) : (M.read x).1.length ≤ 64 := by
  unfold Dk.read
  split
  · unfold sec; rw [List.length_take]; omega
  · exact Nat.zero_le _
theorem read_B8 (M : Dk) (hM : M.Ok) (x : Int) : B8 (M.read x).1 := by
  unfold Dk.read
  split
  · exact sec_B8 hM.seenB _
  · exact fun y hy => by simp at hy
theorem rdL_le (M : Dk) (a : Nat) : ∀ k, (rdL M a k).length ≤ k * 64
  | 0 => by simp [rdL]
  | k + 1 => by
    have h1 := rdL_le M a k
    have h2 := read_le M ((a + k : Nat) : Int)
    rw [rdL_succ, List.length_append]; omega
theorem rdL_B8 (M : Dk) (hM : M.Ok) (a k : Nat) : B8 (rdL M a k) := B8.flat fun _ _ => read_B8 M hM _
set_option maxRecDepth 100000 in
set_option maxHeartbeats 2000000 in
theorem rdH_any (w : World) (l : List Obj) (d i s q : Nat) (vw : Value) (O : Nat → Prop) (M : Dk) (h : DAt w l i s q vw O M) (a n g u : Nat) (vt : Value) (hn : n ≤ 4096) (ha : a ≤ 4096) :
    Calls Tryz.prog 68 #[.agg (hcl (.pointer (some ⟨w.heap.size + i, 0, none⟩)) a n g vt u)] (Wd w l d) fun e w' => e = .returned (.string (mkS (rdL M a n))) ∧ ∃ g d', w' = Wd w (l ++ g) d' := by
  obtain ⟨l1, hl1⟩ : ∃ l1, l ++ [Obj.cells (hcl (.pointer (some ⟨w.heap.size + i, 0, none⟩)) a n g vt u) 107 (0, 0)] = l1 := ⟨_, rfl⟩
  have HD : Hid (∀ g', DAt w (l1 ++ g') i s q vw O M) := Lib.hid fun g' => by rw [← hl1, List.append_assoc]; exact h.app _
  have HG : Hid (∀ g', (l1 ++ g')[l.length]? = some (.cells (hcl (.pointer (some ⟨w.heap.size + i, 0, none⟩)) a n g vt u) 107 (0, 0))) := Lib.hid fun g' => by rw [← hl1]; simp
  have HP : Hid (∃ g', l1 = l ++ g') := Lib.hid ⟨_, hl1.symm⟩
  have HOK := Lib.hid h.ok
  obtain ⟨b, hb⟩ : ∃ b, l1.length = b := ⟨_, rfl⟩
  have HN := Lib.hid (bu_new w l1)
  have HW : Hid (∀ W bs (y : ByteArray), Bu w l1 W bs → bs.length + y.size ≤ 1099511627776 → Calls Tryz.prog 96 #[.pointer (some ⟨w.heap.size + b, 0, none⟩), .string y] W fun e w' => e = .returned (.tuple #[.int .i64 y.size, .nilIface]) ∧ Bu w l1 w' (bs ++ bys y)) := Lib.hid fun W bs y h1 h2 => by rw [← hb]; exact bu_write h1 y h2
  have HS : Hid (∀ W bs, Bu w l1 W bs → B8 bs → Calls Tryz.prog 97 #[.pointer (some ⟨w.heap.size + b, 0, none⟩)] W fun e w' => e = .returned (.string (mkS bs)) ∧ ∃ g d, w' = Wd w (l1 ++ g) d) := Lib.hid fun W bs h1 h2 => by rw [← hb]; exact bu_string h1 h2
  have hl := hl1
  clear h
  have hg0 := HG.out
  have HLE := Lib.hid (rdL_le M a)
  have HB8 := Lib.hid (rdL_B8 M HOK.out a)
  have HSU := Lib.hid (rdL_succ M a)
  go_enter Tryz.func68, Tryz.ntmps68
  go_wp2
  go_loopw [4, 5, 6, 9] (fun _ _ _ k wr => ∃ kk : Nat, kk ≤ n ∧ k = .int .i64 kk ∧ Hid (Bu w l1 wr (rdL M a kk))) (fun _ _ _ k _ => n - (intOf k).toNat)
  case atStart => exact ⟨0, by omega, rfl, Lib.hid (HN.out _)⟩
  case round =>
    obtain ⟨kk, hk, rfl, hB⟩ := hrel
    obtain ⟨⟨gk, dk, rfl⟩, hib⟩ := hB.out
    have HBU := hB
    clear hib hB
    by_cases hlt : kk < n
    · have hki : (kk : Int) < n := by omega
      obtain ⟨z, hz⟩ : ∃ z, a + kk = z := ⟨_, rfl⟩
      have hzi : (a : Int) + (kk : Int) = (z : Int) := by omega
      have HZ := Lib.hid hz
      clear hz
      go_wp2_with fail
      refine (read_any w _ _ i s q vw O M (z : Int) (HD.out _)).mono ?_
      rintro e w' ⟨rfl, rfl⟩
      obtain ⟨y, hy⟩ : ∃ y, mkS (M.read (z : Int)).1 = y := ⟨_, rfl⟩
      have hyb : bys y = (M.read (z : Int)).1 := by rw [← hy, bys_mkS _ (read_B8 M HOK.out _)]
      have hyl : y.size ≤ 64 := by rw [← bys_length, hyb]; exact read_le M _
      rw [hy]
      have HYB := Lib.hid hyb
      obtain ⟨ec, hec⟩ : ∃ ec, (M.read (z : Int)).2 = ec := ⟨_, rfl⟩
      rw [hec]
      clear hy hyb hec
      go_wp2_with fail
      refine (HW.out _ _ y HBU.out (by have := HLE.out kk; omega)).mono ?_
      rintro e w' ⟨rfl, hB2⟩
      have HB2 : Hid (Bu w l1 w' (rdL M a (kk + 1))) := Lib.hid (by rw [HSU.out, HZ.out, ← HYB.out]; exact hB2)
      obtain ⟨⟨g2, d2, rfl⟩, hib⟩ := hB2
      clear hib
      go_wp2
      go_roundw
      case rel => exact ⟨kk + 1, by omega, by go_num, HB2⟩
      case measure => simp [intOf]; omega
    · obtain rfl : kk = n := by omega
      go_wp2_with fail
      refine (HS.out _ _ HBU.out (HB8.out kk)).mono ?_
      rintro e w' ⟨rfl, g2, d2, rfl⟩
      go_wp2
      go_ret
      refine ⟨rfl, ?_⟩
      obtain ⟨g', e⟩ := HP.out
      exact ⟨g' ++ g2, d2, by rw [← List.append_assoc, ← e]⟩
end Go.Proofs.YtlogjpmdfimgdaaGreatDoor.Jf
namespace Go.Proofs.YtlogjpmdfimgdaaGreatDoor.Jf
open Go.RowKit Go.Own.Jf
theorem taken_B8 {x : List Nat} (hx : B8 x) {g n : Nat} {t : List Nat} (h : takenL x = some (g, n, t)) : B8 t := by
  obtain ⟨_, _, _, _, _, _, _, _, _, _, _, ht⟩ := taken_some h
  rw [← ht]
  unfold midL
  exact (((hx.take _).append ((hx.drop _).take _)).drop _).take _
theorem next_none {h : Hf} {x : List Nat} (hn : h.next x = none) : ∀ f, Hf.tell x f h = h
  | 0 => rfl
  | f + 1 => by simp only [Hf.tell, hn]
theorem next_tell {h k : Hf} {x : List Nat} (hn : h.next x = some k) (f : Nat) : Hf.tell x (f + 1) h = Hf.tell x f k := by simp only [Hf.tell, hn]
theorem next_of_none {h : Hf} {x : List Nat} (ht : takenL (x.drop (h.used * 64)) = none) : h.next x = none := by unfold Hf.next; rw [ht]
theorem next_of_some {h : Hf} {x : List Nat} {g n : Nat} {t : List Nat} (ht : takenL (x.drop (h.used * 64)) = some (g, n, t)) :
    h.next x = if n ≠ h.texts.length ∨ h.gen ≠ 0 ∧ g ≠ h.gen then none else some (({ h with gen := g } : Hf).with t) := by unfold Hf.next; rw [ht]
theorem taken_fits {x : List Nat} {u n g m : Nat} {t : List Nat} (hx : x.length = n * 64) (ht : takenL (x.drop (u * 64)) = some (g, m, t)) : u + secs t.length ≤ n := by
  obtain ⟨_, _, _, _, _, _, _, _, _, hl, _, _⟩ := taken_some ht
  have hp := secs_pos t.length
  rw [List.length_drop, hx] at hl
  have : (u + secs t.length) * 64 ≤ n * 64 := by rw [Nat.add_mul]; omega
  omega
end Go.Proofs.YtlogjpmdfimgdaaGreatDoor.Jf
namespace Go.Proofs.YtlogjpmdfimgdaaGreatDoor.Jf
open Go Go.RowKit Go.Own.Jf
attribute [-go_sem] Sm.execOp_bs run_string_add_if
attribute [local go_sem] agj61 csj61 szj61 agj88 csj88 szj88 agj25 isaj25 csj25 szj25 agj32 isaj32 csj32 szj32 agj38 isaj38 csj38 szj38 agj54 isaj54 csj54 szj54 agj9 isaj9 csj9 szj9 zj61 zj88 alXA ldH0 ldH1 ldH2 ldH3 ldH4 ldH5 ldHA ldR0 ldR1 ldR2 stRA stH3 stHAv stHAp
theorem set_mid2 {L : List Obj} {r X : Obj} {k : Nat} (h : ¬ k = L.length) : ((L ++ [r]).set k X)[L.length]? = some r := by
  rw [List.getElem?_set_ne h]; simp
attribute [local go_sem high] set_mid2
/-- The half's used sectors, read off the world. -/
def mU (W : World) (b : Nat) : Nat :=
  match blk W b with
  | some (.cells c _ _) => (intOf (c.getD 5 undef)).toNat
  | _ => 0
theorem mU_at {W : World} {b : Nat} {dv vt : Value} {a n g u : Nat} {t : TypeId} {f : Nat × Nat} (h : blk W b = some (.cells (hcl dv a n g vt u) t f)) : mU W b = u := by
  unfold mU; rw [h]; simp [hcl, intOf]
theorem _root_.Go.Own.Jf.RowV.form {A : Nat → Prop} {w : World} {l : List Obj} {sz n : Nat} {v : Value} {C : List Value} (h : RowV A w l sz n v C) : ∃ q c, v = .slice q n c := by
  rcases h with ⟨rfl, rfl, _⟩ | ⟨i, c, X, t, _, rfl, _⟩
  · exact ⟨none, 0, rfl⟩
  · exact ⟨_, c, rfl⟩
theorem takV_none {x : List Nat} (h : takenL x = none) : takV x = #[.agg (rcl 0 0 .empty), .bool false] := by unfold takV; rw [h]
theorem takV_some {x : List Nat} {g n : Nat} {t : List Nat} (h : takenL x = some (g, n, t)) : takV x = #[.agg (rcl g n (mkS t)), .bool true] := by unfold takV; rw [h]
/-- A half of the disk at place i, in memory. -/
def hv (w : World) (i : Nat) (h : Hf) (vt : Value) : Value := .agg (hcl (.pointer (some ⟨w.heap.size + i, 0, none⟩)) h.first h.size h.gen vt h.used)
set_option maxRecDepth 100000 in
set_option maxHeartbeats 4000000 in
theorem told_any (w : World) (l : List Obj) (d i s q : Nat) (vw : Value) (O : Nat → Prop) (M : Dk) (hR : Sm.Roots w) (h : DAt w l i s q vw O M) (hoff : M.off = false) (a n : Nat) (hn : n ≤ 4096) (han : a + n ≤ M.n) :
    Calls Tryz.prog 42 #[hv w i ⟨a, n, 0, 0, []⟩ (.slice none 0 0)] (Wd w l d) fun e w' => ∃ vt l' d', e = .returned (hv w i ((⟨a, n, 0, 0, []⟩ : Hf).told M) vt) ∧ w' = Wd w l' d' ∧
      RowV (fun p => l.length ≤ p) w l' 1 ((⟨a, n, 0, 0, []⟩ : Hf).told M).texts.length vt (strs ((⟨a, n, 0, 0, []⟩ : Hf).told M).texts) ∧ l.length ≤ l'.length ∧ ∀ p, p < l.length → l'[p]? = l[p]? := by
  have hMn := h.ok.n2
  obtain ⟨R, hRT⟩ : ∃ R, (⟨a, n, 0, 0, []⟩ : Hf).told M = R := ⟨_, rfl⟩
  obtain ⟨x, hx⟩ : ∃ x, rdL M a n = x := ⟨_, rfl⟩
  have hxl : x.length = n * 64 := by
    rw [← hx]
    have aux : ∀ k, k ≤ n → (rdL M a k).length = k * 64 := by
      intro k
      induction k with
      | zero => intro _; simp [rdL]
      | succ k ih =>
        intro hk
        rw [rdL_succ, List.length_append, ih (by omega)]
        have hr : refE M.off M.n ((a + k : Nat) : Int) = 0 := by
          unfold refE; rw [hoff, if_neg (by simp), if_neg (by omega)]
        unfold Dk.read
        rw [if_pos hr, Int.toNat_natCast, sec_length h.ok.seenL (by omega)]; omega
    exact aux n (Nat.le_refl _)
  have hx8 : B8 x := by rw [← hx]; exact rdL_B8 M h.ok a n
  have hT0 : Hid (Hf.tell x (n + 1) ⟨a, n, 0, 0, []⟩ = R) := Lib.hid (by rw [← hRT, ← hx]; rfl)
  obtain ⟨l1, hl1⟩ : ∃ l1, l ++ [Obj.cells (hcl (.pointer (some ⟨w.heap.size + i, 0, none⟩)) a n 0 (.slice none 0 0) 0) 107 (0, 0)] ++ [Obj.cells (hcl (.pointer none) 0 0 0 (.slice none 0 0) 0) 107 (0, 0)] = l1 := ⟨_, rfl⟩
  have HRD := Lib.hid fun d => rdH_any w l1 d i s q vw O M (by rw [← hl1, List.append_assoc]; exact h.app _) a n 0 0 (.slice none 0 0) hn (by omega)
  rw [hx] at HRD
  have h0 : l1[l.length]? = some (.cells (hcl (.pointer (some ⟨w.heap.size + i, 0, none⟩)) a n 0 (.slice none 0 0) 0) 107 (0, 0)) := by rw [← hl1]; simp
  have h1 : l1[l.length + 1]? = some (.cells (hcl (.pointer none) 0 0 0 (.slice none 0 0) 0) 107 (0, 0)) := by rw [← hl1]; simp
  have HSM : Hid (∀ p, p < l.length → l1[p]? = l[p]?) := Lib.hid fun p hp => by rw [← hl1, List.append_assoc, List.getElem?_append_left hp]
  have H0 := Lib.hid h0
  have H1 := Lib.hid h1
  rw [hRT]
  have HR := Lib.hid hR
  have hbl : (mkS x).size = n * 64 := by rw [mkS_size, hxl]
  have hbx : bys (mkS x) = x := bys_mkS _ hx8
  obtain ⟨X, hX⟩ : ∃ X, mkS x = X := ⟨_, rfl⟩
  rw [hX] at hbl hbx HRD
  have HBX := Lib.hid hbx
  have HXL := Lib.hid hxl
  have HX8 := Lib.hid hx8
  obtain ⟨m, hm⟩ : ∃ m, n * 64 = m := ⟨_, rfl⟩
  rw [hm] at hbl
  have HM := Lib.hid hm
  clear hx hxl hx8 hRT h hR hX hbx hm hoff han
  unfold hv
  go_enter Tryz.func42, Tryz.ntmps42
  go_wp2_with fail
  refine (HRD.out _).mono ?_
  rintro e w' ⟨rfl, gR, dR, rfl⟩
  clear h0 h1 hl1
  go_wp2
  go_loopw [4, 5, 8] (fun _ _ _ wr => ∃ (u g f : Nat) (ts : List (List Nat)) (vt : Value) (L : List Obj) (d : Nat), wr = Wd w L d ∧ Hid (L[l.length]? = some (.cells (hcl (.pointer (some ⟨w.heap.size + i, 0, none⟩)) a n g vt u) 107 (0, 0))) ∧ Hid (L[l.length + 1]? = some (.cells (hcl (.pointer none) 0 0 0 (.slice none 0 0) 0) 107 (0, 0))) ∧
    Hid (RowV (fun p => l.length + 2 ≤ p) w L 1 ts.length vt (strs ts)) ∧ Hid (∀ p, p < l.length → L[p]? = l[p]?) ∧ Hid (l.length + 2 ≤ L.length) ∧ Hid (Hf.tell x f ⟨a, n, g, u, ts⟩ = R) ∧ Hid (n + 1 ≤ f + u) ∧ u ≤ n ∧ g ≤ 1099511627776 ∧ ts.length ≤ u) (fun _ _ _ wr => n + 1 - mU wr (w.heap.size + l.length))
  case atStart => exact ⟨0, 0, n + 1, [], .slice none 0 0, l1 ++ gR, dR, rfl, Lib.hid (app_some H0.out), Lib.hid (app_some H1.out), Lib.hid (.inl ⟨rfl, rfl, rfl⟩), Lib.hid fun p hp => by rw [List.getElem?_append_left (by have := (List.getElem?_eq_some_iff.1 H1.out).1; omega)]; exact HSM.out p hp, Lib.hid (by have := (List.getElem?_eq_some_iff.1 H1.out).1; simp; omega), hT0, Lib.hid (by omega), by omega, by omega, by simp⟩
  case round =>
    obtain ⟨u, g, f, ts, vt, L, d, rfl, HL0, HL1, HRV, HSAME, HLEN, HTELL, HF, hun, hg40, htsu⟩ := hrel
    obtain ⟨q2, c2, rfl⟩ := HRV.out.form
    have HMU : Hid (∀ d, mU (Wd w L d) (w.heap.size + l.length) = u) := Lib.hid fun d => mU_at (by rw [blk_at]; exact HL0.out)
    have hg0 := HL0.out
    have hg1 := HL1.out
    obtain ⟨U, hU⟩ : ∃ U, u * 64 = U := ⟨_, rfl⟩
    have hUi : (u : Int) * 64 = (U : Int) := by omega
    have hUm : U ≤ m := by have := HM.out; omega
    have hUmi : (U : Int) ≤ (m : Int) := by omega
    have hmb : m ≤ 300000 := by have := HM.out; omega
    obtain ⟨Y, hY⟩ : ∃ Y, X.extract U m = Y := ⟨_, rfl⟩
    have hYb : bys Y = x.drop U := by
      rw [← hY, bys_extract, HBX.out, List.take_of_length_le (by rw [List.length_drop, HXL.out]; have := HM.out; omega)]
    have hYs : Y.size ≤ 1000000 := by rw [← hY, ByteArray.size_extract]; omega
    have HTK := Lib.hid fun d => taken_any w L d HR.out Y hYs
    rw [hYb] at HTK
    have HU := Lib.hid hU
    have htw : IntKind.u64.wrap (ts.length : Int) = (ts.length : Int) := by
      have : ts.length < 18446744073709551616 := by omega
      simp only [IntKind.wrap, IntKind.bits, IntKind.signed]; simp; omega
    clear hU hYb hYs
    cases ht : takenL (x.drop U) with
    | none =>
      rw [takV_none ht] at HTK
      have HRH : Hid ((⟨a, n, g, u, ts⟩ : Hf) = R) := Lib.hid (by rw [← HTELL.out]; exact (next_none (next_of_none (by rw [HU.out]; exact ht)) f).symm)
      clear ht
      go_wp2_with fail
      refine (HTK.out _).mono ?_
      rintro e w' ⟨rfl, g1, d1, rfl⟩
      obtain ⟨L2, hL2⟩ : ∃ L2, L ++ g1 = L2 := ⟨_, rfl⟩
      rw [hL2]
      have HL20 : Hid (∀ g', (L2 ++ g')[l.length]? = some (.cells (hcl (.pointer (some ⟨w.heap.size + i, 0, none⟩)) a n g (.slice q2 ts.length c2) u) 107 (0, 0))) := Lib.hid fun g' => app_some (by rw [← hL2]; exact app_some HL0.out)
      have HL21 : Hid (∀ g', (L2 ++ g')[l.length + 1]? = some (.cells (hcl (.pointer none) 0 0 0 (.slice none 0 0) 0) 107 (0, 0))) := Lib.hid fun g' => app_some (by rw [← hL2]; exact app_some HL1.out)
      have HSAME2 : Hid (∀ p, p < l.length → L2[p]? = l[p]?) := Lib.hid fun p hp => by rw [← hL2, List.getElem?_append_left (by have := HLEN.out; omega)]; exact HSAME.out p hp
      have HLEN2 : Hid (l.length + 2 ≤ L2.length) := Lib.hid (by rw [← hL2, List.length_append]; have := HLEN.out; omega)
      have HRV2 : Hid (RowV (fun p => l.length + 2 ≤ p) w L2 1 ts.length (.slice q2 ts.length c2) (strs ts)) := Lib.hid (by rw [← hL2]; exact HRV.out.more g1)
      clear hg0 hg1 hL2
      have k0 := HL20.out
      have k1 := HL21.out
      go_wp2
      refine ret_mix (i := l.length + 1) (c := hcl (.pointer (some ⟨w.heap.size + i, 0, none⟩)) a n g (.slice q2 ts.length c2) u) (t := 107) (f := (0, 0)) rfl rfl agj61 (set_some (k1 _)) rfl rfl ⟨.slice q2 ts.length c2, _, _, by rw [← HRH.out], rfl, ?_, ?_, fun p hp => ?_⟩
      · rw [← HRH.out]
        exact (HRV2.out.more _).mono fun p hp _ => ⟨by omega, by rw [List.getElem?_set_ne (by omega)]⟩
      · have := HLEN2.out
        simp only [List.length_set, List.length_append]; omega
      · rw [List.getElem?_set_ne (by omega), List.getElem?_append_left (by have := HLEN2.out; omega)]
        exact HSAME2.out p hp
    | some r =>
      obtain ⟨g', mm, t⟩ := r
      have ht' := ht
      rw [takV_some ht] at HTK
      have hnx := next_of_some (h := ⟨a, n, g, u, ts⟩) (by rw [HU.out]; exact ht)
      obtain ⟨_, _, _, _, _, _, r1, r2, r3, _, _, _⟩ := taken_some ht
      have htb := taken_B8 (HX8.out.drop _) ht
      have hfit : u + secs t.length ≤ n := taken_fits HXL.out (by rw [HU.out]; exact ht)
      have hps := secs_pos t.length
      by_cases hst : mm ≠ ts.length ∨ g ≠ 0 ∧ g' ≠ g
      · rw [if_pos hst] at hnx
        have HRH : Hid ((⟨a, n, g, u, ts⟩ : Hf) = R) := Lib.hid (by rw [← HTELL.out]; exact (next_none hnx f).symm)
        by_cases hmm : mm = ts.length
        · have hgg : g ≠ 0 ∧ g' ≠ g := by omega
          have q1 : ((mm : Int) != (ts.length : Int)) = false := by simp; omega
          have q2' : ((g : Int) != 0) = true := by simp; omega
          have q3 : ((g' : Int) != (g : Int)) = true := by simp; omega
          clear ht ht' hnx hst hmm hgg htb hfit hps r1 r2 r3
          go_wp2_with fail
          refine (HTK.out _).mono ?_
          rintro e w' ⟨rfl, g1, d1, rfl⟩
          obtain ⟨L2, hL2⟩ : ∃ L2, L ++ g1 = L2 := ⟨_, rfl⟩
          rw [hL2]
          have HL20 : Hid (∀ g', (L2 ++ g')[l.length]? = some (.cells (hcl (.pointer (some ⟨w.heap.size + i, 0, none⟩)) a n g (.slice q2 ts.length c2) u) 107 (0, 0))) := Lib.hid fun g' => app_some (by rw [← hL2]; exact app_some HL0.out)
          have HL21 : Hid (∀ g', (L2 ++ g')[l.length + 1]? = some (.cells (hcl (.pointer none) 0 0 0 (.slice none 0 0) 0) 107 (0, 0))) := Lib.hid fun g' => app_some (by rw [← hL2]; exact app_some HL1.out)
          have HSAME2 : Hid (∀ p, p < l.length → L2[p]? = l[p]?) := Lib.hid fun p hp => by rw [← hL2, List.getElem?_append_left (by have := HLEN.out; omega)]; exact HSAME.out p hp
          have HLEN2 : Hid (l.length + 2 ≤ L2.length) := Lib.hid (by rw [← hL2, List.length_append]; have := HLEN.out; omega)
          have HRV2 : Hid (RowV (fun p => l.length + 2 ≤ p) w L2 1 ts.length (.slice q2 ts.length c2) (strs ts)) := Lib.hid (by rw [← hL2]; exact HRV.out.more g1)
          clear hg0 hg1 hL2
          have k0 := HL20.out
          have k1 := HL21.out
          go_wp2
          refine ret_mix (i := l.length + 1) (c := hcl (.pointer (some ⟨w.heap.size + i, 0, none⟩)) a n g (.slice q2 ts.length c2) u) (t := 107) (f := (0, 0)) rfl rfl agj61 (set_some (k1 _)) rfl rfl ⟨.slice q2 ts.length c2, _, _, by rw [← HRH.out], rfl, ?_, ?_, fun p hp => ?_⟩
          · rw [← HRH.out]
            exact (HRV2.out.more _).mono fun p hp _ => ⟨by omega, by rw [List.getElem?_set_ne (by omega)]⟩
          · have := HLEN2.out
            simp only [List.length_set, List.length_append]; omega
          · rw [List.getElem?_set_ne (by omega), List.getElem?_append_left (by have := HLEN2.out; omega)]
            exact HSAME2.out p hp
        · have q1 : ((mm : Int) != (ts.length : Int)) = true := by simp; omega
          clear ht ht' hnx hst hmm htb hfit hps r1 r2 r3
          go_wp2_with fail
          refine (HTK.out _).mono ?_
          rintro e w' ⟨rfl, g1, d1, rfl⟩
          obtain ⟨L2, hL2⟩ : ∃ L2, L ++ g1 = L2 := ⟨_, rfl⟩
          rw [hL2]
          have HL20 : Hid (∀ g', (L2 ++ g')[l.length]? = some (.cells (hcl (.pointer (some ⟨w.heap.size + i, 0, none⟩)) a n g (.slice q2 ts.length c2) u) 107 (0, 0))) := Lib.hid fun g' => app_some (by rw [← hL2]; exact app_some HL0.out)
          have HL21 : Hid (∀ g', (L2 ++ g')[l.length + 1]? = some (.cells (hcl (.pointer none) 0 0 0 (.slice none 0 0) 0) 107 (0, 0))) := Lib.hid fun g' => app_some (by rw [← hL2]; exact app_some HL1.out)
          have HSAME2 : Hid (∀ p, p < l.length → L2[p]? = l[p]?) := Lib.hid fun p hp => by rw [← hL2, List.getElem?_append_left (by have := HLEN.out; omega)]; exact HSAME.out p hp
          have HLEN2 : Hid (l.length + 2 ≤ L2.length) := Lib.hid (by rw [← hL2, List.length_append]; have := HLEN.out; omega)
          have HRV2 : Hid (RowV (fun p => l.length + 2 ≤ p) w L2 1 ts.length (.slice q2 ts.length c2) (strs ts)) := Lib.hid (by rw [← hL2]; exact HRV.out.more g1)
          clear hg0 hg1 hL2
          have k0 := HL20.out
          have k1 := HL21.out
          go_wp2
          refine ret_mix (i := l.length + 1) (c := hcl (.pointer (some ⟨w.heap.size + i, 0, none⟩)) a n g (.slice q2 ts.length c2) u) (t := 107) (f := (0, 0)) rfl rfl agj61 (set_some (k1 _)) rfl rfl ⟨.slice q2 ts.length c2, _, _, by rw [← HRH.out], rfl, ?_, ?_, fun p hp => ?_⟩
          · rw [← HRH.out]
            exact (HRV2.out.more _).mono fun p hp _ => ⟨by omega, by rw [List.getElem?_set_ne (by omega)]⟩
          · have := HLEN2.out
            simp only [List.length_set, List.length_append]; omega
          · rw [List.getElem?_set_ne (by omega), List.getElem?_append_left (by have := HLEN2.out; omega)]
            exact HSAME2.out p hp
      · rw [if_neg hst] at hnx
        have hmm : mm = ts.length := by omega
        obtain ⟨f', rfl⟩ : ∃ f', f = f' + 1 := ⟨f - 1, by have := HF.out; omega⟩
        have HT2 : Hid (Hf.tell x f' ⟨a, n, g', u + secs t.length, ts ++ [t]⟩ = R) := Lib.hid (by rw [← HTELL.out, next_tell hnx]; rfl)
        have hF := HF.out
        have HTB : Hid (bys (mkS t) = t) := Lib.hid (bys_mkS _ htb)
        have q1 : ((mm : Int) != (ts.length : Int)) = false := by simp; omega
        by_cases hg0' : g = 0
        · have q2' : ((g : Int) != 0) = false := by simp; omega
          clear ht ht' hnx hst hmm htb r1
          go_wp2_with fail
          refine (HTK.out _).mono ?_
          rintro e w' ⟨rfl, g1, d1, rfl⟩
          obtain ⟨L2, hL2⟩ : ∃ L2, L ++ g1 = L2 := ⟨_, rfl⟩
          rw [hL2]
          have HL20 : Hid (∀ g', (L2 ++ g')[l.length]? = some (.cells (hcl (.pointer (some ⟨w.heap.size + i, 0, none⟩)) a n g (.slice q2 ts.length c2) u) 107 (0, 0))) := Lib.hid fun g' => app_some (by rw [← hL2]; exact app_some HL0.out)
          have HL21 : Hid (∀ g', (L2 ++ g')[l.length + 1]? = some (.cells (hcl (.pointer none) 0 0 0 (.slice none 0 0) 0) 107 (0, 0))) := Lib.hid fun g' => app_some (by rw [← hL2]; exact app_some HL1.out)
          have HSAME2 : Hid (∀ p, p < l.length → L2[p]? = l[p]?) := Lib.hid fun p hp => by rw [← hL2, List.getElem?_append_left (by have := HLEN.out; omega)]; exact HSAME.out p hp
          have HLEN2 : Hid (l.length + 2 ≤ L2.length) := Lib.hid (by rw [← hL2, List.length_append]; have := HLEN.out; omega)
          have HRV2 : Hid (RowV (fun p => l.length + 2 ≤ p) w L2 1 ts.length (.slice q2 ts.length c2) (strs ts)) := Lib.hid (by rw [← hL2]; exact HRV.out.more g1)
          clear hg0 hg1 hL2
          have k0 := HL20.out
          have k1 := HL21.out
          have s0 : ∀ Z X, ((L2 ++ Z).set l.length X)[l.length]? = some X := fun Z X => set_some (k0 Z)
          have s2 : ¬ l.length = L2.length := by have := HLEN2.out; omega
          have HS0 := Lib.hid s0
          have HK1 := Lib.hid k1
          go_wp2_with fail
          obtain ⟨L3, hL3⟩ : ∃ L3, (L2 ++ [Obj.cells (rcl g' mm (mkS t)) 145 (0, 0)]).set l.length (.cells (hcl (.pointer (some ⟨w.heap.size + i, 0, none⟩)) a n g' (.slice q2 ts.length c2) u) 107 (0, 0)) = L3 := ⟨_, rfl⟩
          have e0 : L3[l.length]? = some (.cells (hcl (.pointer (some ⟨w.heap.size + i, 0, none⟩)) a n g' (.slice q2 ts.length c2) u) 107 (0, 0)) := by rw [← hL3]; exact HS0.out _ _
          have e1 : L3[l.length + 1]? = some (.cells (hcl (.pointer none) 0 0 0 (.slice none 0 0) 0) 107 (0, 0)) := by rw [← hL3]; exact set_other (by omega) (HK1.out _)
          have HL3 : Hid (l.length + 2 ≤ L3.length) := Lib.hid (by rw [← hL3, List.length_set, List.length_append]; have := HLEN2.out; omega)
          have HSAME3 : Hid (∀ p, p < l.length → L3[p]? = l[p]?) := Lib.hid fun p hp => by rw [← hL3, List.getElem?_set_ne (by omega), List.getElem?_append_left (by have := HLEN2.out; omega)]; exact HSAME2.out p hp
          have HRV3 : Hid (RowV (fun p => l.length + 2 ≤ p) w L3 1 ts.length (.slice q2 ts.length c2) (strs ts)) := Lib.hid (by rw [← hL3]; exact (HRV2.out.more _).mono fun p hp _ => ⟨hp, by rw [List.getElem?_set_ne (by omega)]⟩)
          rw [hL3]
          have HE0 := Lib.hid e0
          have HE1 := Lib.hid e1
          clear s0 s2 k0 k1 hL3 e0 e1
          refine (with_any w L3 _ (some ⟨w.heap.size + i, 0, none⟩) q2 a n g' u ts.length c2 ts (fun p => l.length + 2 ≤ p) (fun p hp => by have := HL3.out; omega) HRV3.out (mkS t) (by rw [mkS_size]; omega) (by omega) (by omega)).mono ?_
          rintro e w' ⟨vt', l', d', rfl, rfl, hr, hlen, hsame⟩
          rw [HTB.out] at hr
          rw [mkS_size]
          have hv1 := RowV.one hr
          have j0 : l'[l.length]? = some (.cells (hcl (.pointer (some ⟨w.heap.size + i, 0, none⟩)) a n g' (.slice q2 ts.length c2) u) 107 (0, 0)) := (hsame _ (by have := HL3.out; omega) (RowV.notAt HRV3.out (by omega))).trans HE0.out
          have j1 : l'[l.length + 1]? = some (.cells (hcl (.pointer none) 0 0 0 (.slice none 0 0) 0) 107 (0, 0)) := (hsame _ (by have := HL3.out; omega) (RowV.notAt HRV3.out (by omega))).trans HE1.out
          have HJ0 := Lib.hid j0
          have HJ1 := Lib.hid j1
          have HSAME4 : Hid (∀ p, p < l.length → l'[p]? = l[p]?) := Lib.hid fun p hp => (hsame p (by have := HL3.out; omega) (RowV.notAt HRV3.out (by omega))).trans (HSAME3.out p hp)
          have HR4 := Lib.hid hr
          have HLEN4 : Hid (l.length + 2 ≤ l'.length) := Lib.hid (by have := HL3.out; omega)
          clear hr hlen hsame j1
          go_wp2
          go_roundw
          case rel => exact ⟨u + secs t.length, g', f', ts ++ [t], vt', _, d', rfl, Lib.hid (set_some HJ0.out), Lib.hid (set_other (by omega) HJ1.out), Lib.hid (by rw [List.length_append, List.length_singleton]; exact HR4.out.mono fun p hp _ => ⟨hp, by rw [List.getElem?_set_ne (by omega)]⟩), Lib.hid fun p hp => by rw [List.getElem?_set_ne (by omega)]; exact HSAME4.out p hp, Lib.hid (by rw [List.length_set]; exact HLEN4.out), HT2, Lib.hid (by omega), hfit, r2, by rw [List.length_append, List.length_singleton]; omega⟩
          case measure =>
            rw [HMU.out, mU_at (by rw [blk_at]; exact set_some HJ0.out)]
            omega
        · have hgg : g' = g := by omega
          have q2' : ((g : Int) != 0) = true := by simp; omega
          have q3 : ((g' : Int) != (g : Int)) = false := by simp; omega
          clear ht ht' hnx hst hmm htb r1 hgg
          go_wp2_with fail
          refine (HTK.out _).mono ?_
          rintro e w' ⟨rfl, g1, d1, rfl⟩
          obtain ⟨L2, hL2⟩ : ∃ L2, L ++ g1 = L2 := ⟨_, rfl⟩
          rw [hL2]
          have HL20 : Hid (∀ g', (L2 ++ g')[l.length]? = some (.cells (hcl (.pointer (some ⟨w.heap.size + i, 0, none⟩)) a n g (.slice q2 ts.length c2) u) 107 (0, 0))) := Lib.hid fun g' => app_some (by rw [← hL2]; exact app_some HL0.out)
          have HL21 : Hid (∀ g', (L2 ++ g')[l.length + 1]? = some (.cells (hcl (.pointer none) 0 0 0 (.slice none 0 0) 0) 107 (0, 0))) := Lib.hid fun g' => app_some (by rw [← hL2]; exact app_some HL1.out)
          have HSAME2 : Hid (∀ p, p < l.length → L2[p]? = l[p]?) := Lib.hid fun p hp => by rw [← hL2, List.getElem?_append_left (by have := HLEN.out; omega)]; exact HSAME.out p hp
          have HLEN2 : Hid (l.length + 2 ≤ L2.length) := Lib.hid (by rw [← hL2, List.length_append]; have := HLEN.out; omega)
          have HRV2 : Hid (RowV (fun p => l.length + 2 ≤ p) w L2 1 ts.length (.slice q2 ts.length c2) (strs ts)) := Lib.hid (by rw [← hL2]; exact HRV.out.more g1)
          clear hg0 hg1 hL2
          have k0 := HL20.out
          have k1 := HL21.out
          have s0 : ∀ Z X, ((L2 ++ Z).set l.length X)[l.length]? = some X := fun Z X => set_some (k0 Z)
          have s2 : ¬ l.length = L2.length := by have := HLEN2.out; omega
          have HS0 := Lib.hid s0
          have HK1 := Lib.hid k1
          go_wp2_with fail
          obtain ⟨L3, hL3⟩ : ∃ L3, (L2 ++ [Obj.cells (rcl g' mm (mkS t)) 145 (0, 0)]).set l.length (.cells (hcl (.pointer (some ⟨w.heap.size + i, 0, none⟩)) a n g' (.slice q2 ts.length c2) u) 107 (0, 0)) = L3 := ⟨_, rfl⟩
          have e0 : L3[l.length]? = some (.cells (hcl (.pointer (some ⟨w.heap.size + i, 0, none⟩)) a n g' (.slice q2 ts.length c2) u) 107 (0, 0)) := by rw [← hL3]; exact HS0.out _ _
          have e1 : L3[l.length + 1]? = some (.cells (hcl (.pointer none) 0 0 0 (.slice none 0 0) 0) 107 (0, 0)) := by rw [← hL3]; exact set_other (by omega) (HK1.out _)
          have HL3 : Hid (l.length + 2 ≤ L3.length) := Lib.hid (by rw [← hL3, List.length_set, List.length_append]; have := HLEN2.out; omega)
          have HSAME3 : Hid (∀ p, p < l.length → L3[p]? = l[p]?) := Lib.hid fun p hp => by rw [← hL3, List.getElem?_set_ne (by omega), List.getElem?_append_left (by have := HLEN2.out; omega)]; exact HSAME2.out p hp
          have HRV3 : Hid (RowV (fun p => l.length + 2 ≤ p) w L3 1 ts.length (.slice q2 ts.length c2) (strs ts)) := Lib.hid (by rw [← hL3]; exact (HRV2.out.more _).mono fun p hp _ => ⟨hp, by rw [List.getElem?_set_ne (by omega)]⟩)
          rw [hL3]
          have HE0 := Lib.hid e0
          have HE1 := Lib.hid e1
          clear s0 s2 k0 k1 hL3 e0 e1
          refine (with_any w L3 _ (some ⟨w.heap.size + i, 0, none⟩) q2 a n g' u ts.length c2 ts (fun p => l.length + 2 ≤ p) (fun p hp => by have := HL3.out; omega) HRV3.out (mkS t) (by rw [mkS_size]; omega) (by omega) (by omega)).mono ?_
          rintro e w' ⟨vt', l', d', rfl, rfl, hr, hlen, hsame⟩
          rw [HTB.out] at hr
          rw [mkS_size]
          have hv1 := RowV.one hr
          have j0 : l'[l.length]? = some (.cells (hcl (.pointer (some ⟨w.heap.size + i, 0, none⟩)) a n g' (.slice q2 ts.length c2) u) 107 (0, 0)) := (hsame _ (by have := HL3.out; omega) (RowV.notAt HRV3.out (by omega))).trans HE0.out
          have j1 : l'[l.length + 1]? = some (.cells (hcl (.pointer none) 0 0 0 (.slice none 0 0) 0) 107 (0, 0)) := (hsame _ (by have := HL3.out; omega) (RowV.notAt HRV3.out (by omega))).trans HE1.out
          have HJ0 := Lib.hid j0
          have HJ1 := Lib.hid j1
          have HSAME4 : Hid (∀ p, p < l.length → l'[p]? = l[p]?) := Lib.hid fun p hp => (hsame p (by have := HL3.out; omega) (RowV.notAt HRV3.out (by omega))).trans (HSAME3.out p hp)
          have HR4 := Lib.hid hr
          have HLEN4 : Hid (l.length + 2 ≤ l'.length) := Lib.hid (by have := HL3.out; omega)
          clear hr hlen hsame j1
          go_wp2
          go_roundw
          case rel => exact ⟨u + secs t.length, g', f', ts ++ [t], vt', _, d', rfl, Lib.hid (set_some HJ0.out), Lib.hid (set_other (by omega) HJ1.out), Lib.hid (by rw [List.length_append, List.length_singleton]; exact HR4.out.mono fun p hp _ => ⟨hp, by rw [List.getElem?_set_ne (by omega)]⟩), Lib.hid fun p hp => by rw [List.getElem?_set_ne (by omega)]; exact HSAME4.out p hp, Lib.hid (by rw [List.length_set]; exact HLEN4.out), HT2, Lib.hid (by omega), hfit, r2, by rw [List.length_append, List.length_singleton]; omega⟩
          case measure =>
            rw [HMU.out, mU_at (by rw [blk_at]; exact set_some HJ0.out)]
            omega
end Go.Proofs.YtlogjpmdfimgdaaGreatDoor.Jf

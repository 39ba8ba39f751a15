/- Rows of acts that came in; few: by contract. No condition but that each text is as long as one can be. | An act, to a journal: by contract; a journal on a disk whose power is on stays one. No condition but the sizes. -/
import Derived.Test.YtjgfljckmckhcaaDoorZ43
namespace Go.Proofs.YtjgfljckmckhcaaDoor
open Go Go.RowKit Go.Own
theorem ag42 : aggSize Tryd.prog 42 = some 6 := by kernel_rfl
theorem cs42 : Tryd.prog.cellsOf 42 = 6 := by kernel_rfl
theorem sz42 (w : World) : (sizeOf 42).run Tryd.prog w = .ok 6 w := by kernel_rfl
/-- An act. -/
structure Ac where
  S : ByteArray
  New : Bool
  sv : Value
  L : List ByteArray
  c3 : Value
  c4 : Value
  c5 : Value
def ac (x : Ac) : Array Value := #[.string x.S, .bool x.New, x.sv, x.c3, x.c4, x.c5]
theorem ac_size (x : Ac) : (ac x).size = 6 := rfl
/-- The slice v, that came in, holds these acts. -/
def Acts (w : World) (v : Value) (A : List Ac) : Prop := ∃ po cap, v = .slice po A.length cap ∧ ∀ (j : Nat) x, A[j]? = some x →
  TxAt w [] x.sv x.L ∧ ∃ g o C t f, po = some ⟨g, o, none⟩ ∧ blk w g = some (.cells C t f) ∧ o + j * 6 + 6 ≤ C.size ∧ C.extract (o + j * 6) (o + j * 6 + 6) = ac x
def AcOk (x : Ac) : Prop := x.S.size ≤ 140737488351232 ∧ x.L.length ≤ 140737488351232 ∧ ∀ s ∈ x.L, s.size ≤ 140737488351232
theorem ext_get {C : Array Value} {p n i : Nat} {c : Array Value} (h : C.extract p (p + n) = c) (hi : i < n) : C[p + i]? = c[i]? := by
  rw [← h, Array.getElem?_extract]
  rcases Nat.lt_or_ge (p + i) C.size with h1 | h1
  · rw [if_pos (by omega)]
  · rw [Array.getElem?_eq_none (by omega), if_neg (by omega)]
/-- What an act's cells read as, behind new blocks. -/
structure Reads (w : World) (g p : Nat) (C : Array Value) (t : TypeId) (f : Nat × Nat) (x : Ac) : Prop where
  blk : ∀ l d, Own.blk (Wd w l d) g = some (.cells C t f)
  str : ∀ l d, ldX Tryd.prog 9 none (some (.cells C t f)) g p (Wd w l d) = .ok (.string x.S) (Wd w l d)
  new : ∀ l d, ldX Tryd.prog 4 none (some (.cells C t f)) g (p + 1) (Wd w l d) = .ok (.bool x.New) (Wd w l d)
  row : ∀ l d, ldX Tryd.prog 32 none (some (.cells C t f)) g (p + 2) (Wd w l d) = .ok x.sv (Wd w l d)
  all : ∀ l d, ldX Tryd.prog 42 (some 6) (some (.cells C t f)) g p (Wd w l d) = .ok (.agg (ac x)) (Wd w l d)
theorem Reads.mk' {w : World} {g p : Nat} {C : Array Value} {t : TypeId} {f : Nat × Nat} {x : Ac} (hb : Own.blk w g = some (.cells C t f)) (hs : p + 6 ≤ C.size) (h : C.extract p (p + 6) = ac x) : Reads w g p C t f x := by
  have hbk : ∀ l d, Own.blk (Wd w l d) g = some (.cells C t f) := fun l d => blk_old _ _ _ _ hb
  exact ⟨hbk, fun l d => ldX_mix1 (isaj9 _) (hbk l d) (ext_get (i := 0) h (by omega)), fun l d => ldX_mix1 (isa4 _) (hbk l d) (ext_get (i := 1) h (by omega)),
    fun l d => ldX_mix1 (isaj32 _) (hbk l d) (ext_get (i := 2) h (by omega)), fun l d => by rw [ldX_mix ag42 (hbk l d) hs, h]⟩
def tx (L : List ByteArray) : Nat := (L.map fun s => s.size).sum
def tot (A : List Ac) : Nat := (A.map fun x => x.S.size + 10 * x.L.length + tx x.L).sum
def FewOk (A : List Ac) : Prop := A.length ≤ 60 ∧ tot A ≤ 20000
theorem tx_take (L : List ByteArray) (k : Nat) (s : ByteArray) (h : L[k]? = some s) : tx (L.take (k + 1)) = tx (L.take k) + s.size := by
  unfold tx; rw [List.take_add_one, h]; simp
theorem tx_le (L : List ByteArray) (k : Nat) : tx (L.take k) ≤ tx L := by
  have : tx L = tx (L.take k) + tx (L.drop k) := by
    unfold tx
    rw [← List.sum_append, ← List.map_append, List.take_append_drop]
  omega
theorem tot_take (A : List Ac) (k : Nat) (x : Ac) (h : A[k]? = some x) : tot (A.take (k + 1)) = tot (A.take k) + (x.S.size + 10 * x.L.length + tx x.L) := by
  unfold tot; rw [List.take_add_one, h]; simp
theorem tot_le (A : List Ac) (k : Nat) : tot (A.take k) ≤ tot A := by
  have : tot A = tot (A.take k) + tot (A.drop k) := by
    unfold tot
    rw [← List.sum_append, ← List.map_append, List.take_append_drop]
  omega
theorem TxAt.one {w : World} {l : List Obj} {v : Value} {bs : List ByteArray} (h : TxAt w l v bs) : v.oneCell' = true := by
  obtain ⟨q, c, rfl, _⟩ := h
  rfl
/-- What few leaves. -/
def FewQ (w : World) (l : List Obj) (A : List Ac) (e : Ending) (w' : World) : Prop := ∃ b d', e = .returned (.bool b) ∧ (b = true ↔ FewOk A) ∧ w' = Wd w l d'
attribute [-go_sem] Sm.execOp_bs run_string_add_if
attribute [local go_sem] agj9 isaj9 csj9 szj9 agj32 isaj32 csj32 szj32 ldX_mix1 ag42 cs42 sz42
set_option maxRecDepth 100000 in
set_option maxHeartbeats 4000000 in
theorem few_any (A : List Ac) (v : Value) (w : World) (l : List Obj) (d : Nat) (hA : Acts w v A) (hok : ∀ x ∈ A, AcOk x) :
    Calls Tryd.prog 7 #[v] (Wd w l d) fun e w' => FewQ w l A e w' := by
  obtain ⟨po, cap, rfl, hP⟩ := hA
  obtain ⟨n, hN⟩ : ∃ n, A.length = n := ⟨_, rfl⟩
  rw [hN]
  have HP := Lib.hid hP
  have HN := Lib.hid hN
  have HK := Lib.hid hok
  clear hP hN hok
  go_enter Tryd.func7, Tryd.ntmps7
  go_wp2_with fail
  go_loopw [3, 4] (fun s ix wr => ∃ (k T d : Nat), k ≤ n ∧ k ≤ 60 ∧ s = .int .i64 (T : Int) ∧ ix = .int .i64 (k : Int) ∧ Hid (T = tot (A.take k)) ∧ T ≤ 20000 ∧ wr = Wd w l d) (fun _ ix _ => n - (intOf ix).toNat)
  case atStart => exact ⟨0, 0, d, by omega, by omega, rfl, rfl, Lib.hid rfl, by omega, rfl⟩
  case round =>
    obtain ⟨k, T, d2, hk, hk60, rfl, rfl, HT, hT, rfl⟩ := hrel
    by_cases hlt : k < n
    · obtain ⟨x, hx⟩ : ∃ x, A[k]? = some x := ⟨_, List.getElem?_eq_getElem (by rw [HN.out]; exact hlt)⟩
      obtain ⟨htx, g, o, C, t, f, rfl, hb, hs, hE⟩ := HP.out k x hx
      have hR := Reads.mk' hb hs hE
      have r1 := hR.blk
      have r2 := hR.str
      have r3 := hR.row
      obtain ⟨q, c, hsv, htx⟩ := htx
      rw [hsv] at r3
      have HTX := Lib.hid htx
      have hxo := HK.out x (List.mem_of_getElem? hx)
      have HXO := Lib.hid hxo
      have HTT := Lib.hid (tot_take A k x hx)
      have HTL := Lib.hid (tot_le A (k + 1))
      obtain ⟨a, ha⟩ : ∃ a, x.S.size = a := ⟨_, rfl⟩
      obtain ⟨m, hm⟩ : ∃ m, x.L.length = m := ⟨_, rfl⟩
      have hab : a ≤ 140737488351232 := by rw [← ha]; exact hxo.1
      have hmb : m ≤ 140737488351232 := by rw [← hm]; exact hxo.2.1
      rw [hm] at r3
      rw [ha, hm] at HTT
      have HM := Lib.hid hm
      have hki : (k : Int) < n := by omega
      obtain ⟨T1, hT1⟩ : ∃ T1, T + a + 10 * m = T1 := ⟨_, rfl⟩
      have hT1i : (T : Int) + (a : Int) + 10 * (m : Int) = (T1 : Int) := by omega
      have HT1 := Lib.hid hT1
      clear hx hb hs hE hR hxo htx hsv
      go_wp2_with fail
      go_region
      by_cases h60 : 60 ≤ k
      · have h60i : (60 : Int) ≤ k := by omega
        have HF : Hid (¬ FewOk A) := Lib.hid fun hf => by have := hf.1; have := HN.out; omega
        clear h60
        go_wp2
        go_ret
        exact ⟨false, _, rfl, ⟨fun h => (by cases h), fun h => absurd h HF.out⟩, rfl⟩
      · have h60i : ¬ (60 : Int) ≤ k := by omega
        by_cases hbig : 20000 < T1
        · have hbi : (20000 : Int) < (T1 : Int) := by omega
          have HF : Hid (¬ FewOk A) := Lib.hid fun hf => by
            have h1 := hf.2; have h2 := HTL.out; have h3 := HTT.out; have h4 := HT.out; have h5 := HT1.out; omega
          clear h60 hbig
          go_wp2
          go_ret
          exact ⟨false, _, rfl, ⟨fun h => (by cases h), fun h => absurd h HF.out⟩, rfl⟩
        · have hbi : ¬ (20000 : Int) < (T1 : Int) := by omega
          have hT1b : T1 ≤ 20000 := by omega
          have HK60 : Hid (k < 60) := Lib.hid (by omega)
          clear hbig h60
          go_wp2_with fail
          go_loopw [3, 5] (fun s jx wr => ∃ (j T2 d : Nat), j ≤ m ∧ s = .int .i64 (T2 : Int) ∧ jx = .int .i64 (j : Int) ∧ Hid (T2 = T1 + tx (x.L.take j)) ∧ T2 ≤ 20000 ∧ wr = Wd w l d) (fun _ jx _ => m - (intOf jx).toNat)
          case atStart => exact ⟨0, T1, _, by omega, rfl, rfl, Lib.hid rfl, hT1b, rfl⟩
          case round =>
            obtain ⟨j, T2, d4, hj, rfl, rfl, HT2, hT2, rfl⟩ := hrel
            by_cases hjlt : j < m
            · obtain ⟨y, hy⟩ : ∃ y, x.L[j]? = some y := ⟨_, List.getElem?_eq_getElem (by rw [HM.out]; exact hjlt)⟩
              have hne : x.L ≠ [] := fun e => by rw [e] at hy; simp at hy
              obtain ⟨b2, o2, X2, t2, f2, rfl, k1, k2⟩ := HTX.out hne
              have hx2 := k2 j y hy
              have hb2 : ∀ d, blk (Wd w l d) b2 = some (.cells X2 t2 f2) := fun d => k1 l d fun p hp => by simp at hp
              have hyb : y.size ≤ 140737488351232 := HXO.out.2.2 y (List.mem_of_getElem? hy)
              have HYT := Lib.hid (tx_take x.L j y hy)
              have HYL := Lib.hid (tx_le x.L (j + 1))
              obtain ⟨z, hz⟩ : ∃ z, y.size = z := ⟨_, rfl⟩
              rw [hz] at hyb HYT
              have HZ := Lib.hid hz
              obtain ⟨T3, hT3⟩ : ∃ T3, T2 + z = T3 := ⟨_, rfl⟩
              have hT3i : (T2 : Int) + (z : Int) = (T3 : Int) := by omega
              have HT3 := Lib.hid hT3
              have hji : (j : Int) < m := by omega
              clear k1 k2 hy hne HTX hT3
              by_cases hb3 : 20000 < T3
              · have hb3i : (20000 : Int) < (T3 : Int) := by omega
                have HF : Hid (¬ FewOk A) := Lib.hid fun hf => by
                  have h1 := hf.2; have h2 := HTL.out; have h3 := HTT.out; have h4 := HT.out; have h5 := HT1.out
                  have h6 := HT2.out; have h7 := HYT.out; have h8 := HYL.out; have h9 := HT3.out; omega
                clear hb3
                go_wp2
                go_ret
                exact ⟨false, _, rfl, ⟨fun h => (by cases h), fun h => absurd h HF.out⟩, rfl⟩
              · have hb3i : ¬ (20000 : Int) < (T3 : Int) := by omega
                have hT3b : T3 ≤ 20000 := by omega
                clear hb3
                go_wp2
                go_roundw
                case rel => exact ⟨j + 1, T3, _, by omega, rfl, by go_num, Lib.hid (by have h6 := HT2.out; have h7 := HYT.out; have h9 := HT3.out; omega), hT3b, rfl⟩
                case measure => simp [intOf]; omega
            · obtain rfl : j = m := by omega
              have HAll : Hid (tx (x.L.take j) = tx x.L) := Lib.hid (by rw [List.take_of_length_le (by rw [HM.out]; exact Nat.le_refl _)])
              go_wp2
              go_roundw
              case rel => exact ⟨k + 1, T2, _, by omega, by have := HK60.out; omega, rfl, by go_num, Lib.hid (by have h3 := HTT.out; have h4 := HT.out; have h5 := HT1.out; have h6 := HT2.out; have h7 := HAll.out; omega), hT2, rfl⟩
              case measure => simp [intOf]; omega
    · obtain rfl : k = n := by omega
      have HF : Hid (FewOk A) := Lib.hid ⟨by rw [HN.out]; exact hk60, by
        have h := HT.out
        rw [List.take_of_length_le (by rw [HN.out]; exact Nat.le_refl _)] at h
        omega⟩
      go_wp2
      go_ret
      exact ⟨true, _, rfl, ⟨fun _ => HF.out, fun _ => rfl⟩, rfl⟩
end Go.Proofs.YtjgfljckmckhcaaDoor
namespace Go.Proofs.YtjgfljckmckhcaaDoor
open Go Go.RowKit Go.Own
def doJ (J : Jn) (M : Dk) (x : Ac) : Jn × Dk × Nat := if x.New = true then J.anew M (x.L.map bys) else J.append M (bys x.S)
theorem map_bys_B8 (L : List ByteArray) : ∀ t ∈ L.map bys, B8 t := fun t ht => by
  obtain ⟨s, _, rfl⟩ := List.mem_map.1 ht
  exact B8.bys s
theorem doJ_keep {J : Jn} {M : Dk} (h : Inv J M) (hc : M.count = 0) (hg : J.now.gen ≤ 1000) (x : Ac) : ∃ J' M' c, doJ J M x = (J', M', c) ∧ Inv J' M' ∧ M'.count = 0 ∧ M'.n = M.n ∧ J'.now.gen ≤ J.now.gen + 1 := by
  unfold doJ
  by_cases hx : x.New = true
  · rw [if_pos hx]
    have ha := h.anew (x.L.map bys) (map_bys_B8 x.L) (by omega)
    cases hl : (⟨J.now.size - J.now.first, J.now.size, J.now.gen + 1, 0, []⟩ : Hf).lays (someL (x.L.map bys)) with
    | none => exact ⟨J, M, 6, ha.1 hl, h, hc, rfl, by omega⟩
    | some p =>
      obtain ⟨M', e, hi, hn, hc'⟩ := ha.2 p.1 p.2 hl
      have ho := (lays_ok _ _ _ _ hl).gen
      exact ⟨_, M', 0, e, hi, hc', hn, by show p.1.gen ≤ _; rw [ho]; exact Nat.le_refl _⟩
  · rw [if_neg hx]
    have ha := h.append (bys x.S) (B8.bys x.S)
    by_cases hr : J.now.room < ((bys x.S).length : Int)
    · exact ⟨J, M, 6, ha.1 hr, h, hc, rfl, by omega⟩
    · obtain ⟨M', e, hi, hn, hc'⟩ := ha.2 hr
      exact ⟨_, M', 0, e, hi, hc', hn, by show max J.now.gen 1 ≤ _; omega⟩
attribute [-go_sem] Sm.execOp_bs run_string_add_if
attribute [local go_sem] agj9 isaj9 csj9 szj9 agj32 isaj32 csj32 szj32 ldX_mix1 ag42 cs42 sz42 isa4 ag4 sz4
set_option maxRecDepth 100000 in
theorem does_st {w : World} (hR : Sm.Roots w) {P : Nat → Prop} {l : List Obj} {i s q jo : Nat} {J : Jn} {M : Dk} (h : St w P l i s q jo J M) (hfs : J.now.first ≤ J.now.size) (x : Ac) (hv : TxAt w [] x.sv x.L) (hbs : x.L.length ≤ 100000) (hc : M.count < 1000000000000) (d : Nat) :
    Calls Tryd.prog 12 #[.pointer (some ⟨w.heap.size + jo, 0, none⟩), .agg (ac x)] (Wd w l d) fun e w' => OpQ w P l i s q jo (doJ J M x) e w' := by
  have k0 : (ac x)[0]? = some (.string x.S) := rfl
  have k1 : (ac x)[1]? = some (.bool x.New) := rfl
  have k2 : (ac x)[2]? = some x.sv := rfl
  obtain ⟨l1, hl1⟩ : ∃ l1, l ++ [Obj.cells (ac x) 42 (0, 0)] = l1 := ⟨_, rfl⟩
  have HP : Hid (Up l l1 P) := Lib.hid (by rw [← hl1]; exact Up.app _ _ h.disk.lt)
  have HS : Hid (St w P l1 i s q jo J M) := Lib.hid (by rw [← hl1]; exact (h.app _).mono fun p hp => .inl hp)
  have hb : ∀ d, blk (Wd w l1 d) (w.heap.size + l.length) = some (.cells (ac x) 42 (0, 0)) := fun d => by rw [blk_at, ← hl1]; simp
  have hg : l1[l.length]? = some (.cells (ac x) 42 (0, 0)) := by rw [← hl1]; simp
  have HV : Hid (TxAt w l1 x.sv x.L) := Lib.hid (hv.more (Nat.zero_le _) fun p hp => by simp at hp)
  have HDJ : Hid (doJ J M x = if x.New = true then J.anew M (x.L.map bys) else J.append M (bys x.S)) := Lib.hid rfl
  obtain ⟨r, hr⟩ : ∃ r, doJ J M x = r := ⟨_, rfl⟩
  rw [hr] at HDJ ⊢
  clear hr
  go_enter Tryd.func12, Tryd.ntmps12
  cases hx : x.New with
  | true =>
    rw [hx] at k1
    have hr2 : r = J.anew M (x.L.map bys) := by have := HDJ.out; rw [hx] at this; exact this
    have HA := Lib.hid fun d => anew_st hR HS.out hfs x.sv x.L HV.out hbs hc d
    rw [← hr2] at HA
    clear hr2
    go_wp2_with fail
    refine (HA.out _).mono ?_
    rintro e w' ⟨l', d', rfl, rfl, hs, hu⟩
    obtain ⟨z, hz⟩ : ∃ z, ((r.2.2 : Nat) : Int) = z := ⟨_, rfl⟩
    rw [hz]
    have HZ := Lib.hid hz
    have HF := Lib.hid (And.intro hs hu)
    clear hs hu hz
    go_wp2
    go_ret
    exact ⟨l', d', by rw [← HZ.out]; rfl, rfl, HF.out.1, HP.out.trans HF.out.2⟩
  | false =>
    rw [hx] at k1
    have hr2 : r = J.append M (bys x.S) := by have := HDJ.out; rw [hx] at this; exact this
    have HA := Lib.hid fun d => append_st hR HS.out x.S hc d
    rw [← hr2] at HA
    clear hr2
    go_wp2_with fail
    refine (HA.out _).mono ?_
    rintro e w' ⟨l', d', rfl, rfl, hs, hu⟩
    obtain ⟨z, hz⟩ : ∃ z, ((r.2.2 : Nat) : Int) = z := ⟨_, rfl⟩
    rw [hz]
    have HZ := Lib.hid hz
    have HF := Lib.hid (And.intro hs hu)
    clear hs hu hz
    go_wp2
    go_ret
    exact ⟨l', d', by rw [← HZ.out]; rfl, rfl, HF.out.1, HP.out.trans HF.out.2⟩
end Go.Proofs.YtjgfljckmckhcaaDoor

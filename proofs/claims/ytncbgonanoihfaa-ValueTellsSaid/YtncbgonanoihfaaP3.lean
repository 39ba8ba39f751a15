/- A list read off a text, by contract. No condition but the sizes. -/
import Derived.Test.YtncbgonanoihfaaP2
namespace Go.Proofs.Ytncbgonanoihfaa
open Go.RowKit Go.Own
theorem rdL_stop {f : List Nat → Option (A × List Nat)} {t : List Nat} (h : f t = none) {n j : Nat} (hlt : j < n) : rdL f (n - j) t = none := by
  obtain ⟨q, hq⟩ : ∃ q, n - j = q + 1 := ⟨n - j - 1, by omega⟩
  rw [hq, rdL, h]
theorem rdL_go {f : List Nat → Option (A × List Nat)} {t t' : List Nat} {x : A} (h : f t = some (x, t')) {n j : Nat} (hlt : j < n) (xs : List A) :
    (rdL f (n - j) t).map (fun q => (xs ++ q.1, q.2)) = (rdL f (n - (j + 1)) t').map fun q => ((xs ++ [x]) ++ q.1, q.2) := by
  obtain ⟨q, hq⟩ : ∃ q, n - j = q + 1 := ⟨n - j - 1, by omega⟩
  rw [hq, rdL, h, show n - (j + 1) = q by omega]
  simp only
  cases rdL f q t' with
  | none => rfl
  | some p => simp
/-- An empty row is made. -/
theorem wpList_makeA {ops : Array Oper} {rest : List Oper} {o : Oper} {a : Act} {Q : Exit → Act → World → Prop} {w : World} (hg : o.guard = none) (l c : Operand) (hop : o.op = Op.makeSlice 48 l c)
    (B : Nat) (kl kc : IntKind) (C : Int) (n : Nat) (hl : a.eval l = .int kl 0) (hc : a.eval c = .int kc C) (hC : C = (n : Int)) (hn : n ≤ 1000000) (hB : B ≤ w.heap.size)
    (hK : ∀ v w', RowA w' B v [] → Below w.heap.size w w' → wpList Try.prog ops Q rest (a.put o.dst v) w') : wpList Try.prog ops Q (o :: rest) a w := by
  obtain ⟨i0, hi, hz0, hz1, hz2⟩ := info_parts info20
  refine wpList_make_own w hg l c 48 hop B 20 i0 .nilIface 1 Try.underlying48 hi hz0 hz1 kl kc C n hl hc hC (by rw [hz2]; omega) (by unfold maxLen; omega) hB ?_
  intro w' h1 h2
  exact hK _ w' ⟨[], h1, fun i x hx => by simp at hx⟩ ⟨h2.os, h2.tape, h2.output, h2.size, fun k hk => h2.block k hk (by simp)⟩
/-- Nothing is read. -/
def ReadNo (B : Nat) (w : World) (e : Ending) (w' : World) : Prop := ∃ v s, e = .returned (.tuple #[v, .bool false]) ∧ Box w' B s ∧ w.grownBy w' (some B)
set_option maxRecDepth 100000 in
set_option maxHeartbeats 1000000 in
theorem rlist_bad (B : Nat) (t : List Nat) (hb : ∀ c ∈ t, c < 256) (z : Int) (h : t = [] ∨ 8 < z) (w : World) (hB : Box w B (mkS t)) :
    Calls Try.prog 43 #[.func (.func 40) #[] #[.pointer (some ⟨B, 0, none⟩)], .int .i64 z] w (ReadNo B w) := by
  cases t with
  | nil =>
    have HT := Lib.hid (num_no B 1 (mkS []) (by rw [mkS_size]; exact Nat.zero_lt_one) w hB)
    have HB := Lib.hid hB
    clear hB h
    go_enter Try.func43, Try.ntmps43
    go_wp2_with (go_at_call 41; fail)
    refine HT.out.mono ?_
    rintro e w' ⟨rfl, rfl⟩
    go_wp2
    go_ret2
    exact ⟨_, _, rfl, HB.out, grown_refl _ _⟩
  | cons n t =>
    have hz : 8 < z := by rcases h with h | h; cases h; exact h
    have HT := Lib.hid (num_yes B 1 (n :: t) hb (by omega) (by simp) w hB)
    have hd : decide (8 < z) = true := by simp [hz]
    clear hB h hz
    go_enter Try.func43, Try.ntmps43
    go_wp2_with (go_at_call 41; fail)
    refine HT.out.mono ?_
    rintro e w1 ⟨rfl, hb1, hg1⟩
    have HB1 := Lib.hid hb1
    have HG1 := Lib.hid hg1
    clear hb1 hg1
    go_wp2
    go_ret2
    exact ⟨_, _, rfl, HB1.out, HG1.out⟩
/-- What 'read' does where so many lists may stand within one another. -/
def ReadsB (m : Nat) : Prop := ∀ (t : List Nat) (B : Nat) (w : World) (z : Int), (∀ c ∈ t, c < 256) → z + m = 8 → Box w B (mkS t) → Calls Try.prog 28 #[.func (.func 40) #[] #[.pointer (some ⟨B, 0, none⟩)], .int .i64 z] w (ReadQ B (rd m t) w)
set_option maxRecDepth 100000 in
set_option maxHeartbeats 1000000 in
theorem rlist_any (m : Nat) (hm : m ≤ 8) (ih : ReadsB m) (B : Nat) (n : Nat) (t : List Nat) (hb : ∀ c ∈ n :: t, c < 256) (z : Int) (hz : z + m = 8) (w : World) (hB : Box w B (mkS (n :: t))) :
    Calls Try.prog 43 #[.func (.func 40) #[] #[.pointer (some ⟨B, 0, none⟩)], .int .i64 z] w (ReadQ B (listR (some (rd m)) (n :: t)) w) := by
  have HT := Lib.hid (num_yes B 1 (n :: t) hb (by omega) (by simp) w hB)
  have hv : val ((n :: t).take 1) = n := by simp [val]
  have hdr : (n :: t).drop 1 = t := rfl
  rw [hv, hdr] at HT
  have hd : decide (8 < z) = false := by simp; omega
  have hn : n < 256 := hb n (by simp)
  have HTB : Hid (∀ c ∈ t, c < 256) := Lib.hid (fun c hc => hb c (by simp [hc]))
  have HZ := Lib.hid hz
  have HBL := hB.lt
  clear hB hb hv hdr hz
  go_enter Try.func43, Try.ntmps43
  go_wp2_with (go_at_call 41; fail)
  refine HT.out.mono ?_
  rintro e w1 ⟨rfl, hb1, hg1⟩
  have HB1 := Lib.hid hb1
  have HG1 := Lib.hid hg1
  clear hb1 hg1
  go_wp2_with (at_make; refine wpList_makeA rfl _ _ rfl w1.heap.size .i64 .u64 (n : Int) n rfl rfl rfl (by omega) (Nat.le_refl _) ?_)
  intro v2 w2 hr2 hb2
  have HR2 := Lib.hid hr2
  have HB2 := Lib.hid (HB1.out.below hb2)
  have HG2 : Hid (w1.grownBy w2 (some B)) := Lib.hid (grown_of_below hb2 _)
  clear hr2 hb2
  go_wp2
  go_loopw [8, 25] (fun o i wr => ∃ (j : Nat) (xs : List A) (tj : List Nat), j ≤ n ∧ i = .int .u64 (j : Int) ∧ Hid (RowA wr w1.heap.size o xs) ∧ Hid (xs.length = j) ∧ Hid (Box wr B (mkS tj)) ∧ Hid (∀ c ∈ tj, c < 256) ∧ Hid (w1.grownBy wr (some B)) ∧
    Hid (rdL (rd m) n t = (rdL (rd m) (n - j) tj).map fun q => (xs ++ q.1, q.2))) (fun _ i _ => n - (intOf i).toNat)
  case atStart => exact ⟨0, [], t, Nat.zero_le _, rfl, HR2, Lib.hid rfl, HB2, HTB, HG2, Lib.hid (by simp)⟩
  case round =>
    obtain ⟨j, xs, tj, hj, rfl, HR, HXL, HB, HTJ, HG, HE⟩ := hrel
    have hw1r : w1.heap.size ≤ wr.heap.size := HG.out.size
    have hBw1 : B < w1.heap.size := HB1.out.lt
    by_cases hlt : j < n
    · have HC := Lib.hid (ih tj B wr z HTJ.out HZ.out HB.out)
      obtain ⟨r, hr⟩ : ∃ r, rd m tj = r := ⟨_, rfl⟩
      have HRR := Lib.hid hr
      rw [hr] at HC
      clear hr
      go_wp2_with (go_at_call 28; fail)
      refine HC.out.mono ?_
      intro e w3 hrq
      rcases hrq with ⟨x, t', v, rfl, rfl, hv, hb3, hg3⟩ | ⟨rfl, v, s, rfl, hb3, hg3⟩
      · have HE2 : Hid (rdL (rd m) n t = (rdL (rd m) (n - (j + 1)) t').map fun q => ((xs ++ [x]) ++ q.1, q.2)) := Lib.hid (by rw [HE.out]; exact rdL_go HRR.out hlt xs)
        have HT2 : Hid (∀ c ∈ t', c < 256) := Lib.hid (fun c hc => by
          have hw := pr_rd m hm tj HTJ.out x t' HRR.out
          exact HTJ.out c (by rw [hw.text]; simp [hc]))
        have HR3 := Lib.hid (HR.out.past hg3 hBw1)
        have hbl := HR.out.lt
        have HV : Hid (AAt w3 (fun b => w1.heap.size ≤ b ∧ u8.ownBlock ≠ some b) v x) := Lib.hid (hv.keep (fun b hb _ => ⟨by omega, fun e => by have := (hbl b e).2; omega⟩) (Nat.le_refl _) (fun _ _ _ => rfl))
        have HB3 := Lib.hid hb3
        have HG3 := Lib.hid (grown_two HG.out hg3)
        have hform := hv.form
        have hw13 : w1.heap.size ≤ w3.heap.size := HG3.out.size
        have HXB : Hid (xs.length ≤ 1000000) := Lib.hid (by rw [HXL.out]; omega)
        clear hv hb3 hg3 hbl
        rcases hform with ⟨ty, u, rfl⟩ | rfl
        all_goals
          go_wp2_with (at_builtin; refine wpList_push rfl (.tmp 35) (.tmp 37) rfl w3 w1.heap.size _ _ x _ rfl rfl HR3.out HV.out rfl HXB.out hw13 ?_)
          intro v4 w4 hr4 hb4
          have HR4 := Lib.hid hr4
          have HB4 : Hid (Box w4 B (mkS t')) := Lib.hid ((hb4.block B hBw1).trans HB3.out)
          have HG4 := Lib.hid (grown_below HG3.out hb4 (Nat.le_refl _))
          have HXL4 : Hid ((xs ++ [x]).length = j + 1) := Lib.hid (by rw [List.length_append, HXL.out]; rfl)
          clear hr4 hb4
          go_wp2
          go_roundw
          case rel => exact ⟨j + 1, _, t', by omega, by go_num, HR4, HXL4, HB4, HT2, HG4, HE2⟩
          case measure => simp [intOf]; omega
      · have HE2 : Hid (listR (some (rd m)) (n :: t) = none) := Lib.hid (by
          have h : rdL (rd m) n t = none := by rw [HE.out, rdL_stop HRR.out hlt]; rfl
          simp only [listR, h])
        have HB3 := Lib.hid hb3
        have HG3 := Lib.hid (grown_two HG1.out (grown_two HG.out hg3))
        clear hb3 hg3
        go_wp2
        go_ret2
        rw [HE2.out]
        exact ReadQ.no HB3.out HG3.out
    · obtain rfl : j = n := by omega
      have HE2 : Hid (listR (some (rd m)) (j :: t) = some (.list xs, tj)) := Lib.hid (by
        have h : rdL (rd m) j t = some (xs, tj) := by rw [HE.out, Nat.sub_self]; simp [rdL]
        simp only [listR, h])
      have HV : Hid (AAt wr (fun b => w.heap.size ≤ b) (.iface 48 u8) (.list xs)) := Lib.hid (HR.out.has.keep (fun b hb _ => Nat.le_trans HG1.out.size hb) (Nat.le_refl _) (fun _ _ _ => rfl))
      have HG3 := Lib.hid (grown_two HG1.out HG.out)
      go_wp2
      go_ret2
      rw [HE2.out]
      exact ReadQ.ok HV.out HB.out HG3.out
end Go.Proofs.Ytncbgonanoihfaa
